/-
  Part 28 of the proof.
  No condition but those that each statement names.
-/
import Derived.Test.YtejkelcaljmnoaaGreatDoorHy27
set_option maxRecDepth 100000
set_option linter.unusedVariables false
set_option linter.unusedSimpArgs false
set_option linter.unusedSectionVars false
namespace Go.Proofs.YtejkelcaljmnoaaGreatDoor
open Go.Conc Go.Hx Go.Lo
theorem reads_Bn {L : Frag} {a : Sl} {xs : List Value} {n : Nat} (ha : slOk a xs 5 L) (hn : n ≤ xs.length) : Reads Tryz.prog L 1 n (slv a xs.length) (xs.take n).toArray := by
 cases hab : a.b with
 | none =>
   unfold slOk at ha
   rw [hab] at ha
   obtain rfl : xs = [] := ha.1
   obtain rfl : n = 0 := by simpa using hn
   have e3 : slv a 0 = .slice none 0 0 := by unfold slv; rw [hab]
   show Reads Tryz.prog L 1 0 (slv a 0) #[]
   rw [e3]; exact reads_none
 | some b =>
   have hm := ha.mem hab
   have e3 : slv a xs.length = .slice (some ⟨b, 0, none⟩) xs.length (xs.length + a.junk.length) := by unfold slv; rw [hab]
   rw [e3]
   have := reads_m (P := Tryz.prog) (sz := 1) (n := n) (len := xs.length) (cap := xs.length + a.junk.length) (o := 0) hm (by simp; omega)
   have e7 : (xs ++ a.junk).take n = xs.take n := List.take_append_of_le_length hn
   simpa [e7] using this
def PS.got (x : PS) (bs : List Int) : PS :=
 let y := x.poke (x.r 1).toNat (bs.take (Nat.min bs.length (x.r 2).toNat))
 { y with r := put y.r 0 (Nat.min bs.length (x.r 2).toNat : Nat) }
def St.readP (S : St) (b : Nat) (x : PS) (k : Nat × Nat) : St := (S.setP b (x.got (S.by_ k.1))).setY k.1 ((S.by_ k.1).drop (Nat.min (S.by_ k.1).length (x.r 2).toNat))
structure YLay (A A' : Lay) : Prop where
 a : A'.a = A.a
 w : A'.wt = A.wt ∧ A'.born = A.born ∧ A'.clock = A.clock
 g : A'.g = A.g ∧ A'.gcap = A.gcap ∧ A'.gc = A.gc
theorem carry_r : ∃ n, ∀ {σ : Type} {F : Fam σ} {Δ : ∀ s, Dom (F.R s) (F.D s)} {main : Bool} {s : σ} (K : Nat) (A : Lay) (S : St) (Fr L : Frag) (b : Nat) (x : PS) (k : Nat × Nat), (∀ cs, (Δ s).New (.cells cs 96)) → Rep K A S Fr L → (b, x) ∈ S.ps → WF x → k.1 < 5 → k.2 = 4 → x.r 1 + x.r 2 ≤ 64 → (S.by_ k.1).length ≤ 8 →
   CallsL Δ Tryz.prog main 166 [ptr K, ptr b, keyv k].toArray n s L (fun s' v L' => s = s' ∧ v = .nilIface ∧ ∃ A', YLay A A' ∧ Rep K A' (S.readP b x k) Fr L') := by
 obtain ⟨n2, g2⟩ := deleteB
 apply Exists.intro
 intro σ F Δ main s K A S Fr L b x k hN hR hb hx hk5 hk4 hfc h8
 have wx1 := hx.r 1 (by omega)
 have wx2 := hx.r 2 (by omega)
 obtain ⟨base, cap, hv, _⟩ : ∃ base cap, slv (A.y k.1) (S.by_ k.1).length = .slice base (S.by_ k.1).length cap ∧ True := by
   obtain ⟨base, cap, h, _⟩ := slv_view (hR.ya k.1 hk5)
   simp only [List.length_map] at h
   exact ⟨base, cap, h, trivial⟩
 have w1 : IntKind.i64.wrap (x.r 1) = x.r 1 := by simp [IntKind.wrap_i64]; omega
 have w2 : IntKind.i64.wrap (x.r 2) = x.r 2 := by simp [IntKind.wrap_i64]; omega
 have w3 : IntKind.i64.wrap (x.r 1 + x.r 2) = x.r 1 + x.r 2 := by simp [IntKind.wrap_i64]; omega
 co_applyP callsE 100 Tryz.func166 Tryz.ntmps166
 co_applyP c_seq
 co_applyP c_region
 co_applyP oadd rfl (O_box (hN _))
 intro xk L1 hA1
 have hR1 := hR.add hA1
 have h0 : At L1 xk 0 (.int .i64 (k.1 : Nat)) := ⟨true, _, _, _, hA1.self, rfl⟩
 have h1 : At L1 xk 1 (.int .i64 (k.2 : Nat)) := ⟨true, _, _, _, hA1.self, rfl⟩
 have hx1 : At L1 b 8 (.int .u16 (x.r 1)) := hR1.pat hb (pget_r x (i := 1) (by omega))
 have hx2 : At L1 b 9 (.int .u16 (x.r 2)) := hR1.pat hb (pget_r x (i := 2) (by omega))
 have hky : At L1 K (10 + k.1) (.slice base (S.by_ k.1).length cap) := by rw [← hv]; exact hR1.kat (kc_by _ hk5)
 have e4 : ((k.2 : Int) == 4) = true := by simp; omega
 have edl : (x.r 1 + x.r 2).toNat - (x.r 1).toNat = (x.r 2).toNat := by omega
 obtain ⟨nn, hnn⟩ : ∃ nn, nn = Nat.min (S.by_ k.1).length (x.r 2).toNat := ⟨_, rfl⟩
 have hn1 : nn ≤ (S.by_ k.1).length := by rw [hnn]; exact Nat.min_le_left _ _
 have hn2 : nn ≤ (x.r 2).toNat := by rw [hnn]; exact Nat.min_le_right _ _
 co_applyP oy rfl E_as
 co_applyP o_nil
 change wpE ..
 co_applyP c_seq
 co_applyP c_drawq mixed
 co_applyP tr (i := 0) rfl E_mv pI
 co_applyP tr (i := 1) rfl E_nc pI
 co_applyP tr (i := 2) rfl (E_fa (hf := fo_99_0)) pI
 co_applyP tr (i := 3) rfl (E_fa (hf := fo_49_7)) pI
 co_applyP tr (i := 4) rfl (E_ixa Tryz.underlying47 sz_32) pI
 co_applyP tr (i := 5) rfl (E_ld (ht := ag_32)) pI
 co_applyP tr (i := 6) rfl (E_cv (hs := Tryz.underlying32) (ht := Tryz.underlying3)) pI
 co_applyP tr (i := 7) rfl E_mv pI
 co_applyP tr (i := 8) rfl E_nc pI
 co_applyP tr (i := 9) rfl (E_fa (hf := fo_99_0)) pI
 co_applyP tr (i := 10) rfl (E_fa (hf := fo_49_7)) pI
 co_applyP tr (i := 11) rfl (E_ixa Tryz.underlying47 sz_32) pI
 co_applyP tr (i := 12) rfl (E_ld (ht := ag_32)) pI
 co_applyP tr (i := 13) rfl (E_cv (hs := Tryz.underlying32) (ht := Tryz.underlying3)) pI
 co_applyP tr (i := 14) rfl E_as pI
 co_applyP tr (i := 15) rfl E_as pI
 co_applyP td (by kernel_rfl)
 change wpE ..
 co_applyP c_seq
 co_applyP c_region
 co_applyP oy rfl E_mv
 co_applyP oy rfl E_nc
 co_applyP oy rfl (E_fa (hf := fo_99_1))
 co_applyP oy rfl E_mv
 co_applyP oy rfl E_mv
 co_applyP oy rfl E_mv
 co_applyP oy rfl E_add
 simp only [w1, w2, w3]
 co_applyP oy rfl (E_slA Tryz.underlying94 sz_5)
 co_applyP oy rfl E_as
 co_applyP o_nil
 change wpE ..
 co_applyP c_seq (n₂ := 0)
 co_applyP c_seq
 co_applyP c_region
 co_applyP oy rfl (E_fa (hf := fo_96_1))
 co_applyP oy rfl (E_ld (ht := ag_3))
 co_applyP oy rfl E_eql
 co_applyP o_nil
 change wpE ..
 rw [e4, edl]
 co_applyP c_true rfl
 co_applyP c_seq
 have hya := hR1.ya k.1 hk5
 have hrd : Reads Tryz.prog L1 1 nn (.slice base (S.by_ k.1).length cap) (((S.by_ k.1).take nn).map fun v => Value.int .u8 v).toArray := by
   have := reads_Bn hya (n := nn) (by simpa using hn1)
   rw [List.length_map, hv] at this
   rw [List.map_take]; exact this
 have hco : cutAt (0 + 15) (x.r 1).toNat 64 1 = if 64 = (x.r 1).toNat then 15 else 15 + (x.r 1).toNat := by unfold cutAt; split <;> omega
 rw [hnn] at hrd
 co_applyP c_draw [] 8 (nf := 0) mixed
 co_applyP tr (i := 0) rfl E_mv (pre_init (by simp))
 co_applyP tr (i := 1) rfl E_mv (pre_init (by simp))
 co_applyP tr (i := 2) rfl (E_fa (hf := fo_96_0)) (pre_init (by simp))
 co_applyP t0 (i := 3) rfl (E_ld (ht := ag_3)) (pre_init (by simp))
 co_applyP tr (i := 4) rfl E_nc (pre_init (by simp))
 co_applyP tr (i := 5) rfl (E_fa (hf := fo_115_5)) (pre_init (by simp))
 co_applyP tr (i := 6) rfl (E_ixa Tryz.underlying113 sz_44) (pre_init (by simp))
 co_applyP t0 (i := 7) rfl (E_ld (ht := ag_44)) (pre_init (by simp))
 co_applyP anyE_nd
 intro hnd
 co_applyP te (i := 8) rfl (O_cp (hnd := hnd) (hu := Tryz.underlying44) (hs := sz_5) (hr := hrd) (hm := hR1.p _ hb) (ho := by rw [psize, hco]; simp only [List.size_toArray, List.length_map, List.length_take]; rw [← hnn]; split <;> omega) (hp := by rw [List.all_eq_true]; intro v hv; obtain ⟨w, _, rfl⟩ := List.mem_map.1 hv; rfl))
 rintro _ _ ⟨rfl, hU2⟩
 refine ⟨pre_late (by simp), ?_⟩
 rename_i L2
 rw [← hnn] at hU2
 co_applyP to (i := 9) rfl (E_as) (pre_late (by simp))
 rw [← hnn]
 have hpk : puts (pcells x) (cutAt (0 + 15) (x.r 1).toNat 64 1) (((S.by_ k.1).take nn).map fun v => Value.int .u8 v).toArray.toList = pcells (x.poke (x.r 1).toNat ((S.by_ k.1).take nn)) := by
   rw [hco]
   split
   · have : nn = 0 := by omega
     subst this; rfl
   · exact puts_m _ x _ (by simp; omega)
 rw [hpk] at hU2
 have hR2 := hR1.setP hb (x' := x.poke (x.r 1).toNat ((S.by_ k.1).take nn)) hU2
 have hb2 : (b, x.poke (x.r 1).toNat ((S.by_ k.1).take nn)) ∈ (S.setP b (x.poke (x.r 1).toNat ((S.by_ k.1).take nn))).ps := mem_setP_self hb
 have hbK : xk ≠ b := fun e => hA1.new _ (hR.p _ hb) e.symm
 have h02 : At L2 xk 0 (.int .i64 (k.1 : Nat)) := ⟨true, _, _, _, hU2.ne _ hA1.self hbK, rfl⟩
 have hky2 : At L2 K (10 + k.1) (.slice base (S.by_ k.1).length cap) := by rw [← hv]; exact hR2.kat (kc_by _ hk5)
 co_applyP td (by kernel_rfl)
 change wpE ..
 co_applyP c_seq
 have hpl : ((S.by_ k.1).map fun v => Value.int .u8 v).all plainV = true := by rw [List.all_eq_true]; intro v hv; obtain ⟨w, _, rfl⟩ := List.mem_map.1 hv; rfl
 have g2' := g2 (Δ := Δ) (main := main) (s := s) L2 (A.y k.1) ((S.by_ k.1).map fun v => Value.int .u8 v) nn hR2.fn (by simpa using hn1) (by simp; omega) hpl (hR2.ya k.1 hk5)
 rw [List.length_map, hv] at g2'
 co_applyP c_draw [(xk, true, Obj.cells (keyv k).cells 96)] 11 mixed
 have hxk2 : (xk, true, Obj.cells (keyv k).cells 96) ∈ L2 := hU2.ne _ hA1.self hbK
 have hxm : ∀ (L : Frag), (xk, true, Obj.cells (keyv k).cells 96) ∈ L → ∀ t ∈ [(xk, true, Obj.cells (keyv k).cells 96)], t ∈ L := fun L h t ht => by simp only [List.mem_singleton] at ht; rw [ht]; exact h
 have tyy : ∀ {c : Nat} {fl : Bool} {o : Obj}, (c, fl, o) ∈ L2 → (∀ c', o ≠ Obj.cells c' 5) → (A.y k.1).b ≠ some c := fun hm ho hc => by
   obtain ⟨xs, hx'⟩ := hR2.yl _ _ hc
   exact ho _ (hR2.fn _ _ _ _ _ hm hx').2
 have hyx := tyy hxk2 fun c => cells_ne (by decide)
 have hyK := tyy hR2.k fun c => cells_ne (by decide)
 co_applyP tr (i := 0) rfl E_mv (pre_init (hxm _ hxk2))
 co_applyP tr (i := 1) rfl (E_fa (hf := fo_96_0)) (pre_init (hxm _ hxk2))
 co_applyP tr (i := 2) rfl (E_ld (ht := ag_3)) (pre_init (hxm _ hxk2))
 co_applyP tr (i := 3) rfl E_mv (pre_init (hxm _ hxk2))
 co_applyP tr (i := 4) rfl (E_fa (hf := fo_96_0)) (pre_init (hxm _ hxk2))
 co_applyP t0 (i := 5) rfl (E_ld (ht := ag_3)) (pre_init (hxm _ hxk2))
 co_applyP tr (i := 6) rfl E_nc (pre_init (hxm _ hxk2))
 co_applyP tr (i := 7) rfl (E_fa (hf := fo_115_5)) (pre_init (hxm _ hxk2))
 co_applyP tr (i := 8) rfl (E_ixa Tryz.underlying113 sz_44) (pre_init (hxm _ hxk2))
 co_applyP t0 (i := 9) rfl (E_ld (ht := ag_44)) (pre_init (hxm _ hxk2))
 co_applyP tr (i := 10) rfl E_mv (pre_init (hxm _ hxk2))
 co_applyP tr (i := 12) rfl E_nc (pre_init (hxm _ hxk2))
 co_applyP tr (i := 13) rfl (E_fa (hf := fo_115_5)) (pre_init (hxm _ hxk2))
 co_applyP tc (i := 11) rfl rfl rfl (g2')
 rintro _ _ _ ⟨rfl, a', rfl, hp, hab⟩
 refine ⟨pre_late (hxm _ (hp.sub _ hxk2 hyx)), ?_⟩
 rename_i L3
 co_applyP to (i := 14) rfl ((E_ixa Tryz.underlying113 sz_44)) (pre_late (hxm _ (hp.sub _ hxk2 hyx)))
 co_applyP anyE_nd
 intro hnd'
 have hK3 := hp.sub _ hR2.k hyK
 have hxKne : xk ≠ K := fun e => hA1.new _ hR.k e.symm
 co_applyP te (i := 15) rfl (O_sm (hnd := hnd') (hm := hK3) (hi := by rw [ksize]; omega) (hp := slv_plain _ _) (hs := sz_44))
 rintro _ _ ⟨rfl, hU4⟩
 refine ⟨pre_late (hxm _ (hU4.ne _ (hp.sub _ hxk2 hyx) hxKne)), ?_⟩
 rename_i L4
 co_applyP td (by kernel_rfl)
 change wpE ..
 co_applyP c_seq
 co_applyP c_region
 co_applyP oy rfl E_mv
 co_applyP oy rfl E_mv
 co_applyP oy rfl (E_cv (hs := Tryz.underlying3) (ht := Tryz.underlying32))
 co_applyP oy rfl E_nc
 co_applyP oy rfl (E_fa (hf := fo_99_0))
 co_applyP oy rfl (E_fa (hf := fo_49_7))
 co_applyP oy rfl (E_ixa Tryz.underlying47 sz_32)
 have hR4 : Rep K (A.setY k.1 a') ((S.setP b (x.poke (x.r 1).toNat ((S.by_ k.1).take nn))).setY k.1 ((S.by_ k.1).drop nn)) Fr L4 := by
   refine hR2.setBytes hk5 hU4.fn ?_ (fun t ht h1 h2 => hU4.ne _ (hp.sub _ ht h2) h1) ?_ (fun c hc => .inl (by rw [← hab]; exact hc))
   · show (K, true, Obj.cells (kcells _) 115) ∈ L4
     have := hU4.self
     rw [kset_by _ hk5] at this
     rw [kst_by, List.length_drop]
     exact this
   · rw [List.map_drop]
     refine hp.ok.mono fun c hc o ho => hU4.ne _ ho fun e => ?_
     rw [hab] at hc
     exact hyK (by rw [hc]; exact congrArg some e)
 have hb4 : (b, x.poke (x.r 1).toNat ((S.by_ k.1).take nn)) ∈ ((S.setP b (x.poke (x.r 1).toNat ((S.by_ k.1).take nn))).setY k.1 ((S.by_ k.1).drop nn)).ps := hb2
 have wn : IntKind.u16.wrap ((nn : Nat) : Int) = ((nn : Nat) : Int) := by rw [wrap_u16]; omega
 rw [wn]
 co_applyP osm rfl (hs := sz_32) (hm := hR4.p _ hb4) (hi := by first | decide | (rw [psize]; omega) | (rw [ksize]; omega))
 intro L5 hU5
 have h7 : (pcells (x.poke (x.r 1).toNat ((S.by_ k.1).take nn))).setIfInBounds (7 + 0) (.int .u16 ((nn : Nat) : Int)) = pcells (x.got (S.by_ k.1)) := by rw [pset_r _ (by omega)]; unfold PS.got; simp only [← hnn]
 have hR5 := hR4.setP hb4 (x' := x.got (S.by_ k.1)) (h7 ▸ hU5)
 co_applyP o_nil
 change wpE ..
 co_applyP c_seq
 co_applyP c_region
 co_applyP oy rfl E_as
 co_applyP o_nil
 change wpE ..
 co_applyP c_ret
 change ∃ v, resE .. = some v ∧ _
 refine ⟨_, rfl, rfl, rfl, A.setY k.1 a', ⟨rfl, ⟨rfl, rfl, rfl⟩, ⟨rfl, rfl, rfl⟩⟩, ?_⟩
 have e6 : ((S.setP b (x.poke (x.r 1).toNat ((S.by_ k.1).take nn))).setY k.1 ((S.by_ k.1).drop nn)).setP b (x.got (S.by_ k.1)) = S.readP b x k := by
   unfold St.readP St.setP St.setY
   rw [← hnn]
   simp only [List.map_map]
   congr 1
   apply List.map_congr_left
   intro q _
   simp only [Function.comp]
   split
   · simp
   · rename_i h; simp [h]
 rw [e6] at hR5
 exact hR5
def okEnd (k : Nat × Nat) : Prop := (0 < k.1 ∧ k.1 < 5) ∧ (k.2 = 4 ∨ k.2 = 5)
structure Asks (y : PS) (k : Nat × Nat) : Prop where
 f : y.file (y.r 0) = k
 a : y.r 1 + y.r 2 ≤ 64
 w : k.2 = 5 → y.r 2 ≤ 8
 s : y.st = 1 ∨ y.st = k.2
structure Inv (S : St) : Prop where
 g : Good S
 wf : ∀ q ∈ S.ps, WF q.2
 fl : ∀ q ∈ S.ps, ∀ i, i < 6 → q.2.f i = (0, 0) ∨ okEnd (q.2.f i)
 y8 : ∀ i, i < 5 → (S.by_ i).length ≤ 8
 yb : ∀ i, i < 5 → ∀ v ∈ S.by_ i, 0 ≤ v ∧ v < 256
 kn : (S.wt.map (·.1)).Nodup
 ne : ∀ e ∈ S.wt, e.2 ≠ []
 nd : ∀ e ∈ S.wt, e.2.Nodup
 ke : ∀ e ∈ S.wt, okEnd e.1
 rm : ∀ e ∈ S.wt, ∀ c ∈ e.2, ∃ y, (c, y) ∈ S.ps ∧ Asks y e.1
def St.out (S : St) (b : Nat) : Prop := ∀ e ∈ S.wt, b ∉ e.2
theorem okEnd.key {k : Nat × Nat} (h : okEnd k) : okKey k := by
 obtain ⟨_, h | h⟩ := h <;> (unfold okKey; omega)
section
variable {S : St} {b : Nat} {x x' : PS} {k : Nat × Nat}
theorem Inv.w (h : Inv S) : WGood S where
 kn := h.kn
 kk := fun e he => (h.ke e he).key
 rl := fun e he => by
   have := nodup_len (m := S.ps.map (·.1)) (h.nd e he) fun c hc => by
     obtain ⟨y, hy, _⟩ := h.rm e he c hc
     exact List.mem_map.2 ⟨_, hy, rfl⟩
   have h8 := h.g.p8
   simp at this
   omega
 ne := h.ne
 rm := fun e he c hc => by
   obtain ⟨y, hy, _⟩ := h.rm e he c hc
   exact ⟨y, hy⟩
theorem mem_departW {e : (Nat × Nat) × List Nat} : ∀ {l : Wt}, e ∈ departW b k l → (e ∈ l ∧ e.1 ≠ k) ∨ (e.1 = k ∧ e.2 ≠ [] ∧ ∃ xs, (k, xs) ∈ l ∧ e.2 = xs.filter fun c => !decide (c = b)) := by
 intro l h
 unfold departW at h
 obtain ⟨e', he', h2⟩ := List.mem_filterMap.1 h
 split at h2
 · rename_i hk
   split at h2
   · cases h2
   · rename_i hne
     simp at h2
     subst h2
     obtain ⟨k', xs⟩ := e'
     simp only at hk hne he'
     subst hk
     refine .inr ⟨rfl, ?_, xs, he', rfl⟩
     intro e0
     have e0' : (xs.filter fun c => !decide (c = b)) = [] := e0
     exact hne (by rw [e0']; rfl)
 · rename_i hk
   simp at h2
   subst h2
   exact .inl ⟨he', hk⟩
theorem departW_keys {l : Wt} : ((departW b k l).map (·.1)).Sublist (l.map (·.1)) := by
 induction l with
 | nil => exact List.Sublist.slnil
 | cons e l ih =>
   unfold departW at *
   rw [List.filterMap_cons]
   split
   · exact ih.cons _
   · rename_i e' he
     have : e'.1 = e.1 := by
       split at he
       · rename_i hk
         split at he
         · cases he
         · simp at he; rw [← he]; exact hk.symm
       · simp at he; rw [he]
     rw [List.map_cons, List.map_cons, this]
     exact ih.cons_cons _
theorem Inv.depart (h : Inv S) : Inv (S.depart b k) where
 g := ⟨h.g.pn, h.g.p8, h.g.lv, h.g.rn, h.g.rm, h.g.rr⟩
 wf := h.wf
 fl := h.fl
 y8 := h.y8
 yb := h.yb
 kn := h.kn.sublist departW_keys
 ne := fun e he => by
   rcases mem_departW he with ⟨h1, _⟩ | ⟨_, h2, _⟩
   · exact h.ne e h1
   · exact h2
 nd := fun e he => by
   rcases mem_departW he with ⟨h1, _⟩ | ⟨_, _, xs, h3, h4⟩
   · exact h.nd e h1
   · rw [h4]; exact (h.nd _ h3).sublist List.filter_sublist
 ke := fun e he => by
   rcases mem_departW he with ⟨h1, _⟩ | ⟨h2, _, xs, h3, h4⟩
   · exact h.ke e h1
   · rw [h2]; exact h.ke _ h3
 rm := fun e he c hc => by
   rcases mem_departW he with ⟨h1, _⟩ | ⟨h2, _, xs, h3, h4⟩
   · exact h.rm e h1 c hc
   · rw [h2]
     rw [h4] at hc
     exact h.rm _ h3 c (List.mem_filter.1 hc).1
theorem Inv.row (h : Inv S) (hb : (b, x) ∈ S.ps) {e : (Nat × Nat) × List Nat} (he : e ∈ S.wt) (hm : b ∈ e.2) : Asks x e.1 := by
 obtain ⟨y, hy, ha⟩ := h.rm e he b hm
 rw [nodup_val h.g.pn hb hy]; exact ha
theorem Inv.out_depart (h : Inv S) (hb : (b, x) ∈ S.ps) : (S.depart b (x.file (x.r 0))).out b := by
 intro e he hm
 rcases mem_departW he with ⟨h1, h2⟩ | ⟨h2, _, xs, h3, h4⟩
 · exact h2 (h.row hb h1 hm).f.symm
 · rw [h4] at hm
   have := (List.mem_filter.1 hm).2
   simp at this
theorem out_departOf {c : Nat} (h : S.out c) : (S.depart b k).out c := by
 intro e he hm
 rcases mem_departW he with ⟨h1, h2⟩ | ⟨h2, _, xs, h3, h4⟩
 · exact h e h1 hm
 · rw [h4] at hm
   exact h _ h3 (List.mem_filter.1 hm).1
theorem Inv.out_st (h : Inv S) (hb : (b, x) ∈ S.ps) (h1 : x.st ≠ 1) (h4 : x.st ≠ 4) (h5 : x.st ≠ 5) : S.out b := fun e he hm => by
 have := (h.row hb he hm).s
 rcases (h.ke e he).2 with h | h <;> omega
theorem Inv.setP (h : Inv S) (hb : (b, x) ∈ S.ps) (ho : S.out b) (hg : Good (S.setP b x')) (hw : WF x') (hf : ∀ i, i < 6 → x'.f i = (0, 0) ∨ okEnd (x'.f i)) : Inv (S.setP b x') where
 g := hg
 wf := fun q hq => by
   rcases mem_setP hq with rfl | ⟨h1, _⟩
   · exact hw
   · exact h.wf q h1
 fl := fun q hq => by
   rcases mem_setP hq with rfl | ⟨h1, _⟩
   · exact hf
   · exact h.fl q h1
 y8 := h.y8
 yb := h.yb
 kn := h.kn
 ne := h.ne
 nd := h.nd
 ke := h.ke
 rm := fun e he c hc => by
   obtain ⟨y, hy, ha⟩ := h.rm e he c hc
   refine ⟨y, ?_, ha⟩
   simp only [St.setP, List.mem_map]
   refine ⟨(c, y), hy, ?_⟩
   rw [if_neg]
   rintro rfl
   exact ho e he hc
theorem Inv.like (h : Inv S) (hb : (b, x) ∈ S.ps) (ho : S.out b) (hs : x'.st = x.st) (hl : x'.lv = x.lv) (hw : WF x') (hf : ∀ i, i < 6 → x'.f i = (0, 0) ∨ okEnd (x'.f i)) : Inv (S.setP b x') := h.setP hb ho (h.g.like hb hs hl) hw hf
theorem Inv.wake1 (h : Inv S) (hb : (b, x) ∈ S.ps) (ho : S.out b) (hs : x.st ≠ 1) : Inv (S.wake1 b x) where
 g := h.g.wake1 hb hs
 wf := fun q hq => by
   rcases mem_setP hq with rfl | ⟨h1, _⟩
   · exact ⟨(h.wf _ hb).r, (h.wf _ hb).m⟩
   · exact h.wf q h1
 fl := fun q hq => by
   rcases mem_setP hq with rfl | ⟨h1, _⟩
   · exact h.fl (b, x) hb
   · exact h.fl q h1
 y8 := h.y8
 yb := h.yb
 kn := h.kn
 ne := h.ne
 nd := h.nd
 ke := h.ke
 rm := fun e he c hc => by
   obtain ⟨y, hy, ha⟩ := h.rm e he c hc
   refine ⟨y, ?_, ha⟩
   show (c, y) ∈ (S.setP b _).ps
   simp only [St.setP, List.mem_map]
   refine ⟨(c, y), hy, ?_⟩
   rw [if_neg]
   rintro rfl
   exact ho e he hc
theorem Inv.setY (h : Inv S) {i : Nat} {ys : List Int} (h8 : ys.length ≤ 8) (hb : ∀ v ∈ ys, 0 ≤ v ∧ v < 256) : Inv (S.setY i ys) where
 g := ⟨h.g.pn, h.g.p8, h.g.lv, h.g.rn, h.g.rm, h.g.rr⟩
 wf := h.wf
 fl := h.fl
 y8 := fun j hj => by
   show (put S.by_ i ys j).length ≤ 8
   unfold put; split
   · exact h8
   · exact h.y8 j hj
 yb := fun j hj v hv => by
   have hv' : v ∈ put S.by_ i ys j := hv
   unfold put at hv'
   split at hv'
   · exact hb v hv'
   · exact h.yb j hj v hv'
 kn := h.kn
 ne := h.ne
 nd := h.nd
 ke := h.ke
 rm := h.rm
end
def PS.gave (x : PS) : PS := { x with r := put x.r 0 (x.r 2) }
def St.writeP (S : St) (b : Nat) (x : PS) (k : Nat × Nat) : St := (S.setY k.1 (S.by_ k.1 ++ x.peek (x.r 1).toNat (x.r 2).toNat)).setP b x.gave
def St.carried (S : St) (x : PS) (k : Nat × Nat) : PS := if k.2 = 4 then x.got (S.by_ k.1) else if S.isOpen (otherE k) then x.gave else { x with r := put x.r 0 (ansOf 7) }
def St.carry (S : St) (b : Nat) (x : PS) (k : Nat × Nat) : St := if k.2 = 4 then S.readP b x k else if S.isOpen (otherE k) then S.writeP b x k else S.setP b { x with r := put x.r 0 (ansOf 7) }
def St.rowAt (S : St) (k : Nat × Nat) : List Nat := ((S.wt.find? fun e => decide (e.1 = k)).map (·.2)).getD []
def St.serve (S : St) (k : Nat × Nat) : Option St := match S.rowAt k with
 | [] => none
 | b :: _ => match S.get b with
   | none => none
   | some x => if S.canBeDone x k then some (if x.st = 1 then (S.depart b k).carry b x k else ((S.depart b k).carry b x k).wake1 b (S.carried x k)) else none
def St.looks : Nat → St → Nat → St
 | 0, S, _ => S
 | n + 1, S, p => match S.serve (p, 5) with
   | some S' => St.looks n S' p
   | none => match S.serve (p, 4) with
     | some S' => St.looks n S' p
     | none => S
def St.look (S : St) (p : Nat) : St := St.looks 16 S p
def St.meas (S : St) (p : Nat) : Nat := (S.rowAt (p, 5)).length + (S.rowAt (p, 4)).length
def St.shut (S : St) (b n : Nat) : St := match S.get b with
 | some x => (S.setP b { x with f := put x.f n (0, 0) }).look (x.f n).1
 | none => S
def St.shuts (S : St) (b : Nat) (f : Nat → Nat × Nat) : List Nat → St
 | [] => S
 | n :: ns => (if f n = (0, 0) then S else S.shut b n).shuts b f ns
section
variable {S S' : St} {b : Nat} {x x' : PS} {k : Nat × Nat}
theorem rowAt_mem {c : Nat} (h : c ∈ S.rowAt k) : ∃ xs, (k, xs) ∈ S.wt ∧ xs = S.rowAt k := by
 unfold St.rowAt at *
 cases hf : S.wt.find? fun e => decide (e.1 = k) with
 | none => rw [hf] at h; simp at h
 | some e =>
   have h1 := List.mem_of_find?_eq_some hf
   have h2 := List.find?_some hf
   simp only [decide_eq_true_eq] at h2
   subst h2
   exact ⟨e.2, h1, rfl⟩
theorem rowAt_of (h : (S.wt.map (·.1)).Nodup) {xs : List Nat} (hm : (k, xs) ∈ S.wt) : S.rowAt k = xs := by
 obtain ⟨l1, ys, l2, hl, h1, h2⟩ := split_key h (List.mem_map.2 ⟨_, hm, rfl⟩)
 have e1 : S.rowAt k = ys := by
   unfold St.rowAt
   rw [hl, List.find?_append, List.find?_eq_none.2 fun e he => by simpa using h1 e he]
   simp
 rw [hl] at hm
 rcases List.mem_append.1 hm with h3 | h3
 · exact absurd rfl (h1 _ h3)
 · rcases List.mem_cons.1 h3 with h4 | h4
   · rw [e1]; cases h4; rfl
   · exact absurd rfl (h2 _ h4)
theorem rowAt_none (h : ∀ e ∈ S.wt, e.1 ≠ k) : S.rowAt k = [] := by
 unfold St.rowAt
 rw [List.find?_eq_none.2 fun e he => by simpa using h e he]; rfl
theorem rowAt_depart (h : (S.wt.map (·.1)).Nodup) (k' : Nat × Nat) : (S.depart b k).rowAt k' = if k' = k then (S.rowAt k).filter (fun c => !decide (c = b)) else S.rowAt k' := by
 by_cases hk : k ∈ S.wt.map (·.1)
 · obtain ⟨l1, ys, l2, hl, h1, h2⟩ := split_key h hk
   have e0 : S.rowAt k = ys := rowAt_of h (by rw [hl]; simp)
   have e1 : (S.depart b k).wt = l1 ++ ((if (ys.filter fun c => !decide (c = b)).length = 0 then [] else [(k, ys.filter fun c => !decide (c = b))]) ++ l2) := by
     show departW b k S.wt = _
     rw [hl, departW_at h1 h2]
   have f1 : l1.find? (fun e => decide (e.1 = k)) = none := List.find?_eq_none.2 fun e he => by simpa using h1 e he
   have f2 : l2.find? (fun e => decide (e.1 = k)) = none := List.find?_eq_none.2 fun e he => by simpa using h2 e he
   split
   · rename_i e; subst e
     rw [e0]
     unfold St.rowAt
     rw [e1, List.find?_append, f1, List.find?_append]
     split
     · rename_i hz
       have hz' := List.length_eq_zero_iff.1 hz
       rw [f2, hz']; rfl
     · simp
   · rename_i hne
     unfold St.rowAt
     rw [e1, hl, List.find?_append, List.find?_append, List.find?_append]
     have g1 : ∀ zs, ((k, zs) :: l2).find? (fun e => decide (e.1 = k')) = l2.find? (fun e => decide (e.1 = k')) := fun zs => by
       rw [List.find?_cons]; simp [Ne.symm hne]
     rw [g1]
     split
     · rfl
     · simp [Ne.symm hne]
 · have h0 : ∀ e ∈ S.wt, e.1 ≠ k := fun e he e1 => hk (List.mem_map.2 ⟨e, he, e1⟩)
   have e1 : S.depart b k = S := by unfold St.depart; rw [departW_skip h0]; rfl
   rw [e1]
   split
   · rename_i e; rw [e, rowAt_none h0]; rfl
   · rfl
theorem poke_st : ∀ (vs : List Int) (x : PS) (i : Nat), (x.poke i vs).st = x.st ∧ (x.poke i vs).lv = x.lv ∧ (x.poke i vs).f = x.f ∧ (x.poke i vs).id = x.id ∧ (x.poke i vs).par = x.par
 | [], _, _ => ⟨rfl, rfl, rfl, rfl, rfl⟩
 | v :: vs, x, i => poke_st vs { x with m := put x.m i v } (i + 1)
theorem poke_wf : ∀ (vs : List Int) (x : PS) (i : Nat), WF x → (∀ v ∈ vs, 0 ≤ v ∧ v < 256) → WF (x.poke i vs)
 | [], _, _, h, _ => h
 | v :: vs, x, i, h, hv => poke_wf vs { x with m := put x.m i v } (i + 1) ⟨h.r, fun j hj => by
     show 0 ≤ put x.m i v j ∧ put x.m i v j < 256
     unfold put; split
     · exact hv v (by simp)
     · exact h.m j hj⟩ fun w hw => hv w (by simp [hw])
theorem put_wf (h : WF x) {v : Int} (hv : 0 ≤ v ∧ v < 65536) : WF { x with r := put x.r 0 v } := ⟨fun j hj => by
 show 0 ≤ put x.r 0 v j ∧ put x.r 0 v j < 65536
 unfold put; split
 · exact hv
 · exact h.r j hj, h.m⟩
theorem ans_ok (i : Nat) : 0 ≤ ansOf i ∧ ansOf i < 65536 := by
 unfold ansOf
 repeat' split
 all_goals omega
theorem carried_like (S : St) (x : PS) (k : Nat × Nat) : (S.carried x k).st = x.st ∧ (S.carried x k).lv = x.lv ∧ (S.carried x k).f = x.f ∧ (S.carried x k).id = x.id ∧ (S.carried x k).par = x.par := by
 unfold St.carried
 split
 · exact poke_st _ _ _
 · split <;> exact ⟨rfl, rfl, rfl, rfl, rfl⟩
theorem carried_wf (h : Inv S) (hk : k.1 < 5) (hx : WF x) (ha : x.r 1 + x.r 2 ≤ 64) : WF (S.carried x k) := by
 unfold St.carried
 split
 · refine put_wf (poke_wf _ _ _ hx fun v hv => h.yb _ hk v (List.mem_of_mem_take hv)) ⟨by omega, ?_⟩
   have := h.y8 _ hk
   have : (Nat.min (S.by_ k.1).length (x.r 2).toNat : Nat) ≤ (S.by_ k.1).length := Nat.min_le_left _ _
   omega
 · split
   · exact put_wf hx (hx.r 2 (by omega))
   · exact put_wf hx (ans_ok 7)
theorem carry_eq (S : St) (b : Nat) (x : PS) (k : Nat × Nat) : ∃ ys, S.carry b x k = (S.setP b (S.carried x k)).setY k.1 ys ∧ (k.2 = 4 → ys = (S.by_ k.1).drop (Nat.min (S.by_ k.1).length (x.r 2).toNat)) ∧ (k.2 ≠ 4 → ys = if S.isOpen (otherE k) then S.by_ k.1 ++ x.peek (x.r 1).toNat (x.r 2).toNat else S.by_ k.1) := by
 unfold St.carry St.carried
 split
 · rename_i h; exact ⟨_, rfl, fun _ => rfl, fun hn => absurd h hn⟩
 · rename_i h
   split
   · exact ⟨_, rfl, fun h' => absurd h' h, fun _ => rfl⟩
   · refine ⟨S.by_ k.1, ?_, fun h' => absurd h' h, fun _ => rfl⟩
     have : put S.by_ k.1 (S.by_ k.1) = S.by_ := by funext j; unfold put; split <;> simp_all
     show _ = { S.setP b _ with by_ := put S.by_ k.1 (S.by_ k.1) }
     rw [this]; rfl
theorem Inv.carry (h : Inv S) (hb : (b, x) ∈ S.ps) (ho : S.out b) (hk : k.1 < 5) (ha : x.r 1 + x.r 2 ≤ 64) (hc : S.canBeDone x k = true) : Inv (S.carry b x k) := by
 obtain ⟨ys, e, h4, h5⟩ := carry_eq S b x k
 obtain ⟨l1, l2, l3, _, _⟩ := carried_like S x k
 have hI := h.like hb ho l1 l2 (carried_wf h hk (h.wf _ hb) ha) (by rw [l3]; exact h.fl _ hb)
 rw [e]
 have hy8 := h.y8 _ hk
 have hyb := h.yb _ hk
 have w2 : 0 ≤ x.r 2 ∧ x.r 2 < 65536 := (h.wf _ hb).r 2 (by omega)
 have w1 : 0 ≤ x.r 1 ∧ x.r 1 < 65536 := (h.wf _ hb).r 1 (by omega)
 refine hI.setY ?_ ?_
 · by_cases h44 : k.2 = 4
   · rw [h4 h44, List.length_drop]; omega
   · rw [h5 h44]
     split
     · rename_i ho
       unfold St.canBeDone at hc
       rw [if_pos ho, if_neg h44] at hc
       simp only [decide_eq_true_eq] at hc
       simp [PS.peek]
       omega
     · exact hy8
 · by_cases h44 : k.2 = 4
   · rw [h4 h44]; exact fun v hv => hyb v (List.mem_of_mem_drop hv)
   · rw [h5 h44]
     split
     · intro v hv
       rcases List.mem_append.1 hv with h1 | h1
       · exact hyb v h1
       · unfold PS.peek at h1
         obtain ⟨j, hj, rfl⟩ := List.mem_map.1 h1
         simp at hj
         exact (h.wf _ hb).m _ (by omega)
     · exact hyb
theorem carry_wt (S : St) (b : Nat) (x : PS) (k : Nat × Nat) : (S.carry b x k).wt = S.wt := by
 obtain ⟨ys, e, _⟩ := carry_eq S b x k
 rw [e]; rfl
theorem carry_ps (S : St) (b : Nat) (x : PS) (k : Nat × Nat) : (S.carry b x k).ps = (S.setP b (S.carried x k)).ps := by
 obtain ⟨ys, e, _⟩ := carry_eq S b x k
 rw [e]; rfl
theorem serve_some (hS : S.serve k = some S') : ∃ b x, b ∈ S.rowAt k ∧ (S.rowAt k).head? = some b ∧ (b, x) ∈ S.ps ∧ S.canBeDone x k = true ∧ S' = if x.st = 1 then (S.depart b k).carry b x k else ((S.depart b k).carry b x k).wake1 b (S.carried x k) := by
 unfold St.serve at hS
 split at hS
 · cases hS
 · rename_i b l hr
   split at hS
   · cases hS
   · rename_i x hx
     split at hS
     · rename_i hc
       refine ⟨b, x, by rw [hr]; simp, by rw [hr]; rfl, mem_of_get hx, hc, ?_⟩
       exact (Option.some.inj hS).symm
     · cases hS
theorem Inv.atRow (h : Inv S) {c : Nat} (hc : c ∈ S.rowAt k) (hb : (c, x) ∈ S.ps) : Asks x k ∧ okEnd k := by
 obtain ⟨xs, h1, h2⟩ := rowAt_mem hc
 exact ⟨h.row hb h1 (by rw [h2]; exact hc), h.ke _ h1⟩
theorem Inv.serve (h : Inv S) (hS : S.serve k = some S') : Inv S' := by
 obtain ⟨b, x, hm, _, hb, hc, rfl⟩ := serve_some hS
 obtain ⟨ha, hk⟩ := h.atRow hm hb
 have hd : Inv (S.depart b k) := h.depart
 have ho : (S.depart b k).out b := by have := h.out_depart hb; rw [ha.f] at this; exact this
 have hI := Inv.carry hd (b := b) (x := x) (k := k) hb ho hk.1.2 ha.a hc
 split
 · exact hI
 · rename_i h1
   refine hI.wake1 ?_ (by intro e he; exact ho e (by rw [carry_wt] at he; exact he)) (by rw [(carried_like S x k).1]; exact h1)
   rw [carry_ps]; exact mem_setP_self hb
theorem serve_wt (hS : S.serve k = some S') : ∃ b, (S.rowAt k).head? = some b ∧ S'.wt = (S.depart b k).wt := by
 obtain ⟨b, x, hm, hh, hb, hc, rfl⟩ := serve_some hS
 refine ⟨b, hh, ?_⟩
 split
 · exact carry_wt _ _ _ _
 · show ((S.depart b k).carry b x k).wt = _
   exact carry_wt _ _ _ _
theorem rowAt_wt {S S' : St} (h : S'.wt = S.wt) (k : Nat × Nat) : S'.rowAt k = S.rowAt k := by unfold St.rowAt; rw [h]
theorem serve_meas (h : Inv S) {p u : Nat} (hu : u = 4 ∨ u = 5) (hS : S.serve (p, u) = some S') : S'.meas p < S.meas p := by
 obtain ⟨b, hh, hw⟩ := serve_wt hS
 have e1 := rowAt_wt hw (p, 4)
 have e2 := rowAt_wt hw (p, 5)
 rw [rowAt_depart h.kn] at e1 e2
 have hlt : ((S.rowAt (p, u)).filter fun c => !decide (c = b)).length < (S.rowAt (p, u)).length := by
   rw [List.length_filter_lt_length_iff_exists]
   refine ⟨b, List.mem_of_head? hh, by simp⟩
 unfold St.meas
 rw [e1, e2]
 rcases hu with rfl | rfl
 · rw [if_pos rfl, if_neg (by simp)]; omega
 · rw [if_pos rfl, if_neg (by simp)]; omega
theorem serve_out {c : Nat} (h : S.out c) (hS : S.serve k = some S') : S'.out c := by
 obtain ⟨b, hh, hw⟩ := serve_wt hS
 intro e he
 rw [hw] at he
 exact out_departOf h e he
theorem serve_mem {c : Nat} {y : PS} (h : Inv S) (ho : S.out c) (hc : (c, y) ∈ S.ps) (hS : S.serve k = some S') : (c, y) ∈ S'.ps := by
 obtain ⟨b, x, hm, hh, hb, hd, rfl⟩ := serve_some hS
 have hne : c ≠ b := by
   rintro rfl
   obtain ⟨xs, h1, h2⟩ := rowAt_mem hm
   exact ho _ h1 (by rw [h2]; exact hm)
 have stay : ∀ (T : St) (z : PS), (c, y) ∈ T.ps → (c, y) ∈ (T.setP b z).ps := fun T z hT => by
   simp only [St.setP, List.mem_map]
   exact ⟨(c, y), hT, by rw [if_neg hne]⟩
 split
 · rw [carry_ps]; exact stay _ _ hc
 · show (c, y) ∈ (((S.depart b k).carry b x k).setP b _).ps
   apply stay
   rw [carry_ps]; exact stay _ _ hc
theorem serve_fst (hS : S.serve k = some S') : S'.ps.map (·.1) = S.ps.map (·.1) := by
 obtain ⟨b, x, hm, hh, hb, hd, rfl⟩ := serve_some hS
 have e1 : ((S.depart b k).carry b x k).ps.map (·.1) = S.ps.map (·.1) := by rw [carry_ps, setP_fst]; rfl
 split
 · exact e1
 · show (((S.depart b k).carry b x k).setP b _).ps.map (·.1) = _
   rw [setP_fst, e1]
theorem meas_le (h : Inv S) (p : Nat) : S.meas p ≤ 16 := by
 have aux : ∀ k, (S.rowAt k).length ≤ 8 := fun k => by
   cases hr : S.rowAt k with
   | nil => simp
   | cons c l =>
     obtain ⟨xs, h1, h2⟩ := rowAt_mem (S := S) (k := k) (c := c) (by rw [hr]; simp)
     have := h.w.rl _ h1
     simp only at this
     rw [h2, hr] at this
     exact this
 have h1 := aux (p, 5)
 have h2 := aux (p, 4)
 unfold St.meas
 omega
theorem looks_stop {p : Nat} (h5 : S.serve (p, 5) = none) (h4 : S.serve (p, 4) = none) : ∀ n, St.looks n S p = S
 | 0 => rfl
 | n + 1 => by simp only [St.looks, h5, h4]
structure Looked (S S' : St) : Prop where
 i : Inv S'
 f : S'.ps.map (·.1) = S.ps.map (·.1)
 o : ∀ c, S.out c → S'.out c
 m : ∀ c y, S.out c → (c, y) ∈ S.ps → (c, y) ∈ S'.ps
theorem Inv.looks (p : Nat) : ∀ (n : Nat) {S : St}, Inv S → Looked S (St.looks n S p)
 | 0, S, h => ⟨h, rfl, fun _ h => h, fun _ _ _ h => h⟩
 | n + 1, S, h => by
   have go : ∀ {u : Nat} {S' : St}, S.serve (p, u) = some S' → Looked S (St.looks n S' p) := fun {u S'} hS => by
     have ih := Inv.looks p n (h.serve hS)
     exact ⟨ih.i, ih.f.trans (serve_fst hS), fun c hc => ih.o c (serve_out hc hS), fun c y hc hy => ih.m c y (serve_out hc hS) (serve_mem h hc hy hS)⟩
   unfold St.looks
   split
   · exact go ‹_›
   · split
     · exact go ‹_›
     · exact ⟨h, rfl, fun _ h => h, fun _ _ _ h => h⟩
theorem Inv.look (h : Inv S) (p : Nat) : Looked S (S.look p) := Inv.looks p 16 h
theorem put_fl (h : ∀ i, i < 6 → x.f i = (0, 0) ∨ okEnd (x.f i)) {n : Nat} {e : Nat × Nat} (he : e = (0, 0) ∨ okEnd e) : ∀ i, i < 6 → put x.f n e i = (0, 0) ∨ okEnd (put x.f n e i) := fun i hi => by
 unfold put; split
 · exact he
 · exact h i hi
theorem Inv.shut (h : Inv S) (hb : (b, x) ∈ S.ps) (ho : S.out b) (n : Nat) : Looked (S.setP b { x with f := put x.f n (0, 0) }) (S.shut b n) := by
 unfold St.shut
 rw [get_of h.g.pn hb]
 exact Inv.look (h.like (x' := { x with f := put x.f n (0, 0) }) hb ho rfl rfl ⟨(h.wf _ hb).r, (h.wf _ hb).m⟩ (put_fl (h.fl _ hb) (.inl rfl))) _
end
end Go.Proofs.YtejkelcaljmnoaaGreatDoor
