/-
  Part 29 of the proof.
  No condition but those that each statement names.
-/
import Derived.Test.YtejkelcaljmnoaaGreatDoorHy28
set_option maxRecDepth 100000
set_option linter.unusedVariables false
set_option linter.unusedSimpArgs false
set_option linter.unusedSectionVars false
namespace Go.Proofs.YtejkelcaljmnoaaGreatDoor
open Go.Conc Go.Hx Go.Lo
theorem carry_n : ∃ n, ∀ {σ : Type} {F : Fam σ} {Δ : ∀ s, Dom (F.R s) (F.D s)} {main : Bool} {s : σ} (K : Nat) (A : Lay) (S : St) (Fr L : Frag) (eb : Nat → Nat × Nat) (b : Nat) (x : PS) (k : Nat × Nat), (∀ cs, (Δ s).New (.cells cs 96)) → (∀ cs, (Δ s).New (.cells cs 210)) → Rep K A S Fr L → Ers eb Fr → (b, x) ∈ S.ps → WF x → k.2 ≠ 4 → x.r 1 + x.r 2 ≤ 64 → S.isOpen (otherE k) = false →
   CallsL Δ Tryz.prog main 166 [ptr K, ptr b, keyv k].toArray n s L (fun s' v L' => s = s' ∧ ∃ r, v = .iface 180 (ptr r) ∧ At L' r 1 (erv eb 7) ∧ Rep K A S Fr L') := by
 obtain ⟨n0, g0⟩ := other_s
 obtain ⟨n1, g1⟩ := isOpen_s
 obtain ⟨n2, g2⟩ := refuse_1
 apply Exists.intro
 intro σ F Δ main s K A S Fr L eb b x k hN hN2 hR hE hb hx hk4 hfc hop
 have wx1 := hx.r 1 (by omega)
 have wx2 := hx.r 2 (by omega)
 have w1 : IntKind.i64.wrap (x.r 1) = x.r 1 := by simp [IntKind.wrap_i64]; omega
 have w2 : IntKind.i64.wrap (x.r 2) = x.r 2 := by simp [IntKind.wrap_i64]; omega
 have w3 : IntKind.i64.wrap (x.r 1 + x.r 2) = x.r 1 + x.r 2 := by simp [IntKind.wrap_i64]; omega
 co_applyP callsE 100 Tryz.func166 Tryz.ntmps166
 co_applyP c_seq
 co_applyP c_region
 co_applyP oadd rfl (O_box (hN _))
 intro xk L1 hA1
 have hR1 := hR.add hA1
 have h1 : At L1 xk 1 (.int .i64 (k.2 : Nat)) := ⟨true, _, _, _, hA1.self, rfl⟩
 have hx1 : At L1 b 8 (.int .u16 (x.r 1)) := hR1.pat hb (pget_r x (i := 1) (by omega))
 have hx2 : At L1 b 9 (.int .u16 (x.r 2)) := hR1.pat hb (pget_r x (i := 2) (by omega))
 have e4 : ((k.2 : Int) == 4) = false := by simp; omega
 co_applyP oy rfl E_as
 co_applyP o_nil
 change wpE ..
 co_applyP c_seq
 co_applyP c_drawq mixed
 co_applyP tr (i := 0) rfl E_mv pI
 co_applyP tr (i := 1) rfl E_nc pI
 co_applyP tr (i := 2) rfl (E_fa (hf := fo_99_0)) pI
 co_applyP tr (i := 3) rfl (E_fa (hf := fo_49_7)) pI
 co_applyP tr (i := 4) rfl (E_ixa Tryz.underlying47 sz_32) pI
 co_applyP tr (i := 5) rfl (E_ld (ht := ag_32)) pI
 co_applyP tr (i := 6) rfl (E_cv (hs := Tryz.underlying32) (ht := Tryz.underlying3)) pI
 co_applyP tr (i := 7) rfl E_mv pI
 co_applyP tr (i := 8) rfl E_nc pI
 co_applyP tr (i := 9) rfl (E_fa (hf := fo_99_0)) pI
 co_applyP tr (i := 10) rfl (E_fa (hf := fo_49_7)) pI
 co_applyP tr (i := 11) rfl (E_ixa Tryz.underlying47 sz_32) pI
 co_applyP tr (i := 12) rfl (E_ld (ht := ag_32)) pI
 co_applyP tr (i := 13) rfl (E_cv (hs := Tryz.underlying32) (ht := Tryz.underlying3)) pI
 co_applyP tr (i := 14) rfl E_as pI
 co_applyP tr (i := 15) rfl E_as pI
 co_applyP td (by kernel_rfl)
 change wpE ..
 co_applyP c_seq
 co_applyP c_region
 co_applyP oy rfl E_mv
 co_applyP oy rfl E_nc
 co_applyP oy rfl (E_fa (hf := fo_99_1))
 co_applyP oy rfl E_mv
 co_applyP oy rfl E_mv
 co_applyP oy rfl E_mv
 co_applyP oy rfl E_add
 simp only [w1, w2, w3]
 co_applyP oy rfl (E_slA Tryz.underlying94 sz_5)
 co_applyP oy rfl E_as
 co_applyP o_nil
 change wpE ..
 co_applyP c_seq
 co_applyP c_seq
 co_applyP c_region
 co_applyP oy rfl (E_fa (hf := fo_96_1))
 co_applyP oy rfl (E_ld (ht := ag_3))
 co_applyP oy rfl E_eql
 co_applyP o_nil
 change wpE ..
 rw [e4]
 co_applyP c_false rfl
 co_applyP c_skip
 change wpE ..
 co_applyP c_seq (n₂ := 0)
 co_applyP c_seq
 co_applyP c_region
 co_applyP oy rfl E_mv
 co_applyP oy rfl (E_lda (ht := ag_96) (hs := sz_96) (hm := hA1.self) (hi := Nat.le_refl _))
 co_applyP ocm rfl rfl rfl (g0 L1 k hN)
 rintro _ _ _ ⟨rfl, rfl, hE2⟩
 rename_i L2
 co_applyP oc rfl rfl rfl (g1 K A S Fr L2 (otherE k) hN (hR1.ext hE2))
 rintro _ _ _ ⟨rfl, rfl, hE3⟩
 co_applyP oy rfl E_not
 co_applyP o_nil
 change wpE ..
 rename_i L3
 have hR3 := (hR1.ext hE2).ext hE3
 have hg := (hE.mono hR3.fr).g 7 (by decide) (by decide)
 rw [hop]
 co_applyP c_true rfl
 co_applyP c_seq
 co_applyP c_region
 co_applyP oy rfl (E_ld (ht := ag_168))
 co_applyP oc rfl rfl rfl (g2 L3 10 (eb 7) hN2)
 rintro _ _ _ ⟨rfl, r, rfl, hA4⟩
 co_applyP oy rfl E_as
 co_applyP o_nil
 change wpE ..
 co_applyP c_ret
 change ∃ v, resE .. = some v ∧ _
 exact ⟨_, rfl, rfl, r, rfl, ⟨true, _, _, _, hA4.self, rfl⟩, hR3.add hA4⟩
theorem carry_w : ∃ n, ∀ {σ : Type} {F : Fam σ} {Δ : ∀ s, Dom (F.R s) (F.D s)} {main : Bool} {s : σ} (K : Nat) (A : Lay) (S : St) (Fr L : Frag) (b : Nat) (x : PS) (k : Nat × Nat), (∀ cs, (Δ s).New (.cells cs 96)) → (∀ cs, (Δ s).New (.cells cs 5)) → Rep K A S Fr L → (b, x) ∈ S.ps → WF x → k.1 < 5 → k.2 ≠ 4 → x.r 1 + x.r 2 ≤ 64 → (S.by_ k.1).length ≤ 8 → S.isOpen (otherE k) = true →
   CallsL Δ Tryz.prog main 166 [ptr K, ptr b, keyv k].toArray n s L (fun s' v L' => s = s' ∧ v = .nilIface ∧ ∃ A', YLay A A' ∧ Rep K A' (S.writeP b x k) Fr L') := by
 obtain ⟨n0, g0⟩ := other_s
 obtain ⟨n1, g1⟩ := isOpen_s
 apply Exists.intro
 intro σ F Δ main s K A S Fr L b x k hN hN5 hR hb hx hk5 hk4 hfc h8 hop
 have wx1 := hx.r 1 (by omega)
 have wx2 := hx.r 2 (by omega)
 have w1 : IntKind.i64.wrap (x.r 1) = x.r 1 := by simp [IntKind.wrap_i64]; omega
 have w2 : IntKind.i64.wrap (x.r 2) = x.r 2 := by simp [IntKind.wrap_i64]; omega
 have w3 : IntKind.i64.wrap (x.r 1 + x.r 2) = x.r 1 + x.r 2 := by simp [IntKind.wrap_i64]; omega
 obtain ⟨base, cap, hv, _⟩ : ∃ base cap, slv (A.y k.1) (S.by_ k.1).length = .slice base (S.by_ k.1).length cap ∧ True := by
   obtain ⟨base, cap, h, _⟩ := slv_view (hR.ya k.1 hk5)
   simp only [List.length_map] at h
   exact ⟨base, cap, h, trivial⟩
 co_applyP callsE 100 Tryz.func166 Tryz.ntmps166
 co_applyP c_seq
 co_applyP c_region
 co_applyP oadd rfl (O_box (hN _))
 intro xk L1 hA1
 have hR1 := hR.add hA1
 have h1 : At L1 xk 1 (.int .i64 (k.2 : Nat)) := ⟨true, _, _, _, hA1.self, rfl⟩
 have hx1 : At L1 b 8 (.int .u16 (x.r 1)) := hR1.pat hb (pget_r x (i := 1) (by omega))
 have hx2 : At L1 b 9 (.int .u16 (x.r 2)) := hR1.pat hb (pget_r x (i := 2) (by omega))
 have e4 : ((k.2 : Int) == 4) = false := by simp; omega
 have edl : (x.r 1 + x.r 2).toNat - (x.r 1).toNat = (x.r 2).toNat := by omega
 co_applyP oy rfl E_as
 co_applyP o_nil
 change wpE ..
 co_applyP c_seq
 co_applyP c_drawq mixed
 co_applyP tr (i := 0) rfl E_mv pI
 co_applyP tr (i := 1) rfl E_nc pI
 co_applyP tr (i := 2) rfl (E_fa (hf := fo_99_0)) pI
 co_applyP tr (i := 3) rfl (E_fa (hf := fo_49_7)) pI
 co_applyP tr (i := 4) rfl (E_ixa Tryz.underlying47 sz_32) pI
 co_applyP tr (i := 5) rfl (E_ld (ht := ag_32)) pI
 co_applyP tr (i := 6) rfl (E_cv (hs := Tryz.underlying32) (ht := Tryz.underlying3)) pI
 co_applyP tr (i := 7) rfl E_mv pI
 co_applyP tr (i := 8) rfl E_nc pI
 co_applyP tr (i := 9) rfl (E_fa (hf := fo_99_0)) pI
 co_applyP tr (i := 10) rfl (E_fa (hf := fo_49_7)) pI
 co_applyP tr (i := 11) rfl (E_ixa Tryz.underlying47 sz_32) pI
 co_applyP tr (i := 12) rfl (E_ld (ht := ag_32)) pI
 co_applyP tr (i := 13) rfl (E_cv (hs := Tryz.underlying32) (ht := Tryz.underlying3)) pI
 co_applyP tr (i := 14) rfl E_as pI
 co_applyP tr (i := 15) rfl E_as pI
 co_applyP td (by kernel_rfl)
 change wpE ..
 co_applyP c_seq
 co_applyP c_region
 co_applyP oy rfl E_mv
 co_applyP oy rfl E_nc
 co_applyP oy rfl (E_fa (hf := fo_99_1))
 co_applyP oy rfl E_mv
 co_applyP oy rfl E_mv
 co_applyP oy rfl E_mv
 co_applyP oy rfl E_add
 simp only [w1, w2, w3]
 co_applyP oy rfl (E_slA Tryz.underlying94 sz_5)
 co_applyP oy rfl E_as
 co_applyP o_nil
 change wpE ..
 co_applyP c_seq
 co_applyP c_seq
 co_applyP c_region
 co_applyP oy rfl (E_fa (hf := fo_96_1))
 co_applyP oy rfl (E_ld (ht := ag_3))
 co_applyP oy rfl E_eql
 co_applyP o_nil
 change wpE ..
 rw [e4, edl]
 co_applyP c_false rfl
 co_applyP c_skip
 change wpE ..
 co_applyP c_seq
 co_applyP c_seq
 co_applyP c_region
 co_applyP oy rfl E_mv
 co_applyP oy rfl (E_lda (ht := ag_96) (hs := sz_96) (hm := hA1.self) (hi := Nat.le_refl _))
 co_applyP ocm rfl rfl rfl (g0 L1 k hN)
 rintro _ _ _ ⟨rfl, rfl, hE2⟩
 rename_i L2
 co_applyP oc rfl rfl rfl (g1 K A S Fr L2 (otherE k) hN (hR1.ext hE2))
 rintro _ _ _ ⟨rfl, rfl, hE3⟩
 co_applyP oy rfl E_not
 co_applyP o_nil
 change wpE ..
 rename_i L3
 have hR3 := (hR1.ext hE2).ext hE3
 have hxk3 := hE3.s _ (hE2.s _ hA1.self)
 have h03 : At L3 xk 0 (.int .i64 (k.1 : Nat)) := ⟨true, _, _, _, hxk3, rfl⟩
 have hky3 : At L3 K (10 + k.1) (.slice base (S.by_ k.1).length cap) := by rw [← hv]; exact hR3.kat (kc_by _ hk5)
 rw [hop]
 co_applyP c_false rfl
 co_applyP c_skip
 change wpE ..
 co_applyP c_seq
 obtain ⟨ys, hys⟩ : ∃ ys, ys = (x.peek (x.r 1).toNat (x.r 2).toNat).map fun v => Value.int .u8 v := ⟨_, rfl⟩
 have hyl : ys.length = (x.r 2).toNat := by rw [hys]; simp [PS.peek]
 have hco : cutAt (0 + 15) (x.r 1).toNat 64 1 = if 64 = (x.r 1).toNat then 15 else 15 + (x.r 1).toNat := by unfold cutAt; split <;> omega
 have hrd : Reads Tryz.prog L3 1 ys.length (.slice (some ⟨b, cutAt (0 + 15) (x.r 1).toNat 64 1, none⟩) ys.length (64 - (x.r 1).toNat)) ys.toArray := by
   have h := reads_m (P := Tryz.prog) (sz := 1) (n := ys.length) (len := ys.length) (cap := 64 - (x.r 1).toNat) (o := cutAt (0 + 15) (x.r 1).toNat 64 1) (hR3.p _ hb) (by rw [psize, hco]; split <;> omega)
   have e : (pcells x).extract (cutAt (0 + 15) (x.r 1).toNat 64 1) (cutAt (0 + 15) (x.r 1).toNat 64 1 + ys.length * 1) = ys.toArray := by
     rw [hco]
     split
     · have h0 : (x.r 2).toNat = 0 := by omega
       have : ys = [] := List.length_eq_zero_iff.1 (by omega)
       rw [this]
       simp
       omega
     · rw [Nat.mul_one, hyl, ext_m x (by omega), hys]
   rw [e] at h
   exact h
 have hypl : ys.all plainV = true := by rw [hys, List.all_eq_true]; intro v hv; obtain ⟨w, _, rfl⟩ := List.mem_map.1 hv; rfl
 have hxm : ∀ (L : Frag), (xk, true, Obj.cells (keyv k).cells 96) ∈ L → ∀ t ∈ [(xk, true, Obj.cells (keyv k).cells 96)], t ∈ L := fun L h t ht => by simp only [List.mem_singleton] at ht; rw [ht]; exact h
 have tyy : ∀ {c : Nat} {fl : Bool} {o : Obj}, (c, fl, o) ∈ L3 → (∀ c', o ≠ Obj.cells c' 5) → (A.y k.1).b ≠ some c := fun hm ho hc => by
   obtain ⟨xs, hx'⟩ := hR3.yl _ _ hc
   exact ho _ (hR3.fn _ _ _ _ _ hm hx').2
 have hyx := tyy hxk3 fun c => cells_ne (by decide)
 have hyK := tyy hR3.k fun c => cells_ne (by decide)
 co_applyP c_draw [(xk, true, Obj.cells (keyv k).cells 96)] 11 (nf := 0) mixed
 co_applyP tr (i := 0) rfl E_mv (pre_init (hxm _ hxk3))
 co_applyP tr (i := 1) rfl (E_fa (hf := fo_96_0)) (pre_init (hxm _ hxk3))
 co_applyP tr (i := 2) rfl (E_ld (ht := ag_3)) (pre_init (hxm _ hxk3))
 co_applyP tr (i := 3) rfl E_mv (pre_init (hxm _ hxk3))
 co_applyP tr (i := 4) rfl (E_fa (hf := fo_96_0)) (pre_init (hxm _ hxk3))
 co_applyP t0 (i := 5) rfl (E_ld (ht := ag_3)) (pre_init (hxm _ hxk3))
 co_applyP tr (i := 6) rfl E_nc (pre_init (hxm _ hxk3))
 co_applyP tr (i := 7) rfl (E_fa (hf := fo_115_5)) (pre_init (hxm _ hxk3))
 co_applyP tr (i := 8) rfl (E_ixa Tryz.underlying113 sz_44) (pre_init (hxm _ hxk3))
 co_applyP t0 (i := 9) rfl (E_ld (ht := ag_44)) (pre_init (hxm _ hxk3))
 co_applyP tr (i := 10) rfl E_mv (pre_init (hxm _ hxk3))
 co_applyP tr (i := 12) rfl E_nc (pre_init (hxm _ hxk3))
 co_applyP tr (i := 13) rfl (E_fa (hf := fo_115_5)) (pre_init (hxm _ hxk3))
 co_applyP anyE_nd
 intro hnd
 co_applyP te (i := 11) rfl (O_apB (a := A.y k.1) (xs := (S.by_ k.1).map fun v => Value.int .u8 v) (ys := ys) (hx := by rw [List.length_map, hv]; rfl) (hy := by rw [hyl]; rfl) (hnd := hnd) (hN := hN5) (ha := hR3.ya k.1 hk5) (hr := hrd) (hpl := hypl) (h8 := by simp; omega) (h8' := by omega))
 rintro _ _ ⟨a', rfl, hp⟩
 refine ⟨pre_late (hxm _ (hp.sub _ hxk3 hyx)), ?_⟩
 rename_i L4
 co_applyP to (i := 14) rfl ((E_ixa Tryz.underlying113 sz_44)) (pre_late (hxm _ (hp.sub _ hxk3 hyx)))
 co_applyP anyE_nd
 intro hnd'
 have hK4 := hp.sub _ hR3.k hyK
 have hxKne : xk ≠ K := fun e => hA1.new _ hR.k e.symm
 co_applyP te (i := 15) rfl (O_sm (hnd := hnd') (hm := hK4) (hi := by rw [ksize]; omega) (hp := slv_plain _ _) (hs := sz_44))
 rintro _ _ ⟨rfl, hU5⟩
 refine ⟨pre_late (hxm _ (hU5.ne _ (hp.sub _ hxk3 hyx) hxKne)), ?_⟩
 rename_i L5
 co_applyP td (by kernel_rfl)
 change wpE ..
 co_applyP c_seq
 have hR5 : Rep K (A.setY k.1 a') (S.setY k.1 (S.by_ k.1 ++ x.peek (x.r 1).toNat (x.r 2).toNat)) Fr L5 := by
   refine hR3.setBytes hk5 hU5.fn ?_ (fun t ht h1 h2 => hU5.ne _ (hp.sub _ ht h2) h1) ?_ (fun c hc => ?_)
   · show (K, true, Obj.cells (kcells _) 115) ∈ L5
     have := hU5.self
     rw [kset_by _ hk5] at this
     rw [kst_by]
     have el : (S.by_ k.1 ++ x.peek (x.r 1).toNat (x.r 2).toNat).length = ((S.by_ k.1).map (fun v => Value.int .u8 v) ++ ys).length := by rw [hys]; simp
     rw [el]
     exact this
   · rw [List.map_append, ← hys]
     refine hp.ok.mono fun c hc o ho => hU5.ne _ ho fun e => ?_
     rcases hp.d c hc with h | h
     · exact hyK (by rw [h]; exact congrArg some e)
     · exact h _ hR3.k e.symm
   · rcases hp.d c hc with h | h
     · exact .inl h
     · refine .inr ⟨fun j hj => ?_, fun t ht e => h _ (hR3.fr t ht) e⟩
       obtain ⟨xs, hx'⟩ := hR3.yl j c hj
       exact h _ hx' rfl
 have hb5 : (b, x) ∈ (S.setY k.1 (S.by_ k.1 ++ x.peek (x.r 1).toNat (x.r 2).toNat)).ps := hb
 have hx25 : At L5 b 9 (.int .u16 (x.r 2)) := hR5.pat hb5 (pget_r x (i := 2) (by omega))
 co_applyP c_draw [] 11 (nf := 0) mixed
 co_applyP tr (i := 0) rfl E_mv (pre_init (by simp))
 co_applyP tr (i := 1) rfl E_mv (pre_init (by simp))
 co_applyP tr (i := 2) rfl E_nc (pre_init (by simp))
 co_applyP tr (i := 3) rfl (E_fa (hf := fo_99_0)) (pre_init (by simp))
 co_applyP tr (i := 4) rfl (E_fa (hf := fo_49_7)) (pre_init (by simp))
 co_applyP tr (i := 5) rfl (E_ixa Tryz.underlying47 sz_32) (pre_init (by simp))
 co_applyP t0 (i := 6) rfl (E_ld (ht := ag_32)) (pre_init (by simp))
 co_applyP tr (i := 7) rfl E_nc (pre_init (by simp))
 co_applyP tr (i := 8) rfl (E_fa (hf := fo_99_0)) (pre_init (by simp))
 co_applyP tr (i := 9) rfl (E_fa (hf := fo_49_7)) (pre_init (by simp))
 co_applyP tr (i := 10) rfl (E_ixa Tryz.underlying47 sz_32) (pre_init (by simp))
 co_applyP anyE_nd
 intro hnd6
 co_applyP te (i := 11) rfl (O_sm (hnd := hnd6) (hm := hR5.p _ hb5) (hi := by rw [psize]; omega) (hs := sz_32))
 rintro _ _ ⟨rfl, hU6⟩
 refine ⟨pre_late (by simp), ?_⟩
 co_applyP td (by kernel_rfl)
 change wpE ..
 co_applyP c_seq
 co_applyP c_region
 co_applyP oy rfl E_as
 co_applyP o_nil
 change wpE ..
 co_applyP c_ret
 change ∃ v, resE .. = some v ∧ _
 have h7 : (pcells x).setIfInBounds (7 + 0) (.int .u16 (x.r 2)) = pcells x.gave := by rw [pset_r _ (by omega)]; rfl
 refine ⟨_, rfl, rfl, rfl, A.setY k.1 a', ⟨rfl, ⟨rfl, rfl, rfl⟩, ⟨rfl, rfl, rfl⟩⟩, ?_⟩
 exact hR5.setP hb5 (x' := x.gave) (h7 ▸ hU6)
theorem carry_ok : ∃ n, ∀ {σ : Type} {F : Fam σ} {Δ : ∀ s, Dom (F.R s) (F.D s)} {main : Bool} {s : σ} (K : Nat) (A : Lay) (S : St) (Fr L : Frag) (b : Nat) (x : PS) (k : Nat × Nat), (∀ cs, (Δ s).New (.cells cs 96)) → (∀ cs, (Δ s).New (.cells cs 5)) → Rep K A S Fr L → (b, x) ∈ S.ps → WF x → k.1 < 5 → x.r 1 + x.r 2 ≤ 64 → (S.by_ k.1).length ≤ 8 → k.2 = 4 ∨ S.isOpen (otherE k) = true →
   CallsL Δ Tryz.prog main 166 [ptr K, ptr b, keyv k].toArray n s L (fun s' v L' => s = s' ∧ v = .nilIface ∧ ∃ A', Rep K A' (S.carry b x k) Fr L') := by
 obtain ⟨n0, g0⟩ := carry_r
 obtain ⟨n2, g2⟩ := carry_w
 refine ⟨n0 + n2, fun {σ F Δ main s} K A S Fr L b x k hN hN5 hR hb hx hk5 hfc h8 ho => callsL_split (k.2 = 4) (fun h => ?_) fun h => ?_⟩
 · refine callsL_post (g0 K A S Fr L b x k hN hR hb hx hk5 h hfc h8) fun s' v L' ⟨h1, h2, A', h3, h4⟩ => ⟨h1, h2, A', ?_⟩
   unfold St.carry; rw [if_pos h]; exact h4
 · have ho' : S.isOpen (otherE k) = true := ho.resolve_left h
   refine callsL_post (g2 K A S Fr L b x k hN hN5 hR hb hx hk5 h hfc h8 ho') fun s' v L' ⟨h1, h2, A', h3, h4⟩ => ⟨h1, h2, A', ?_⟩
   unfold St.carry; rw [if_neg h, if_pos ho']; exact h4
end Go.Proofs.YtejkelcaljmnoaaGreatDoor
