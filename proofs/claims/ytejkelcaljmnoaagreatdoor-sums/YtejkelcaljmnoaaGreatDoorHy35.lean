/-
  Part 35 of the proof.
  No condition but those that each statement names.
-/
import Derived.Test.YtejkelcaljmnoaaGreatDoorHy34
set_option maxRecDepth 100000
set_option linter.unusedVariables false
set_option linter.unusedSimpArgs false
set_option linter.unusedSectionVars false
namespace Go.Proofs.YtejkelcaljmnoaaGreatDoor
open Go.Conc Go.Hx Go.Lo
theorem entsOf_born {A : Lay} {l : Wt} {bs : List Nat} {e : (Nat × Nat) × Value × Nat} (h : e ∈ entsOf A l bs) : e.2.2 ∈ bs := by
 unfold entsOf at h
 obtain ⟨p, hp, rfl⟩ := List.mem_map.1 h
 exact (List.of_mem_zip hp).2
theorem ask_1 : ∃ n, ∀ {σ : Type} {F : Fam σ} {Δ : ∀ s, Dom (F.R s) (F.D s)} {main : Bool} {s : σ} (K : Nat) (A : Lay) (S : St) (Fr L : Frag) (eb : Nat → Nat × Nat) (b : Nat) (x : PS) (use most : Nat) (k : Nat × Nat), (∀ s, NewK (Δ s)) → Rep K A S Fr L → Ers eb Fr → Inv S → (b, x) ∈ S.ps → S.out b → x.checkUse use most = none → k = x.file (x.r 0) → okEnd k → Asks x k →
   CallsL Δ Tryz.prog main 138 [ptr K, ptr b, .int .i64 (use : Nat), .int .i64 (most : Nat)].toArray n s L (fun s' v L' => s = s' ∧ v = .nilIface ∧ ∃ A', Rep K A' (if b ∈ ((S.joinW b k).look k.1).rowAt k then (match ((S.joinW b k).look k.1).get b with
     | some z => ((S.joinW b k).look k.1).stop1 b z use
     | none => ((S.joinW b k).look k.1)) else ((S.joinW b k).look k.1)) Fr L') := by
 obtain ⟨n0, g0⟩ := checkUse_s
 obtain ⟨n1, g1⟩ := file_s
 obtain ⟨n2, g2⟩ := look_s
 obtain ⟨n3, g3⟩ := contains_s
 obtain ⟨n4, g4⟩ := stop_s
 apply Exists.intro
 intro σ F Δ main s K A S Fr L eb b x use most k hN hR hE hI hb ho hc hk hke hask
 have wx0 : 0 ≤ x.r 0 ∧ x.r 0 < 65536 := (hI.wf _ hb).r 0 (by omega)
 have hIj := hI.joinW hb ho hask hke
 have hlk := hIj.look k.1
 have hbn : b ∈ S.ps.map (·.1) := List.mem_map.2 ⟨_, hb, rfl⟩
 co_applyP callsE 53 Tryz.func138 Tryz.ntmps138
 co_applyP c_seq
 co_applyP c_region
 co_applyP oy rfl E_as
 co_applyP o_nil
 change wpE ..
 co_applyP c_seq
 co_applyP c_seq
 co_applyP c_region
 co_applyP oy rfl E_mv
 co_applyP oy rfl E_mv
 co_applyP oy rfl E_mv
 co_applyP oc rfl rfl rfl (g0 K A S Fr L eb b x use most (hN _).k hR hE hI hb)
 rintro _ _ _ ⟨rfl, rfl, hE1⟩
 rename_i L1
 rw [hc]
 have hR1 := hR.ext hE1
 have hx0 : At L1 b 7 (.int .u16 (x.r 0)) := hR1.pat hb (pget_r x (i := 0) (by omega))
 co_applyP oy rfl E_as
 co_applyP o_nil
 change wpE ..
 co_applyP c_seq
 co_applyP c_region
 co_applyP oy rfl E_mv
 co_applyP oy rfl (E_ifn (v := .nilIface) (c := true) (hv := .inl ⟨rfl, rfl⟩) (hu := Tryz.underlying168))
 co_applyP o_nil
 change wpE ..
 co_applyP c_false rfl
 co_applyP c_skip
 change wpE ..
 co_applyP c_seq
 co_applyP c_region
 co_applyP oy rfl E_mv
 co_applyP oy rfl E_mv
 co_applyP oy rfl E_nc
 co_applyP oy rfl (E_fa (hf := fo_99_0))
 co_applyP oy rfl (E_fa (hf := fo_49_7))
 co_applyP oy rfl (E_ixa Tryz.underlying47 sz_32)
 co_applyP oy rfl (E_ld (ht := ag_32))
 co_applyP ocm rfl rfl rfl (g1 K A S Fr L1 b x (x.r 0) (hN _).k hR1 hb wx0)
 rintro _ _ _ ⟨rfl, rfl, hF2, hs2⟩
 rename_i L2
 rw [← hk]
 have hR2 := hR1.of hF2 hs2
 co_applyP oadd rfl (O_new (z := keyv (0, 0)) ((hN _).k _))
 intro xk L3 hA3
 co_applyP oeN rfl (fun hnd => O_sa (hs := sz_96) (vs := [.int .i64 k.1, .int .i64 k.2]) (hnd := hnd) (hm := hA3.self) (hi := Nat.le_refl _))
 rintro _ L4 ⟨rfl, hU4⟩
 co_applyP o_nil
 change wpE ..
 have hR4 := hR2.fresh (L' := L4) (b := xk) (o := .cells (keyv k).cells 96) ⟨hU4.fn, fun t ht => hU4.ne _ (hA3.sub _ ht) (hA3.new _ ht)⟩ hA3.new hU4.self
 have hw4 := hR4.w
 rw [wobj_ents] at hw4
 have hxk4 := hR4.fr _ List.mem_cons_self
 have hRm : ∀ (L : Frag), kb K (kst A S) ∈ L → (xk, true, Obj.cells (keyv k).cells 96) ∈ L → ∀ t ∈ [kb K (kst A S), (xk, true, Obj.cells (keyv k).cells 96)], t ∈ L := fun L h1 h2 t ht => by
   simp only [List.mem_cons, List.mem_nil_iff, or_false] at ht
   rcases ht with rfl | rfl
   · exact h1
   · exact h2
 have hkR : At [kb K (kst A S), (xk, true, Obj.cells (keyv k).cells 96)] K 15 (.map (some A.wt)) := ⟨true, _, _, _, List.mem_cons_self, rfl⟩
 have hxR : (xk, true, Obj.cells (keyv k).cells 96) ∈ [kb K (kst A S), (xk, true, Obj.cells (keyv k).cells 96)] := by simp
 have hKw : K ≠ A.wt := hR4.fn.ne hR4.k hR4.w (by simp [wobj])
 have hxw : xk ≠ A.wt := (hR4.fd _ List.mem_cons_self).2.2.2.2
 co_applyP c_mid (fun s'' ε'' L'' => s = s'' ∧ kn ε'' [(0, ptr K), (1, ptr b), (2, .int .i64 (use : Nat)), (10, ptr xk)] ∧ ∃ A5, Rep K A5 (S.joinW b k) ((xk, true, Obj.cells (keyv k).cells 96) :: Fr) L'')
 co_applyP c_split (∀ e ∈ S.wt, e.1 ≠ k)
 intro hn
 · have hkey := lk_none (i := 0) (entsOf_key (A := A) (bs := A.born) hn)
   co_applyP c_draw [kb K (kst A S), (xk, true, Obj.cells (keyv k).cells 96)] 6 (nf := 0) mixed
   co_applyP tr (i := 0) rfl E_mv (pre_init (hRm _ hR4.k hxk4))
   co_applyP tr (i := 1) rfl E_nc (pre_init (hRm _ hR4.k hxk4))
   co_applyP tr (i := 2) rfl (E_fa (hf := fo_115_6)) (pre_init (hRm _ hR4.k hxk4))
   co_applyP tr (i := 3) rfl (E_ld (ht := ag_110)) (pre_init (hRm _ hR4.k hxk4))
   co_applyP tr (i := 5) rfl E_mv (pre_init (hRm _ hR4.k hxk4))
   co_applyP tr (i := 4) rfl (E_lda (ht := ag_96) (hs := sz_96) (hm := hxR) (hi := Nat.le_refl _)) (pre_init (hRm _ hR4.k hxk4))
   co_applyP te (i := 6) rfl (O_bs1 ((hN _).r _) (hx := rfl) (hu := Tryz.underlying91) (hs := sz_93) (hz := zr_93))
   rintro _ _ ⟨nb, hnb, rfl, rfl⟩
   refine ⟨pre_late (hRm _ (List.mem_cons_of_mem _ hR4.k) (List.mem_cons_of_mem _ hxk4)), ?_⟩
   have hA5 := add_cons (o := .cells #[ptr b] 93) hR4.fn hnb
   have hR5 := hR4.add hA5
   co_applyP anyE_nd
   intro hnd
   co_applyP te (i := 7) rfl (O_me0 (k := k) (hnd := hnd) key96 Tryz.underlying110 zr_91 (hm := hA5.sub _ hw4) (hl := hkey))
   rintro _ _ ⟨rfl, hU6⟩
   refine ⟨pre_late (hRm _ (hU6.ne _ hR5.k hKw) (hU6.ne _ (hA5.sub _ hxk4) hxw)), ?_⟩
   rename_i L6
   co_applyP tr (i := 8) rfl (E_ext) (pre_late (hRm _ (hU6.ne _ hR5.k hKw) (hU6.ne _ (hA5.sub _ hxk4) hxw)))
   co_applyP tr (i := 10) rfl (E_ext) (pre_late (hRm _ (hU6.ne _ hR5.k hKw) (hU6.ne _ (hA5.sub _ hxk4) hxw)))
   co_applyP anyE_nd
   intro hnd6
   have hnbw : nb ≠ A.wt := fun e => hnb _ hw4 e.symm
   co_applyP te (i := 9) rfl (O_ap1 (a := ⟨none, []⟩) (xs := []) (c := b) (hnd := hnd6) (hN := (hN _).r) (ha := ⟨rfl, rfl⟩) (h8 := by simp) (hnb := hU6.ne _ hA5.self hnbw))
   rintro _ _ ⟨a', rfl, hp⟩
   refine ⟨pre_late (hRm _ (hp.sub _ (hU6.ne _ hR5.k hKw) (by simp)) (hp.sub _ (hU6.ne _ (hA5.sub _ hxk4) hxw) (by simp))), ?_⟩
   rename_i L7
   co_applyP anyE_nd
   intro hnd7
   co_applyP te (i := 11) rfl (O_es (l1 := entsOf A S.wt A.born) (l2 := []) (k := k) (v0 := .slice none 0 0) (c := A.clock) (hnd := hnd7) (hm := hp.sub _ hU6.self (by simp)) (hc := fun e he => Nat.ne_of_lt (hR4.bc _ (entsOf_born he))))
   rintro _ _ ⟨rfl, hU8⟩
   refine ⟨pre_late (hRm _ (hU8.ne _ (hp.sub _ (hU6.ne _ hR5.k hKw) (by simp)) hKw) (hU8.ne _ (hp.sub _ (hU6.ne _ (hA5.sub _ hxk4) hxw) (by simp)) hxw)), ?_⟩
   co_applyP td (by kernel_rfl)
   change _ = _ ∧ kn _ _ ∧ ∃ A5, _
   exact ⟨rfl, rfl, _, hR5.joinW0 hI hke hn hU6 hp hU8⟩
 intro hn
 have hk' : k ∈ S.wt.map (·.1) := Decidable.byContradiction fun hn' => hn fun e he e1 => hn' (List.mem_map.2 ⟨e, he, e1⟩)
 obtain ⟨l1, xs, l2, hwt, hl1, hl2⟩ := split_key hI.kn hk'
 have hin : (k, xs) ∈ S.wt := by rw [hwt]; simp
 obtain ⟨b1, c0, b2, hborn, hbl⟩ : ∃ b1 c0 b2, A.born = b1 ++ c0 :: b2 ∧ l1.length = b1.length := by
   have hl := hR4.wl
   rw [hwt] at hl
   simp at hl
   refine ⟨A.born.take l1.length, A.born[l1.length]'(by omega), A.born.drop (l1.length + 1), by simp, by simp; omega⟩
 have hents : entsOf A S.wt A.born = entsOf A l1 b1 ++ (k, slv (A.a (slot k)) xs.length, c0) :: entsOf A l2 b2 := by
   rw [hwt, hborn, entsOf_append A hbl]; rfl
 have hlkr := lk_row hR4.wl hwt hl1
 have hat : (entsOf A S.wt A.born)[l1.length]? = some (k, slv (A.a (slot k)) xs.length, c0) := by
   rw [hents, ← entsOf_len A hbl]; simp
 have hc0 : ∀ e ∈ entsOf A l1 b1, e.2.2 ≠ c0 := fun e he => by
   have h1 := entsOf_born he
   have h2 := hR4.bn
   rw [hborn] at h2
   exact (List.nodup_append.1 h2).2.2 _ h1 c0 (by simp)
 have hrw : ∀ {c : Nat} {fl : Bool} {o : Obj}, (c, fl, o) ∈ L4 → (∀ c', o ≠ Obj.cells c' 93) → (A.a (slot k)).b ≠ some c := fun hm ho hc => by
   obtain ⟨ys, hy⟩ := hR4.al _ _ hc
   exact ho _ (hR4.fn _ _ _ _ _ hm hy).2
 have hrK := hrw hR4.k fun c => cells_ne (by decide)
 have hrx := hrw hxk4 fun c => cells_ne (by decide)
 have hrW := hrw hw4 fun c => by simp [mapO]
 co_applyP c_draw [kb K (kst A S), (xk, true, Obj.cells (keyv k).cells 96)] 6 (nf := 0) mixed
 co_applyP tr (i := 0) rfl E_mv (pre_init (hRm _ hR4.k hxk4))
 co_applyP tr (i := 1) rfl E_nc (pre_init (hRm _ hR4.k hxk4))
 co_applyP tr (i := 2) rfl (E_fa (hf := fo_115_6)) (pre_init (hRm _ hR4.k hxk4))
 co_applyP tr (i := 3) rfl (E_ld (ht := ag_110)) (pre_init (hRm _ hR4.k hxk4))
 co_applyP tr (i := 5) rfl E_mv (pre_init (hRm _ hR4.k hxk4))
 co_applyP tr (i := 4) rfl (E_lda (ht := ag_96) (hs := sz_96) (hm := hxR) (hi := Nat.le_refl _)) (pre_init (hRm _ hR4.k hxk4))
 co_applyP te (i := 6) rfl (O_bs1 ((hN _).r _) (hx := rfl) (hu := Tryz.underlying91) (hs := sz_93) (hz := zr_93))
 rintro _ _ ⟨nb, hnb, rfl, rfl⟩
 refine ⟨pre_late (hRm _ (List.mem_cons_of_mem _ hR4.k) (List.mem_cons_of_mem _ hxk4)), ?_⟩
 have hA5 := add_cons (o := .cells #[ptr b] 93) hR4.fn hnb
 have hR5 := hR4.add hA5
 co_applyP anyE_nd
 intro hnd
 co_applyP te (i := 7) rfl (O_me1 (k := k) (hnd := hnd) key96 Tryz.underlying110 (hm := hA5.sub _ hw4) (hl := hlkr) (hc := hat))
 rintro _ _ ⟨rfl, hU6⟩
 refine ⟨pre_late (hRm _ (hU6.ne _ hR5.k hKw) (hU6.ne _ (hA5.sub _ hxk4) hxw)), ?_⟩
 rename_i L6
 have hE6 := upd_same hR5.fn (hA5.sub _ hw4) hU6
 have hR6 := hR5.ext hE6
 co_applyP tr (i := 8) rfl (E_ext) (pre_late (hRm _ (hU6.ne _ hR5.k hKw) (hU6.ne _ (hA5.sub _ hxk4) hxw)))
 co_applyP tr (i := 10) rfl (E_ext) (pre_late (hRm _ (hU6.ne _ hR5.k hKw) (hU6.ne _ (hA5.sub _ hxk4) hxw)))
 co_applyP anyE_nd
 intro hnd6
 have hx8 := hI.w.rl _ hin
 co_applyP te (i := 9) rfl (O_ap1 (a := A.a (slot k)) (xs := xs) (c := b) (hnd := hnd6) (hN := (hN _).r) (ha := hR6.wa _ hin) (h8 := by simp at hx8; omega) (hnb := hE6.s _ hA5.self))
 rintro _ _ ⟨a', rfl, hp⟩
 refine ⟨pre_late (hRm _ (hp.sub _ hR6.k hrK) (hp.sub _ (hE6.s _ (hA5.sub _ hxk4)) hrx)), ?_⟩
 rename_i L7
 co_applyP anyE_nd
 intro hnd7
 co_applyP te (i := 11) rfl (O_es (l1 := entsOf A l1 b1) (l2 := entsOf A l2 b2) (k := k) (v0 := slv (A.a (slot k)) xs.length) (c := c0) (hnd := hnd7) (hm := by rw [← hents]; exact hp.sub _ hU6.self hrW) (hc := hc0))
 rintro _ _ ⟨rfl, hU8⟩
 refine ⟨pre_late (hRm _ (hU8.ne _ (hp.sub _ hR6.k hrK) hKw) (hU8.ne _ (hp.sub _ (hE6.s _ (hA5.sub _ hxk4)) hrx) hxw)), ?_⟩
 co_applyP td (by kernel_rfl)
 change _ = _ ∧ kn _ _ ∧ ∃ A5, _
 exact ⟨rfl, rfl, _, hR6.joinW1 hI hwt hl1 hl2 hborn hbl hp hU8⟩
 rintro _ ε5 L5 ⟨rfl, he5, A5, hR5⟩
 co_applyP wpE_kn he5
 have h05 : At L5 xk 0 (.int .i64 (k.1 : Nat)) := ⟨true, _, _, _, hR5.fr _ List.mem_cons_self, rfl⟩
 co_applyP c_seq
 co_applyP c_region
 co_applyP oy rfl E_mv
 co_applyP oy rfl (E_fa (hf := fo_96_0))
 co_applyP oy rfl (E_ld (ht := ag_3))
 co_applyP oc rfl rfl rfl (g2 K A5 _ _ L5 eb k.1 hN hR5 (hE.mono fun t ht => List.mem_cons_of_mem _ ht) hIj)
 rintro _ _ _ ⟨rfl, rfl, A6, hR6⟩
 co_applyP o_nil
 change wpE ..
 rename_i L6
 generalize hS2 : (S.joinW b k).look k.1 = S2 at *
 obtain ⟨z, hz⟩ : ∃ z, (b, z) ∈ S2.ps := by
   have : b ∈ S2.ps.map (·.1) := by rw [hlk.f]; exact hbn
   obtain ⟨q, hq, rfl⟩ := List.mem_map.1 this
   exact ⟨q.2, hq⟩
 have hlv := hlk.i.g.lv _ hz
 have hget := get_of hlk.i.g.pn hz
 have hw6 := hR6.w
 rw [wobj_ents] at hw6
 have hxk6 := hR6.fr _ List.mem_cons_self
 have hk6 : At L6 K 15 (.map (some A6.wt)) := hR6.kat rfl
 co_applyP c_mid (fun s'' ε'' L'' => s = s'' ∧ kn ε'' [] ∧ ∃ A7, Rep K A7 (if b ∈ S2.rowAt k then (match S2.get b with | some z => S2.stop1 b z use | none => S2) else S2) Fr L'')
 co_applyP c_split (∀ e ∈ S2.wt, e.1 ≠ k)
 intro hn
 · have hkey := lk_none (i := 0) (entsOf_key (A := A6) (bs := A6.born) hn)
   co_applyP c_seq
   co_applyP c_draw [] 7 mixed
   co_applyP tr (i := 0) rfl E_mv (pre_init (by simp))
   co_applyP tr (i := 1) rfl E_nc (pre_init (by simp))
   co_applyP tr (i := 2) rfl (E_fa (hf := fo_115_6)) (pre_init (by simp))
   co_applyP t0 (i := 3) rfl (E_ld (ht := ag_110)) (pre_init (by simp))
   co_applyP tr (i := 6) rfl E_mv (pre_init (by simp))
   co_applyP t0 (i := 4) rfl (E_lda (ht := ag_96) (hs := sz_96) (hm := hxk6) (hi := Nat.le_refl _)) (pre_init (by simp))
   co_applyP t0 (i := 5) rfl (E_lk (k := k) key96 Tryz.underlying110 zr_91 hw6) (pre_init (by simp))
   rw [hkey]
   co_applyP tc (i := 7) rfl rfl rfl (g3 L6 ⟨none, []⟩ [] b (by simp) ⟨rfl, rfl⟩ (fun c hc => by simp at hc) ⟨z, hR6.p _ hz⟩)
   rintro _ _ _ ⟨rfl, rfl, rfl⟩
   refine ⟨pre_late (by simp), ?_⟩
   co_applyP td (by kernel_rfl)
   change wpE ..
   rw [show decide (b ∈ ([] : List Nat)) = false by simp]
   co_applyP c_false rfl
   co_applyP c_skip
   change _ = _ ∧ kn _ _ ∧ ∃ A7, _
   exact ⟨rfl, rfl, A6, by rw [rowAt_none hn, if_neg (by simp)]; exact hR6.less fun t ht => List.mem_cons_of_mem _ ht⟩
 intro hn
 have hk' : k ∈ S2.wt.map (·.1) := Decidable.byContradiction fun hn' => hn fun e he e1 => hn' (List.mem_map.2 ⟨e, he, e1⟩)
 obtain ⟨l1, xs, l2, hwt, hl1, hl2⟩ := split_key hlk.i.kn hk'
 have hin : (k, xs) ∈ S2.wt := by rw [hwt]; simp
 have hlkr := lk_row hR6.wl hwt hl1
 have hra := rowAt_of hlk.i.kn hin
 co_applyP c_seq
 co_applyP c_draw [] 7 mixed
 co_applyP tr (i := 0) rfl E_mv (pre_init (by simp))
 co_applyP tr (i := 1) rfl E_nc (pre_init (by simp))
 co_applyP tr (i := 2) rfl (E_fa (hf := fo_115_6)) (pre_init (by simp))
 co_applyP t0 (i := 3) rfl (E_ld (ht := ag_110)) (pre_init (by simp))
 co_applyP tr (i := 6) rfl E_mv (pre_init (by simp))
 co_applyP t0 (i := 4) rfl (E_lda (ht := ag_96) (hs := sz_96) (hm := hxk6) (hi := Nat.le_refl _)) (pre_init (by simp))
 co_applyP t0 (i := 5) rfl (E_lk (k := k) key96 Tryz.underlying110 zr_91 hw6) (pre_init (by simp))
 rw [hlkr]
 co_applyP tc (i := 7) rfl rfl rfl (g3 L6 (A6.a (slot k)) xs b (hlk.i.w.rl _ hin) (hR6.wa _ hin) (fun c hc => by obtain ⟨y, hy⟩ := hlk.i.w.rm _ hin c hc; exact ⟨y, hR6.p _ hy⟩) ⟨z, hR6.p _ hz⟩)
 rintro _ _ _ ⟨rfl, rfl, rfl⟩
 refine ⟨pre_late (by simp), ?_⟩
 co_applyP td (by kernel_rfl)
 change wpE ..
 co_applyP c_if rfl
 intro hm
 co_applyP c_region
 co_applyP oy rfl E_mv
 co_applyP oy rfl E_mv
 co_applyP oy rfl E_mv
 · have hm' : b ∈ xs := by simpa using hm
   co_applyP oc rfl rfl rfl (g4 K A6 S2 _ L6 b z use hR6 hz hlv (hlk.i.g.r8 hlv) (hlk.i.g.ex hlv) (fun e he => slot_ne e.1 hlv))
   rintro _ _ _ ⟨rfl, rfl, A7, hw7, hR7⟩
   co_applyP o_nil
   change _ = _ ∧ kn _ _ ∧ ∃ A7, _
   exact ⟨rfl, rfl, A7, by rw [hra, if_pos hm', hget]; exact hR7.less fun t ht => List.mem_cons_of_mem _ ht⟩
 intro hm
 co_applyP c_skip
 change _ = _ ∧ kn _ _ ∧ ∃ A7, _
 have hm' : ¬ b ∈ xs := by simpa using hm
 exact ⟨rfl, rfl, A6, by rw [hra, if_neg hm']; exact hR6.less fun t ht => List.mem_cons_of_mem _ ht⟩
 rintro _ ε7 L7 ⟨rfl, he7, A7, hR7⟩
 co_applyP wpE_kn he7
 co_applyP c_seq
 co_applyP c_region
 co_applyP oy rfl E_as
 co_applyP o_nil
 change wpE ..
 co_applyP c_ret
 change ∃ v, resE .. = some v ∧ _
 exact ⟨_, rfl, rfl, rfl, A7, hR7⟩
theorem checkUse_ok {x : PS} {use most : Nat} (h : x.checkUse use most = none) : (x.file (x.r 0)).2 = use ∧ x.r 2 ≤ most ∧ x.r 1 + x.r 2 ≤ 64 := by
 unfold PS.checkUse at h
 split at h
 · cases h
 · rename_i h1
   split at h
   · cases h
   · rename_i h2
     split at h
     · cases h
     · rename_i h3
       exact ⟨by omega, by omega, by omega⟩
theorem Inv.file_ok {S : St} {b : Nat} {x : PS} (h : Inv S) (hb : (b, x) ∈ S.ps) (n : Int) : x.file n = (0, 0) ∨ okEnd (x.file n) := by
 unfold PS.file
 split
 · by_cases h0 : n < 0
   · have : n.toNat = 0 := by omega
     rw [this]; exact h.fl _ hb 0 (by omega)
   · exact h.fl _ hb _ (by omega)
 · exact .inl rfl
theorem ask_s : ∃ n, ∀ {σ : Type} {F : Fam σ} {Δ : ∀ s, Dom (F.R s) (F.D s)} {main : Bool} {s : σ} (K : Nat) (A : Lay) (S : St) (Fr L : Frag) (eb : Nat → Nat × Nat) (b : Nat) (x : PS) (use most : Nat), (∀ s, NewK (Δ s)) → Rep K A S Fr L → Ers eb Fr → Inv S → (b, x) ∈ S.ps → S.out b → x.st = 1 → use = 4 ∨ use = 5 → (use = 5 → most ≤ 8) →
   CallsL Δ Tryz.prog main 138 [ptr K, ptr b, .int .i64 (use : Nat), .int .i64 (most : Nat)].toArray n s L (fun s' v L' => s = s' ∧ v = erV eb (S.askR b x use most).1 ∧ ∃ A', Rep K A' (S.askR b x use most).2 Fr L') := by
 obtain ⟨n0, g0⟩ := ask_0
 obtain ⟨n1, g1⟩ := ask_1
 refine ⟨n0 + n1, fun {σ F Δ main s} K A S Fr L eb b x use most hN hR hE hI hb ho hst hu hm => callsL_split (x.checkUse use most ≠ none) (fun h => ?_) fun h => ?_⟩
 · cases hc : x.checkUse use most with
   | none => exact absurd hc h
   | some i =>
     have e : S.askR b x use most = (some i, S) := by unfold St.askR; rw [hc]
     rw [e]
     exact callsL_post (g0 K A S Fr L eb b x use most i (hN _).k hR hE hI hb hc) fun s' v L' ⟨h1, h2, h3⟩ => ⟨h1, h2, A, h3⟩
 · have hc : x.checkUse use most = none := Decidable.byContradiction h
   obtain ⟨c1, c2, c3⟩ := checkUse_ok hc
   have hk : okEnd (x.file (x.r 0)) := (hI.file_ok hb _).resolve_left fun e => by rw [e] at c1; simp only at c1; omega
   have e : S.askR b x use most = (none, if b ∈ ((S.joinW b (x.file (x.r 0))).look (x.file (x.r 0)).1).rowAt (x.file (x.r 0)) then (match ((S.joinW b (x.file (x.r 0))).look (x.file (x.r 0)).1).get b with
     | some z => ((S.joinW b (x.file (x.r 0))).look (x.file (x.r 0)).1).stop1 b z use
     | none => ((S.joinW b (x.file (x.r 0))).look (x.file (x.r 0)).1)) else ((S.joinW b (x.file (x.r 0))).look (x.file (x.r 0)).1)) := by unfold St.askR; rw [hc]; rfl
   rw [e]
   exact g1 K A S Fr L eb b x use most _ hN hR hE hI hb ho hc rfl hk ⟨rfl, c3, fun h5 => by rw [h5] at c1; have := hm c1.symm; omega, .inl hst⟩
theorem zr_3 : zeroAt Tryz.prog 3 = some (.int .i64 0) := by kernel_rfl
theorem byt_3 : bytesAt Tryz.prog 3 = some 8 := by kernel_rfl
structure ApI (L : Frag) (a : Sl) (zs : List Value) (a' : Sl) (L' : Frag) : Prop where
 ok : slOk a' zs 3 L'
 fn : Fun L'
 sub : ∀ t ∈ L, a.b ≠ some t.1 → t ∈ L'
 d : ∀ b, a'.b = some b → a.b = some b ∨ ∀ t ∈ L, t.1 ≠ b
section
variable {New : Obj → Prop} {N : Nat} {ε : Env} {L : Frag} {d : Option Tmp} {ty : TypeId} {ps : String} {af : Array Edge} {g : Option (Nat × Bool)} {x y : Operand}
theorem reads_I {a : Sl} {xs : List Value} (ha : slOk a xs 3 L) : Reads Tryz.prog L 1 xs.length (slv a xs.length) xs.toArray := by
 cases hab : a.b with
 | none =>
   unfold slOk at ha
   rw [hab] at ha
   obtain rfl : xs = [] := ha.1
   have e3 : slv a 0 = .slice none 0 0 := by unfold slv; rw [hab]
   show Reads Tryz.prog L 1 0 (slv a 0) #[]
   rw [e3]; exact reads_none
 | some b =>
   have hm := ha.mem hab
   have e3 : slv a xs.length = .slice (some ⟨b, 0, none⟩) xs.length (xs.length + a.junk.length) := by unfold slv; rw [hab]
   rw [e3]
   have := reads_m (P := Tryz.prog) (sz := 1) (n := xs.length) (len := xs.length) (cap := xs.length + a.junk.length) (o := 0) hm (by simp)
   have e7 : (xs ++ a.junk).take xs.length = xs := by rw [List.take_append_of_le_length (by simp)]; exact List.take_of_length_le (by simp)
   simpa [e7] using this
theorem O_apI {a : Sl} {xs ys : List Value} {yb : Option Addr} {yc : Nat} (hx : ev ε x = some (slv a xs.length) := by rfl) (hy : ev ε y = some (.slice yb ys.length yc) := by rfl) (hnd : (L.map (·.1)).Nodup) (hN : ∀ cs, New (.cells cs 3)) (ha : slOk a xs 3 L) (hr : Reads Tryz.prog L 1 ys.length (.slice yb ys.length yc) ys.toArray) (hpl : ys.all plainV = true) (h8 : xs.length ≤ 1000) (h8' : ys.length ≤ 1000) :
   EO Tryz.prog New N ε L ⟨d, .call ⟨.builtin .append, #[x, y], #[54, 54]⟩, ty, ps, af, g⟩ (fun r L' => ∃ a', r = slv a' (xs ++ ys).length ∧ ApI L a (xs ++ ys) a' L') := by
 have hws := reads_I ha
 have grow : ∀ (cap0 : Nat), (∃ base, slv a xs.length = .slice base xs.length cap0) → cap0 < xs.length + ys.length →
     EO Tryz.prog New N ε L ⟨d, .call ⟨.builtin .append, #[x, y], #[54, 54]⟩, ty, ps, af, g⟩ (fun r L' => ∃ a', r = slv a' (xs ++ ys).length ∧ ApI L a (xs ++ ys) a' L') := by
   rintro cap0 ⟨base, hb⟩ hc
   rw [hb] at hws hx
   intro ac hac
   refine wpS_mono ?_ _ _ (O_apn (by_ := 7) (New := New) hx hy (fun_of_nd hnd) Tryz.underlying54 Tryz.underlying54 sz_3 byt_3 zr_3 hws hr hc (by omega) hN ac hac)
   intro r L' q
   cases r <;> try exact q.elim
   · obtain ⟨b, cap, h1, h2, rfl, hA⟩ := q
     rw [zeroCells1 rfl] at hA
     refine ⟨⟨some b, List.replicate (cap - (xs.length + ys.length)) (.int .i64 0)⟩, ?_, ?_, hA.fn, fun t ht _ => hA.sub t ht, fun b' hb' => .inr ?_⟩
     · unfold slv; simp; omega
     · have e5 : xs.toArray ++ ys.toArray ++ (List.replicate (cap - (xs.length + ys.length)) (Value.int .i64 0)).toArray = ((xs ++ ys) ++ List.replicate (cap - (xs.length + ys.length)) (Value.int .i64 0)).toArray := by
         apply Array.ext'; simp
       rw [e5] at hA
       exact hA.self
     · obtain rfl : b = b' := by simpa using hb'
       exact hA.new
   · obtain ⟨b, cap, _, _, e, _⟩ := q; cases e
 cases hab : a.b with
 | none =>
   have h2 := ha
   unfold slOk at h2
   rw [hab] at h2
   obtain ⟨e1, e2⟩ := h2
   obtain rfl : xs = [] := e1
   have e3 : slv a 0 = .slice none 0 0 := by unfold slv; rw [hab]
   by_cases h0 : 0 < ys.length
   · exact grow 0 ⟨none, e3⟩ (by simpa using h0)
   · obtain rfl : ys = [] := List.length_eq_zero_iff.1 (by omega)
     intro ac hac
     rw [List.length_nil, e3] at hx
     refine wpS_mono ?_ _ _ (O_ap00 (New := New) hx hy Tryz.underlying54 Tryz.underlying54 sz_3 hr ac hac)
     intro r L' q
     cases r <;> try exact q.elim
     · obtain ⟨rfl, rfl⟩ := q
       exact ⟨a, e3.symm, ha, fun_of_nd hnd, fun t ht _ => ht, fun b hb => by rw [hab] at hb; cases hb⟩
     · exact absurd q.1 (by simp [undef])
 | some b =>
   have hm := ha.mem hab
   have e3 : slv a xs.length = .slice (some ⟨b, 0, none⟩) xs.length (xs.length + a.junk.length) := by unfold slv; rw [hab]
   by_cases hj : ys.length ≤ a.junk.length
   · intro ac hac
     rw [e3] at hx
     refine wpS_mono ?_ _ _ (O_api (New := New) hx hy hnd Tryz.underlying54 Tryz.underlying54 sz_3 hr (by omega) hm (by simp; omega) (by simpa using hpl) ac hac)
     intro r L' q
     cases r <;> try exact q.elim
     · obtain ⟨rfl, hU⟩ := q
       have e4 : puts (xs ++ a.junk).toArray (0 + xs.length * 1) ys.toArray.toList = ((xs ++ ys) ++ a.junk.drop ys.length).toArray := by
         rw [puts_list _ _ _ (by simp; omega)]
         have e6 : (xs ++ a.junk).drop (xs.length + ys.length) = a.junk.drop ys.length := by
           rw [List.drop_append]; simp
         have e7 : (xs ++ a.junk).take xs.length = xs := by rw [List.take_append_of_le_length (by simp)]; exact List.take_of_length_le (by simp)
         simp [e6, e7]
       rw [e4] at hU
       refine ⟨⟨some b, a.junk.drop ys.length⟩, ?_, hU.self, hU.fn, fun t ht hne => hU.ne t ht fun e => hne (by rw [hab, e]), fun b' hb' => .inl (by rw [hab]; exact hb')⟩
       unfold slv; simp; omega
     · exact absurd q.1 (by simp [undef])
   · exact grow (xs.length + a.junk.length) ⟨_, e3⟩ (by omega)
end
def St.shutAt (S : St) (p : Nat) : Bool := !S.isOpen (p, 4) && !S.isOpen (p, 5)
def St.unused (S : St) : Nat := match (List.range' 1 4).find? S.shutAt with
 | some p => p
 | none => 0
theorem unused_at {S : St} {i : Nat} (h1 : 1 ≤ i) (h5 : i < 5) (hn : ∀ j, 1 ≤ j → j < i → S.shutAt j = false) (hi : S.shutAt i = true) : S.unused = i := by
 unfold St.unused
 have e : (List.range' 1 4).find? S.shutAt = some i := by
   show [1, 2, 3, 4].find? S.shutAt = some i
   have : i = 1 ∨ i = 2 ∨ i = 3 ∨ i = 4 := by omega
   rcases this with rfl | rfl | rfl | rfl
   · simp [List.find?_cons, hi]
   · simp [List.find?_cons, hi, hn 1 (by omega) (by omega)]
   · simp [List.find?_cons, hi, hn 1 (by omega) (by omega), hn 2 (by omega) (by omega)]
   · simp [List.find?_cons, hi, hn 1 (by omega) (by omega), hn 2 (by omega) (by omega), hn 3 (by omega) (by omega)]
 rw [e]
theorem unused_none {S : St} (hn : ∀ j, 1 ≤ j → j < 5 → S.shutAt j = false) : S.unused = 0 := by
 unfold St.unused
 have e : (List.range' 1 4).find? S.shutAt = none := by
   show [1, 2, 3, 4].find? S.shutAt = none
   simp [List.find?_cons, hn 1 (by omega) (by omega), hn 2 (by omega) (by omega), hn 3 (by omega) (by omega), hn 4 (by omega) (by omega)]
 rw [e]
theorem unused_lt (S : St) : S.unused < 5 := by
 unfold St.unused
 split
 · rename_i p h
   have := List.mem_of_find?_eq_some h
   simp [List.mem_range'] at this
   omega
 · omega
theorem unused_s : ∃ n, ∀ {σ : Type} {F : Fam σ} {Δ : ∀ s, Dom (F.R s) (F.D s)} {main : Bool} {s : σ} (K : Nat) (A : Lay) (S : St) (Fr L : Frag), (∀ s cs, (Δ s).New (.cells cs 96)) → Rep K A S Fr L →
   CallsL Δ Tryz.prog main 150 [ptr K].toArray n s L (fun s' v L' => s = s' ∧ v = .int .i64 (S.unused : Nat) ∧ Ext L L') := by
 obtain ⟨n1, g1⟩ := isOpen_s
 apply Exists.intro
 intro σ F Δ main s K A S Fr L hN hR
 co_applyP callsE 21 Tryz.func150 Tryz.ntmps150
 co_applyP c_seq
 co_applyP c_region
 co_applyP oy rfl E_as
 co_applyP o_nil
 change wpE ..
 co_applyP c_seq
 co_applyP c_seq
 co_applyP c_region
 co_applyP oy rfl E_as
 co_applyP o_nil
 change wpE ..
 co_applyP c_block
 co_applyP c_loop (fun c s' ε' L' => s' = s ∧ Ext L L' ∧ ∃ i : Nat, 1 ≤ i ∧ i ≤ 5 ∧ c + i = 5 ∧ (∀ j, 1 ≤ j → j < i → S.shutAt j = false) ∧ kn ε' [(0, ptr K), (3, .int .i64 (i : Nat))]) 4
 · exact ⟨rfl, ⟨hR.fn, fun _ h => h⟩, 1, by omega, by omega, rfl, fun j h1 h2 => by omega, rfl⟩
 rintro c s' ε' L' ⟨rfl, hE, i, hi1, hi5, hc, hn, he⟩
 co_applyP wpE_kn he
 have hR' := hR.ext hE
 have ei : IntKind.i64.wrap ((i : Int) + 1) = ((i + 1 : Nat) : Int) := by simp [IntKind.wrap_i64]; omega
 co_applyP c_seq
 co_applyP c_seq
 co_applyP c_region
 co_applyP oy rfl E_mv
 co_applyP oy rfl E_leq
 co_applyP o_nil
 change wpE ..
 co_applyP c_if rfl
 intro hlt
 · have hi4 : i < 5 := by simp at hlt; omega
   co_applyP c_skip
   change wpE ..
   co_applyP c_mid (fun s'' ε'' L'' => s' = s'' ∧ kn ε'' [(0, ptr K), (3, .int .i64 (i : Nat))] ∧ Ext L L'' ∧ S.shutAt i = false)
   co_applyP c_split (S.isOpen (i, 4) = true)
   intro h4
   · skip
     co_applyP c_block
     co_applyP c_seq
     co_applyP c_region
     co_applyP oy rfl E_mv
     co_applyP oy rfl E_mv
     co_applyP oy rfl (E_build (bld96b _ _))
     co_applyP oc rfl rfl rfl (g1 K A S Fr L' (i, 4) (hN _) hR')
     rintro _ _ _ ⟨rfl, rfl, hE1⟩
     co_applyP oy rfl E_not
     co_applyP oy rfl E_mv
     rw [h4]
     co_applyP ou rfl
     co_applyP ou rfl
     co_applyP ou rfl
     co_applyP ou rfl
     co_applyP ou rfl
     co_applyP oy rfl E_pick
     co_applyP o_nil
     change wpE ..
     co_applyP c_false rfl
     co_applyP c_skip
     change _ = _ ∧ kn _ _ ∧ _ ∧ _
     exact ⟨rfl, rfl, hE.trans hE1, by unfold St.shutAt; rw [h4]; rfl⟩
   intro h4
   have h4' : S.isOpen (i, 4) = false := by simpa using h4
   co_applyP c_split (S.isOpen (i, 5) = true)
   intro h5
   · skip
     co_applyP c_block
     co_applyP c_seq
     co_applyP c_region
     co_applyP oy rfl E_mv
     co_applyP oy rfl E_mv
     co_applyP oy rfl (E_build (bld96b _ _))
     co_applyP oc rfl rfl rfl (g1 K A S Fr L' (i, 4) (hN _) hR')
     rintro _ _ _ ⟨rfl, rfl, hE1⟩
     co_applyP oy rfl E_not
     co_applyP oy rfl E_mv
     rename_i L1
     rw [h4']
     co_applyP oy rfl (E_mv)
     co_applyP oy rfl (E_mv)
     co_applyP oy rfl (E_build (bld96b _ _))
     co_applyP oc rfl rfl rfl (g1 K A S Fr L1 (i, 5) (hN _) (hR'.ext hE1))
     rintro _ _ _ ⟨rfl, rfl, hE2⟩
     rw [h5]
     co_applyP oy rfl (E_not)
     co_applyP oy rfl E_pick
     co_applyP o_nil
     change wpE ..
     co_applyP c_false rfl
     co_applyP c_skip
     change _ = _ ∧ kn _ _ ∧ _ ∧ _
     exact ⟨rfl, rfl, hE.trans (hE1.trans hE2), by unfold St.shutAt; rw [h4', h5]; rfl⟩
   intro h5
   have h5' : S.isOpen (i, 5) = false := by simpa using h5
   co_applyP c_block
   co_applyP c_seq
   co_applyP c_region
   co_applyP oy rfl E_mv
   co_applyP oy rfl E_mv
   co_applyP oy rfl (E_build (bld96b _ _))
   co_applyP oc rfl rfl rfl (g1 K A S Fr L' (i, 4) (hN _) hR')
   rintro _ _ _ ⟨rfl, rfl, hE1⟩
   co_applyP oy rfl E_not
   co_applyP oy rfl E_mv
   rename_i L1
   rw [h4']
   co_applyP oy rfl (E_mv)
   co_applyP oy rfl (E_mv)
   co_applyP oy rfl (E_build (bld96b _ _))
   co_applyP oc rfl rfl rfl (g1 K A S Fr L1 (i, 5) (hN _) (hR'.ext hE1))
   rintro _ _ _ ⟨rfl, rfl, hE2⟩
   rw [h5']
   co_applyP oy rfl (E_not)
   co_applyP oy rfl E_pick
   co_applyP o_nil
   change wpE ..
   co_applyP c_true rfl
   co_applyP c_seq
   co_applyP c_region
   co_applyP oy rfl E_mv
   co_applyP oy rfl E_as
   co_applyP o_nil
   change wpE ..
   co_applyP c_ret
   change ∃ v, resE .. = some v ∧ _
   exact ⟨_, rfl, rfl, by rw [unused_at hi1 hi4 hn (by unfold St.shutAt; rw [h4', h5']; rfl)], hE.trans (hE1.trans hE2)⟩
   rintro s'' ε'' L'' ⟨rfl, he2, hE2, hsh⟩
   co_applyP wpE_kn he2
   co_applyP c_region
   co_applyP oy rfl E_mv
   co_applyP oy rfl E_add
   co_applyP oy rfl E_as
   co_applyP o_nil
   change ∃ k', k' < _ ∧ _
   refine ⟨c - 1, by omega, rfl, hE2, i + 1, by omega, by omega, by omega, fun j h1 h2 => ?_, by rw [← ei]; rfl⟩
   by_cases e : j = i
   · rw [e]; exact hsh
   · exact hn j h1 (by omega)
 intro hlt
 co_applyP c_exit
 change wpE ..
 co_applyP c_seq
 co_applyP c_region
 co_applyP oy rfl E_as
 co_applyP o_nil
 change wpE ..
 co_applyP c_ret
 change ∃ v, resE .. = some v ∧ _
 have hi5' : i = 5 := by simp at hlt; omega
 subst hi5'
 exact ⟨_, rfl, rfl, by rw [unused_none hn]; rfl, hE⟩
end Go.Proofs.YtejkelcaljmnoaaGreatDoor
