/-
  Part 30 of the proof.
  No condition but those that each statement names.
-/
import Derived.Test.YtejkelcaljmnoaaGreatDoorHy29
set_option maxRecDepth 100000
set_option linter.unusedVariables false
set_option linter.unusedSimpArgs false
set_option linter.unusedSectionVars false
namespace Go.Proofs.YtejkelcaljmnoaaGreatDoor
open Go.Conc Go.Hx Go.Lo
structure NewK {R : World → World → Prop} {D : World → World → Array Event → Prop} (Δ : Dom R D) : Prop extends NewE Δ where
 r : ∀ cs, Δ.New (.cells cs 93)
 k : ∀ cs, Δ.New (.cells cs 96)
 y : ∀ cs, Δ.New (.cells cs 5)
 i : ∀ cs, Δ.New (.cells cs 158)
 p : ∀ cs, Δ.New (.cells cs 99)
theorem serve_0 : ∃ n, ∀ {σ : Type} {F : Fam σ} {Δ : ∀ s, Dom (F.R s) (F.D s)} {main : Bool} {s : σ} (K : Nat) (A : Lay) (S : St) (Fr L : Frag) (k : Nat × Nat), (∀ cs, (Δ s).New (.cells cs 96)) → Rep K A S Fr L → (∀ e ∈ S.wt, e.1 ≠ k) →
   CallsL Δ Tryz.prog main 160 [ptr K, keyv k].toArray n s L (fun s' v L' => s = s' ∧ v = .bool false ∧ Rep K A S Fr L') := by
 apply Exists.intro
 intro σ F Δ main s K A S Fr L k hN hR hk
 co_applyP callsE 51 Tryz.func160 Tryz.ntmps160
 co_applyP c_seq
 co_applyP c_region
 co_applyP oadd rfl (O_box (hN _))
 intro xk L1 hA1
 have hR1 := hR.add hA1
 have hkx : At L1 K 15 (.map (some A.wt)) := hR1.kat rfl
 have hw1 := hR1.w
 rw [wobj_ents] at hw1
 have hkey := entsOf_key (A := A) (bs := A.born) hk
 co_applyP oy rfl E_as
 co_applyP o_nil
 change wpE ..
 co_applyP c_seq
 co_applyP c_drawq mixed
 co_applyP tr (i := 0) rfl E_mv pI
 co_applyP tr (i := 1) rfl E_nc pI
 co_applyP tr (i := 2) rfl (E_fa (hf := fo_115_6)) pI
 co_applyP tr (i := 3) rfl (E_ld (ht := ag_110)) pI
 co_applyP tr (i := 4) rfl (E_lda (ht := ag_96) (hs := sz_96) (hm := hA1.self) (hi := Nat.le_refl _)) pI
 co_applyP tr (i := 5) rfl (E_lk (k := k) key96 Tryz.underlying110 zr_91 hw1) pI
 co_applyP tr (i := 6) rfl E_as pI
 co_applyP td (by kernel_rfl)
 change wpE ..
 co_applyP c_seq (n₂ := 0)
 co_applyP c_seq
 rw [lk_none hkey]
 co_applyP c_drawq mixed
 co_applyP tr (i := 0) rfl E_mv pI
 co_applyP tr (i := 1) rfl (E_len (hu := Tryz.underlying91)) pI
 co_applyP tr (i := 2) rfl E_eql pI
 co_applyP tr (i := 3) rfl E_mv pI
 co_applyP tu (i := 4) rfl pI
 co_applyP tu (i := 5) rfl pI
 co_applyP tu (i := 6) rfl pI
 co_applyP tu (i := 7) rfl pI
 co_applyP tu (i := 8) rfl pI
 co_applyP tu (i := 9) rfl pI
 co_applyP tu (i := 10) rfl pI
 co_applyP tr (i := 11) rfl E_pick pI
 co_applyP td (by kernel_rfl)
 change wpE ..
 co_applyP c_true rfl
 co_applyP c_seq
 co_applyP c_region
 co_applyP oy rfl E_as
 co_applyP o_nil
 change wpE ..
 co_applyP c_ret
 change ∃ v, resE .. = some v ∧ _
 exact ⟨_, rfl, rfl, rfl, hR1⟩
theorem row_view {K : Nat} {A : Lay} {S : St} {F L : Frag} (hR : Rep K A S F L) {k : Nat × Nat} {b : Nat} {xs : List Nat} (hin : (k, b :: xs) ∈ S.wt) : ∃ Q, (A.a (slot k)).b = some Q ∧ slv (A.a (slot k)) (b :: xs).length = .slice (some ⟨Q, 0, none⟩) (b :: xs).length ((b :: xs).length + (A.a (slot k)).junk.length) ∧ At L Q 0 (ptr b) := by
 cases h : (A.a (slot k)).b with
 | some Q =>
   refine ⟨Q, rfl, by unfold slv; rw [h], true, _, _, _, (hR.wa _ hin).mem h, by simp⟩
 | none =>
   have := hR.wa _ hin
   unfold slOk at this
   rw [h] at this
   simp at this
theorem lk_row {A : Lay} {S : St} {k : Nat × Nat} {l1 l2 : Wt} {xs : List Nat} (hwl : A.born.length = S.wt.length) (hwt : S.wt = l1 ++ (k, xs) :: l2) (hl1 : ∀ e ∈ l1, e.1 ≠ k) : lk k (entsOf A S.wt A.born) 0 = some (l1.length, slv (A.a (slot k)) xs.length) := by
 obtain ⟨b1, c0, b2, hborn, hbl⟩ : ∃ b1 c0 b2, A.born = b1 ++ c0 :: b2 ∧ l1.length = b1.length := by
   have hl := hwl
   rw [hwt] at hl
   simp at hl
   refine ⟨A.born.take l1.length, A.born[l1.length]'(by omega), A.born.drop (l1.length + 1), by simp, by simp; omega⟩
 have hents : entsOf A S.wt A.born = entsOf A l1 b1 ++ (k, slv (A.a (slot k)) xs.length, c0) :: entsOf A l2 b2 := by
   rw [hwt, hborn, entsOf_append A hbl]; rfl
 rw [hents, lk_skip (entsOf_key hl1), entsOf_len A hbl]
 simp [lk]
theorem serve_1 : ∃ n, ∀ {σ : Type} {F : Fam σ} {Δ : ∀ s, Dom (F.R s) (F.D s)} {main : Bool} {s : σ} (K : Nat) (A : Lay) (S : St) (Fr L : Frag) (k : Nat × Nat) (b : Nat) (x : PS) (xs : List Nat), (∀ cs, (Δ s).New (.cells cs 96)) → Rep K A S Fr L → Inv S → (k, b :: xs) ∈ S.wt → (b, x) ∈ S.ps → S.canBeDone x k = false →
   CallsL Δ Tryz.prog main 160 [ptr K, keyv k].toArray n s L (fun s' v L' => s = s' ∧ v = .bool false ∧ Rep K A S Fr L') := by
 obtain ⟨n1, g1⟩ := canBeDone_s
 apply Exists.intro
 intro σ F Δ main s K A S Fr L k b x xs hN hR hI hin hb hcd
 obtain ⟨l1, ys, l2, hwt, hl1, hl2⟩ := split_key hI.kn (List.mem_map.2 ⟨_, hin, rfl⟩)
 have hke := hI.ke _ hin
 co_applyP callsE 51 Tryz.func160 Tryz.ntmps160
 co_applyP c_seq
 co_applyP c_region
 co_applyP oadd rfl (O_box (hN _))
 intro xk L1 hA1
 have hR1 := hR.add hA1
 have hkx : At L1 K 15 (.map (some A.wt)) := hR1.kat rfl
 have hw1 := hR1.w
 rw [wobj_ents] at hw1
 have hrow : ys = b :: xs := by
   have h1 := rowAt_of hI.kn hin
   have h2 := rowAt_of hI.kn (S := S) (k := k) (xs := ys) (by rw [hwt]; simp)
   rw [← h2, h1]
 subst hrow
 obtain ⟨Q, hQ, hsl, hat⟩ := row_view hR1 hin
 have hlk := lk_row hR1.wl hwt hl1
 rw [hsl] at hlk
 co_applyP oy rfl E_as
 co_applyP o_nil
 change wpE ..
 co_applyP c_seq
 co_applyP c_drawq mixed
 co_applyP tr (i := 0) rfl E_mv pI
 co_applyP tr (i := 1) rfl E_nc pI
 co_applyP tr (i := 2) rfl (E_fa (hf := fo_115_6)) pI
 co_applyP tr (i := 3) rfl (E_ld (ht := ag_110)) pI
 co_applyP tr (i := 4) rfl (E_lda (ht := ag_96) (hs := sz_96) (hm := hA1.self) (hi := Nat.le_refl _)) pI
 co_applyP tr (i := 5) rfl (E_lk (k := k) key96 Tryz.underlying110 zr_91 hw1) pI
 co_applyP tr (i := 6) rfl E_as pI
 co_applyP td (by kernel_rfl)
 change wpE ..
 co_applyP c_seq (n₂ := 0)
 co_applyP c_seq
 rw [hlk]
 have hz : (((b :: xs).length : Int) == 0) = false := by simp; omega
 co_applyP c_draw [] 9 mixed
 co_applyP tr (i := 0) rfl E_mv (pre_init (by simp))
 co_applyP tr (i := 1) rfl (E_len (hu := Tryz.underlying91)) (pre_init (by simp))
 co_applyP tr (i := 2) rfl E_eql (pre_init (by simp))
 co_applyP tr (i := 3) rfl E_mv (pre_init (by simp))
 rw [hz]
 co_applyP tr (i := 4) rfl (E_mv) (pre_init (by simp))
 co_applyP tr (i := 5) rfl (E_mv) (pre_init (by simp))
 co_applyP tr (i := 6) rfl (E_ixs Tryz.underlying91 sz_93) (pre_init (by simp))
 co_applyP t0 (i := 7) rfl ((E_ld (ht := ag_93))) (pre_init (by simp))
 co_applyP t0 (i := 8) rfl (E_lda (ht := ag_96) (hs := sz_96) (hm := hA1.self) (hi := Nat.le_refl _)) (pre_init (by simp))
 co_applyP tc (i := 9) rfl rfl rfl (g1 K A S Fr L1 b x k hN hR1 hb (hI.wf _ hb) hke.1.2 (hI.y8 _ hke.1.2))
 rintro _ _ _ ⟨rfl, rfl, hE⟩
 refine ⟨pre_late (by simp), ?_⟩
 rw [hcd]
 co_applyP to (i := 10) rfl (E_not) (pre_late (by simp))
 co_applyP to (i := 11) rfl (E_pick) (pre_late (by simp))
 co_applyP td (by kernel_rfl)
 change wpE ..
 co_applyP c_true rfl
 co_applyP c_seq
 co_applyP c_region
 co_applyP oy rfl E_as
 co_applyP o_nil
 change wpE ..
 co_applyP c_ret
 change ∃ v, resE .. = some v ∧ _
 exact ⟨_, rfl, rfl, rfl, hR1.ext hE⟩
theorem serve_2 : ∃ n, ∀ {σ : Type} {F : Fam σ} {Δ : ∀ s, Dom (F.R s) (F.D s)} {main : Bool} {s : σ} (K : Nat) (A : Lay) (S : St) (Fr L : Frag) (eb : Nat → Nat × Nat) (k : Nat × Nat) (b : Nat) (x : PS) (xs : List Nat), NewK (Δ s) → Rep K A S Fr L → Ers eb Fr → Inv S → (k, b :: xs) ∈ S.wt → (b, x) ∈ S.ps → S.canBeDone x k = true → k.2 = 4 ∨ S.isOpen (otherE k) = true →
   CallsL Δ Tryz.prog main 160 [ptr K, keyv k].toArray n s L (fun s' v L' => s = s' ∧ v = .bool true ∧ ∃ A', Rep K A' (if x.st = 1 then (S.depart b k).carry b x k else ((S.depart b k).carry b x k).wake1 b (S.carried x k)) Fr L') := by
 obtain ⟨n1, g1⟩ := canBeDone_s
 obtain ⟨n2, g2⟩ := depart_s
 obtain ⟨n3, g3⟩ := carry_ok
 obtain ⟨n4, g4⟩ := wake_s
 apply Exists.intro
 intro σ F Δ main s K A S Fr L eb k b x xs hN hR hEr hI hin hb hcd hoc
 obtain ⟨l1, ys, l2, hwt, hl1, hl2⟩ := split_key hI.kn (List.mem_map.2 ⟨_, hin, rfl⟩)
 have hke := hI.ke _ hin
 have hask := hI.row hb hin (by simp)
 co_applyP callsE 51 Tryz.func160 Tryz.ntmps160
 co_applyP c_seq
 co_applyP c_region
 co_applyP oadd rfl (O_box (hN.k _))
 intro xk L1 hA1
 have hR1 := hR.fresh ⟨hA1.fn, hA1.sub⟩ hA1.new hA1.self
 have hkx : At L1 K 15 (.map (some A.wt)) := hR1.kat rfl
 have hw1 := hR1.w
 rw [wobj_ents] at hw1
 have hrow : ys = b :: xs := by
   have h1 := rowAt_of hI.kn hin
   have h2 := rowAt_of hI.kn (S := S) (k := k) (xs := ys) (by rw [hwt]; simp)
   rw [← h2, h1]
 subst hrow
 obtain ⟨Q, hQ, hsl, hat⟩ := row_view hR1 hin
 have hlk := lk_row hR1.wl hwt hl1
 rw [hsl] at hlk
 co_applyP oy rfl E_as
 co_applyP o_nil
 change wpE ..
 co_applyP c_seq
 co_applyP c_drawq mixed
 co_applyP tr (i := 0) rfl E_mv pI
 co_applyP tr (i := 1) rfl E_nc pI
 co_applyP tr (i := 2) rfl (E_fa (hf := fo_115_6)) pI
 co_applyP tr (i := 3) rfl (E_ld (ht := ag_110)) pI
 co_applyP tr (i := 4) rfl (E_lda (ht := ag_96) (hs := sz_96) (hm := hA1.self) (hi := Nat.le_refl _)) pI
 co_applyP tr (i := 5) rfl (E_lk (k := k) key96 Tryz.underlying110 zr_91 hw1) pI
 co_applyP tr (i := 6) rfl E_as pI
 co_applyP td (by kernel_rfl)
 change wpE ..
 co_applyP c_seq
 co_applyP c_seq
 rw [hlk]
 have hz : (((b :: xs).length : Int) == 0) = false := by simp; omega
 co_applyP c_draw [] 9 mixed
 co_applyP tr (i := 0) rfl E_mv (pre_init (by simp))
 co_applyP tr (i := 1) rfl (E_len (hu := Tryz.underlying91)) (pre_init (by simp))
 co_applyP tr (i := 2) rfl E_eql (pre_init (by simp))
 co_applyP tr (i := 3) rfl E_mv (pre_init (by simp))
 rw [hz]
 co_applyP tr (i := 4) rfl (E_mv) (pre_init (by simp))
 co_applyP tr (i := 5) rfl (E_mv) (pre_init (by simp))
 co_applyP tr (i := 6) rfl (E_ixs Tryz.underlying91 sz_93) (pre_init (by simp))
 co_applyP t0 (i := 7) rfl ((E_ld (ht := ag_93))) (pre_init (by simp))
 co_applyP t0 (i := 8) rfl (E_lda (ht := ag_96) (hs := sz_96) (hm := hA1.self) (hi := Nat.le_refl _)) (pre_init (by simp))
 co_applyP tc (i := 9) rfl rfl rfl (g1 K A S _ L1 b x k hN.k hR1 hb (hI.wf _ hb) hke.1.2 (hI.y8 _ hke.1.2))
 rintro _ _ _ ⟨rfl, rfl, hE⟩
 refine ⟨pre_late (by simp), ?_⟩
 rename_i L2
 rw [hcd]
 co_applyP to (i := 10) rfl (E_not) (pre_late (by simp))
 co_applyP to (i := 11) rfl (E_pick) (pre_late (by simp))
 have hR2 := hR1.ext hE
 have hat2 := hE.at hat
 co_applyP td (by kernel_rfl)
 change wpE ..
 co_applyP c_false rfl
 co_applyP c_skip
 change wpE ..
 co_applyP c_seq
 co_applyP c_region
 co_applyP oy rfl E_mv
 co_applyP oy rfl (E_ixs Tryz.underlying91 sz_93)
 co_applyP oy rfl (E_ld (ht := ag_93))
 co_applyP oy rfl E_as
 co_applyP o_nil
 change wpE ..
 co_applyP c_seq
 co_applyP c_region
 co_applyP oy rfl E_mv
 co_applyP oy rfl E_mv
 co_applyP oy rfl (E_lda (ht := ag_96) (hs := sz_96) (hm := hR2.fr _ List.mem_cons_self) (hi := Nat.le_refl _))
 co_applyP oc rfl rfl rfl (g2 K A S _ L2 b x k hN.r hN.k hR2 hI.w hb)
 rintro _ _ _ ⟨rfl, rfl, A3, hwl3, hR3⟩
 co_applyP o_nil
 change wpE ..
 co_applyP c_seq
 co_applyP c_seq
 co_applyP c_region
 co_applyP oy rfl E_mv
 co_applyP oy rfl E_mv
 rename_i L3
 have hb3 : (b, x) ∈ (S.depart b k).ps := hb
 co_applyP oy rfl (E_lda (ht := ag_96) (hs := sz_96) (hm := hR3.fr _ List.mem_cons_self) (hi := Nat.le_refl _))
 co_applyP oc rfl rfl rfl (g3 K A3 _ _ L3 b x k hN.k hN.y hR3 hb3 (hI.wf _ hb) hke.1.2 hask.a (hI.y8 _ hke.1.2) hoc)
 rintro _ _ _ ⟨rfl, rfl, A5, hR5⟩
 co_applyP oy rfl E_as
 co_applyP o_nil
 change wpE ..
 co_applyP c_seq
 co_applyP c_region
 co_applyP oy rfl E_mv
 rename_i L5
 have hb5 : (b, S.carried x k) ∈ ((S.depart b k).carry b x k).ps := by rw [carry_ps]; exact mem_setP_self hb3
 have hd : Inv (S.depart b k) := hI.depart
 have ho : (S.depart b k).out b := by have := hI.out_depart hb; rw [hask.f] at this; exact this
 have hI5 := Inv.carry hd (b := b) (x := x) (k := k) hb3 ho hke.1.2 hask.a hcd
 have hst : (S.carried x k).st = x.st := (carried_like S x k).1
 have hs5 : At L5 b 2 (.int .i64 ((S.carried x k).st : Nat)) := hR5.pat hb5 (i := 2) rfl
 co_applyP oy rfl (E_ifn (v := .nilIface) (c := true) (hv := .inl ⟨rfl, rfl⟩) (hu := Tryz.underlying168))
 co_applyP o_nil
 change wpE ..
 co_applyP c_false rfl
 co_applyP c_skip
 change wpE ..
 co_applyP c_mid (fun s'' ε'' L'' => s = s'' ∧ kn ε'' [] ∧ ∃ A6, Rep K A6 (if x.st = 1 then (S.depart b k).carry b x k else ((S.depart b k).carry b x k).wake1 b (S.carried x k)) Fr L'')
 co_applyP c_seq
 co_applyP c_region
 co_applyP oy rfl E_mv
 co_applyP oy rfl E_nc
 co_applyP oy rfl (E_fa (hf := fo_99_0))
 co_applyP oy rfl (E_fa (hf := fo_49_2))
 co_applyP oy rfl (E_ld (ht := ag_3))
 co_applyP oy rfl E_neq
 co_applyP o_nil
 change wpE ..
 co_applyP c_if rfl
 intro hc
 co_applyP c_region
 co_applyP oy rfl E_mv
 co_applyP oy rfl E_mv
 · have h1 : ¬ x.st = 1 := by rw [hst] at hc; simp at hc; omega
   co_applyP oc rfl rfl rfl (g4 K A5 _ _ L5 b (S.carried x k) hN.r hR5 hb5 (hI5.g.lv _ hb5) (hI5.g.r8 (hI5.g.lv _ hb5)) (fun e he => slot_ne e.1 (hI5.g.lv _ hb5)))
   rintro _ _ _ ⟨rfl, rfl, A6, _, hR6⟩
   co_applyP o_nil
   change _ = _ ∧ kn _ _ ∧ ∃ A6, _
   exact ⟨rfl, rfl, A6, by rw [if_neg h1]; exact hR6.less fun t ht => List.mem_cons_of_mem _ ht⟩
 intro hc
 co_applyP c_skip
 change _ = _ ∧ kn _ _ ∧ ∃ A6, _
 have h1 : x.st = 1 := by rw [hst] at hc; simp at hc; omega
 exact ⟨rfl, rfl, A5, by rw [if_pos h1]; exact hR5.less fun t ht => List.mem_cons_of_mem _ ht⟩
 rintro _ ε6 L6 ⟨rfl, he6, A6, hR6⟩
 co_applyP wpE_kn he6
 co_applyP c_seq
 co_applyP c_region
 co_applyP oy rfl E_as
 co_applyP o_nil
 change wpE ..
 co_applyP c_ret
 change ∃ v, resE .. = some v ∧ _
 exact ⟨_, rfl, rfl, rfl, A6, hR6⟩
theorem serve_3 : ∃ n, ∀ {σ : Type} {F : Fam σ} {Δ : ∀ s, Dom (F.R s) (F.D s)} {main : Bool} {s : σ} (K : Nat) (A : Lay) (S : St) (Fr L : Frag) (eb : Nat → Nat × Nat) (k : Nat × Nat) (b : Nat) (x : PS) (xs : List Nat), NewK (Δ s) → Rep K A S Fr L → Ers eb Fr → Inv S → (k, b :: xs) ∈ S.wt → (b, x) ∈ S.ps → S.canBeDone x k = true → k.2 ≠ 4 ∧ S.isOpen (otherE k) = false →
   CallsL Δ Tryz.prog main 160 [ptr K, keyv k].toArray n s L (fun s' v L' => s = s' ∧ v = .bool true ∧ ∃ A', Rep K A' (if x.st = 1 then (S.depart b k).carry b x k else ((S.depart b k).carry b x k).wake1 b (S.carried x k)) Fr L') := by
 obtain ⟨n1, g1⟩ := canBeDone_s
 obtain ⟨n2, g2⟩ := depart_s
 obtain ⟨n3, g3⟩ := carry_n
 obtain ⟨n4, g4⟩ := wake_s
 obtain ⟨n5, g5⟩ := answered_t
 apply Exists.intro
 intro σ F Δ main s K A S Fr L eb k b x xs hN hR hEr hI hin hb hcd hoc
 obtain ⟨l1, ys, l2, hwt, hl1, hl2⟩ := split_key hI.kn (List.mem_map.2 ⟨_, hin, rfl⟩)
 have hke := hI.ke _ hin
 have hask := hI.row hb hin (by simp)
 co_applyP callsE 51 Tryz.func160 Tryz.ntmps160
 co_applyP c_seq
 co_applyP c_region
 co_applyP oadd rfl (O_box (hN.k _))
 intro xk L1 hA1
 have hR1 := hR.fresh ⟨hA1.fn, hA1.sub⟩ hA1.new hA1.self
 have hkx : At L1 K 15 (.map (some A.wt)) := hR1.kat rfl
 have hw1 := hR1.w
 rw [wobj_ents] at hw1
 have hrow : ys = b :: xs := by
   have h1 := rowAt_of hI.kn hin
   have h2 := rowAt_of hI.kn (S := S) (k := k) (xs := ys) (by rw [hwt]; simp)
   rw [← h2, h1]
 subst hrow
 obtain ⟨Q, hQ, hsl, hat⟩ := row_view hR1 hin
 have hlk := lk_row hR1.wl hwt hl1
 rw [hsl] at hlk
 co_applyP oy rfl E_as
 co_applyP o_nil
 change wpE ..
 co_applyP c_seq
 co_applyP c_drawq mixed
 co_applyP tr (i := 0) rfl E_mv pI
 co_applyP tr (i := 1) rfl E_nc pI
 co_applyP tr (i := 2) rfl (E_fa (hf := fo_115_6)) pI
 co_applyP tr (i := 3) rfl (E_ld (ht := ag_110)) pI
 co_applyP tr (i := 4) rfl (E_lda (ht := ag_96) (hs := sz_96) (hm := hA1.self) (hi := Nat.le_refl _)) pI
 co_applyP tr (i := 5) rfl (E_lk (k := k) key96 Tryz.underlying110 zr_91 hw1) pI
 co_applyP tr (i := 6) rfl E_as pI
 co_applyP td (by kernel_rfl)
 change wpE ..
 co_applyP c_seq
 co_applyP c_seq
 rw [hlk]
 have hz : (((b :: xs).length : Int) == 0) = false := by simp; omega
 co_applyP c_draw [] 9 mixed
 co_applyP tr (i := 0) rfl E_mv (pre_init (by simp))
 co_applyP tr (i := 1) rfl (E_len (hu := Tryz.underlying91)) (pre_init (by simp))
 co_applyP tr (i := 2) rfl E_eql (pre_init (by simp))
 co_applyP tr (i := 3) rfl E_mv (pre_init (by simp))
 rw [hz]
 co_applyP tr (i := 4) rfl (E_mv) (pre_init (by simp))
 co_applyP tr (i := 5) rfl (E_mv) (pre_init (by simp))
 co_applyP tr (i := 6) rfl (E_ixs Tryz.underlying91 sz_93) (pre_init (by simp))
 co_applyP t0 (i := 7) rfl ((E_ld (ht := ag_93))) (pre_init (by simp))
 co_applyP t0 (i := 8) rfl (E_lda (ht := ag_96) (hs := sz_96) (hm := hA1.self) (hi := Nat.le_refl _)) (pre_init (by simp))
 co_applyP tc (i := 9) rfl rfl rfl (g1 K A S _ L1 b x k hN.k hR1 hb (hI.wf _ hb) hke.1.2 (hI.y8 _ hke.1.2))
 rintro _ _ _ ⟨rfl, rfl, hE⟩
 refine ⟨pre_late (by simp), ?_⟩
 rename_i L2
 rw [hcd]
 co_applyP to (i := 10) rfl (E_not) (pre_late (by simp))
 co_applyP to (i := 11) rfl (E_pick) (pre_late (by simp))
 have hR2 := hR1.ext hE
 have hat2 := hE.at hat
 co_applyP td (by kernel_rfl)
 change wpE ..
 co_applyP c_false rfl
 co_applyP c_skip
 change wpE ..
 co_applyP c_seq
 co_applyP c_region
 co_applyP oy rfl E_mv
 co_applyP oy rfl (E_ixs Tryz.underlying91 sz_93)
 co_applyP oy rfl (E_ld (ht := ag_93))
 co_applyP oy rfl E_as
 co_applyP o_nil
 change wpE ..
 co_applyP c_seq
 co_applyP c_region
 co_applyP oy rfl E_mv
 co_applyP oy rfl E_mv
 co_applyP oy rfl (E_lda (ht := ag_96) (hs := sz_96) (hm := hR2.fr _ List.mem_cons_self) (hi := Nat.le_refl _))
 co_applyP oc rfl rfl rfl (g2 K A S _ L2 b x k hN.r hN.k hR2 hI.w hb)
 rintro _ _ _ ⟨rfl, rfl, A3, hwl3, hR3⟩
 co_applyP o_nil
 change wpE ..
 co_applyP c_seq
 co_applyP c_seq
 co_applyP c_region
 co_applyP oy rfl E_mv
 co_applyP oy rfl E_mv
 rename_i L3
 have hb3 : (b, x) ∈ (S.depart b k).ps := hb
 co_applyP oy rfl (E_lda (ht := ag_96) (hs := sz_96) (hm := hR3.fr _ List.mem_cons_self) (hi := Nat.le_refl _))
 co_applyP oc rfl rfl rfl (g3 K A3 _ _ L3 eb b x k hN.k hN.d hR3 (hEr.mono fun t ht => List.mem_cons_of_mem _ ht) hb3 (hI.wf _ hb) hoc.1 hask.a hoc.2)
 rintro _ _ _ ⟨rfl, r, rfl, hr4, hR4⟩
 co_applyP oy rfl E_as
 co_applyP o_nil
 change wpE ..
 co_applyP c_seq
 co_applyP c_region
 co_applyP oy rfl E_mv
 rename_i L4
 co_applyP oy rfl (E_ifn (v := .iface 180 (ptr r)) (c := false) (hv := .inr ⟨_, _, rfl, rfl⟩) (hu := Tryz.underlying168))
 co_applyP o_nil
 change wpE ..
 co_applyP c_true rfl
 co_applyP c_region
 co_applyP oy rfl E_mv
 co_applyP oy rfl E_mv
 co_applyP oc rfl rfl rfl (g5 K A3 _ _ L4 eb b x r 7 hN.toNewE hR4 (hEr.mono fun t ht => List.mem_cons_of_mem _ ht) hb3 hr4 (by decide) (by decide))
 rintro _ _ _ ⟨rfl, rfl, hR5'⟩
 co_applyP o_nil
 change wpE ..
 rename_i L5
 obtain ⟨A5, hA5⟩ : ∃ A5, A5 = A3 := ⟨_, rfl⟩
 have hR5 : Rep K A5 ((S.depart b k).carry b x k) ((xk, true, Obj.cells (keyv k).cells 96) :: Fr) L5 := by rw [hA5]; unfold St.carry; rw [if_neg hoc.1, if_neg (by rw [show (S.depart b k).isOpen (otherE k) = S.isOpen (otherE k) from rfl, hoc.2]; simp)]; exact hR5'
 have hb5 : (b, S.carried x k) ∈ ((S.depart b k).carry b x k).ps := by rw [carry_ps]; exact mem_setP_self hb3
 have hd : Inv (S.depart b k) := hI.depart
 have ho : (S.depart b k).out b := by have := hI.out_depart hb; rw [hask.f] at this; exact this
 have hI5 := Inv.carry hd (b := b) (x := x) (k := k) hb3 ho hke.1.2 hask.a hcd
 have hst : (S.carried x k).st = x.st := (carried_like S x k).1
 have hs5 : At L5 b 2 (.int .i64 ((S.carried x k).st : Nat)) := hR5.pat hb5 (i := 2) rfl
 co_applyP c_mid (fun s'' ε'' L'' => s = s'' ∧ kn ε'' [] ∧ ∃ A6, Rep K A6 (if x.st = 1 then (S.depart b k).carry b x k else ((S.depart b k).carry b x k).wake1 b (S.carried x k)) Fr L'')
 co_applyP c_seq
 co_applyP c_region
 co_applyP oy rfl E_mv
 co_applyP oy rfl E_nc
 co_applyP oy rfl (E_fa (hf := fo_99_0))
 co_applyP oy rfl (E_fa (hf := fo_49_2))
 co_applyP oy rfl (E_ld (ht := ag_3))
 co_applyP oy rfl E_neq
 co_applyP o_nil
 change wpE ..
 co_applyP c_if rfl
 intro hc
 co_applyP c_region
 co_applyP oy rfl E_mv
 co_applyP oy rfl E_mv
 · have h1 : ¬ x.st = 1 := by rw [hst] at hc; simp at hc; omega
   co_applyP oc rfl rfl rfl (g4 K A5 _ _ L5 b (S.carried x k) hN.r hR5 hb5 (hI5.g.lv _ hb5) (hI5.g.r8 (hI5.g.lv _ hb5)) (fun e he => slot_ne e.1 (hI5.g.lv _ hb5)))
   rintro _ _ _ ⟨rfl, rfl, A6, _, hR6⟩
   co_applyP o_nil
   change _ = _ ∧ kn _ _ ∧ ∃ A6, _
   exact ⟨rfl, rfl, A6, by rw [if_neg h1]; exact hR6.less fun t ht => List.mem_cons_of_mem _ ht⟩
 intro hc
 co_applyP c_skip
 change _ = _ ∧ kn _ _ ∧ ∃ A6, _
 have h1 : x.st = 1 := by rw [hst] at hc; simp at hc; omega
 exact ⟨rfl, rfl, A5, by rw [if_pos h1]; exact hR5.less fun t ht => List.mem_cons_of_mem _ ht⟩
 rintro _ ε6 L6 ⟨rfl, he6, A6, hR6⟩
 co_applyP wpE_kn he6
 co_applyP c_seq
 co_applyP c_region
 co_applyP oy rfl E_as
 co_applyP o_nil
 change wpE ..
 co_applyP c_ret
 change ∃ v, resE .. = some v ∧ _
 exact ⟨_, rfl, rfl, rfl, A6, hR6⟩
theorem serve_s : ∃ n, ∀ {σ : Type} {F : Fam σ} {Δ : ∀ s, Dom (F.R s) (F.D s)} {main : Bool} {s : σ} (K : Nat) (A : Lay) (S : St) (Fr L : Frag) (eb : Nat → Nat × Nat) (k : Nat × Nat), NewK (Δ s) → Rep K A S Fr L → Ers eb Fr → Inv S →
   CallsL Δ Tryz.prog main 160 [ptr K, keyv k].toArray n s L (fun s' v L' => s = s' ∧ v = .bool (S.serve k).isSome ∧ ∃ A', Rep K A' ((S.serve k).getD S) Fr L') := by
 obtain ⟨n0, g0⟩ := serve_0
 obtain ⟨n1, g1⟩ := serve_1
 obtain ⟨n2, g2⟩ := serve_2
 obtain ⟨n3, g3⟩ := serve_3
 refine ⟨n0 + (n1 + (n2 + n3)), fun {σ F Δ main s} K A S Fr L eb k hN hR hE hI => callsL_split (∀ e ∈ S.wt, e.1 ≠ k) (fun h => ?_) fun h => ?_⟩
 · have e : S.serve k = none := by unfold St.serve; rw [rowAt_none h]
   rw [e]
   exact callsL_post (g0 K A S Fr L k hN.k hR h) fun s' v L' ⟨h1, h2, h3⟩ => ⟨h1, h2, A, h3⟩
 · have hk : k ∈ S.wt.map (·.1) := by
     refine Decidable.byContradiction fun hn => h fun e he e1 => hn (List.mem_map.2 ⟨e, he, e1⟩)
   obtain ⟨⟨k', ys⟩, hin, rfl⟩ := List.mem_map.1 hk
   cases ys with
   | nil => exact absurd rfl (hI.ne _ hin)
   | cons b xs =>
     obtain ⟨x, hb, _⟩ := hI.rm _ hin b (by simp)
     have er := rowAt_of hI.kn hin
     refine callsL_split (S.canBeDone x k' = false) (fun h => ?_) fun h => callsL_split (k'.2 = 4 ∨ S.isOpen (otherE k') = true) (fun ho => ?_) fun ho => ?_
     · have e : S.serve k' = none := by unfold St.serve; rw [er]; simp only [get_of hI.g.pn hb, h]; rfl
       rw [e]
       exact callsL_post (g1 K A S Fr L k' b x xs hN.k hR hI hin hb h) fun s' v L' ⟨h1, h2, h3⟩ => ⟨h1, h2, A, h3⟩
     · have hc : S.canBeDone x k' = true := by simpa using h
       have e : S.serve k' = some (if x.st = 1 then (S.depart b k').carry b x k' else ((S.depart b k').carry b x k').wake1 b (S.carried x k')) := by unfold St.serve; rw [er]; simp only [get_of hI.g.pn hb, hc]; rfl
       rw [e]
       exact g2 K A S Fr L eb k' b x xs hN hR hE hI hin hb hc ho
     · have hc : S.canBeDone x k' = true := by simpa using h
       have e : S.serve k' = some (if x.st = 1 then (S.depart b k').carry b x k' else ((S.depart b k').carry b x k').wake1 b (S.carried x k')) := by unfold St.serve; rw [er]; simp only [get_of hI.g.pn hb, hc]; rfl
       rw [e]
       exact g3 K A S Fr L eb k' b x xs hN hR hE hI hin hb hc ⟨fun h => ho (.inl h), by cases hh : S.isOpen (otherE k') with
         | false => rfl
         | true => exact absurd (.inr hh) ho⟩
theorem looks_five {S S' : St} {p m : Nat} (h : S.serve (p, 5) = some S') (hm : S'.meas p < m) : ∃ m', S'.meas p ≤ m' ∧ St.looks m S p = St.looks m' S' p := by
 cases m with
 | zero => omega
 | succ m => exact ⟨m, by omega, by simp only [St.looks, h]⟩
theorem looks_four {S S' : St} {p m : Nat} (h5 : S.serve (p, 5) = none) (h : S.serve (p, 4) = some S') (hm : S'.meas p < m) : ∃ m', S'.meas p ≤ m' ∧ St.looks m S p = St.looks m' S' p := by
 cases m with
 | zero => omega
 | succ m => exact ⟨m, by omega, by simp only [St.looks, h5, h]⟩
theorem look_s : ∃ n, ∀ {σ : Type} {F : Fam σ} {Δ : ∀ s, Dom (F.R s) (F.D s)} {main : Bool} {s : σ} (K : Nat) (A : Lay) (S : St) (Fr L : Frag) (eb : Nat → Nat × Nat) (p : Nat), (∀ s, NewK (Δ s)) → Rep K A S Fr L → Ers eb Fr → Inv S →
   CallsL Δ Tryz.prog main 147 [ptr K, .int .i64 (p : Nat)].toArray n s L (fun s' v L' => s = s' ∧ v = .tuple #[] ∧ ∃ A', Rep K A' (S.look p) Fr L') := by
 obtain ⟨n1, g1⟩ := serve_s
 apply Exists.intro
 intro σ F Δ main s K A S Fr L eb p hN hR hE hI
 co_applyP callsE 14 Tryz.func147 Tryz.ntmps147
 co_applyP c_block
 co_applyP c_loop (fun c s' ε' L' => s' = s ∧ ∃ A' S' m, Rep K A' S' Fr L' ∧ Inv S' ∧ S'.meas p ≤ c ∧ S'.meas p ≤ m ∧ St.looks m S' p = S.look p ∧ kn ε' [(0, ptr K), (1, .int .i64 (p : Nat))]) 16
 · exact ⟨rfl, A, S, 16, hR, hI, meas_le hI p, meas_le hI p, rfl, rfl⟩
 rintro c s' ε' L' ⟨rfl, A', S', m, hR', hI', hc, hm, hlk, he⟩
 co_applyP wpE_kn he
 co_applyP c_split ((S'.serve (p, 5)).isSome = true)
 intro h5
 · obtain ⟨S5, hS5⟩ := Option.isSome_iff_exists.1 h5
   have hlt := serve_meas hI' (.inr rfl) hS5
   co_applyP c_seq
   co_applyP c_seq
   co_applyP c_region
   co_applyP oy rfl E_mv
   co_applyP oy rfl E_mv
   co_applyP oy rfl (E_build (bld96b _ _))
   co_applyP oc rfl rfl rfl (g1 K A' S' Fr L' eb (p, 5) (hN _) hR' hE hI')
   rintro _ _ _ ⟨rfl, rfl, A2, hR2⟩
   co_applyP oy rfl E_mv
   rw [hS5] at hR2 ⊢
   co_applyP ou rfl
   co_applyP ou rfl
   co_applyP ou rfl
   co_applyP ou rfl
   co_applyP oy rfl E_pick
   co_applyP o_nil
   change wpE ..
   co_applyP c_true rfl
   co_applyP c_skip
   change wpE ..
   co_applyP c_block
   co_applyP c_skip
   change ∃ k', k' < _ ∧ _
   obtain ⟨m', hm', e'⟩ := looks_five hS5 (show S5.meas p < m by omega)
   exact ⟨S5.meas p, by omega, rfl, A2, S5, m', hR2, hI'.serve hS5, Nat.le_refl _, hm', by rw [← e']; exact hlk, rfl⟩
 intro h5
 have hS5 : S'.serve (p, 5) = none := by simpa using h5
 co_applyP c_split ((S'.serve (p, 4)).isSome = true)
 intro h4
 · obtain ⟨S4, hS4⟩ := Option.isSome_iff_exists.1 h4
   have hlt := serve_meas hI' (.inl rfl) hS4
   co_applyP c_seq
   co_applyP c_seq
   co_applyP c_region
   co_applyP oy rfl E_mv
   co_applyP oy rfl E_mv
   co_applyP oy rfl (E_build (bld96b _ _))
   co_applyP oc rfl rfl rfl (g1 K A' S' Fr L' eb (p, 5) (hN _) hR' hE hI')
   rintro _ _ _ ⟨rfl, rfl, A2, hR2⟩
   co_applyP oy rfl E_mv
   rw [hS5] at hR2 ⊢
   co_applyP oy rfl (E_mv)
   co_applyP oy rfl (E_mv)
   co_applyP oy rfl (E_build (bld96b _ _))
   co_applyP oc rfl rfl rfl (g1 K A2 S' Fr _ eb (p, 4) (hN _) hR2 hE hI')
   rintro _ _ _ ⟨rfl, rfl, A3, hR3⟩
   co_applyP oy rfl E_pick
   co_applyP o_nil
   change wpE ..
   rw [hS4] at hR3 ⊢
   co_applyP c_true rfl
   co_applyP c_skip
   change wpE ..
   co_applyP c_block
   co_applyP c_skip
   change ∃ k', k' < _ ∧ _
   obtain ⟨m', hm', e'⟩ := looks_four hS5 hS4 (show S4.meas p < m by omega)
   exact ⟨S4.meas p, by omega, rfl, A3, S4, m', hR3, hI'.serve hS4, Nat.le_refl _, hm', by rw [← e']; exact hlk, rfl⟩
 intro h4
 have hS4 : S'.serve (p, 4) = none := by simpa using h4
 co_applyP c_seq (n₂ := 0)
 co_applyP c_seq
 co_applyP c_region
 co_applyP oy rfl E_mv
 co_applyP oy rfl E_mv
 co_applyP oy rfl (E_build (bld96b _ _))
 co_applyP oc rfl rfl rfl (g1 K A' S' Fr L' eb (p, 5) (hN _) hR' hE hI')
 rintro _ _ _ ⟨rfl, rfl, A2, hR2⟩
 co_applyP oy rfl E_mv
 rw [hS5] at hR2 ⊢
 co_applyP oy rfl (E_mv)
 co_applyP oy rfl (E_mv)
 co_applyP oy rfl (E_build (bld96b _ _))
 co_applyP oc rfl rfl rfl (g1 K A2 S' Fr _ eb (p, 4) (hN _) hR2 hE hI')
 rintro _ _ _ ⟨rfl, rfl, A3, hR3⟩
 co_applyP oy rfl E_pick
 co_applyP o_nil
 change wpE ..
 rw [hS4] at hR3 ⊢
 co_applyP c_false rfl
 co_applyP c_exit
 change ∃ v, resE .. = some v ∧ _
 refine ⟨_, rfl, rfl, rfl, A3, ?_⟩
 rw [← hlk, looks_stop hS5 hS4]
 exact hR3
end Go.Proofs.YtejkelcaljmnoaaGreatDoor
