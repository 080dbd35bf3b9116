/-
  Part 39 of the proof.
  No condition but those that each statement names.
-/
import Derived.Test.YtejkelcaljmnoaaGreatDoorHy38
set_option maxRecDepth 100000
set_option linter.unusedVariables false
set_option linter.unusedSimpArgs false
set_option linter.unusedSectionVars false
namespace Go.Proofs.YtejkelcaljmnoaaGreatDoor
open Go.Conc Go.Hx Go.Lo
section
variable {S : St} {b : Nat} {x : PS}
theorem ex_of_fst (h : b ∈ S.ps.map (·.1)) : ∃ z, (b, z) ∈ S.ps := by
 obtain ⟨q, hq, rfl⟩ := List.mem_map.1 h
 exact ⟨q.2, hq⟩
theorem fst_of {S : St} {b : Nat} {x : PS} (h : (b, x) ∈ S.ps) : b ∈ S.ps.map (·.1) := List.mem_map.2 ⟨_, h, rfl⟩
theorem stop1_fst (S : St) (c : Nat) (y : PS) (s : Nat) : (S.stop1 c y s).ps.map (·.1) = S.ps.map (·.1) := setP_fst S c _
theorem r0_fst (S : St) (c : Nat) (v : Int) : (S.r0 c v).ps.map (·.1) = S.ps.map (·.1) := by
 unfold St.r0
 split
 · exact setP_fst S c _
 · rfl
theorem wait_ex (hb : (b, x) ∈ S.ps) (hs : x.st = 1) : ∃ z, (b, z) ∈ (S.waitR b x).2.ps := by
 unfold St.waitR
 split
 · simp only
   split
   · rename_i i hi
     obtain ⟨q, hq, _, h6⟩ := childAt_spec hi
     unfold St.take
     rw [hq]
     refine ⟨_, mem_setP_self (y := x) ?_⟩
     show (b, x) ∈ S.ps.eraseIdx i
     obtain ⟨j, hj⟩ := List.getElem?_of_mem hb
     have hji : j ≠ i := fun e => by
       subst e
       rw [hj] at hq
       simp at hq
       rw [← hq] at h6
       simp only at h6
       omega
     rw [List.mem_eraseIdx_iff_getElem?]
     exact ⟨j, hji, hj⟩
   · exact ⟨_, mem_setP_self hb⟩
 · exact ⟨x, hb⟩
theorem sleep_ex (hb : (b, x) ∈ S.ps) : ∃ z, (b, z) ∈ (S.sleep1 b x).ps := by
 apply ex_of_fst
 unfold St.sleep1
 split
 · rw [setP_fst]; exact fst_of hb
 · rw [stop1_fst, setP_fst]; exact fst_of hb
theorem yield_ex (hb : (b, x) ∈ S.ps) : ∃ z, (b, z) ∈ (S.yield1 b x).ps := ⟨_, mem_setP_self (S := S) hb⟩
theorem close_ex (hI : Inv S) (hb : (b, x) ∈ S.ps) (ho : S.out b) : ∃ z, (b, z) ∈ (S.closeR b x).2.ps := by
 unfold St.closeR
 split
 · exact ⟨x, hb⟩
 · apply ex_of_fst
   rw [r0_fst, (hI.shut hb ho _).f, setP_fst]
   exact fst_of hb
theorem ask_ex (hI : Inv S) (hb : (b, x) ∈ S.ps) (ho : S.out b) (hs : x.st = 1) {use most : Nat} (hu : use = 4 ∨ use = 5) (hm : use = 5 → most ≤ 8) : ∃ z, (b, z) ∈ (S.askR b x use most).2.ps := by
 unfold St.askR
 cases hc : x.checkUse use most with
 | some i => exact ⟨x, hb⟩
 | none =>
   obtain ⟨c1, c2, c3⟩ := checkUse_ok hc
   have hk : okEnd (x.file (x.r 0)) := (hI.file_ok hb _).resolve_left fun e => by rw [e] at c1; simp only at c1; omega
   have hIj := hI.joinW hb ho ⟨rfl, c3, fun h5 => by rw [h5] at c1; have := hm c1.symm; omega, .inl hs⟩ hk
   have hf := (hIj.look (x.file (x.r 0)).1).f
   apply ex_of_fst
   simp only
   split
   · split
     · rw [stop1_fst, hf]; exact fst_of hb
     · rw [hf]; exact fst_of hb
   · rw [hf]; exact fst_of hb
theorem fork_ex (hb : (b, x) ∈ S.ps) (c : Nat) : ∃ z, (b, z) ∈ (S.forkS b x c).ps := by
 apply ex_of_fst
 unfold St.forkS
 rw [setP_fst]
 show b ∈ ((S.taken c (x.copy.r0 0)).setP c _).ps.map (·.1)
 rw [setP_fst]
 show b ∈ (S.ps ++ [(c, _)]).map (fun q : Nat × PS => q.1)
 rw [List.map_append]
 exact List.mem_append_left _ (fst_of hb)
end
set_option maxHeartbeats 1000000 in
theorem grant_s : ∃ n, ∀ {p : Par} {Sh : Loc → Prop} {E Dn : Nat} {PostB : World → Prop} {Aft : Goroutine → World → Prop} {W : World} {O : Nat} {G0 : List (Nat × Obj)} {vs : List Value} (K : Nat) (A : Lay) (S : St) (Fr L : Frag) (eb : Nat → Nat × Nat) (b : Nat) (x : PS) (m : Int), (∀ s, NewT (domT Tryz.prog p Sh E Dn PostB Aft W O G0 s)) → Rep K A S Fr L → Ers eb Fr → Running S b x →
   CallsL (domT Tryz.prog p Sh E Dn PostB Aft W O G0) Tryz.prog false 112 [ptr K, ptr b, .int .u8 m, .chan (some E)].toArray n (S.grantE b x m ++ vs) L (fun s' v L' => vs = s' ∧ v = erV eb (S.grantV b x m) ∧ ∃ A' G c, (∀ q ∈ S.ps, c ≠ q.1) ∧ Stays b (S.grantS b x m c) G ∧ Rep K A' (S.grantS b x m c) (G ++ Fr) L') := by
 obtain ⟨n0, g0⟩ := grant_0
 obtain ⟨n1a, g1a⟩ := grant_1a
 obtain ⟨n1b, g1b⟩ := grant_1b
 obtain ⟨n2, g2⟩ := grant_2
 obtain ⟨n3a, g3a⟩ := grant_3a
 obtain ⟨n3b, g3b⟩ := grant_3b
 obtain ⟨n3c, g3c⟩ := grant_3c
 obtain ⟨n4, g4⟩ := grant_4
 obtain ⟨n5, g5⟩ := grant_5
 obtain ⟨n6, g6⟩ := grant_6
 obtain ⟨n7a, g7a⟩ := grant_7a
 obtain ⟨n7b, g7b⟩ := grant_7b
 obtain ⟨n7c, g7c⟩ := grant_7c
 obtain ⟨n8, g8⟩ := grant_8
 obtain ⟨n9, g9⟩ := grant_9
 obtain ⟨n10, g10⟩ := grant_10
 obtain ⟨n11, g11⟩ := grant_11
 obtain ⟨n12, g12⟩ := grant_12
 refine ⟨n0 + (n1a + (n1b + (n2 + (n3a + (n3b + (n3c + (n4 + (n5 + (n6 + (n7a + (n7b + (n7c + (n8 + (n9 + (n10 + (n11 + n12)))))))))))))))), fun {p Sh E Dn PostB Aft W O G0 vs} K A S Fr L eb b x m hN hR hE hu => ?_⟩
 have hK : ∀ q ∈ S.ps, K ≠ q.1 := fun q hq => hR.fn.ne hR.k (hR.p q hq) (cells_ne (by decide))
 have hb := hu.m
 have simple : ∀ {n : Nat} {e : Option Nat} {S' : St}, S.grantE b x m = [] → S.grantV b x m = e → (∀ c, S.grantS b x m c = S') → (∃ z, (b, z) ∈ S'.ps) →
     CallsL (domT Tryz.prog p Sh E Dn PostB Aft W O G0) Tryz.prog false 112 [ptr K, ptr b, .int .u8 m, .chan (some E)].toArray n vs L (fun s' v L' => vs = s' ∧ v = erV eb e ∧ ∃ A', Rep K A' S' Fr L') →
     CallsL (domT Tryz.prog p Sh E Dn PostB Aft W O G0) Tryz.prog false 112 [ptr K, ptr b, .int .u8 m, .chan (some E)].toArray n (S.grantE b x m ++ vs) L (fun s' v L' => vs = s' ∧ v = erV eb (S.grantV b x m) ∧ ∃ A' G c, (∀ q ∈ S.ps, c ≠ q.1) ∧ Stays b (S.grantS b x m c) G ∧ Rep K A' (S.grantS b x m c) (G ++ Fr) L') := by
   intro n e S' h1 h2 h3 h4 h
   rw [h1, h2]
   exact callsL_post h fun s' v L' ⟨q1, q2, A', q3⟩ => ⟨q1, q2, A', [], K, hK, by rw [h3]; exact .inl h4, by rw [h3]; exact q3⟩
 refine callsL_split (m = 0) (fun h => ?_) fun h0 => ?_
 · subst h
   exact callsL_post (g0 K A S Fr L eb b x hN hR hE hu) fun s' v L' ⟨q1, q2, A', G, q3, q4⟩ => ⟨q1, q2, A', G, K, hK, q3, q4⟩
 refine callsL_split (m = 1 ∧ 8 ≤ S.ps.length) (fun h => ?_) fun h1 => ?_
 · obtain ⟨rfl, h8⟩ := h
   exact simple (e := some 4) (S' := S) rfl (by simp [St.grantV, h8]) (fun c => by simp [St.grantS, h8]) ⟨x, hb⟩ (callsL_post (g1a K A S Fr L eb b x hN hR hE hu h8) fun s' v L' ⟨q1, q2, q3⟩ => ⟨q1, q2, A, q3⟩)
 refine callsL_split (m = 1) (fun h => ?_) fun h1' => ?_
 · subst h
   have h8 : ¬ 8 ≤ S.ps.length := fun h => h1 ⟨rfl, h⟩
   refine callsL_post (g1b K A S Fr L eb b x hN hR hE hu (by omega)) fun s' v L' ⟨q1, q2, A', c, q3, q4⟩ => ⟨q1, by simp [St.grantV, h8]; exact q2, A', [], c, q3, ?_, ?_⟩
   · simp [St.grantS, h8]; exact .inl (fork_ex hb c)
   · simp [St.grantS, h8]; exact q4
 refine callsL_split (m = 2) (fun h => ?_) fun h2 => ?_
 · subst h
   exact simple rfl rfl (fun c => rfl) (wait_ex hb hu.s) (g2 K A S Fr L eb b x hN hR hE hu)
 refine callsL_split (m = 3 ∧ S.find (x.r 0) = none) (fun h => ?_) fun h3a => ?_
 · obtain ⟨rfl, hf⟩ := h
   exact simple (by simp [St.grantE, hf]) (e := some 6) (by simp [St.grantV, hf]) (S' := S) (fun c => by simp [St.grantS, hf]) ⟨x, hb⟩ (callsL_post (g3a K A S Fr L eb b x hN hR hE hu hf) fun s' v L' ⟨q1, q2, q3⟩ => ⟨q1, q2, A, q3⟩)
 refine callsL_split (m = 3 ∧ ∃ q, S.find (x.r 0) = some q ∧ q.2.st = 6) (fun h => ?_) fun h3b => ?_
 · obtain ⟨rfl, ⟨c, y⟩, hf, h6'⟩ := h
   have h6 : y.st = 6 := h6'
   exact simple (by simp [St.grantE, hf, h6]) (e := some 6) (by simp [St.grantV, hf, h6]) (S' := S) (fun c => by simp [St.grantS, hf, h6]) ⟨x, hb⟩ (callsL_post (g3b K A S Fr L eb b x c y hN hR hE hu hf h6) fun s' v L' ⟨q1, q2, q3⟩ => ⟨q1, q2, A, q3⟩)
 refine callsL_split (m = 3) (fun h => ?_) fun h3 => ?_
 · subst h
   obtain ⟨⟨c, y⟩, hf⟩ : ∃ q, S.find (x.r 0) = some q := by
     cases hf : S.find (x.r 0) with
     | none => exact absurd ⟨rfl, hf⟩ h3a
     | some q => exact ⟨q, rfl⟩
   have h6 : ¬ y.st = 6 := fun h => h3b ⟨rfl, _, hf, h⟩
   have e1 : S.grantE b x 3 = [evt S.now 4 y.id 65280] := by simp [St.grantE, hf, h6]
   have e2 : S.grantV b x 3 = none := by simp [St.grantV, hf, h6]
   have e3 : ∀ c', S.grantS b x 3 c' = (S.fin c y 65280).r0 b 0 := fun c' => by simp [St.grantS, hf, h6]
   rw [e1, e2]
   exact callsL_post (g3c K A S Fr L eb b x c y hN hR hE hu hf h6) fun s' v L' ⟨q1, q2, A', G, q3, q4⟩ => ⟨q1, q2, A', G, K, hK, by rw [e3]; exact q3, by rw [e3]; exact q4⟩
 refine callsL_split (m = 4) (fun h => ?_) fun h4 => ?_
 · subst h
   exact simple (e := none) rfl rfl (fun c => rfl) (sleep_ex hb) (g4 K A S Fr L eb b x hN hR hE hu)
 refine callsL_split (m = 5) (fun h => ?_) fun h5 => ?_
 · subst h
   exact simple (e := none) rfl rfl (fun c => rfl) (yield_ex hb) (g5 K A S Fr L eb b x hN hR hE hu)
 refine callsL_split (m = 6) (fun h => ?_) fun h6 => ?_
 · subst h
   exact simple (e := none) rfl rfl (fun c => rfl) ⟨_, mem_setP_self hb⟩ (callsL_post (g6 K A S Fr L eb b x hN hR hE hu) fun s' v L' ⟨q1, q2, q3⟩ => ⟨q1, q2, A, q3⟩)
 refine callsL_split (m = 7 ∧ S.unused = 0) (fun h => ?_) fun h7a => ?_
 · obtain ⟨rfl, hz⟩ := h
   have e : S.pipeR b x = (some 4, S) := by unfold St.pipeR; rw [if_pos hz]
   exact simple (e := some 4) rfl (by show (S.pipeR b x).1 = _; rw [e]) (S' := S) (fun c => by show (S.pipeR b x).2 = _; rw [e]) ⟨x, hb⟩ (callsL_post (g7a K A S Fr L eb b x hN hR hE hu hz) fun s' v L' ⟨q1, q2, q3⟩ => ⟨q1, q2, A, q3⟩)
 refine callsL_split (m = 7 ∧ (x.frees 6).length < 2) (fun h => ?_) fun h7b => ?_
 · obtain ⟨rfl, hz⟩ := h
   have hu0 : S.unused ≠ 0 := fun h => h7a ⟨rfl, h⟩
   have e : S.pipeR b x = (some 4, S) := by
     unfold St.pipeR; rw [if_neg hu0]
     cases hl : x.frees 6 with
     | nil => rfl
     | cons i l =>
       cases l with
       | nil => rfl
       | cons j l => rw [hl] at hz; simp at hz; omega
   exact simple (e := some 4) rfl (by show (S.pipeR b x).1 = _; rw [e]) (S' := S) (fun c => by show (S.pipeR b x).2 = _; rw [e]) ⟨x, hb⟩ (callsL_post (g7b K A S Fr L eb b x hN hR hE hu hu0 hz) fun s' v L' ⟨q1, q2, q3⟩ => ⟨q1, q2, A, q3⟩)
 refine callsL_split (m = 7) (fun h => ?_) fun h7 => ?_
 · subst h
   have hu0 : S.unused ≠ 0 := fun h => h7a ⟨rfl, h⟩
   have h2 : ¬ (x.frees 6).length < 2 := fun h => h7b ⟨rfl, h⟩
   obtain ⟨i, j, l, hl⟩ : ∃ i j l, x.frees 6 = i :: j :: l := by
     cases hl : x.frees 6 with
     | nil => rw [hl] at h2; simp at h2
     | cons i l =>
       cases l with
       | nil => rw [hl] at h2; simp at h2
       | cons j l => exact ⟨i, j, l, rfl⟩
   have hlt : ∀ i ∈ x.frees 6, i < 6 := fun i hi => by
     unfold PS.frees at hi
     simpa using (List.mem_filter.1 hi).1
   have e : S.pipeR b x = (none, (S.setY S.unused []).setP b (x.piped S.unused i j)) := by unfold St.pipeR; rw [if_neg hu0, hl]
   exact simple (e := none) rfl (by show (S.pipeR b x).1 = _; rw [e]) (S' := (S.setY S.unused []).setP b (x.piped S.unused i j)) (fun c => by show (S.pipeR b x).2 = _; rw [e]) ⟨_, mem_setP_self (S := S.setY S.unused []) hb⟩ (g7c K A S Fr L eb b x i j l hN hR hE hu hu0 hl (hlt i (by rw [hl]; simp)) (hlt j (by rw [hl]; simp)))
 refine callsL_split (m = 8) (fun h => ?_) fun h8 => ?_
 · subst h
   exact simple rfl rfl (fun c => rfl) (close_ex hu.i hb hu.o) (g8 K A S Fr L eb b x hN hR hE hu)
 refine callsL_split (m = 9) (fun h => ?_) fun h9 => ?_
 · subst h
   exact simple rfl rfl (fun c => rfl) (ask_ex hu.i hb hu.o hu.s (.inl rfl) (by omega)) (g9 K A S Fr L eb b x hN hR hE hu)
 refine callsL_split (m = 10) (fun h => ?_) fun h10 => ?_
 · subst h
   exact simple rfl rfl (fun c => rfl) (ask_ex hu.i hb hu.o hu.s (.inr rfl) (by omega)) (g10 K A S Fr L eb b x hN hR hE hu)
 refine callsL_split (m = 11) (fun h => ?_) fun h11 => ?_
 · subst h
   exact callsL_post (g11 K A S Fr L eb b x hN hR hE hu) fun s' v L' ⟨q1, q2, q3⟩ => ⟨q1, q2, A, [], K, hK, .inl ⟨_, mem_setP_self hb⟩, q3⟩
 · have h1'' : ¬ m = 1 := h1'
   refine simple (e := some 9) (S' := S) (by simp [St.grantE, h0, h3, h11]) (by simp [St.grantV, h0, h1'', h2, h3, h4, h5, h6, h7, h8, h9, h10, h11]) (fun c => by simp [St.grantS, h0, h1'', h2, h3, h4, h5, h6, h7, h8, h9, h10, h11]) ⟨x, hb⟩ (callsL_post (g12 K A S Fr L eb b x m hN hR hE hu fun i hi1 hi2 => ?_) fun s' v L' ⟨q1, q2, q3⟩ => ⟨q1, q2, A, q3⟩)
   omega
theorem trap_0 : ∃ n, ∀ {p : Par} {Sh : Loc → Prop} {E Dn : Nat} {PostB : World → Prop} {Aft : Goroutine → World → Prop} {W : World} {O : Nat} {G0 : List (Nat × Obj)} {vs : List Value} (K : Nat) (A : Lay) (S : St) (Fr L : Frag) (eb : Nat → Nat × Nat) (b : Nat) (x : PS) (m : Int), (∀ s, NewT (domT Tryz.prog p Sh E Dn PostB Aft W O G0 s)) → Rep K A S Fr L → Ers eb Fr → Running S b x → S.grantV b x m = none →
   CallsL (domT Tryz.prog p Sh E Dn PostB Aft W O G0) Tryz.prog false 95 [ptr K, ptr b, .int .u8 m, .chan (some E)].toArray n (S.grantE b x m ++ vs) L (fun s' v L' => vs = s' ∧ v = .nilIface ∧ ∃ A' G c, (∀ q ∈ S.ps, c ≠ q.1) ∧ Stays b (S.grantS b x m c) G ∧ Rep K A' (S.grantS b x m c) (G ++ Fr) L') := by
 obtain ⟨n0, g0⟩ := grant_s
 obtain ⟨n1, g1⟩ := refuse_0
 apply Exists.intro
 intro p Sh E Dn PostB Aft W O G0 vs K A S Fr L eb b x m hN hR hE hu hV
 co_applyP callsE 17 Tryz.func95 Tryz.ntmps95
 co_applyP c_seq
 co_applyP c_region
 co_applyP oy rfl E_as
 co_applyP o_nil
 change wpE ..
 co_applyP c_seq
 co_applyP c_region
 co_applyP oy rfl E_mv
 co_applyP oy rfl (E_cv (hs := Tryz.underlying5) (ht := Tryz.underlying3))
 co_applyP oy rfl E_mv
 co_applyP oy rfl E_mv
 co_applyP oy rfl E_mv
 co_applyP oy rfl E_mv
 co_applyP oc rfl rfl rfl (g0 K A S Fr L eb b x m hN hR hE hu)
 rintro _ _ _ ⟨rfl, rfl, A2, G, c, hc, hst, hR2⟩
 rename_i L2
 rw [hV]
 co_applyP oc rfl rfl rfl (g1 L2 _)
 rintro _ _ _ ⟨rfl, rfl, rfl⟩
 co_applyP oy rfl E_as
 co_applyP o_nil
 change wpE ..
 co_applyP c_ret
 change ∃ v, resE .. = some v ∧ _
 exact ⟨_, rfl, rfl, rfl, A2, G, c, hc, hst, hR2⟩
theorem trap_1 : ∃ n, ∀ {p : Par} {Sh : Loc → Prop} {E Dn : Nat} {PostB : World → Prop} {Aft : Goroutine → World → Prop} {W : World} {O : Nat} {G0 : List (Nat × Obj)} {vs : List Value} (K : Nat) (A : Lay) (S : St) (Fr L : Frag) (eb : Nat → Nat × Nat) (b : Nat) (x : PS) (m : Int) (i : Nat), (∀ s, NewT (domT Tryz.prog p Sh E Dn PostB Aft W O G0 s)) → Rep K A S Fr L → Ers eb Fr → Running S b x → S.grantV b x m = some i →
   CallsL (domT Tryz.prog p Sh E Dn PostB Aft W O G0) Tryz.prog false 95 [ptr K, ptr b, .int .u8 m, .chan (some E)].toArray n (S.grantE b x m ++ vs) L (fun s' v L' => vs = s' ∧ ∃ r, v = .iface 180 (ptr r) ∧ At L' r 1 (erv eb i) ∧ ∃ A' G c, (∀ q ∈ S.ps, c ≠ q.1) ∧ Stays b (S.grantS b x m c) G ∧ Rep K A' (S.grantS b x m c) (G ++ Fr) L') := by
 obtain ⟨n0, g0⟩ := grant_s
 obtain ⟨n1, g1⟩ := refuse_1
 apply Exists.intro
 intro p Sh E Dn PostB Aft W O G0 vs K A S Fr L eb b x m i hN hR hE hu hV
 co_applyP callsE 17 Tryz.func95 Tryz.ntmps95
 co_applyP c_seq
 co_applyP c_region
 co_applyP oy rfl E_as
 co_applyP o_nil
 change wpE ..
 co_applyP c_seq
 co_applyP c_region
 co_applyP oy rfl E_mv
 co_applyP oy rfl (E_cv (hs := Tryz.underlying5) (ht := Tryz.underlying3))
 co_applyP oy rfl E_mv
 co_applyP oy rfl E_mv
 co_applyP oy rfl E_mv
 co_applyP oy rfl E_mv
 co_applyP oc rfl rfl rfl (g0 K A S Fr L eb b x m hN hR hE hu)
 rintro _ _ _ ⟨rfl, rfl, A2, G, c, hc, hst, hR2⟩
 rename_i L2
 rw [hV]
 co_applyP oc rfl rfl rfl (g1 L2 _ (eb i) (hN _).d)
 rintro _ _ _ ⟨rfl, r, rfl, hA3⟩
 co_applyP oy rfl E_as
 co_applyP o_nil
 change wpE ..
 co_applyP c_ret
 change ∃ v, resE .. = some v ∧ _
 exact ⟨_, rfl, rfl, r, rfl, ⟨true, _, _, _, hA3.self, rfl⟩, A2, G, c, hc, hst, hR2.add hA3⟩
theorem gext {A : Lay} {S : St} {K : Nat} {F L : Frag} (hR : Rep K A S F L) {i : Nat} (hi : i < S.pn) : A.gc.extract (4 * i) (4 * i + 4) = #[.int .u8 (S.pg i 0), .int .u8 (S.pg i 1), .int .u8 (S.pg i 2), .int .u8 (S.pg i 3)] ∧ 4 * i + 4 ≤ A.gc.size := by
 have h0 := hR.gv i 0 hi (by omega)
 have h1 := hR.gv i 1 hi (by omega)
 have h2 := hR.gv i 2 hi (by omega)
 have h3 := hR.gv i 3 hi (by omega)
 obtain ⟨l3, e3⟩ := Array.getElem?_eq_some_iff.1 h3
 obtain ⟨_, e0⟩ := Array.getElem?_eq_some_iff.1 h0
 obtain ⟨_, e1⟩ := Array.getElem?_eq_some_iff.1 h1
 obtain ⟨_, e2⟩ := Array.getElem?_eq_some_iff.1 h2
 refine ⟨?_, by omega⟩
 apply Array.ext
 · simp; omega
 · intro j h4 h5
   simp at h5
   simp only [Array.getElem_extract]
   have : j = 0 ∨ j = 1 ∨ j = 2 ∨ j = 3 := by omega
   rcases this with rfl | rfl | rfl | rfl
   · simpa using e0
   · simpa using e1
   · simpa using e2
   · simpa using e3
theorem step_0 : ∃ n, ∀ {σ : Type} {F : Fam σ} {Δ : ∀ s, Dom (F.R s) (F.D s)} {main : Bool} {s : σ} (K : Nat) (A : Lay) (S : St) (Fr L : Frag) (eb : Nat → Nat × Nat) (b : Nat) (x : PS) (ch : Value), Rep K A S Fr L → Ers eb Fr → (b, x) ∈ S.ps → S.pn ≤ x.at_ →
   CallsL Δ Tryz.prog main 85 [ptr K, ptr b, ch].toArray n s L (fun s' v L' => s = s' ∧ L = L' ∧ v = erv eb 0) := by
 apply Exists.intro
 intro σ F Δ main s K A S Fr L eb b x ch hR hE hb hp
 have hat : At L b 4 (.int .i64 (x.at_ : Nat)) := hR.pat hb (i := 4) rfl
 have hpg : At L K 4 (.slice (some ⟨A.g, 0, none⟩) S.pn A.gcap) := hR.kat rfl
 have hg := (hE.mono hR.fr).g 0 (by decide) (by decide)
 have e1 : decide ((S.pn : Int) ≤ (x.at_ : Int)) = true := by simp; omega
 co_applyP callsE 52 Tryz.func85 Tryz.ntmps85
 co_applyP c_seq
 co_applyP c_region
 co_applyP oy rfl E_as
 co_applyP o_nil
 change wpE ..
 co_applyP c_seq (n₂ := 0)
 co_applyP c_seq
 co_applyP c_drawq mixed
 co_applyP tr (i := 0) rfl E_mv pI
 co_applyP tr (i := 1) rfl E_nc pI
 co_applyP tr (i := 2) rfl (E_fa (hf := fo_99_0)) pI
 co_applyP tr (i := 3) rfl (E_fa (hf := fo_49_4)) pI
 co_applyP tr (i := 4) rfl (E_ld (ht := ag_3)) pI
 co_applyP tr (i := 5) rfl E_mv pI
 co_applyP tr (i := 6) rfl E_nc pI
 co_applyP tr (i := 7) rfl (E_fa (hf := fo_115_1)) pI
 co_applyP tr (i := 8) rfl (E_ld (ht := ag_108)) pI
 co_applyP tr (i := 9) rfl (E_len (hu := Tryz.underlying108)) pI
 co_applyP tr (i := 10) rfl E_geq pI
 co_applyP td (by kernel_rfl)
 change wpE ..
 rw [e1]
 co_applyP c_true rfl
 co_applyP c_seq
 co_applyP c_region
 co_applyP oy rfl (E_ld (ht := ag_168))
 co_applyP oy rfl E_as
 co_applyP o_nil
 change wpE ..
 co_applyP c_ret
 change ∃ v, resE .. = some v ∧ _
 exact ⟨_, rfl, rfl, rfl, rfl⟩
end Go.Proofs.YtejkelcaljmnoaaGreatDoor
