/-
  Part 41 of the proof.
  No condition but those that each statement names.
-/
import Derived.Test.YtejkelcaljmnoaaGreatDoorHy40
set_option maxRecDepth 100000
set_option linter.unusedVariables false
set_option linter.unusedSimpArgs false
set_option linter.unusedSectionVars false
namespace Go.Proofs.YtejkelcaljmnoaaGreatDoor
open Go.Conc Go.Hx Go.Lo
theorem grant_err {S : St} {b : Nat} {x : PS} {m : Int} {i : Nat} (h : S.grantV b x m = some i) : (∀ c, S.grantS b x m c = S) ∧ i < 11 ∧ i ≠ 2 := by
 unfold St.grantV at h
 unfold St.grantS
 by_cases h0 : m = 0
 · simp [h0] at h
 by_cases h1 : m = 1
 · subst h1
   simp at h
   obtain ⟨h8, rfl⟩ := h
   simp [h8]
 by_cases h2 : m = 2
 · subst h2
   simp at h
   unfold St.waitR at *
   split at h
   · simp at h
   · rename_i hc
     simp at h
     subst h
     simp [hc]
 by_cases h3 : m = 3
 · subst h3
   simp at h
   cases hf : S.find (x.r 0) with
   | none => rw [hf] at h; simp at h; subst h; simp
   | some q =>
     rw [hf] at h
     simp at h
     obtain ⟨h6, rfl⟩ := h
     simp [h6]
 by_cases h4 : m = 4
 · simp [h4] at h
 by_cases h5 : m = 5
 · simp [h5] at h
 by_cases h6 : m = 6
 · simp [h6] at h
 by_cases h7 : m = 7
 · subst h7
   simp at h
   unfold St.pipeR at *
   split at h
   · rename_i hu; simp at h; subst h; simp [hu]
   · rename_i hu
     simp only [hu, if_false]
     split at h
     · simp at h
     · rename_i hf
       simp at h
       subst h
       refine ⟨fun c => ?_, by omega, by omega⟩
       simp
 by_cases h8 : m = 8
 · subst h8
   simp at h
   unfold St.closeR at *
   split at h
   · rename_i hf; simp at h; subst h; simp [hf]
   · simp at h
 by_cases h9 : m = 9
 · subst h9
   simp at h
   unfold St.askR at *
   cases hc : x.checkUse 4 64 with
   | none => rw [hc] at h; simp at h
   | some j =>
     rw [hc] at h
     simp at h
     subst h
     refine ⟨fun c => by simp, ?_⟩
     unfold PS.checkUse at hc
     split at hc
     · simp at hc; omega
     · split at hc
       · simp at hc; omega
       · split at hc
         · simp at hc; omega
         · cases hc
 by_cases h10 : m = 10
 · subst h10
   simp at h
   unfold St.askR at *
   cases hc : x.checkUse 5 8 with
   | none => rw [hc] at h; simp at h
   | some j =>
     rw [hc] at h
     simp at h
     subst h
     refine ⟨fun c => by simp, ?_⟩
     unfold PS.checkUse at hc
     split at hc
     · simp at hc; omega
     · split at hc
       · simp at hc; omega
       · split at hc
         · simp at hc; omega
         · cases hc
 by_cases h11 : m = 11
 · simp [h11] at h
 · simp [h0, h1, h2, h3, h4, h5, h6, h7, h8, h9, h10, h11] at h
   subst h
   simp [h0, h1, h2, h3, h4, h5, h6, h7, h8, h9, h10, h11]
theorem errv_ex (eb : Nat → Nat × Nat) (e : Nat) : ∃ d, errv (erv eb 0) (erv eb 1) (erv eb 10) e = .iface 255 (ptq d) := by
 unfold errv
 split
 · exact ⟨_, rfl⟩
 · exact ⟨_, rfl⟩
 · exact ⟨_, rfl⟩
set_option maxHeartbeats 1000000 in
theorem tick_1 : ∃ n, ∀ {p : Par} {Sh : Loc → Prop} {E Dn : Nat} {PostB : World → Prop} {Aft : Goroutine → World → Prop} {W : World} {O : Nat} {G0 : List (Nat × Obj)} {vs : List Value} (K : Nat) (A : Lay) (S : St) (Fr L : Frag) (eb : Nat → Nat × Nat) (b : Nat) (x : PS), (∀ s, NewT (domT Tryz.prog p Sh E Dn PostB Aft W O G0 s)) → Rep K A S Fr L → Ers eb Fr → Inv S → S.bo ≠ 0 → S.lead.first = some b → Running S.lead b x → S.pn ≤ 256 → (∀ i, i < S.pn → ∀ j, j < 4 → 0 ≤ S.pg i j ∧ S.pg i j < 256) → (∀ c, (∀ q ∈ S.lead.ps, c ≠ q.1) → Inv (S.lead.runS b x c) ∧ ∀ z, (b, z) ∈ (S.lead.runS b x c).ps → z.used < 4611686018427387904) →
   CallsL (domT Tryz.prog p Sh E Dn PostB Aft W O G0) Tryz.prog false 63 [ptr K, .chan (some E)].toArray n (evt S.lead.now 1 x.id x.at_ :: (S.lead.runE b x ++ vs)) L (fun s' v L' => vs = s' ∧ v = .tuple #[] ∧ ∃ A' c, (∀ q ∈ S.lead.ps, c ≠ q.1) ∧ Rep K A' ((S.lead.runS b x c).after b) Fr L') := by
 obtain ⟨n0, g0⟩ := wakeSleepers_s
 obtain ⟨n1, g1⟩ := raise_s
 obtain ⟨n2, g2⟩ := first_s
 obtain ⟨n3, g3⟩ := tell_s
 obtain ⟨n4, g4⟩ := step_0
 obtain ⟨n5, g5⟩ := step_t0
 obtain ⟨n6, g6⟩ := step_t1
 obtain ⟨n7, g7⟩ := step_d
 obtain ⟨n8, g8⟩ := settle_0
 obtain ⟨n9, g9⟩ := settle_r
 obtain ⟨n10, g10⟩ := settle_f
 obtain ⟨n11, g11⟩ := turn_s
 apply Exists.intro
 intro p Sh E Dn PostB Aft W O G0 vs K A S Fr L eb b x hN hR hE hI hbo hf hu hpn hby hres
 have hfx := fix_lead S
 co_applyP callsE 75 Tryz.func63 Tryz.ntmps63
 co_applyP c_seq
 co_applyP c_region
 co_applyP oy rfl E_mv
 co_applyP oc rfl rfl rfl (g0 K A S Fr L (hN _).r hR hI.g)
 rintro _ _ _ ⟨rfl, rfl, hG1, hrel, A1, hl1, hR1⟩
 co_applyP o_nil
 change wpE ..
 rename_i L1
 have hbo' : (S.wakes (S.ps.map (·.1))).bo ≠ 0 := by rw [show (S.wakes (S.ps.map (·.1))).bo = S.bo from (fix_wakes _ S).bo]; exact hbo
 have hn1 : At L1 K 16 (.int .i64 ((S.wakes (S.ps.map (·.1))).now : Nat)) := hR1.kat rfl
 have hb1 : At L1 K 3 (.int .i64 (S.wakes (S.ps.map (·.1))).bo) := hR1.kat rfl
 co_applyP c_mid (fun s'' ε'' L'' => (evt S.lead.now 1 x.id x.at_ :: (S.lead.runE b x ++ vs)) = s'' ∧ kn ε'' [(0, ptr K), (1, .chan (some E))] ∧ ∃ A', Rep K A' S.lead Fr L'')
 co_applyP c_split (0 < (S.wakes (S.ps.map (·.1))).now)
 intro h0
 · have e0 : decide ((0 : Int) < ((S.wakes (S.ps.map (·.1))).now : Nat)) = true := by simp; omega
   co_applyP c_split ((((S.wakes (S.ps.map (·.1))).now : Nat) : Int).tmod (S.wakes (S.ps.map (·.1))).bo = 0)
   intro hm
   · have hB : S.lead = ((S.wakes (S.ps.map (·.1))).lifts ((S.wakes (S.ps.map (·.1))).ps.map (·.1))).raises 2 := by unfold St.lead St.boost; rw [if_pos (show S.wake.boosts from ⟨h0, hm⟩)]; rfl
     co_applyP c_seq
     co_applyP c_drawq mixed
     co_applyP tr (i := 0) rfl E_mv pI
     co_applyP tr (i := 1) rfl E_nc pI
     co_applyP tr (i := 2) rfl (E_fa (hf := fo_115_7)) pI
     co_applyP tr (i := 3) rfl (E_ld (ht := ag_3)) pI
     co_applyP tr (i := 4) rfl E_gtr pI
     co_applyP tr (i := 5) rfl E_mv pI
     rw [e0]
     co_applyP tr (i := 6) rfl (E_mv) pI
     co_applyP tr (i := 7) rfl (E_nc) pI
     co_applyP tr (i := 8) rfl ((E_fa (hf := fo_115_7))) pI
     co_applyP tr (i := 9) rfl ((E_ld (ht := ag_3))) pI
     co_applyP tr (i := 10) rfl (E_mv) pI
     co_applyP tr (i := 11) rfl (E_nc) pI
     co_applyP tr (i := 12) rfl ((E_fa (hf := fo_115_0))) pI
     co_applyP tr (i := 13) rfl ((E_fa (hf := fo_26_1))) pI
     co_applyP tr (i := 14) rfl ((E_ld (ht := ag_3))) pI
     co_applyP tr (i := 15) rfl (E_rem) pI
     co_applyP tr (i := 16) rfl (E_eql) pI
     co_applyP tr (i := 17) rfl E_pick pI
     co_applyP td (by kernel_rfl)
     change wpE ..
     rw [hm]
     co_applyP c_true rfl
     co_applyP c_region
     co_applyP oy rfl E_mv
     co_applyP oc rfl rfl rfl (g1 K A1 _ Fr L1 (hN _).r hR1 (fun l hl => hG1.r8 hl))
     rintro _ _ _ ⟨rfl, rfl, A2, hl2, hR2⟩
     co_applyP o_nil
     change _ = _ ∧ kn _ _ ∧ ∃ A', _
     exact ⟨rfl, rfl, A2, by rw [hB]; exact hR2⟩
   intro hm
   have hB : S.lead = S.wakes (S.ps.map (·.1)) := by unfold St.lead St.boost; rw [if_neg (fun h => hm h.2)]; rfl
   have em : ((((S.wakes (S.ps.map (·.1))).now : Nat) : Int).tmod (S.wakes (S.ps.map (·.1))).bo == 0) = false := by simp [hm]
   co_applyP c_seq
   co_applyP c_drawq mixed
   co_applyP tr (i := 0) rfl E_mv pI
   co_applyP tr (i := 1) rfl E_nc pI
   co_applyP tr (i := 2) rfl (E_fa (hf := fo_115_7)) pI
   co_applyP tr (i := 3) rfl (E_ld (ht := ag_3)) pI
   co_applyP tr (i := 4) rfl E_gtr pI
   co_applyP tr (i := 5) rfl E_mv pI
   rw [e0]
   co_applyP tr (i := 6) rfl (E_mv) pI
   co_applyP tr (i := 7) rfl (E_nc) pI
   co_applyP tr (i := 8) rfl ((E_fa (hf := fo_115_7))) pI
   co_applyP tr (i := 9) rfl ((E_ld (ht := ag_3))) pI
   co_applyP tr (i := 10) rfl (E_mv) pI
   co_applyP tr (i := 11) rfl (E_nc) pI
   co_applyP tr (i := 12) rfl ((E_fa (hf := fo_115_0))) pI
   co_applyP tr (i := 13) rfl ((E_fa (hf := fo_26_1))) pI
   co_applyP tr (i := 14) rfl ((E_ld (ht := ag_3))) pI
   co_applyP tr (i := 15) rfl (E_rem) pI
   co_applyP tr (i := 16) rfl (E_eql) pI
   co_applyP tr (i := 17) rfl E_pick pI
   co_applyP td (by kernel_rfl)
   change wpE ..
   rw [em]
   co_applyP c_false rfl
   co_applyP c_skip
   change _ = _ ∧ kn _ _ ∧ ∃ A', _
   exact ⟨rfl, rfl, A1, by rw [hB]; exact hR1⟩
 intro h0
 have e0 : decide ((0 : Int) < ((S.wakes (S.ps.map (·.1))).now : Nat)) = false := by simp; omega
 have hB : S.lead = S.wakes (S.ps.map (·.1)) := by unfold St.lead St.boost; rw [if_neg (fun h => h0 h.1)]; rfl
 co_applyP c_seq
 co_applyP c_drawq mixed
 co_applyP tr (i := 0) rfl E_mv pI
 co_applyP tr (i := 1) rfl E_nc pI
 co_applyP tr (i := 2) rfl (E_fa (hf := fo_115_7)) pI
 co_applyP tr (i := 3) rfl (E_ld (ht := ag_3)) pI
 co_applyP tr (i := 4) rfl E_gtr pI
 co_applyP tr (i := 5) rfl E_mv pI
 rw [e0]
 co_applyP tu (i := 6) rfl pI
 co_applyP tu (i := 7) rfl pI
 co_applyP tu (i := 8) rfl pI
 co_applyP tu (i := 9) rfl pI
 co_applyP tu (i := 10) rfl pI
 co_applyP tu (i := 11) rfl pI
 co_applyP tu (i := 12) rfl pI
 co_applyP tu (i := 13) rfl pI
 co_applyP tu (i := 14) rfl pI
 co_applyP tu (i := 15) rfl pI
 co_applyP tu (i := 16) rfl pI
 co_applyP tr (i := 17) rfl E_pick pI
 co_applyP td (by kernel_rfl)
 change wpE ..
 co_applyP c_false rfl
 co_applyP c_skip
 change _ = _ ∧ kn _ _ ∧ ∃ A', _
 exact ⟨rfl, rfl, A1, by rw [hB]; exact hR1⟩
 rintro _ ε2 L2 ⟨rfl, he2, A2, hR2⟩
 co_applyP wpE_kn he2
 have hb := hu.m
 have hid : At L2 b 0 (.int .i64 (x.id : Nat)) := hR2.pat hb (i := 0) rfl
 have hat : At L2 b 4 (.int .i64 (x.at_ : Nat)) := hR2.pat hb (i := 4) rfl
 have hK2 : ∀ q ∈ S.lead.ps, K ≠ q.1 := fun q hq => hR2.fn.ne hR2.k (hR2.p q hq) (cells_ne (by decide))
 have hFb : ∀ t ∈ Fr, t.1 ≠ b := fun t ht => (hR2.fd t ht).2.1 _ hb
 generalize hT : S.lead = T at *
 co_applyP c_seq
 co_applyP c_region
 co_applyP oy rfl E_mv
 co_applyP oy rfl E_nc
 co_applyP oy rfl (E_fa (hf := fo_115_4))
 co_applyP oc rfl rfl rfl (g2 K A2 _ Fr L2 hR2)
 rintro _ _ _ ⟨rfl, rfl, rfl⟩
 rw [hf]
 co_applyP oy rfl E_as
 co_applyP o_nil
 change wpE ..
 co_applyP c_seq
 co_applyP c_seq
 co_applyP c_region
 co_applyP oy rfl E_mv
 co_applyP oy rfl (E_eqn (hu := Tryz.underlying93))
 co_applyP o_nil
 change wpE ..
 co_applyP c_false rfl
 co_applyP c_skip
 change wpE ..
 co_applyP c_seq
 co_applyP c_last 12 mixed
 co_applyP lt (i := 0) rfl E_mv
 co_applyP lt (i := 1) rfl E_mv
 co_applyP lt (i := 2) rfl E_mv
 co_applyP lt (i := 3) rfl E_nc
 co_applyP lt (i := 4) rfl (E_fa (hf := fo_99_0))
 co_applyP lt (i := 5) rfl (E_fa (hf := fo_49_0))
 co_applyP lt (i := 6) rfl (E_ld (ht := ag_3))
 co_applyP lt (i := 7) rfl E_mv
 co_applyP lt (i := 8) rfl E_nc
 co_applyP lt (i := 9) rfl (E_fa (hf := fo_99_0))
 co_applyP lt (i := 10) rfl (E_fa (hf := fo_49_4))
 co_applyP lt (i := 11) rfl (E_ld (ht := ag_3))
 co_applyP lc (i := 12) rfl rfl rfl (g3 K A2 _ Fr L2 1 x.id x.at_ hR2)
 rintro _ _ _ ⟨rfl, rfl, rfl⟩
 change wpE ..
 co_applyP c_mid (fun s'' ε'' L'' => vs = s'' ∧ kn ε'' [(0, ptr K), (1, .chan (some E)), (4, ptr b)] ∧ ∃ A' G c, (∀ q ∈ T.ps, c ≠ q.1) ∧ Stays b (T.runS b x c) G ∧ Rep K A' (T.runS b x c) (G ++ Fr) L'')
 co_applyP c_split (T.pn ≤ x.at_)
 intro hp
 · have eE : T.runE b x = [evt T.now 4 x.id 65281] := by unfold St.runE; rw [if_pos hp]
   have eS : ∀ c, T.runS b x c = T.fin b x 65281 := fun c => by unfold St.runS; rw [if_pos hp]
   rw [eE]
   co_applyP c_region
   co_applyP oy rfl E_mv
   co_applyP oy rfl E_mv
   co_applyP oy rfl E_mv
   co_applyP oy rfl E_mv
   co_applyP oy rfl E_mv
   co_applyP oc rfl rfl rfl (g4 K A2 T Fr L2 eb b x _ hR2 hE hb hp)
   rintro _ _ _ ⟨rfl, rfl, rfl⟩
   co_applyP oy rfl E_mv
   co_applyP oc rfl rfl rfl (g10 K A2 T Fr L2 eb b x (eb 0) (fun s => (hN s).toNewK) hR2 hE hu.i hb)
   rintro _ _ _ ⟨rfl, rfl, A3, G, hall, hR3⟩
   co_applyP o_nil
   change _ = _ ∧ kn _ _ ∧ ∃ A' G c, _
   exact ⟨rfl, rfl, A3, G, K, hK2, by rw [eS]; exact hall _ hb, by rw [eS]; exact hR3⟩
 intro hp
 have hp' : x.at_ < T.pn := by omega
 have h256 : T.pn ≤ 256 := by rw [hfx.pn]; exact hpn
 have hby' : ∀ j, j < 4 → 0 ≤ T.pg x.at_ j ∧ T.pg x.at_ j < 256 := fun j hj => by rw [hfx.pg]; exact hby _ (by rw [← hfx.pn]; exact hp') j hj
 co_applyP c_split (T.pg x.at_ 0 = 9)
 intro h9
 · have eE : T.runE b x = (T.setP b x.next).grantE b x.next (T.pg x.at_ 1) := by unfold St.runE; rw [if_neg hp, if_pos h9]
   rw [eE]
   co_applyP c_split ((T.setP b x.next).grantV b x.next (T.pg x.at_ 1) = none)
   intro hV
   · have eS : ∀ c, T.runS b x c = (T.setP b x.next).grantS b x.next (T.pg x.at_ 1) c := fun c => by unfold St.runS; rw [if_neg hp, if_pos h9, hV]
     co_applyP c_region
     co_applyP oy rfl E_mv
     co_applyP oy rfl E_mv
     co_applyP oy rfl E_mv
     co_applyP oy rfl E_mv
     co_applyP oy rfl E_mv
     co_applyP oc rfl rfl rfl (g5 K A2 T Fr L2 eb b x hN hR2 hE hu hp' h256 h9 hV)
     rintro _ _ _ ⟨rfl, rfl, A3, G, c, hc, hst, hR3⟩
     co_applyP oy rfl E_mv
     rename_i L3
     co_applyP oc rfl rfl rfl (g8 L3 K b _)
     rintro _ _ _ ⟨rfl, rfl, rfl⟩
     co_applyP o_nil
     change _ = _ ∧ kn _ _ ∧ ∃ A' G c, _
     exact ⟨rfl, rfl, A3, G, c, hc, by rw [eS]; exact hst, by rw [eS]; exact hR3⟩
   intro hV
   obtain ⟨i, hVi⟩ : ∃ i, (T.setP b x.next).grantV b x.next (T.pg x.at_ 1) = some i := by
     cases h : (T.setP b x.next).grantV b x.next (T.pg x.at_ 1) with
     | none => exact absurd h hV
     | some i => exact ⟨i, rfl⟩
   obtain ⟨hsame, hi11, hi2⟩ := grant_err hVi
   have hbn : (b, x.next) ∈ (T.setP b x.next).ps := mem_setP_self hb
   have eS : ∀ c, T.runS b x c = (T.setP b x.next).setP b (x.next.r0 (ansOf i)) := fun c => by
     unfold St.runS; rw [if_neg hp, if_pos h9, hVi]
     simp only [hsame]
     unfold St.r0
     rw [get_of (by rw [setP_fst]; exact hu.i.g.pn) hbn]
   co_applyP c_region
   co_applyP oy rfl E_mv
   co_applyP oy rfl E_mv
   co_applyP oy rfl E_mv
   co_applyP oy rfl E_mv
   co_applyP oy rfl E_mv
   co_applyP oc rfl rfl rfl (g6 K A2 T Fr L2 eb b x i hN hR2 hE hu hp' h256 h9 hVi)
   rintro _ _ _ ⟨rfl, r, rfl, hr, A3, G, c, hc, hst, hR3⟩
   co_applyP oy rfl E_mv
   rename_i L3
   rw [hsame] at hR3
   co_applyP oc rfl rfl rfl (g9 K A3 _ _ L3 eb b x.next r i _ (hN _).toNewK hR3 (hE.mono fun t ht => List.mem_append_right _ ht) hbn hr hi11 hi2)
   rintro _ _ _ ⟨rfl, rfl, hR4⟩
   co_applyP o_nil
   change _ = _ ∧ kn _ _ ∧ ∃ A' G c, _
   exact ⟨rfl, rfl, A3, G, c, hc, by rw [eS]; exact .inl ⟨_, mem_setP_self hbn⟩, by rw [eS]; exact hR4⟩
 intro h9
 co_applyP c_split (∃ x', T.doR x = .ok x')
 intro hd
 · obtain ⟨x', hd'⟩ := hd
   have eE : T.runE b x = [] := by unfold St.runE; rw [if_neg hp, if_neg h9, hd']
   have eS : ∀ c, T.runS b x c = T.setP b x' := fun c => by unfold St.runS; rw [if_neg hp, if_neg h9, hd']
   rw [eE]
   co_applyP c_region
   co_applyP oy rfl E_mv
   co_applyP oy rfl E_mv
   co_applyP oy rfl E_mv
   co_applyP oy rfl E_mv
   co_applyP oy rfl E_mv
   co_applyP oc rfl rfl rfl (g7 K A2 T Fr L2 eb b x _ (hN _).i hR2 hE hu.i hb hp' h256 h9 hby')
   rintro _ _ _ ⟨rfl, hpost⟩
   rename_i v3 L3
   rw [show x.do (T.pg x.at_ 0) (T.pg x.at_ 1) (T.pg x.at_ 2) (T.pg x.at_ 3) = .ok x' from hd'] at hpost
   obtain ⟨rfl, hR3⟩ := hpost
   co_applyP oy rfl E_mv
   co_applyP oc rfl rfl rfl (g8 L3 K b _)
   rintro _ _ _ ⟨rfl, rfl, rfl⟩
   co_applyP o_nil
   change _ = _ ∧ kn _ _ ∧ ∃ A' G c, _
   exact ⟨rfl, rfl, A2, [], K, hK2, by rw [eS]; exact .inl ⟨_, mem_setP_self hb⟩, by rw [eS]; exact hR3⟩
 intro hd
 obtain ⟨e, hd'⟩ : ∃ e, T.doR x = .error e := by
   cases h : T.doR x with
   | ok x' => exact absurd ⟨x', h⟩ hd
   | error e => exact ⟨e, rfl⟩
 obtain ⟨d, hde⟩ := errv_ex eb e
 have eE : T.runE b x = [evt T.now 4 x.id 65281] := by unfold St.runE; rw [if_neg hp, if_neg h9, hd']
 have eS : ∀ c, T.runS b x c = T.fin b x 65281 := fun c => by unfold St.runS; rw [if_neg hp, if_neg h9, hd']
 rw [eE]
 co_applyP c_region
 co_applyP oy rfl E_mv
 co_applyP oy rfl E_mv
 co_applyP oy rfl E_mv
 co_applyP oy rfl E_mv
 co_applyP oy rfl E_mv
 co_applyP oc rfl rfl rfl (g7 K A2 T Fr L2 eb b x _ (hN _).i hR2 hE hu.i hb hp' h256 h9 hby')
 rintro _ _ _ ⟨rfl, hpost⟩
 rename_i v3 L3
 rw [show x.do (T.pg x.at_ 0) (T.pg x.at_ 1) (T.pg x.at_ 2) (T.pg x.at_ 3) = .error e from hd'] at hpost
 obtain ⟨rfl, hR3⟩ := hpost
 rw [hde]
 co_applyP oy rfl E_mv
 co_applyP oc rfl rfl rfl (g10 K A2 T Fr L3 eb b x d (fun s => (hN s).toNewK) hR3 hE hu.i hb)
 rintro _ _ _ ⟨rfl, rfl, A4, G, hall, hR4⟩
 co_applyP o_nil
 change _ = _ ∧ kn _ _ ∧ ∃ A' G c, _
 exact ⟨rfl, rfl, A4, G, K, hK2, by rw [eS]; exact hall _ hb, by rw [eS]; exact hR4⟩
 rintro _ ε3 L3 ⟨rfl, he3, A3, G, c, hc, hst, hR3⟩
 co_applyP wpE_kn he3
 obtain ⟨hIc, huc⟩ := hres c hc
 obtain ⟨z, hzL, hz⟩ := Stays.at hR3 hst
 have hz6 : At L3 b 6 (.int .i64 (z.used : Nat)) := ⟨true, _, _, _, hzL, rfl⟩
 co_applyP c_seq
 co_applyP c_region
 co_applyP oy rfl E_mv
 co_applyP oy rfl E_nc
 co_applyP oy rfl (E_fa (hf := fo_99_0))
 co_applyP oy rfl (E_fa (hf := fo_49_6))
 co_applyP oy rfl (E_ld (ht := ag_3))
 co_applyP oy rfl E_add
 co_applyP oy rfl E_nc
 co_applyP oy rfl (E_fa (hf := fo_99_0))
 co_applyP oy rfl (E_fa (hf := fo_49_6))
 co_applyP osm rfl (hs := sz_3) (hm := hzL) (hi := by first | decide | (rw [psize]; omega) | (rw [ksize]; omega))
 intro L4 hU4
 have hz2 : At L4 b 2 (.int .i64 (z.st : Nat)) := ⟨true, _, _, _, hU4.self, by rw [Array.getElem?_setIfInBounds_ne (by decide)]; rfl⟩
 have hset : (b, z) ∈ (T.runS b x c).ps → Rep K A3 ((T.runS b x c).setP b z.more) (G ++ Fr) L4 := fun hz' => by
   have hw := huc z hz'
   have w1 : IntKind.i64.wrap ((z.used : Int) + 1) = ((z.used + 1 : Nat) : Int) := by simp [IntKind.wrap_i64]; omega
   rw [w1] at hU4
   exact hR3.setP (x' := z.more) hz' (by unfold PS.more; rw [← pset_used]; exact hU4)
 co_applyP o_nil
 change wpE ..
 co_applyP c_seq
 co_applyP c_region
 co_applyP oy rfl E_mv
 co_applyP oy rfl E_nc
 co_applyP oy rfl (E_fa (hf := fo_99_0))
 co_applyP oy rfl (E_fa (hf := fo_49_2))
 co_applyP oy rfl (E_ld (ht := ag_3))
 co_applyP oy rfl E_eql
 co_applyP o_nil
 change wpE ..
 co_applyP c_if rfl
 intro h1
 co_applyP c_region
 co_applyP oy rfl E_mv
 co_applyP oy rfl E_mv
 · have h1' : z.st = 1 := by simp at h1; omega
   have hz' : (b, z) ∈ (T.runS b x c).ps := hz.elim id fun h => by omega
   have hR4 := hset hz'
   have hG4 := hIc.g.like (x' := z.more) hz' rfl rfl
   have hb4 : (b, z.more) ∈ ((T.runS b x c).setP b z.more).ps := mem_setP_self hz'
   have hlv := hG4.lv _ hb4
   co_applyP oc rfl rfl rfl (g11 K A3 _ _ L4 b z.more (hN _).r hR4 hb4 hlv (fun l hl => hG4.r8 hl) (hG4.ex hlv) (fun e he l hl => slot_ne e.1 hl))
   rintro _ _ _ ⟨rfl, rfl, A5, hl5, hR5⟩
   co_applyP o_nil
   change ∃ v, resE .. = some v ∧ _
   refine ⟨_, rfl, rfl, rfl, A5, c, hc, ?_⟩
   unfold St.after
   rw [get_of hIc.g.pn hz']
   simp only [h1', if_true]
   exact hR5.less fun t ht => List.mem_append_right _ ht
 intro h1
 co_applyP c_skip
 change ∃ v, resE .. = some v ∧ _
 have h1' : ¬ z.st = 1 := by simp at h1; omega
 refine ⟨_, rfl, rfl, rfl, A3, c, hc, ?_⟩
 unfold St.after
 rcases hz with hz' | ⟨hz', h6⟩
 · rw [get_of hIc.g.pn hz']
   simp only [h1', if_false]
   exact (hset hz').less fun t ht => List.mem_append_right _ ht
 · have hd := hR3.fd (pb b z) (List.mem_append_left _ hz')
   rw [get_none fun r hr => Ne.symm (hd.2.1 r hr)]
   have hR3' := hR3.less (F' := Fr) fun t ht => List.mem_append_right _ ht
   exact hR3'.off (b := b) (Ne.symm hd.1) (fun q hq => Ne.symm (hd.2.1 q hq)) hd.2.2.1 hd.2.2.2.1 (Ne.symm hd.2.2.2.2) (hR3.fn.ne hR3.g hzL (cells_ne (by decide))) hFb hU4
def Calm (P : Nat → Prop) (S : St) : Prop := ∀ e ∈ S.wt, ∀ c ∈ e.2, ∀ y, (c, y) ∈ S.ps → y.st = 1 → P c
structure XI (N : Nat → Nat) (S : St) : Prop where
 un : ∀ q ∈ S.ps, q.2.used ≤ S.now
 idn : ∀ q ∈ S.ps, ∀ r ∈ S.ps, q.2.id = r.2.id → q = r
 idr : ∀ q ∈ S.ps, 1 ≤ q.2.id ∧ q.2.id ≤ S.last
 p1 : ∃ q ∈ S.ps, q.2.id = 1
 p0 : ∀ q ∈ S.ps, q.2.par = 0 ↔ q.2.id = 1
 r3 : ∀ l, 3 ≤ l → S.rows l = []
 nm : ∀ q ∈ S.ps, N q.1 = q.2.id
structure MI (P : Nat → Prop) (N : Nat → Nat) (S : St) : Prop where
 i : Inv S
 c : Calm P S
 x : XI N S
section
variable {S S' : St} {b : Nat} {x x' : PS} {k : Nat × Nat} {P : Nat → Prop} {N : Nat → Nat}
theorem XI.congr (h : XI N S) (h1 : S'.ps = S.ps) (h2 : S'.last = S.last) (h3 : S'.now = S.now) (h4 : ∀ l, 3 ≤ l → S'.rows l = S.rows l := by intro l _; rfl) : XI N S' := ⟨by rw [h1, h3]; exact h.un, by rw [h1]; exact h.idn, by rw [h1, h2]; exact h.idr, by rw [h1]; exact h.p1, by rw [h1]; exact h.p0, fun l hl => (h4 l hl).trans (h.r3 l hl), by rw [h1]; exact h.nm⟩
theorem put_hi {α : Type} {f : Nat → α} {i : Nat} {v : α} (hi : i < 3) : ∀ l, 3 ≤ l → put f i v l = f l := fun l hl => by unfold put; rw [if_neg (by omega)]
theorem XI.setP (h : XI N S) (hn : (S.ps.map (·.1)).Nodup) (hb : (b, x) ∈ S.ps) (hid : x'.id = x.id) (hpar : x'.par = 0 ↔ x.par = 0) (hu : x'.used ≤ S.now) : XI N (S.setP b x') := by
 refine ⟨fun q hq => ?_, fun q hq r hr e => ?_, fun q hq => ?_, ?_, fun q hq => ?_, h.r3, fun q hq => ?_⟩
 · rcases mem_setP hq with rfl | ⟨h1, _⟩
   · exact hu
   · exact h.un q h1
 · rcases mem_setP hq with rfl | ⟨h1, h1n⟩
   · rcases mem_setP hr with rfl | ⟨h2, h2n⟩
     · rfl
     · have := h.idn _ hb _ h2 (by rw [← e]; exact hid.symm)
       exact absurd (by rw [← this]) h2n
   · rcases mem_setP hr with rfl | ⟨h2, h2n⟩
     · have := h.idn _ h1 _ hb (by rw [e]; exact hid)
       exact absurd (by rw [this]) h1n
     · exact h.idn q h1 r h2 e
 · rcases mem_setP hq with rfl | ⟨h1, _⟩
   · show 1 ≤ x'.id ∧ x'.id ≤ S.last
     rw [hid]; exact h.idr _ hb
   · exact h.idr q h1
 · obtain ⟨q, hq, h1⟩ := h.p1
   by_cases e : q.1 = b
   · refine ⟨(b, x'), mem_setP_self hb, ?_⟩
     show x'.id = 1
     rw [hid]
     obtain ⟨c, y⟩ := q
     have e' : c = b := e
     subst e'
     rw [nodup_val hn hb hq]
     exact h1
   · exact ⟨q, mem_setP_of (c := q.1) (y := q.2) hq e, h1⟩
 · rcases mem_setP hq with rfl | ⟨h1, _⟩
   · show x'.par = 0 ↔ x'.id = 1
     rw [hid]; exact hpar.trans (h.p0 _ hb)
   · exact h.p0 q h1
 · rcases mem_setP hq with rfl | ⟨h1, _⟩
   · show N b = x'.id
     rw [hid]; exact h.nm _ hb
   · exact h.nm q h1
theorem XI.erase (h : XI N S) {i : Nat} {q : Nat × PS} (hi : S.ps[i]? = some q) (hq : q.2.id ≠ 1) : XI N { S.setPs (S.ps.eraseIdx i) with last := S.last } := by
 refine ⟨fun q hq => h.un q (List.mem_of_mem_eraseIdx hq), fun q hq r hr e => h.idn q (List.mem_of_mem_eraseIdx hq) r (List.mem_of_mem_eraseIdx hr) e, fun q hq => h.idr q (List.mem_of_mem_eraseIdx hq), ?_, fun q hq => h.p0 q (List.mem_of_mem_eraseIdx hq), h.r3, fun q hq => h.nm q (List.mem_of_mem_eraseIdx hq)⟩
 obtain ⟨r, hr, h1⟩ := h.p1
 refine ⟨r, ?_, h1⟩
 show r ∈ S.ps.eraseIdx i
 obtain ⟨j, hj⟩ := List.getElem?_of_mem hr
 have hji : j ≠ i := fun e => by subst e; rw [hj] at hi; simp at hi; rw [← hi] at hq; exact hq h1
 rw [List.mem_eraseIdx_iff_getElem?]
 exact ⟨j, hji, hj⟩
theorem XI.taken (h : XI N S) {c : Nat} {y : PS} (hc : ∀ q ∈ S.ps, c ≠ q.1) (hp : y.par ≠ 0) (hu : y.used ≤ S.now) (hN : N c = S.last + 1) : XI N (S.taken c y) := by
 have hl : 1 ≤ S.last := by
   obtain ⟨q, hq, h1⟩ := h.p1
   have := h.idr q hq
   omega
 have cs : ∀ q ∈ (S.taken c y).ps, q ∈ S.ps ∨ q = (c, { y with id := S.last + 1 }) := fun q hq => by
   rcases List.mem_append.1 hq with h | h
   · exact .inl h
   · exact .inr (by simpa using h)
 refine ⟨fun q hq => ?_, fun q hq r hr e => ?_, fun q hq => ?_, ?_, fun q hq => ?_, h.r3, fun q hq => ?_⟩
 · rcases cs q hq with h1 | rfl
   · exact h.un q h1
   · exact hu
 · rcases cs q hq with h1 | rfl
   · rcases cs r hr with h2 | rfl
     · exact h.idn q h1 r h2 e
     · have := (h.idr q h1).2
       simp only at e
       omega
   · rcases cs r hr with h2 | rfl
     · have := (h.idr r h2).2
       simp only at e
       omega
     · rfl
 · show 1 ≤ q.2.id ∧ q.2.id ≤ S.last + 1
   rcases cs q hq with h1 | rfl
   · have := h.idr q h1; omega
   · simp only; omega
 · obtain ⟨q, hq, h1⟩ := h.p1
   exact ⟨q, List.mem_append_left _ hq, h1⟩
 · rcases cs q hq with h1 | rfl
   · exact h.p0 q h1
   · simp only
     constructor
     · intro e; exact absurd e hp
     · intro e; omega
 · rcases cs q hq with h1 | rfl
   · exact h.nm q h1
   · exact hN
theorem Calm.out_mono {Q : Nat → Prop} (h : Calm P S) (hPQ : ∀ c, P c → Q c) : Calm Q S := fun e he c hc y hy h1 => hPQ c (h e he c hc y hy h1)
theorem Calm.depart (h : Calm P S) : Calm P (S.depart b k) := fun e he c hc y hy h1 => by
 rcases mem_departW he with ⟨h2, _⟩ | ⟨h2, _, xs, h3, h4⟩
 · exact h e h2 c hc y hy h1
 · rw [h4] at hc
   exact h _ h3 c (List.mem_filter.1 hc).1 y hy h1
theorem Calm.setP (h : Calm P S) (hb : S.out b ∨ P b ∨ x'.st ≠ 1) : Calm P (S.setP b x') := fun e he c hc y hy h1 => by
 rcases mem_setP hy with h2 | ⟨h2, _⟩
 · cases h2
   rcases hb with hb | hb | hb
   · exact absurd hc (hb e he)
   · exact hb
   · exact absurd h1 hb
 · exact h e he c hc y h2 h1
theorem Calm.congr (h : Calm P S) (h1 : S'.wt = S.wt) (h2 : S'.ps = S.ps) : Calm P S' := by unfold Calm; rw [h1, h2]; exact h
theorem Calm.join (h : Calm P S) (hb : P b) (hn : (S.wt.map (·.1)).Nodup) : Calm P (S.joinW b k) := fun e he c hc y hy h1 => by
 by_cases hk : ∀ e ∈ S.wt, e.1 ≠ k
 · have e1 : (S.joinW b k).wt = S.wt ++ [(k, [b])] := joinW_none hk
   rw [e1] at he
   rcases List.mem_append.1 he with h2 | h2
   · exact h e h2 c hc y hy h1
   · simp at h2; subst h2; simp at hc; subst hc; exact hb
 · have hk' : k ∈ S.wt.map (·.1) := Decidable.byContradiction fun hn' => hk fun e he e1 => hn' (List.mem_map.2 ⟨e, he, e1⟩)
   obtain ⟨l1, ys, l2, hl, q1, q2⟩ := split_key hn hk'
   have e1 : (S.joinW b k).wt = l1 ++ (k, ys ++ [b]) :: l2 := by show rowJoin b k S.wt = _; rw [hl, joinW_at q1 q2]
   rw [e1] at he
   rcases List.mem_append.1 he with h2 | h2
   · exact h e (by rw [hl]; simp [h2]) c hc y hy h1
   · rcases List.mem_cons.1 h2 with rfl | h2
     · rcases List.mem_append.1 hc with h3 | h3
       · exact h (k, ys) (by rw [hl]; simp) c h3 y hy h1
       · simp at h3; subst h3; exact hb
     · exact h e (by rw [hl]; simp [h2]) c hc y hy h1
theorem MI.depart (h : MI P N S) : MI P N (S.depart b k) := ⟨h.i.depart, h.c.depart, h.x.congr rfl rfl rfl⟩
theorem MI.setY (h : MI P N S) {i : Nat} {ys : List Int} (h8 : ys.length ≤ 8) (hb : ∀ v ∈ ys, 0 ≤ v ∧ v < 256) : MI P N (S.setY i ys) := ⟨h.i.setY h8 hb, h.c.congr rfl rfl, h.x.congr rfl rfl rfl⟩
theorem MI.like (h : MI P N S) (hb : (b, x) ∈ S.ps) (ho : S.out b) (hs : x'.st = x.st) (hl : x'.lv = x.lv) (hw : WF x') (hf : ∀ i, i < 6 → x'.f i = (0, 0) ∨ okEnd (x'.f i)) (hid : x'.id = x.id) (hpar : x'.par = x.par) (hu : x'.used ≤ S.now) : MI P N (S.setP b x') :=
 ⟨h.i.like hb ho hs hl hw hf, h.c.setP (.inl ho), h.x.setP h.i.g.pn hb hid (by rw [hpar]) hu⟩
theorem MI.r0 (h : MI P N S) (hb : (b, x) ∈ S.ps) (ho : S.out b) {v : Int} (hv : 0 ≤ v ∧ v < 65536) : MI P N (S.setP b (x.r0 v)) :=
 h.like hb ho rfl rfl (put_wf (h.i.wf _ hb) hv) (h.i.fl (b, x) hb) rfl rfl (h.x.un _ hb)
theorem MI.wake1 (h : MI P N S) (hb : (b, x) ∈ S.ps) (ho : S.out b) (hs : x.st ≠ 1) : MI P N (S.wake1 b x) :=
 ⟨h.i.wake1 hb ho hs, (h.c.setP (x' := { x with st := 1, used := 0 }) (.inl ho)).congr rfl rfl, (h.x.setP (x' := { x with st := 1, used := 0 }) h.i.g.pn hb rfl Iff.rfl (Nat.zero_le _)).congr rfl rfl rfl (put_hi (h.i.g.lv _ hb))⟩
theorem MI.stop1 (h : MI P N S) (hb : (b, x) ∈ S.ps) (ho : S.out b) {s : Nat} (hs : s ≠ 1) : MI P N (S.stop1 b x s) :=
 ⟨h.i.stop1 hb ho hs, (h.c.setP (x' := { x with st := s }) (.inl ho)).congr rfl rfl, (h.x.setP (x' := { x with st := s }) h.i.g.pn hb rfl Iff.rfl (h.x.un _ hb)).congr rfl rfl rfl (put_hi (h.i.g.lv _ hb))⟩
theorem poke_used : ∀ (vs : List Int) (x : PS) (i : Nat), (x.poke i vs).used = x.used
 | [], _, _ => rfl
 | v :: vs, x, i => poke_used vs { x with m := put x.m i v } (i + 1)
theorem carried_used (S : St) (x : PS) (k : Nat × Nat) : (S.carried x k).used = x.used := by
 unfold St.carried
 split
 · exact poke_used _ _ _
 · split <;> rfl
theorem MI.carry (h : MI P N S) (hb : (b, x) ∈ S.ps) (ho : S.out b) (hk : k.1 < 5) (ha : x.r 1 + x.r 2 ≤ 64) (hc : S.canBeDone x k = true) : MI P N (S.carry b x k) := by
 obtain ⟨ys, e, _⟩ := carry_eq S b x k
 obtain ⟨l1, l2, l3, l4, l5⟩ := carried_like S x k
 refine ⟨h.i.carry hb ho hk ha hc, ?_, ?_⟩
 · rw [e]
   exact (h.c.setP (x' := S.carried x k) (.inl ho)).congr rfl rfl
 · rw [e]
   exact (h.x.setP (x' := S.carried x k) h.i.g.pn hb l4 (by rw [l5]) (by rw [carried_used]; exact h.x.un _ hb)).congr rfl rfl rfl
theorem MI.serve (h : MI P N S) (hS : S.serve k = some S') : MI P N S' := by
 obtain ⟨b, x, hm, _, hb, hc, rfl⟩ := serve_some hS
 obtain ⟨ha, hk⟩ := h.i.atRow hm hb
 have hd : MI P N (S.depart b k) := h.depart
 have ho : (S.depart b k).out b := by have := h.i.out_depart hb; rw [ha.f] at this; exact this
 have hI := MI.carry hd (b := b) (x := x) (k := k) hb ho hk.1.2 ha.a hc
 split
 · exact hI
 · rename_i h1
   refine hI.wake1 ?_ (by intro e he; exact ho e (by rw [carry_wt] at he; exact he)) (by rw [(carried_like S x k).1]; exact h1)
   rw [carry_ps]; exact mem_setP_self hb
theorem MI.looks (p : Nat) : ∀ (n : Nat) {S : St}, MI P N S → MI P N (St.looks n S p)
 | 0, _, h => h
 | n + 1, S, h => by
   unfold St.looks
   split
   · exact MI.looks p n (h.serve ‹_›)
   · split
     · exact MI.looks p n (h.serve ‹_›)
     · exact h
theorem MI.shut (h : MI P N S) (hb : (b, x) ∈ S.ps) (ho : S.out b) (n : Nat) : MI P N (S.shut b n) := by
 unfold St.shut
 rw [get_of h.i.g.pn hb]
 exact MI.looks _ 16 (h.like (x' := { x with f := put x.f n (0, 0) }) hb ho rfl rfl ⟨(h.i.wf _ hb).r, (h.i.wf _ hb).m⟩ (put_fl (h.i.fl _ hb) (.inl rfl)) rfl rfl (h.x.un (b, x) hb))
theorem MI.shuts (f : Nat → Nat × Nat) : ∀ (ns : List Nat) {S : St} {x : PS}, MI P N S → (b, x) ∈ S.ps → S.out b → MI P N (S.shuts b f ns)
 | [], _, _, h, _, _ => h
 | n :: ns, S, x, h, hb, ho => by
   show MI P N ((if f n = (0, 0) then S else S.shut b n).shuts b f ns)
   split
   · exact MI.shuts f ns h hb ho
   · have hl := h.i.shut hb ho n
     exact MI.shuts f ns (h.shut hb ho n) (hl.m b _ ho (mem_setP_self hb)) (hl.o b ho)
theorem MI.orphs (id : Nat) (h1 : 1 ≤ id) : ∀ (bs : List Nat) {S : St}, MI P N S → MI P N (S.orphs id bs)
 | [], S, h => h
 | b :: bs, S, h => by
   unfold St.orphs
   cases hg : S.get b with
   | none => exact MI.orphs id h1 bs h
   | some y =>
     simp only
     split
     · rename_i hp
       have hb := mem_of_get hg
       refine MI.orphs id h1 bs ⟨h.i.alike (x' := { y with par := 1 }) hb rfl rfl rfl rfl rfl, fun e he c hc z hz hz1 => ?_, h.x.setP h.i.g.pn hb rfl ?_ (h.x.un _ hb)⟩
       · rcases mem_setP hz with h2 | ⟨h2, _⟩
         · cases h2
           exact h.c e he _ hc y hb hz1
         · exact h.c e he c hc z h2 hz1
       · simp only
         constructor
         · intro e; cases e
         · intro e; omega
     · exact MI.orphs id h1 bs h
theorem MI.take (h : MI P N S) (hb : (b, x) ∈ S.ps) (ho : S.out b) {i : Nat} (hc : S.childAt x = some i) (h6 : x.st ≠ 6) : MI P N (S.take b x i) ∧ (b, x) ∈ S.ps.eraseIdx i := by
 obtain ⟨q, hq, hp, hq6⟩ := childAt_spec hc
 have hI := h.i.erase (ls := S.last) (c := q.1) (y := q.2) hq hq6
 have hci : (b, x) ∈ S.ps.eraseIdx i := by
   obtain ⟨j, hj⟩ := List.getElem?_of_mem hb
   have hji : j ≠ i := fun e => by
     subst e
     rw [hj] at hq
     simp at hq
     rw [← hq] at hq6
     exact h6 hq6
   rw [List.mem_eraseIdx_iff_getElem?]
   exact ⟨j, hji, hj⟩
 have hqm := List.mem_of_getElem? hq
 have hq1 : q.2.id ≠ 1 := fun e => by
   have := (h.x.p0 q hqm).2 e
   have := (h.x.idr _ hb).1
   simp only at this
   omega
 have hX := h.x.erase hq hq1
 have e : S.take b x i = ({ S.setPs (S.ps.eraseIdx i) with last := S.last } : St).setP b (told x q.2) := by unfold St.take; rw [hq]
 rw [e]
 have hM : MI P N ({ S.setPs (S.ps.eraseIdx i) with last := S.last } : St) := ⟨hI, fun e he c hc y hy h1 => h.c e he c hc y (List.mem_of_mem_eraseIdx hy) h1, hX⟩
 exact ⟨hM.like (x' := told x q.2) hci ho rfl rfl (told_wf (h.i.wf _ hb) _) (h.i.fl (b, x) hb) rfl rfl (h.x.un (b, x) hb), hci⟩
theorem MI.parent1 (h : MI P N S) (c : Nat) : MI P N (S.parent1 c) := by
 unfold St.parent1
 cases hg : S.get c with
 | none => exact h
 | some x =>
   simp only
   split
   · rename_i h2
     cases hc : S.childAt x with
     | none => exact h
     | some i =>
       obtain ⟨q, hq, _, h6⟩ := childAt_spec hc
       simp only [hq]
       have hb := mem_of_get hg
       have ho := h.i.out_st hb (by omega) (by omega) (by omega)
       obtain ⟨hT, hci⟩ := h.take hb ho hc (by omega)
       have e : S.take c x i = ({ S.setPs (S.ps.eraseIdx i) with last := S.last } : St).setP c (told x q.2) := by unfold St.take; rw [hq]
       refine hT.wake1 (x := told x q.2) ?_ ?_ (by show x.st ≠ 1; omega)
       · rw [e]; exact mem_setP_self hci
       · rw [e]; exact ho
   · exact h
theorem MI.parents : ∀ (bs : List Nat) {S : St}, MI P N S → MI P N (S.parents bs)
 | [], _, h => h
 | c :: bs, _, h => MI.parents bs (h.parent1 c)
theorem MI.fin (h : MI P N S) (hb : (b, x) ∈ S.ps) (status : Int) : MI P N (S.fin b x status) := by
 have ho := h.i.out_depart hb
 have h1 : MI P N (S.depart b (x.file (x.r 0))) := h.depart
 have hb1 : (b, x) ∈ (S.depart b (x.file (x.r 0))).ps := hb
 have h2 := h1.stop1 hb1 ho (s := 6) (by decide)
 have hb2 : (b, { x with st := 6 }) ∈ ((S.depart b (x.file (x.r 0))).stop1 b x 6).ps := mem_setP_self hb1
 have h3 := h2.like (x' := { x with st := 6, stat := status }) hb2 ho rfl rfl ⟨(h.i.wf _ hb).r, (h.i.wf _ hb).m⟩ (h.i.fl (b, x) hb) rfl rfl (h.x.un (b, x) hb)
 have h4 := MI.shuts (b := b) x.f (List.range' 0 6) h3 (mem_setP_self hb2) ho
 exact MI.parents _ (MI.orphs _ (h.x.idr _ hb).1 _ h4)
end
end Go.Proofs.YtejkelcaljmnoaaGreatDoor
