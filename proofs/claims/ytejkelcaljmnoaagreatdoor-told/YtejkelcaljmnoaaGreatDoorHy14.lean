/-
  Part 14 of the proof.
  No condition but those that each statement names.
-/
import Derived.Test.YtejkelcaljmnoaaGreatDoorHy13
set_option maxRecDepth 100000
set_option linter.unusedVariables false
set_option linter.unusedSimpArgs false
set_option linter.unusedSectionVars false
namespace Go.Proofs.YtejkelcaljmnoaaGreatDoor
open Go.Conc Go.Hx Go.Lo
def St.wake (S : St) : St := S.wakes (S.ps.map (·.1))
def St.boosts (S : St) : Prop := 0 < S.now ∧ ((S.now : Nat) : Int).tmod S.bo = 0
instance (S : St) : Decidable S.boosts := inferInstanceAs (Decidable (_ ∧ _))
def St.boost (S : St) : St := if S.boosts then (S.lifts (S.ps.map (·.1))).raises 2 else S
def St.lead (S : St) : St := S.wake.boost
structure Fix (S S' : St) : Prop where
 sl : S'.sl = S.sl
 bo : S'.bo = S.bo
 pn : S'.pn = S.pn
 pg : S'.pg = S.pg
 now : S'.now = S.now
theorem Fix.refl (S : St) : Fix S S := ⟨rfl, rfl, rfl, rfl, rfl⟩
theorem Fix.trans {S T U : St} (h : Fix S T) (k : Fix T U) : Fix S U := ⟨k.sl.trans h.sl, k.bo.trans h.bo, k.pn.trans h.pn, k.pg.trans h.pg, k.now.trans h.now⟩
theorem fR : ∀ (bs : List Nat) (S : St), Fix S (S.wakes bs)
 | [], S => Fix.refl S
 | b :: bs, S => by
   unfold St.wakes;refine Fix.trans ?_ (fR bs _)
   split
   · split
     · exact ⟨rfl, rfl, rfl, rfl, rfl⟩
     · exact Fix.refl S
   · exact Fix.refl S
theorem ln : ∀ (bs : List Nat) (S : St), Fix S (S.lifts bs)
 | [], S => Fix.refl S
 | b :: bs, S => by
   unfold St.lifts;refine Fix.trans ?_ (ln bs _)
   split
   · split
     · exact ⟨rfl, rfl, rfl, rfl, rfl⟩
     · exact Fix.refl S
   · exact Fix.refl S
theorem rI (S : St) : Fix S S.boost := by
 unfold St.boost
 split
 · exact (ln _ S).trans ⟨rfl, rfl, rfl, rfl, rfl⟩
 · exact Fix.refl S
theorem cv (S : St) : Fix S S.lead := (fR _ S).trans (rI _)
def St.doR (S : St) (x : PS) : Except Nat PS := x.do (S.pg x.at_ 0) (S.pg x.at_ 1) (S.pg x.at_ 2) (S.pg x.at_ 3)
def St.runE (S : St) (b : Nat) (x : PS) : List Value := if S.pn ≤ x.at_ then [evt S.now 4 x.id 65281] else if S.pg x.at_ 0 = 9 then (S.setP b x.next).grantE b x.next (S.pg x.at_ 1) else match S.doR x with
 | .ok _ => []
 | .error _ => [evt S.now 4 x.id 65281]
def St.runS (S : St) (b : Nat) (x : PS) (c : Nat) : St := if S.pn ≤ x.at_ then S.fin b x 65281 else if S.pg x.at_ 0 = 9 then (match (S.setP b x.next).grantV b x.next (S.pg x.at_ 1) with
   | some i => ((S.setP b x.next).grantS b x.next (S.pg x.at_ 1) c).r0 b (ansOf i)
   | none => (S.setP b x.next).grantS b x.next (S.pg x.at_ 1) c) else match S.doR x with
 | .ok x' => S.setP b x'
 | .error _ => S.fin b x 65281
def PS.more (z : PS) : PS := { z with used := z.used + 1 }
def St.after (S : St) (b : Nat) : St := match S.get b with
 | some z => if z.st = 1 then (S.setP b z.more).turn b z.more else S.setP b z.more
 | none => S
set_option maxHeartbeats 1000000 in
theorem yG : ∃ n, ∀ {p : Par} {Sh : Loc → Prop} {E Dn : Nat} {PostB : World → Prop} {Aft : Goroutine → World → Prop} {W : World} {O : Nat} {G0 : List (Nat × Obj)} {vs : List Value} (K : Nat) (A : Lay) (S : St) (Fr L : Frag) (eb : Nat → Nat × Nat), (∀ s, NewT (domT Tryz.prog p Sh E Dn PostB Aft W O G0 s)) → Rep K A S Fr L → Ers eb Fr → Inv S → S.bo ≠ 0 → S.lead.first = none →
   CallsL (domT Tryz.prog p Sh E Dn PostB Aft W O G0) Tryz.prog false 63 [ptr K, .chan (some E)].toArray n (evt S.lead.now 2 0 0 :: vs) L (fun s' v L' => vs = s' ∧ v = .tuple #[] ∧ ∃ A', Rep K A' S.lead Fr L') := by
 obtain ⟨n0, g0⟩ := fx;obtain ⟨n1, g1⟩ := p9;obtain ⟨n2, g2⟩ := pU;obtain ⟨n3, g3⟩ := mo;apply Exists.intro;intro p Sh E Dn PostB Aft W O G0 vs K A S Fr L eb hN hR hE hI hbo hf;co_applyP aB 75 Tryz.func63 Tryz.ntmps63;co_applyP ae;co_applyP aa;co_applyP oy rfl aj;co_applyP oc rfl rfl rfl (g0 K A S Fr L (hN _).r hR hI.g);rintro _ _ _ ⟨rfl, rfl, hG1, hrel, A1, hl1, hR1⟩;co_applyP ah;change wpE ..;rename_i L1;have hbo' : (S.wakes (S.ps.map (·.1))).bo ≠ 0 := by rw [show (S.wakes (S.ps.map (·.1))).bo = S.bo from (fR _ S).bo]; exact hbo
 have hn1 : At L1 K 16 (.int .i64 ((S.wakes (S.ps.map (·.1))).now : Nat)) := hR1.kat rfl;have hb1 : At L1 K 3 (.int .i64 (S.wakes (S.ps.map (·.1))).bo) := hR1.kat rfl;co_applyP dR (fun s'' ε'' L'' => (evt S.lead.now 2 0 0 :: vs) = s'' ∧ kn ε'' [(0, ptr K), (1, .chan (some E))] ∧ ∃ A', Rep K A' S.lead Fr L'');co_applyP bK (0 < (S.wakes (S.ps.map (·.1))).now);intro h0
 · have e0 : decide ((0 : Int) < ((S.wakes (S.ps.map (·.1))).now : Nat)) = true := by simp; omega
   co_applyP bK ((((S.wakes (S.ps.map (·.1))).now : Nat) : Int).tmod (S.wakes (S.ps.map (·.1))).bo = 0);intro hm
   · have hB : S.lead = ((S.wakes (S.ps.map (·.1))).lifts ((S.wakes (S.ps.map (·.1))).ps.map (·.1))).raises 2 := by unfold St.lead St.boost; rw [if_pos (show S.wake.boosts from ⟨h0, hm⟩)]; rfl
     co_applyP ae;co_applyP bj aZ;co_applyP tr (i := 0) rfl aj pI;co_applyP tr (i := 1) rfl aL pI;co_applyP tr (i := 2) rfl (av (hf := bZ)) pI;co_applyP tr (i := 3) rfl (aC (ht := aV)) pI;co_applyP tr (i := 4) rfl dj pI;co_applyP tr (i := 5) rfl aj pI;rw [e0];co_applyP tr (i := 6) rfl (aj) pI;co_applyP tr (i := 7) rfl (aL) pI;co_applyP tr (i := 8) rfl ((av (hf := bZ))) pI;co_applyP tr (i := 9) rfl ((aC (ht := aV))) pI;co_applyP tr (i := 10) rfl (aj) pI;co_applyP tr (i := 11) rfl (aL) pI;co_applyP tr (i := 12) rfl ((av (hf := fw))) pI;co_applyP tr (i := 13) rfl ((av (hf := fM))) pI;co_applyP tr (i := 14) rfl ((aC (ht := aV))) pI;co_applyP tr (i := 15) rfl (gT) pI;co_applyP tr (i := 16) rfl (ay) pI;co_applyP tr (i := 17) rfl aN pI;co_applyP td (by kernel_rfl);change wpE ..;rw [hm];co_applyP aW rfl;co_applyP aa;co_applyP oy rfl aj;co_applyP oc rfl rfl rfl (g1 K A1 _ Fr L1 (hN _).r hR1 (fun l hl => hG1.r8 hl));rintro _ _ _ ⟨rfl, rfl, A2, hl2, hR2⟩;co_applyP ah;change _ = _ ∧ kn _ _ ∧ ∃ A', _;exact ⟨rfl, rfl, A2, by rw [hB]; exact hR2⟩
   intro hm;have hB : S.lead = S.wakes (S.ps.map (·.1)) := by unfold St.lead St.boost; rw [if_neg (fun h => hm h.2)]; rfl
   have em : ((((S.wakes (S.ps.map (·.1))).now : Nat) : Int).tmod (S.wakes (S.ps.map (·.1))).bo == 0) = false := by simp [hm]
   co_applyP ae;co_applyP bj aZ;co_applyP tr (i := 0) rfl aj pI;co_applyP tr (i := 1) rfl aL pI;co_applyP tr (i := 2) rfl (av (hf := bZ)) pI;co_applyP tr (i := 3) rfl (aC (ht := aV)) pI;co_applyP tr (i := 4) rfl dj pI;co_applyP tr (i := 5) rfl aj pI;rw [e0];co_applyP tr (i := 6) rfl (aj) pI;co_applyP tr (i := 7) rfl (aL) pI;co_applyP tr (i := 8) rfl ((av (hf := bZ))) pI;co_applyP tr (i := 9) rfl ((aC (ht := aV))) pI;co_applyP tr (i := 10) rfl (aj) pI;co_applyP tr (i := 11) rfl (aL) pI;co_applyP tr (i := 12) rfl ((av (hf := fw))) pI;co_applyP tr (i := 13) rfl ((av (hf := fM))) pI;co_applyP tr (i := 14) rfl ((aC (ht := aV))) pI;co_applyP tr (i := 15) rfl (gT) pI;co_applyP tr (i := 16) rfl (ay) pI;co_applyP tr (i := 17) rfl aN pI;co_applyP td (by kernel_rfl);change wpE ..;rw [em];co_applyP aq rfl;co_applyP aA;change _ = _ ∧ kn _ _ ∧ ∃ A', _;exact ⟨rfl, rfl, A1, by rw [hB]; exact hR1⟩
 intro h0;have e0 : decide ((0 : Int) < ((S.wakes (S.ps.map (·.1))).now : Nat)) = false := by simp; omega
 have hB : S.lead = S.wakes (S.ps.map (·.1)) := by unfold St.lead St.boost; rw [if_neg (fun h => h0 h.1)]; rfl
 co_applyP ae;co_applyP bj aZ;co_applyP tr (i := 0) rfl aj pI;co_applyP tr (i := 1) rfl aL pI;co_applyP tr (i := 2) rfl (av (hf := bZ)) pI;co_applyP tr (i := 3) rfl (aC (ht := aV)) pI;co_applyP tr (i := 4) rfl dj pI;co_applyP tr (i := 5) rfl aj pI;rw [e0];co_applyP tu (i := 6) rfl pI;co_applyP tu (i := 7) rfl pI;co_applyP tu (i := 8) rfl pI;co_applyP tu (i := 9) rfl pI;co_applyP tu (i := 10) rfl pI;co_applyP tu (i := 11) rfl pI;co_applyP tu (i := 12) rfl pI;co_applyP tu (i := 13) rfl pI;co_applyP tu (i := 14) rfl pI;co_applyP tu (i := 15) rfl pI;co_applyP tu (i := 16) rfl pI;co_applyP tr (i := 17) rfl aN pI;co_applyP td (by kernel_rfl);change wpE ..;co_applyP aq rfl;co_applyP aA;change _ = _ ∧ kn _ _ ∧ ∃ A', _;exact ⟨rfl, rfl, A1, by rw [hB]; exact hR1⟩;rintro _ ε2 L2 ⟨rfl, he2, A2, hR2⟩;co_applyP a6 he2;co_applyP ae;co_applyP aa;co_applyP oy rfl aj;co_applyP oy rfl aL;co_applyP oy rfl (av (hf := dn));co_applyP oc rfl rfl rfl (g2 K A2 _ Fr L2 hR2);rintro _ _ _ ⟨rfl, rfl, rfl⟩;rw [hf];co_applyP oy rfl ak;co_applyP ah;change wpE ..;co_applyP ae (n₂ := 0);co_applyP ae;co_applyP aa;co_applyP oy rfl aj;co_applyP oy rfl (gj (hu := Tryz.underlying93));co_applyP ah;change wpE ..;co_applyP aW rfl;co_applyP ae;co_applyP aa;co_applyP oy rfl aj;co_applyP oy rfl aj;co_applyP oc rfl rfl rfl (g3 K A2 _ Fr L2 2 0 0 hR2);rintro _ _ _ ⟨rfl, rfl, rfl⟩;co_applyP ah;change wpE ..;co_applyP aJ;change ∃ v, resE .. = some v ∧ _;exact ⟨_, rfl, rfl, rfl, A2, hR2⟩
theorem lp {S : St} {b : Nat} {x : PS} {m : Int} {i : Nat} (h : S.grantV b x m = some i) : (∀ c, S.grantS b x m c = S) ∧ i < 11 ∧ i ≠ 2 := by
 unfold St.grantV at h;unfold St.grantS;by_cases h0 : m = 0
 · simp [h0] at h
 by_cases h1 : m = 1
 · subst h1;simp at h;obtain ⟨h8, rfl⟩ := h;simp [h8]
 by_cases h2 : m = 2
 · subst h2;simp at h;unfold St.waitR at *
   split at h
   · simp at h
   · rename_i hc;simp at h;subst h;simp [hc]
 by_cases h3 : m = 3
 · subst h3;simp at h;cases hf : S.find (x.r 0) with
   | none => rw [hf] at h; simp at h; subst h; simp
   | some q =>
     rw [hf] at h;simp at h;obtain ⟨h6, rfl⟩ := h;simp [h6]
 by_cases h4 : m = 4
 · simp [h4] at h
 by_cases h5 : m = 5
 · simp [h5] at h
 by_cases h6 : m = 6
 · simp [h6] at h
 by_cases h7 : m = 7
 · subst h7;simp at h;unfold St.pipeR at *
   split at h
   · rename_i hu; simp at h; subst h; simp [hu]
   · rename_i hu;simp only [hu, if_false]
     split at h
     · simp at h
     · rename_i hf;simp at h;subst h;refine ⟨fun c => ?_, by omega, by omega⟩;simp
 by_cases h8 : m = 8
 · subst h8;simp at h;unfold St.closeR at *
   split at h
   · rename_i hf; simp at h; subst h; simp [hf]
   · simp at h
 by_cases h9 : m = 9
 · subst h9;simp at h;unfold St.askR at *;cases hc : x.checkUse 4 64 with
   | none => rw [hc] at h; simp at h
   | some j =>
     rw [hc] at h;simp at h;subst h;refine ⟨fun c => by simp, ?_⟩;unfold PS.checkUse at hc
     split at hc
     · simp at hc; omega
     · split at hc
       · simp at hc; omega
       · split at hc
         · simp at hc; omega
         · cases hc
 by_cases h10 : m = 10
 · subst h10;simp at h;unfold St.askR at *;cases hc : x.checkUse 5 8 with
   | none => rw [hc] at h; simp at h
   | some j =>
     rw [hc] at h;simp at h;subst h;refine ⟨fun c => by simp, ?_⟩;unfold PS.checkUse at hc
     split at hc
     · simp at hc; omega
     · split at hc
       · simp at hc; omega
       · split at hc
         · simp at hc; omega
         · cases hc
 by_cases h11 : m = 11
 · simp [h11] at h
 · simp [h0, h1, h2, h3, h4, h5, h6, h7, h8, h9, h10, h11] at h;subst h;simp [h0, h1, h2, h3, h4, h5, h6, h7, h8, h9, h10, h11]
theorem wK (eb : Nat → Nat × Nat) (e : Nat) : ∃ d, errv (erv eb 0) (erv eb 1) (erv eb 10) e = .iface 255 (ptq d) := by
 unfold errv
 split
 · exact ⟨_, rfl⟩
 · exact ⟨_, rfl⟩
 · exact ⟨_, rfl⟩
set_option maxHeartbeats 1000000 in
theorem yH : ∃ n, ∀ {p : Par} {Sh : Loc → Prop} {E Dn : Nat} {PostB : World → Prop} {Aft : Goroutine → World → Prop} {W : World} {O : Nat} {G0 : List (Nat × Obj)} {vs : List Value} (K : Nat) (A : Lay) (S : St) (Fr L : Frag) (eb : Nat → Nat × Nat) (b : Nat) (x : PS), (∀ s, NewT (domT Tryz.prog p Sh E Dn PostB Aft W O G0 s)) → Rep K A S Fr L → Ers eb Fr → Inv S → S.bo ≠ 0 → S.lead.first = some b → Running S.lead b x → S.pn ≤ 256 → (∀ i, i < S.pn → ∀ j, j < 4 → 0 ≤ S.pg i j ∧ S.pg i j < 256) → (∀ c, (∀ q ∈ S.lead.ps, c ≠ q.1) → Inv (S.lead.runS b x c) ∧ ∀ z, (b, z) ∈ (S.lead.runS b x c).ps → z.used < 4611686018427387904) →
   CallsL (domT Tryz.prog p Sh E Dn PostB Aft W O G0) Tryz.prog false 63 [ptr K, .chan (some E)].toArray n (evt S.lead.now 1 x.id x.at_ :: (S.lead.runE b x ++ vs)) L (fun s' v L' => vs = s' ∧ v = .tuple #[] ∧ ∃ A' c, (∀ q ∈ S.lead.ps, c ≠ q.1) ∧ Rep K A' ((S.lead.runS b x c).after b) Fr L') := by
 obtain ⟨n0, g0⟩ := fx;obtain ⟨n1, g1⟩ := p9;obtain ⟨n2, g2⟩ := pU;obtain ⟨n3, g3⟩ := mo;obtain ⟨n4, g4⟩ := yE;obtain ⟨n5, g5⟩ := wI;obtain ⟨n6, g6⟩ := wJ;obtain ⟨n7, g7⟩ := yF;obtain ⟨n8, g8⟩ := ue;obtain ⟨n9, g9⟩ := uf;obtain ⟨n10, g10⟩ := ug;obtain ⟨n11, g11⟩ := ye;apply Exists.intro;intro p Sh E Dn PostB Aft W O G0 vs K A S Fr L eb b x hN hR hE hI hbo hf hu hpn hby hres;have hfx := cv S;co_applyP aB 75 Tryz.func63 Tryz.ntmps63;co_applyP ae;co_applyP aa;co_applyP oy rfl aj;co_applyP oc rfl rfl rfl (g0 K A S Fr L (hN _).r hR hI.g);rintro _ _ _ ⟨rfl, rfl, hG1, hrel, A1, hl1, hR1⟩;co_applyP ah;change wpE ..;rename_i L1;have hbo' : (S.wakes (S.ps.map (·.1))).bo ≠ 0 := by rw [show (S.wakes (S.ps.map (·.1))).bo = S.bo from (fR _ S).bo]; exact hbo
 have hn1 : At L1 K 16 (.int .i64 ((S.wakes (S.ps.map (·.1))).now : Nat)) := hR1.kat rfl;have hb1 : At L1 K 3 (.int .i64 (S.wakes (S.ps.map (·.1))).bo) := hR1.kat rfl;co_applyP dR (fun s'' ε'' L'' => (evt S.lead.now 1 x.id x.at_ :: (S.lead.runE b x ++ vs)) = s'' ∧ kn ε'' [(0, ptr K), (1, .chan (some E))] ∧ ∃ A', Rep K A' S.lead Fr L'');co_applyP bK (0 < (S.wakes (S.ps.map (·.1))).now);intro h0
 · have e0 : decide ((0 : Int) < ((S.wakes (S.ps.map (·.1))).now : Nat)) = true := by simp; omega
   co_applyP bK ((((S.wakes (S.ps.map (·.1))).now : Nat) : Int).tmod (S.wakes (S.ps.map (·.1))).bo = 0);intro hm
   · have hB : S.lead = ((S.wakes (S.ps.map (·.1))).lifts ((S.wakes (S.ps.map (·.1))).ps.map (·.1))).raises 2 := by unfold St.lead St.boost; rw [if_pos (show S.wake.boosts from ⟨h0, hm⟩)]; rfl
     co_applyP ae;co_applyP bj aZ;co_applyP tr (i := 0) rfl aj pI;co_applyP tr (i := 1) rfl aL pI;co_applyP tr (i := 2) rfl (av (hf := bZ)) pI;co_applyP tr (i := 3) rfl (aC (ht := aV)) pI;co_applyP tr (i := 4) rfl dj pI;co_applyP tr (i := 5) rfl aj pI;rw [e0];co_applyP tr (i := 6) rfl (aj) pI;co_applyP tr (i := 7) rfl (aL) pI;co_applyP tr (i := 8) rfl ((av (hf := bZ))) pI;co_applyP tr (i := 9) rfl ((aC (ht := aV))) pI;co_applyP tr (i := 10) rfl (aj) pI;co_applyP tr (i := 11) rfl (aL) pI;co_applyP tr (i := 12) rfl ((av (hf := fw))) pI;co_applyP tr (i := 13) rfl ((av (hf := fM))) pI;co_applyP tr (i := 14) rfl ((aC (ht := aV))) pI;co_applyP tr (i := 15) rfl (gT) pI;co_applyP tr (i := 16) rfl (ay) pI;co_applyP tr (i := 17) rfl aN pI;co_applyP td (by kernel_rfl);change wpE ..;rw [hm];co_applyP aW rfl;co_applyP aa;co_applyP oy rfl aj;co_applyP oc rfl rfl rfl (g1 K A1 _ Fr L1 (hN _).r hR1 (fun l hl => hG1.r8 hl));rintro _ _ _ ⟨rfl, rfl, A2, hl2, hR2⟩;co_applyP ah;change _ = _ ∧ kn _ _ ∧ ∃ A', _;exact ⟨rfl, rfl, A2, by rw [hB]; exact hR2⟩
   intro hm;have hB : S.lead = S.wakes (S.ps.map (·.1)) := by unfold St.lead St.boost; rw [if_neg (fun h => hm h.2)]; rfl
   have em : ((((S.wakes (S.ps.map (·.1))).now : Nat) : Int).tmod (S.wakes (S.ps.map (·.1))).bo == 0) = false := by simp [hm]
   co_applyP ae;co_applyP bj aZ;co_applyP tr (i := 0) rfl aj pI;co_applyP tr (i := 1) rfl aL pI;co_applyP tr (i := 2) rfl (av (hf := bZ)) pI;co_applyP tr (i := 3) rfl (aC (ht := aV)) pI;co_applyP tr (i := 4) rfl dj pI;co_applyP tr (i := 5) rfl aj pI;rw [e0];co_applyP tr (i := 6) rfl (aj) pI;co_applyP tr (i := 7) rfl (aL) pI;co_applyP tr (i := 8) rfl ((av (hf := bZ))) pI;co_applyP tr (i := 9) rfl ((aC (ht := aV))) pI;co_applyP tr (i := 10) rfl (aj) pI;co_applyP tr (i := 11) rfl (aL) pI;co_applyP tr (i := 12) rfl ((av (hf := fw))) pI;co_applyP tr (i := 13) rfl ((av (hf := fM))) pI;co_applyP tr (i := 14) rfl ((aC (ht := aV))) pI;co_applyP tr (i := 15) rfl (gT) pI;co_applyP tr (i := 16) rfl (ay) pI;co_applyP tr (i := 17) rfl aN pI;co_applyP td (by kernel_rfl);change wpE ..;rw [em];co_applyP aq rfl;co_applyP aA;change _ = _ ∧ kn _ _ ∧ ∃ A', _;exact ⟨rfl, rfl, A1, by rw [hB]; exact hR1⟩
 intro h0;have e0 : decide ((0 : Int) < ((S.wakes (S.ps.map (·.1))).now : Nat)) = false := by simp; omega
 have hB : S.lead = S.wakes (S.ps.map (·.1)) := by unfold St.lead St.boost; rw [if_neg (fun h => h0 h.1)]; rfl
 co_applyP ae;co_applyP bj aZ;co_applyP tr (i := 0) rfl aj pI;co_applyP tr (i := 1) rfl aL pI;co_applyP tr (i := 2) rfl (av (hf := bZ)) pI;co_applyP tr (i := 3) rfl (aC (ht := aV)) pI;co_applyP tr (i := 4) rfl dj pI;co_applyP tr (i := 5) rfl aj pI;rw [e0];co_applyP tu (i := 6) rfl pI;co_applyP tu (i := 7) rfl pI;co_applyP tu (i := 8) rfl pI;co_applyP tu (i := 9) rfl pI;co_applyP tu (i := 10) rfl pI;co_applyP tu (i := 11) rfl pI;co_applyP tu (i := 12) rfl pI;co_applyP tu (i := 13) rfl pI;co_applyP tu (i := 14) rfl pI;co_applyP tu (i := 15) rfl pI;co_applyP tu (i := 16) rfl pI;co_applyP tr (i := 17) rfl aN pI;co_applyP td (by kernel_rfl);change wpE ..;co_applyP aq rfl;co_applyP aA;change _ = _ ∧ kn _ _ ∧ ∃ A', _;exact ⟨rfl, rfl, A1, by rw [hB]; exact hR1⟩;rintro _ ε2 L2 ⟨rfl, he2, A2, hR2⟩;co_applyP a6 he2;have hb := hu.m;have hid : At L2 b 0 (.int .i64 (x.id : Nat)) := hR2.pat hb (i := 0) rfl;have hat : At L2 b 4 (.int .i64 (x.at_ : Nat)) := hR2.pat hb (i := 4) rfl;have hK2 : ∀ q ∈ S.lead.ps, K ≠ q.1 := fun q hq => hR2.fn.ne hR2.k (hR2.p q hq) (aF (by decide));have hFb : ∀ t ∈ Fr, t.1 ≠ b := fun t ht => (hR2.fd t ht).2.1 _ hb;generalize hT : S.lead = T at *;co_applyP ae;co_applyP aa;co_applyP oy rfl aj;co_applyP oy rfl aL;co_applyP oy rfl (av (hf := dn));co_applyP oc rfl rfl rfl (g2 K A2 _ Fr L2 hR2);rintro _ _ _ ⟨rfl, rfl, rfl⟩;rw [hf];co_applyP oy rfl ak;co_applyP ah;change wpE ..;co_applyP ae;co_applyP ae;co_applyP aa;co_applyP oy rfl aj;co_applyP oy rfl (gj (hu := Tryz.underlying93));co_applyP ah;change wpE ..;co_applyP aq rfl;co_applyP aA;change wpE ..;co_applyP ae;co_applyP ui 12 aZ;co_applyP lt (i := 0) rfl aj;co_applyP lt (i := 1) rfl aj;co_applyP lt (i := 2) rfl aj;co_applyP lt (i := 3) rfl aL;co_applyP lt (i := 4) rfl (av (hf := aD));co_applyP lt (i := 5) rfl (av (hf := cn));co_applyP lt (i := 6) rfl (aC (ht := aV));co_applyP lt (i := 7) rfl aj;co_applyP lt (i := 8) rfl aL;co_applyP lt (i := 9) rfl (av (hf := aD));co_applyP lt (i := 10) rfl (av (hf := cB));co_applyP lt (i := 11) rfl (aC (ht := aV));co_applyP lc (i := 12) rfl rfl rfl (g3 K A2 _ Fr L2 1 x.id x.at_ hR2);rintro _ _ _ ⟨rfl, rfl, rfl⟩;change wpE ..;co_applyP dR (fun s'' ε'' L'' => vs = s'' ∧ kn ε'' [(0, ptr K), (1, .chan (some E)), (4, ptr b)] ∧ ∃ A' G c, (∀ q ∈ T.ps, c ≠ q.1) ∧ Stays b (T.runS b x c) G ∧ Rep K A' (T.runS b x c) (G ++ Fr) L'');co_applyP bK (T.pn ≤ x.at_);intro hp
 · have eE : T.runE b x = [evt T.now 4 x.id 65281] := by unfold St.runE; rw [if_pos hp]
   have eS : ∀ c, T.runS b x c = T.fin b x 65281 := fun c => by unfold St.runS; rw [if_pos hp]
   rw [eE];co_applyP aa;co_applyP oy rfl aj;co_applyP oy rfl aj;co_applyP oy rfl aj;co_applyP oy rfl aj;co_applyP oy rfl aj;co_applyP oc rfl rfl rfl (g4 K A2 T Fr L2 eb b x _ hR2 hE hb hp);rintro _ _ _ ⟨rfl, rfl, rfl⟩;co_applyP oy rfl aj;co_applyP oc rfl rfl rfl (g10 K A2 T Fr L2 eb b x (eb 0) (fun s => (hN s).toNewK) hR2 hE hu.i hb);rintro _ _ _ ⟨rfl, rfl, A3, G, hall, hR3⟩;co_applyP ah;change _ = _ ∧ kn _ _ ∧ ∃ A' G c, _;exact ⟨rfl, rfl, A3, G, K, hK2, by rw [eS]; exact hall _ hb, by rw [eS]; exact hR3⟩
 intro hp;have hp' : x.at_ < T.pn := by omega
 have h256 : T.pn ≤ 256 := by rw [hfx.pn]; exact hpn
 have hby' : ∀ j, j < 4 → 0 ≤ T.pg x.at_ j ∧ T.pg x.at_ j < 256 := fun j hj => by rw [hfx.pg]; exact hby _ (by rw [← hfx.pn]; exact hp') j hj
 co_applyP bK (T.pg x.at_ 0 = 9);intro h9
 · have eE : T.runE b x = (T.setP b x.next).grantE b x.next (T.pg x.at_ 1) := by unfold St.runE; rw [if_neg hp, if_pos h9]
   rw [eE];co_applyP bK ((T.setP b x.next).grantV b x.next (T.pg x.at_ 1) = none);intro hV
   · have eS : ∀ c, T.runS b x c = (T.setP b x.next).grantS b x.next (T.pg x.at_ 1) c := fun c => by unfold St.runS; rw [if_neg hp, if_pos h9, hV]
     co_applyP aa;co_applyP oy rfl aj;co_applyP oy rfl aj;co_applyP oy rfl aj;co_applyP oy rfl aj;co_applyP oy rfl aj;co_applyP oc rfl rfl rfl (g5 K A2 T Fr L2 eb b x hN hR2 hE hu hp' h256 h9 hV);rintro _ _ _ ⟨rfl, rfl, A3, G, c, hc, hst, hR3⟩;co_applyP oy rfl aj;rename_i L3;co_applyP oc rfl rfl rfl (g8 L3 K b _);rintro _ _ _ ⟨rfl, rfl, rfl⟩;co_applyP ah;change _ = _ ∧ kn _ _ ∧ ∃ A' G c, _;exact ⟨rfl, rfl, A3, G, c, hc, by rw [eS]; exact hst, by rw [eS]; exact hR3⟩
   intro hV;obtain ⟨i, hVi⟩ : ∃ i, (T.setP b x.next).grantV b x.next (T.pg x.at_ 1) = some i := by
     cases h : (T.setP b x.next).grantV b x.next (T.pg x.at_ 1) with
     | none => exact absurd h hV
     | some i => exact ⟨i, rfl⟩
   obtain ⟨hsame, hi11, hi2⟩ := lp hVi;have hbn : (b, x.next) ∈ (T.setP b x.next).ps := au hb;have eS : ∀ c, T.runS b x c = (T.setP b x.next).setP b (x.next.r0 (ansOf i)) := fun c => by
     unfold St.runS; rw [if_neg hp, if_pos h9, hVi];simp only [hsame];unfold St.r0;rw [bt (by rw [aX]; exact hu.i.g.pn) hbn]
   co_applyP aa;co_applyP oy rfl aj;co_applyP oy rfl aj;co_applyP oy rfl aj;co_applyP oy rfl aj;co_applyP oy rfl aj;co_applyP oc rfl rfl rfl (g6 K A2 T Fr L2 eb b x i hN hR2 hE hu hp' h256 h9 hVi);rintro _ _ _ ⟨rfl, r, rfl, hr, A3, G, c, hc, hst, hR3⟩;co_applyP oy rfl aj;rename_i L3;rw [hsame] at hR3;co_applyP oc rfl rfl rfl (g9 K A3 _ _ L3 eb b x.next r i _ (hN _).toNewK hR3 (hE.mono fun t ht => List.mem_append_right _ ht) hbn hr hi11 hi2);rintro _ _ _ ⟨rfl, rfl, hR4⟩;co_applyP ah;change _ = _ ∧ kn _ _ ∧ ∃ A' G c, _;exact ⟨rfl, rfl, A3, G, c, hc, by rw [eS]; exact .inl ⟨_, au hbn⟩, by rw [eS]; exact hR4⟩
 intro h9;co_applyP bK (∃ x', T.doR x = .ok x');intro hd
 · obtain ⟨x', hd'⟩ := hd;have eE : T.runE b x = [] := by unfold St.runE; rw [if_neg hp, if_neg h9, hd']
   have eS : ∀ c, T.runS b x c = T.setP b x' := fun c => by unfold St.runS; rw [if_neg hp, if_neg h9, hd']
   rw [eE];co_applyP aa;co_applyP oy rfl aj;co_applyP oy rfl aj;co_applyP oy rfl aj;co_applyP oy rfl aj;co_applyP oy rfl aj;co_applyP oc rfl rfl rfl (g7 K A2 T Fr L2 eb b x _ (hN _).i hR2 hE hu.i hb hp' h256 h9 hby');rintro _ _ _ ⟨rfl, hpost⟩;rename_i v3 L3;rw [show x.do (T.pg x.at_ 0) (T.pg x.at_ 1) (T.pg x.at_ 2) (T.pg x.at_ 3) = .ok x' from hd'] at hpost;obtain ⟨rfl, hR3⟩ := hpost;co_applyP oy rfl aj;co_applyP oc rfl rfl rfl (g8 L3 K b _);rintro _ _ _ ⟨rfl, rfl, rfl⟩;co_applyP ah;change _ = _ ∧ kn _ _ ∧ ∃ A' G c, _;exact ⟨rfl, rfl, A2, [], K, hK2, by rw [eS]; exact .inl ⟨_, au hb⟩, by rw [eS]; exact hR3⟩
 intro hd;obtain ⟨e, hd'⟩ : ∃ e, T.doR x = .error e := by
   cases h : T.doR x with
   | ok x' => exact absurd ⟨x', h⟩ hd
   | error e => exact ⟨e, rfl⟩
 obtain ⟨d, hde⟩ := wK eb e;have eE : T.runE b x = [evt T.now 4 x.id 65281] := by unfold St.runE; rw [if_neg hp, if_neg h9, hd']
 have eS : ∀ c, T.runS b x c = T.fin b x 65281 := fun c => by unfold St.runS; rw [if_neg hp, if_neg h9, hd']
 rw [eE];co_applyP aa;co_applyP oy rfl aj;co_applyP oy rfl aj;co_applyP oy rfl aj;co_applyP oy rfl aj;co_applyP oy rfl aj;co_applyP oc rfl rfl rfl (g7 K A2 T Fr L2 eb b x _ (hN _).i hR2 hE hu.i hb hp' h256 h9 hby');rintro _ _ _ ⟨rfl, hpost⟩;rename_i v3 L3;rw [show x.do (T.pg x.at_ 0) (T.pg x.at_ 1) (T.pg x.at_ 2) (T.pg x.at_ 3) = .error e from hd'] at hpost;obtain ⟨rfl, hR3⟩ := hpost;rw [hde];co_applyP oy rfl aj;co_applyP oc rfl rfl rfl (g10 K A2 T Fr L3 eb b x d (fun s => (hN s).toNewK) hR3 hE hu.i hb);rintro _ _ _ ⟨rfl, rfl, A4, G, hall, hR4⟩;co_applyP ah;change _ = _ ∧ kn _ _ ∧ ∃ A' G c, _;exact ⟨rfl, rfl, A4, G, K, hK2, by rw [eS]; exact hall _ hb, by rw [eS]; exact hR4⟩;rintro _ ε3 L3 ⟨rfl, he3, A3, G, c, hc, hst, hR3⟩;co_applyP a6 he3;obtain ⟨hIc, huc⟩ := hres c hc;obtain ⟨z, hzL, hz⟩ := Stays.at hR3 hst;have hz6 : At L3 b 6 (.int .i64 (z.used : Nat)) := ⟨true, _, _, _, hzL, rfl⟩;co_applyP ae;co_applyP aa;co_applyP oy rfl aj;co_applyP oy rfl aL;co_applyP oy rfl (av (hf := aD));co_applyP oy rfl (av (hf := fN));co_applyP oy rfl (aC (ht := aV));co_applyP oy rfl a7;co_applyP oy rfl aL;co_applyP oy rfl (av (hf := aD));co_applyP oy rfl (av (hf := fN));co_applyP osm rfl (hs := dm) (hm := hzL) (hi := by first | decide | (rw [bg]; omega) | (rw [bC]; omega));intro L4 hU4;have hz2 : At L4 b 2 (.int .i64 (z.st : Nat)) := ⟨true, _, _, _, hU4.self, by rw [Array.getElem?_setIfInBounds_ne (by decide)]; rfl⟩;have hset : (b, z) ∈ (T.runS b x c).ps → Rep K A3 ((T.runS b x c).setP b z.more) (G ++ Fr) L4 := fun hz' => by
   have hw := huc z hz';have w1 : IntKind.i64.wrap ((z.used : Int) + 1) = ((z.used + 1 : Nat) : Int) := by simp [IntKind.wrap_i64]; omega
   rw [w1] at hU4;exact hR3.setP (x' := z.more) hz' (by unfold PS.more; rw [← rg]; exact hU4)
 co_applyP ah;change wpE ..;co_applyP ae;co_applyP aa;co_applyP oy rfl aj;co_applyP oy rfl aL;co_applyP oy rfl (av (hf := aD));co_applyP oy rfl (av (hf := cA));co_applyP oy rfl (aC (ht := aV));co_applyP oy rfl ay;co_applyP ah;change wpE ..;co_applyP bl rfl;intro h1;co_applyP aa;co_applyP oy rfl aj;co_applyP oy rfl aj
 · have h1' : z.st = 1 := by simp at h1; omega
   have hz' : (b, z) ∈ (T.runS b x c).ps := hz.elim id fun h => by omega
   have hR4 := hset hz';have hG4 := hIc.g.like (x' := z.more) hz' rfl rfl;have hb4 : (b, z.more) ∈ ((T.runS b x c).setP b z.more).ps := au hz';have hlv := hG4.lv _ hb4;co_applyP oc rfl rfl rfl (g11 K A3 _ _ L4 b z.more (hN _).r hR4 hb4 hlv (fun l hl => hG4.r8 hl) (hG4.ex hlv) (fun e he l hl => cI e.1 hl));rintro _ _ _ ⟨rfl, rfl, A5, hl5, hR5⟩;co_applyP ah;change ∃ v, resE .. = some v ∧ _;refine ⟨_, rfl, rfl, rfl, A5, c, hc, ?_⟩;unfold St.after;rw [bt hIc.g.pn hz'];simp only [h1', if_true];exact hR5.less fun t ht => List.mem_append_right _ ht
 intro h1;co_applyP aA;change ∃ v, resE .. = some v ∧ _;have h1' : ¬ z.st = 1 := by simp at h1; omega
 refine ⟨_, rfl, rfl, rfl, A3, c, hc, ?_⟩;unfold St.after;rcases hz with hz' | ⟨hz', h6⟩
 · rw [bt hIc.g.pn hz'];simp only [h1', if_false];exact (hset hz').less fun t ht => List.mem_append_right _ ht
 · have hd := hR3.fd (pb b z) (List.mem_append_left _ hz');rw [ik fun r hr => Ne.symm (hd.2.1 r hr)];have hR3' := hR3.less (F' := Fr) fun t ht => List.mem_append_right _ ht;exact hR3'.off (b := b) (Ne.symm hd.1) (fun q hq => Ne.symm (hd.2.1 q hq)) hd.2.2.1 hd.2.2.2.1 (Ne.symm hd.2.2.2.2) (hR3.fn.ne hR3.g hzL (aF (by decide))) hFb hU4
def Calm (P : Nat → Prop) (S : St) : Prop := ∀ e ∈ S.wt, ∀ c ∈ e.2, ∀ y, (c, y) ∈ S.ps → y.st = 1 → P c
structure XI (N : Nat → Nat) (S : St) : Prop where
 un : ∀ q ∈ S.ps, q.2.used ≤ S.now
 idn : ∀ q ∈ S.ps, ∀ r ∈ S.ps, q.2.id = r.2.id → q = r
 idr : ∀ q ∈ S.ps, 1 ≤ q.2.id ∧ q.2.id ≤ S.last
 p1 : ∃ q ∈ S.ps, q.2.id = 1
 p0 : ∀ q ∈ S.ps, q.2.par = 0 ↔ q.2.id = 1
 r3 : ∀ l, 3 ≤ l → S.rows l = []
 nm : ∀ q ∈ S.ps, N q.1 = q.2.id
structure MI (P : Nat → Prop) (N : Nat → Nat) (S : St) : Prop where
 i : Inv S
 c : Calm P S
 x : XI N S
section
variable {S S' : St} {b : Nat} {x x' : PS} {k : Nat × Nat} {P : Nat → Prop} {N : Nat → Nat}
theorem XI.congr (h : XI N S) (h1 : S'.ps = S.ps) (h2 : S'.last = S.last) (h3 : S'.now = S.now) (h4 : ∀ l, 3 ≤ l → S'.rows l = S.rows l := by intro l _; rfl) : XI N S' := ⟨by rw [h1, h3]; exact h.un, by rw [h1]; exact h.idn, by rw [h1, h2]; exact h.idr, by rw [h1]; exact h.p1, by rw [h1]; exact h.p0, fun l hl => (h4 l hl).trans (h.r3 l hl), by rw [h1]; exact h.nm⟩
theorem gI {α : Type} {f : Nat → α} {i : Nat} {v : α} (hi : i < 3) : ∀ l, 3 ≤ l → put f i v l = f l := fun l hl => by unfold put; rw [if_neg (by omega)]
theorem XI.setP (h : XI N S) (hn : (S.ps.map (·.1)).Nodup) (hb : (b, x) ∈ S.ps) (hid : x'.id = x.id) (hpar : x'.par = 0 ↔ x.par = 0) (hu : x'.used ≤ S.now) : XI N (S.setP b x') := by
 refine ⟨fun q hq => ?_, fun q hq r hr e => ?_, fun q hq => ?_, ?_, fun q hq => ?_, h.r3, fun q hq => ?_⟩
 · rcases a5 hq with rfl | ⟨h1, _⟩
   · exact hu
   · exact h.un q h1
 · rcases a5 hq with rfl | ⟨h1, h1n⟩
   · rcases a5 hr with rfl | ⟨h2, h2n⟩
     · rfl
     · have := h.idn _ hb _ h2 (by rw [← e]; exact hid.symm);exact absurd (by rw [← this]) h2n
   · rcases a5 hr with rfl | ⟨h2, h2n⟩
     · have := h.idn _ h1 _ hb (by rw [e]; exact hid);exact absurd (by rw [this]) h1n
     · exact h.idn q h1 r h2 e
 · rcases a5 hq with rfl | ⟨h1, _⟩
   · show 1 ≤ x'.id ∧ x'.id ≤ S.last;rw [hid]; exact h.idr _ hb
   · exact h.idr q h1
 · obtain ⟨q, hq, h1⟩ := h.p1;by_cases e : q.1 = b
   · refine ⟨(b, x'), au hb, ?_⟩;show x'.id = 1;rw [hid];obtain ⟨c, y⟩ := q;have e' : c = b := e;subst e';rw [bp hn hb hq];exact h1
   · exact ⟨q, bW (c := q.1) (y := q.2) hq e, h1⟩
 · rcases a5 hq with rfl | ⟨h1, _⟩
   · show x'.par = 0 ↔ x'.id = 1;rw [hid]; exact hpar.trans (h.p0 _ hb)
   · exact h.p0 q h1
 · rcases a5 hq with rfl | ⟨h1, _⟩
   · show N b = x'.id;rw [hid]; exact h.nm _ hb
   · exact h.nm q h1
theorem XI.erase (h : XI N S) {i : Nat} {q : Nat × PS} (hi : S.ps[i]? = some q) (hq : q.2.id ≠ 1) : XI N { S.setPs (S.ps.eraseIdx i) with last := S.last } := by
 refine ⟨fun q hq => h.un q (List.mem_of_mem_eraseIdx hq), fun q hq r hr e => h.idn q (List.mem_of_mem_eraseIdx hq) r (List.mem_of_mem_eraseIdx hr) e, fun q hq => h.idr q (List.mem_of_mem_eraseIdx hq), ?_, fun q hq => h.p0 q (List.mem_of_mem_eraseIdx hq), h.r3, fun q hq => h.nm q (List.mem_of_mem_eraseIdx hq)⟩;obtain ⟨r, hr, h1⟩ := h.p1;refine ⟨r, ?_, h1⟩;show r ∈ S.ps.eraseIdx i;obtain ⟨j, hj⟩ := List.getElem?_of_mem hr;have hji : j ≠ i := fun e => by subst e; rw [hj] at hi; simp at hi; rw [← hi] at hq; exact hq h1
 rw [List.mem_eraseIdx_iff_getElem?];exact ⟨j, hji, hj⟩
theorem XI.taken (h : XI N S) {c : Nat} {y : PS} (hc : ∀ q ∈ S.ps, c ≠ q.1) (hp : y.par ≠ 0) (hu : y.used ≤ S.now) (hN : N c = S.last + 1) : XI N (S.taken c y) := by
 have hl : 1 ≤ S.last := by
   obtain ⟨q, hq, h1⟩ := h.p1;have := h.idr q hq;omega
 have cs : ∀ q ∈ (S.taken c y).ps, q ∈ S.ps ∨ q = (c, { y with id := S.last + 1 }) := fun q hq => by
   rcases List.mem_append.1 hq with h | h
   · exact .inl h
   · exact .inr (by simpa using h)
 refine ⟨fun q hq => ?_, fun q hq r hr e => ?_, fun q hq => ?_, ?_, fun q hq => ?_, h.r3, fun q hq => ?_⟩
 · rcases cs q hq with h1 | rfl
   · exact h.un q h1
   · exact hu
 · rcases cs q hq with h1 | rfl
   · rcases cs r hr with h2 | rfl
     · exact h.idn q h1 r h2 e
     · have := (h.idr q h1).2;simp only at e;omega
   · rcases cs r hr with h2 | rfl
     · have := (h.idr r h2).2;simp only at e;omega
     · rfl
 · show 1 ≤ q.2.id ∧ q.2.id ≤ S.last + 1;rcases cs q hq with h1 | rfl
   · have := h.idr q h1; omega
   · simp only; omega
 · obtain ⟨q, hq, h1⟩ := h.p1;exact ⟨q, List.mem_append_left _ hq, h1⟩
 · rcases cs q hq with h1 | rfl
   · exact h.p0 q h1
   · simp only;constructor
     · intro e; exact absurd e hp
     · intro e; omega
 · rcases cs q hq with h1 | rfl
   · exact h.nm q h1
   · exact hN
theorem Calm.out_mono {Q : Nat → Prop} (h : Calm P S) (hPQ : ∀ c, P c → Q c) : Calm Q S := fun e he c hc y hy h1 => hPQ c (h e he c hc y hy h1)
theorem Calm.depart (h : Calm P S) : Calm P (S.depart b k) := fun e he c hc y hy h1 => by
 rcases b8 he with ⟨h2, _⟩ | ⟨h2, _, xs, h3, h4⟩
 · exact h e h2 c hc y hy h1
 · rw [h4] at hc;exact h _ h3 c (List.mem_filter.1 hc).1 y hy h1
theorem Calm.setP (h : Calm P S) (hb : S.out b ∨ P b ∨ x'.st ≠ 1) : Calm P (S.setP b x') := fun e he c hc y hy h1 => by
 rcases a5 hy with h2 | ⟨h2, _⟩
 · cases h2;rcases hb with hb | hb | hb
   · exact absurd hc (hb e he)
   · exact hb
   · exact absurd h1 hb
 · exact h e he c hc y h2 h1
theorem Calm.congr (h : Calm P S) (h1 : S'.wt = S.wt) (h2 : S'.ps = S.ps) : Calm P S' := by unfold Calm; rw [h1, h2]; exact h
theorem Calm.join (h : Calm P S) (hb : P b) (hn : (S.wt.map (·.1)).Nodup) : Calm P (S.joinW b k) := fun e he c hc y hy h1 => by
 by_cases hk : ∀ e ∈ S.wt, e.1 ≠ k
 · have e1 : (S.joinW b k).wt = S.wt ++ [(k, [b])] := fe hk;rw [e1] at he;rcases List.mem_append.1 he with h2 | h2
   · exact h e h2 c hc y hy h1
   · simp at h2; subst h2; simp at hc; subst hc; exact hb
 · have hk' : k ∈ S.wt.map (·.1) := Decidable.byContradiction fun hn' => hk fun e he e1 => hn' (List.mem_map.2 ⟨e, he, e1⟩);obtain ⟨l1, ys, l2, hl, q1, q2⟩ := cu hn hk';have e1 : (S.joinW b k).wt = l1 ++ (k, ys ++ [b]) :: l2 := by show rowJoin b k S.wt = _; rw [hl, ip q1 q2]
   rw [e1] at he;rcases List.mem_append.1 he with h2 | h2
   · exact h e (by rw [hl]; simp [h2]) c hc y hy h1
   · rcases List.mem_cons.1 h2 with rfl | h2
     · rcases List.mem_append.1 hc with h3 | h3
       · exact h (k, ys) (by rw [hl]; simp) c h3 y hy h1
       · simp at h3; subst h3; exact hb
     · exact h e (by rw [hl]; simp [h2]) c hc y hy h1
theorem MI.depart (h : MI P N S) : MI P N (S.depart b k) := ⟨h.i.depart, h.c.depart, h.x.congr rfl rfl rfl⟩
theorem MI.setY (h : MI P N S) {i : Nat} {ys : List Int} (h8 : ys.length ≤ 8) (hb : ∀ v ∈ ys, 0 ≤ v ∧ v < 256) : MI P N (S.setY i ys) := ⟨h.i.setY h8 hb, h.c.congr rfl rfl, h.x.congr rfl rfl rfl⟩
theorem MI.like (h : MI P N S) (hb : (b, x) ∈ S.ps) (ho : S.out b) (hs : x'.st = x.st) (hl : x'.lv = x.lv) (hw : WF x') (hf : ∀ i, i < 6 → x'.f i = (0, 0) ∨ okEnd (x'.f i)) (hid : x'.id = x.id) (hpar : x'.par = x.par) (hu : x'.used ≤ S.now) : MI P N (S.setP b x') :=
 ⟨h.i.like hb ho hs hl hw hf, h.c.setP (.inl ho), h.x.setP h.i.g.pn hb hid (by rw [hpar]) hu⟩
theorem MI.r0 (h : MI P N S) (hb : (b, x) ∈ S.ps) (ho : S.out b) {v : Int} (hv : 0 ≤ v ∧ v < 65536) : MI P N (S.setP b (x.r0 v)) :=
 h.like hb ho rfl rfl (fA (h.i.wf _ hb) hv) (h.i.fl (b, x) hb) rfl rfl (h.x.un _ hb)
theorem MI.wake1 (h : MI P N S) (hb : (b, x) ∈ S.ps) (ho : S.out b) (hs : x.st ≠ 1) : MI P N (S.wake1 b x) :=
 ⟨h.i.wake1 hb ho hs, (h.c.setP (x' := { x with st := 1, used := 0 }) (.inl ho)).congr rfl rfl, (h.x.setP (x' := { x with st := 1, used := 0 }) h.i.g.pn hb rfl Iff.rfl (Nat.zero_le _)).congr rfl rfl rfl (gI (h.i.g.lv _ hb))⟩
theorem MI.stop1 (h : MI P N S) (hb : (b, x) ∈ S.ps) (ho : S.out b) {s : Nat} (hs : s ≠ 1) : MI P N (S.stop1 b x s) :=
 ⟨h.i.stop1 hb ho hs, (h.c.setP (x' := { x with st := s }) (.inl ho)).congr rfl rfl, (h.x.setP (x' := { x with st := s }) h.i.g.pn hb rfl Iff.rfl (h.x.un _ hb)).congr rfl rfl rfl (gI (h.i.g.lv _ hb))⟩
theorem lq : ∀ (vs : List Int) (x : PS) (i : Nat), (x.poke i vs).used = x.used
 | [], _, _ => rfl
 | v :: vs, x, i => lq vs { x with m := put x.m i v } (i + 1)
theorem mq (S : St) (x : PS) (k : Nat × Nat) : (S.carried x k).used = x.used := by
 unfold St.carried
 split
 · exact lq _ _ _
 · split <;> rfl
theorem MI.carry (h : MI P N S) (hb : (b, x) ∈ S.ps) (ho : S.out b) (hk : k.1 < 5) (ha : x.r 1 + x.r 2 ≤ 64) (hc : S.canBeDone x k = true) : MI P N (S.carry b x k) := by
 obtain ⟨ys, e, _⟩ := fB S b x k;obtain ⟨l1, l2, l3, l4, l5⟩ := cC S x k;refine ⟨h.i.carry hb ho hk ha hc, ?_, ?_⟩
 · rw [e];exact (h.c.setP (x' := S.carried x k) (.inl ho)).congr rfl rfl
 · rw [e];exact (h.x.setP (x' := S.carried x k) h.i.g.pn hb l4 (by rw [l5]) (by rw [mq]; exact h.x.un _ hb)).congr rfl rfl rfl
theorem MI.serve (h : MI P N S) (hS : S.serve k = some S') : MI P N S' := by
 obtain ⟨b, x, hm, _, hb, hc, rfl⟩ := cW hS;obtain ⟨ha, hk⟩ := h.i.atRow hm hb;have hd : MI P N (S.depart b k) := h.depart;have ho : (S.depart b k).out b := by have := h.i.out_depart hb; rw [ha.f] at this; exact this
 have hI := MI.carry hd (b := b) (x := x) (k := k) hb ho hk.1.2 ha.a hc
 split
 · exact hI
 · rename_i h1;refine hI.wake1 ?_ (by intro e he; exact ho e (by rw [io] at he; exact he)) (by rw [(cC S x k).1]; exact h1);rw [cR]; exact au hb
theorem MI.looks (p : Nat) : ∀ (n : Nat) {S : St}, MI P N S → MI P N (St.looks n S p)
 | 0, _, h => h
 | n + 1, S, h => by
   unfold St.looks
   split
   · exact MI.looks p n (h.serve ‹_›)
   · split
     · exact MI.looks p n (h.serve ‹_›)
     · exact h
theorem MI.shut (h : MI P N S) (hb : (b, x) ∈ S.ps) (ho : S.out b) (n : Nat) : MI P N (S.shut b n) := by
 unfold St.shut;rw [bt h.i.g.pn hb];exact MI.looks _ 16 (h.like (x' := { x with f := put x.f n (0, 0) }) hb ho rfl rfl ⟨(h.i.wf _ hb).r, (h.i.wf _ hb).m⟩ (iQ (h.i.fl _ hb) (.inl rfl)) rfl rfl (h.x.un (b, x) hb))
theorem MI.shuts (f : Nat → Nat × Nat) : ∀ (ns : List Nat) {S : St} {x : PS}, MI P N S → (b, x) ∈ S.ps → S.out b → MI P N (S.shuts b f ns)
 | [], _, _, h, _, _ => h
 | n :: ns, S, x, h, hb, ho => by
   show MI P N ((if f n = (0, 0) then S else S.shut b n).shuts b f ns)
   split
   · exact MI.shuts f ns h hb ho
   · have hl := h.i.shut hb ho n;exact MI.shuts f ns (h.shut hb ho n) (hl.m b _ ho (au hb)) (hl.o b ho)
theorem MI.orphs (id : Nat) (h1 : 1 ≤ id) : ∀ (bs : List Nat) {S : St}, MI P N S → MI P N (S.orphs id bs)
 | [], S, h => h
 | b :: bs, S, h => by
   unfold St.orphs;cases hg : S.get b with
   | none => exact MI.orphs id h1 bs h
   | some y =>
     simp only
     split
     · rename_i hp;have hb := bk hg;refine MI.orphs id h1 bs ⟨h.i.alike (x' := { y with par := 1 }) hb rfl rfl rfl rfl rfl, fun e he c hc z hz hz1 => ?_, h.x.setP h.i.g.pn hb rfl ?_ (h.x.un _ hb)⟩
       · rcases a5 hz with h2 | ⟨h2, _⟩
         · cases h2;exact h.c e he _ hc y hb hz1
         · exact h.c e he c hc z h2 hz1
       · simp only;constructor
         · intro e; cases e
         · intro e; omega
     · exact MI.orphs id h1 bs h
theorem MI.take (h : MI P N S) (hb : (b, x) ∈ S.ps) (ho : S.out b) {i : Nat} (hc : S.childAt x = some i) (h6 : x.st ≠ 6) : MI P N (S.take b x i) ∧ (b, x) ∈ S.ps.eraseIdx i := by
 obtain ⟨q, hq, hp, hq6⟩ := cO hc;have hI := h.i.erase (ls := S.last) (c := q.1) (y := q.2) hq hq6;have hci : (b, x) ∈ S.ps.eraseIdx i := by
   obtain ⟨j, hj⟩ := List.getElem?_of_mem hb;have hji : j ≠ i := fun e => by
     subst e;rw [hj] at hq;simp at hq;rw [← hq] at hq6;exact h6 hq6
   rw [List.mem_eraseIdx_iff_getElem?];exact ⟨j, hji, hj⟩
 have hqm := List.mem_of_getElem? hq;have hq1 : q.2.id ≠ 1 := fun e => by
   have := (h.x.p0 q hqm).2 e;have := (h.x.idr _ hb).1;simp only at this;omega
 have hX := h.x.erase hq hq1;have e : S.take b x i = ({ S.setPs (S.ps.eraseIdx i) with last := S.last } : St).setP b (told x q.2) := by unfold St.take; rw [hq]
 rw [e];have hM : MI P N ({ S.setPs (S.ps.eraseIdx i) with last := S.last } : St) := ⟨hI, fun e he c hc y hy h1 => h.c e he c hc y (List.mem_of_mem_eraseIdx hy) h1, hX⟩;exact ⟨hM.like (x' := told x q.2) hci ho rfl rfl (vX (h.i.wf _ hb) _) (h.i.fl (b, x) hb) rfl rfl (h.x.un (b, x) hb), hci⟩
theorem MI.parent1 (h : MI P N S) (c : Nat) : MI P N (S.parent1 c) := by
 unfold St.parent1;cases hg : S.get c with
 | none => exact h
 | some x =>
   simp only
   split
   · rename_i h2;cases hc : S.childAt x with
     | none => exact h
     | some i =>
       obtain ⟨q, hq, _, h6⟩ := cO hc;simp only [hq];have hb := bk hg;have ho := h.i.out_st hb (by omega) (by omega) (by omega);obtain ⟨hT, hci⟩ := h.take hb ho hc (by omega);have e : S.take c x i = ({ S.setPs (S.ps.eraseIdx i) with last := S.last } : St).setP c (told x q.2) := by unfold St.take; rw [hq]
       refine hT.wake1 (x := told x q.2) ?_ ?_ (by show x.st ≠ 1; omega)
       · rw [e]; exact au hci
       · rw [e]; exact ho
   · exact h
theorem MI.parents : ∀ (bs : List Nat) {S : St}, MI P N S → MI P N (S.parents bs)
 | [], _, h => h
 | c :: bs, _, h => MI.parents bs (h.parent1 c)
theorem MI.fin (h : MI P N S) (hb : (b, x) ∈ S.ps) (status : Int) : MI P N (S.fin b x status) := by
 have ho := h.i.out_depart hb;have h1 : MI P N (S.depart b (x.file (x.r 0))) := h.depart;have hb1 : (b, x) ∈ (S.depart b (x.file (x.r 0))).ps := hb;have h2 := h1.stop1 hb1 ho (s := 6) (by decide);have hb2 : (b, { x with st := 6 }) ∈ ((S.depart b (x.file (x.r 0))).stop1 b x 6).ps := au hb1;have h3 := h2.like (x' := { x with st := 6, stat := status }) hb2 ho rfl rfl ⟨(h.i.wf _ hb).r, (h.i.wf _ hb).m⟩ (h.i.fl (b, x) hb) rfl rfl (h.x.un (b, x) hb);have h4 := MI.shuts (b := b) x.f (List.range' 0 6) h3 (au hb2) ho;exact MI.parents _ (MI.orphs _ (h.x.idr _ hb).1 _ h4)
end
def St.move (S : St) (b : Nat) (x x' : PS) : St :=
 let S1 := (S.setRow x.lv ((S.rows x.lv).erase b)).setP b x'
 S1.setRow x'.lv (S1.rows x'.lv ++ [b])
section
variable {S S' : St} {b : Nat} {x x' : PS} {k : Nat × Nat} {P : Nat → Prop} {N : Nat → Nat}
theorem Good.move (h : Good S) (hb : (b, x) ∈ S.ps) (hs : x.st = 1) (hs' : x'.st = 1) (hl : x'.lv < 3) : Good (S.move b x x') := by
 have hlv := h.lv _ hb;have hin := h.rr _ hb hs;have rows : ∀ l, (S.move b x x').rows l = if l = x'.lv then (if x'.lv = x.lv then (S.rows x.lv).erase b else S.rows x'.lv) ++ [b] else if l = x.lv then (S.rows x.lv).erase b else S.rows l := fun l => rfl;have nin : ∀ l, l < 3 → l ≠ x.lv → b ∉ S.rows l := fun l hl hne hm => by
   obtain ⟨y, hy, h1, _⟩ := h.rm l hl b hm;rw [bp h.pn hb hy] at hne;exact hne h1.symm
 have ner : b ∉ (S.rows x.lv).erase b := List.Nodup.not_mem_erase (h.rn _ hlv);have old : ∀ l, l < 3 → ∀ c, c ∈ S.rows l → c ≠ b → ∃ y, (c, y) ∈ (S.move b x x').ps ∧ y.lv = l ∧ y.st = 1 := fun l hl c hc hne => by
   obtain ⟨y, hy, h1, h2⟩ := h.rm l hl c hc;exact ⟨y, bW (S := S) hy hne, h1, h2⟩
 refine ⟨by show (S.setP b x').ps.map (·.1) |>.Nodup; rw [aX]; exact h.pn, by show (S.setP b x').ps.length ≤ 8; rw [eP]; exact h.p8, fun q hq => ?_, fun l hl' => ?_, fun l hl' c hc => ?_, fun q hq h1 => ?_⟩
 · rcases a5 (S := S) hq with rfl | ⟨h1, _⟩
   · exact hl
   · exact h.lv q h1
 · rw [rows]
   split
   · split
     · refine List.nodup_append.2 ⟨(h.rn _ hlv).sublist List.erase_sublist, by simp, fun a ha c hc => ?_⟩;simp at hc;subst hc;rintro rfl;exact ner ha
     · rename_i hne;refine List.nodup_append.2 ⟨h.rn _ hl, by simp, fun a ha c hc => ?_⟩;simp at hc;subst hc;rintro rfl;exact nin _ hl hne ha
   · split
     · exact (h.rn _ hlv).sublist List.erase_sublist
     · exact h.rn l hl'
 · rw [rows] at hc
   split at hc
   · rename_i e;subst e;rcases List.mem_append.1 hc with h1 | h1
     · split at h1
       · rename_i e;have hne : c ≠ b := fun e' => ner (e' ▸ h1);obtain ⟨y, hy, h2, h3⟩ := old _ hlv c (List.mem_of_mem_erase h1) hne;exact ⟨y, hy, h2.trans e.symm, h3⟩
       · rename_i hne;exact old _ hl c h1 fun e' => nin _ hl hne (e' ▸ h1)
     · simp at h1;subst h1;exact ⟨x', au (S := S) hb, rfl, hs'⟩
   · split at hc
     · rename_i e;subst e;exact old _ hlv c (List.mem_of_mem_erase hc) fun e' => ner (e' ▸ hc)
     · rename_i hne;exact old l hl' c hc fun e' => nin l hl' hne (e' ▸ hc)
 · rw [rows];rcases a5 (S := S) hq with rfl | ⟨h2, h3⟩
   · simp
   · have := h.rr q h2 h1
     split
     · rename_i e;apply List.mem_append_left
       split
       · rename_i e2;rw [e, e2] at this;exact (List.mem_erase_of_ne h3).2 this
       · rw [e] at this; exact this
     · split
       · rename_i e;rw [e] at this;exact (List.mem_erase_of_ne h3).2 this
       · exact this
theorem MI.move (h : MI P N S) (hb : (b, x) ∈ S.ps) (ho : S.out b) (hs : x.st = 1) (hs' : x'.st = 1) (hl : x'.lv < 3) (hw : WF x') (hf : ∀ i, i < 6 → x'.f i = (0, 0) ∨ okEnd (x'.f i)) (hid : x'.id = x.id) (hpar : x'.par = x.par) (hu : x'.used ≤ S.now) : MI P N (S.move b x x') where
 i :=
   { g := h.i.g.move hb hs hs' hl
     wf := fun q hq => by
       rcases a5 (S := S) hq with rfl | ⟨h1, _⟩
       · exact hw
       · exact h.i.wf q h1
     fl := fun q hq => by
       rcases a5 (S := S) hq with rfl | ⟨h1, _⟩
       · exact hf
       · exact h.i.fl q h1
     y8 := h.i.y8, yb := h.i.yb, kn := h.i.kn, ne := h.i.ne, nd := h.i.nd, ke := h.i.ke
     rm := fun e he c hc => by
       obtain ⟨y, hy, ha⟩ := h.i.rm e he c hc;exact ⟨y, bW (S := S) hy (by rintro rfl; exact ho e he hc), ha⟩ }
 c := (h.c.setP (x' := x') (.inl ho)).congr rfl rfl
 x := (h.x.setP (x' := x') h.i.g.pn hb hid (by rw [hpar]) hu).congr rfl rfl rfl fun l hl' => (gI hl l hl').trans (gI (h.i.g.lv _ hb) l hl')
theorem MI.out (h : MI (fun _ => False) N S) (hb : (b, x) ∈ S.ps) (hs : x.st = 1) : S.out b := fun e he hm => h.c e he b hm x hb hs
theorem MI.yield1 (h : MI P N S) (hb : (b, x) ∈ S.ps) (ho : S.out b) (hs : x.st = 1) : MI P N (S.yield1 b x) :=
 h.move (x' := x.r0 0) hb ho hs hs (h.i.g.lv (b, x) hb) (fA (h.i.wf _ hb) (by omega)) (h.i.fl (b, x) hb) rfl rfl (h.x.un (b, x) hb)
theorem MI.sleep1 (h : MI P N S) (hb : (b, x) ∈ S.ps) (ho : S.out b) : MI P N (S.sleep1 b x) := by
 unfold St.sleep1
 split
 · exact h.r0 hb ho (by omega)
 · have h1 := h.like (x' := { x.r0 0 with til := (S.now : Int) + x.r 0 }) hb ho rfl rfl ⟨(fA (h.i.wf _ hb) (v := 0) (by omega)).r, (h.i.wf _ hb).m⟩ (h.i.fl (b, x) hb) rfl rfl (h.x.un (b, x) hb);exact h1.stop1 (au hb) ho (by decide)
theorem MI.waitR (h : MI P N S) (hb : (b, x) ∈ S.ps) (ho : S.out b) (hs : x.st = 1) : MI P N (S.waitR b x).2 := by
 unfold St.waitR
 split
 · simp only
   split
   · exact (h.take hb ho ‹_› (by omega)).1
   · exact h.stop1 hb ho (by decide)
 · exact h
theorem MI.r0' (h : MI P N S) (ho : ∀ z, (b, z) ∈ S.ps → S.out b) {v : Int} (hv : 0 ≤ v ∧ v < 65536) : MI P N (S.r0 b v) := by
 unfold St.r0;cases hg : S.get b with
 | none => exact h
 | some z => exact h.r0 (bk hg) (ho z (bk hg)) hv
theorem MI.pipeR (h : MI P N S) (hb : (b, x) ∈ S.ps) (ho : S.out b) : MI P N (S.pipeR b x).2 := by
 unfold St.pipeR
 split
 · exact h
 · rename_i hu
   split
   · rename_i i j l hl;have hlt : ∀ i ∈ x.frees 6, i < 6 := fun i hi => by
       unfold PS.frees at hi;simpa using (List.mem_filter.1 hi).1
     have hi := hlt i (by rw [hl]; simp);have hj := hlt j (by rw [hl]; simp);have hu5 := ll S;have h1 := h.setY (i := S.unused) (ys := []) (by simp) (by simp);refine h1.like (x' := x.piped S.unused i j) hb ho rfl rfl ⟨fun n hn => ?_, (h.i.wf _ hb).m⟩ ?_ rfl rfl (h.x.un (b, x) hb)
     · show 0 ≤ put (put x.r 0 (i : Int)) 1 (j : Int) n ∧ put (put x.r 0 (i : Int)) 1 (j : Int) n < 65536;have := (h.i.wf _ hb).r n hn;unfold put
       split
       · omega
       · split
         · omega
         · exact this
     · exact iQ (x := { x with f := put x.f i (S.unused, 4) }) (iQ (h.i.fl (b, x) hb) (.inr ⟨⟨by simp only; omega, hu5⟩, .inl rfl⟩)) (.inr ⟨⟨by simp only; omega, hu5⟩, .inr rfl⟩)
   · exact h
theorem MI.closeR (h : MI P N S) (hb : (b, x) ∈ S.ps) (ho : S.out b) : MI P N (S.closeR b x).2 := by
 unfold St.closeR
 split
 · exact h
 · exact (h.shut hb ho _).r0' (fun z hz => (h.i.shut hb ho _).o b ho) (by omega)
theorem MI.taken (h : MI P N S) {c : Nat} {y : PS} (hc : ∀ q ∈ S.ps, c ≠ q.1) (h8 : S.ps.length < 8) (hs : y.st = 0) (hl : y.lv < 3) (hw : WF y) (hf : ∀ i, i < 6 → y.f i = (0, 0) ∨ okEnd (y.f i)) (hp : y.par ≠ 0) (hu : y.used ≤ S.now) (hN : N c = S.last + 1) : MI P N (S.taken c y) ∧ (S.taken c y).out c := by
 have cs : ∀ q ∈ (S.taken c y).ps, q ∈ S.ps ∨ q = (c, { y with id := S.last + 1 }) := fun q hq => by
   rcases List.mem_append.1 hq with h | h
   · exact .inl h
   · exact .inr (by simpa using h)
 have ho : (S.taken c y).out c := fun e he hm => by
   obtain ⟨z, hz, _⟩ := h.i.rm e he c hm;exact hc _ hz rfl
 refine ⟨⟨{ g := ?_, wf := ?_, fl := ?_, y8 := h.i.y8, yb := h.i.yb, kn := h.i.kn, ne := h.i.ne, nd := h.i.nd, ke := h.i.ke, rm := ?_ }, ?_, h.x.taken hc hp hu hN⟩, ho⟩
 · refine ⟨?_, by show (S.ps ++ [_]).length ≤ 8; simp; omega, fun q hq => ?_, h.i.g.rn, fun l hl c' hc' => ?_, fun q hq h1 => ?_⟩
   · show ((S.ps ++ [(c, _)]).map (fun q : Nat × PS => q.1)).Nodup;rw [List.map_append];refine List.nodup_append.2 ⟨h.i.g.pn, by simp, fun u hu v hv => ?_⟩;simp at hv;subst hv;rintro rfl;obtain ⟨q, hq, e⟩ := List.mem_map.1 hu;exact hc q hq e.symm
   · rcases cs q hq with h1 | rfl
     · exact h.i.g.lv q h1
     · exact hl
   · obtain ⟨z, hz, h1, h2⟩ := h.i.g.rm l hl c' hc';exact ⟨z, List.mem_append_left _ hz, h1, h2⟩
   · rcases cs q hq with h2 | rfl
     · exact h.i.g.rr q h2 h1
     · simp only at h1; omega
 · intro q hq;rcases cs q hq with h1 | rfl
   · exact h.i.wf q h1
   · exact ⟨hw.r, hw.m⟩
 · intro q hq;rcases cs q hq with h1 | rfl
   · exact h.i.fl q h1
   · exact hf
 · intro e he c' hc';obtain ⟨z, hz, ha⟩ := h.i.rm e he c' hc';exact ⟨z, List.mem_append_left _ hz, ha⟩
 · intro e he c' hc' z hz h1;rcases cs _ hz with h2 | h2
   · exact h.c e he c' hc' z h2 h1
   · have e2 : z = { y with id := S.last + 1 } := congrArg Prod.snd h2;rw [e2] at h1;simp only at h1;omega
theorem MI.forkS (h : MI P N S) (hb : (b, x) ∈ S.ps) (ho : S.out b) {c : Nat} (hc : ∀ q ∈ S.ps, c ≠ q.1) (h8 : S.ps.length < 8) (hN : N c = S.last + 1) : MI P N (S.forkS b x c) := by
 have hw := h.i.wf _ hb;have hid := (h.x.idr _ hb).1;obtain ⟨h1, ho1⟩ := h.taken (y := x.copy.r0 0) hc h8 rfl (by show 0 < 3; omega) (fA (x := x.copy) (v := 0) ⟨hw.r, hw.m⟩ (by omega)) (h.i.fl (b, x) hb) (by show x.id ≠ 0; simp only at hid; omega) (Nat.zero_le _) hN;have hcm : (c, { x.copy.r0 0 with id := S.last + 1 }) ∈ (S.taken c (x.copy.r0 0)).ps := List.mem_append_right _ List.mem_cons_self;have h2 := h1.wake1 hcm ho1 (by show (0 : Nat) ≠ 1; omega);have hbc : b ≠ c := fun e => hc _ hb e.symm;have hb2 : (b, x) ∈ (S.adopt c (x.copy.r0 0)).ps := bW (List.mem_append_left _ hb) hbc;exact h2.r0 hb2 ho (by omega)
def Shr (S S' : St) : Prop := ∀ e ∈ S'.wt, ∃ e' ∈ S.wt, e'.1 = e.1 ∧ ∀ c ∈ e.2, c ∈ e'.2
theorem Shr.refl (S : St) : Shr S S := fun e he => ⟨e, he, rfl, fun _ h => h⟩
theorem Shr.trans {S T U : St} (h : Shr S T) (k : Shr T U) : Shr S U := fun e he => by
 obtain ⟨e1, h1, h2, h3⟩ := k e he;obtain ⟨e2, h4, h5, h6⟩ := h e1 h1;exact ⟨e2, h4, h5.trans h2, fun c hc => h6 c (h3 c hc)⟩
theorem lr (hS : S.serve k = some S') : Shr S S' := fun e he => by
 obtain ⟨b, hh, hw⟩ := j9 hS;rw [hw] at he;rcases b8 he with ⟨h1, _⟩ | ⟨h2, _, xs, h3, h4⟩
 · exact ⟨e, h1, rfl, fun _ h => h⟩
 · exact ⟨(k, xs), h3, h2.symm, fun c hc => by rw [h4] at hc; exact (List.mem_filter.1 hc).1⟩
theorem fS (p : Nat) : ∀ (n : Nat) (S : St), Shr S (St.looks n S p)
 | 0, S => Shr.refl S
 | n + 1, S => by
   unfold St.looks
   split
   · exact (lr ‹_›).trans (fS p n _)
   · split
     · exact (lr ‹_›).trans (fS p n _)
     · exact Shr.refl S
theorem uB {e : (Nat × Nat) × List Nat} (hn : (S.wt.map (·.1)).Nodup) (ho : S.out b) (he : e ∈ (S.joinW b k).wt) (hm : b ∈ e.2) : e.1 = k := by
 by_cases hk : ∀ e ∈ S.wt, e.1 ≠ k
 · have e1 : (S.joinW b k).wt = S.wt ++ [(k, [b])] := fe hk;rw [e1] at he;rcases List.mem_append.1 he with h2 | h2
   · exact absurd hm (ho e h2)
   · simp at h2; rw [h2]
 · have hk' : k ∈ S.wt.map (·.1) := Decidable.byContradiction fun hn' => hk fun e he e1 => hn' (List.mem_map.2 ⟨e, he, e1⟩);obtain ⟨l1, ys, l2, hl, q1, q2⟩ := cu hn hk';have e1 : (S.joinW b k).wt = l1 ++ (k, ys ++ [b]) :: l2 := by show rowJoin b k S.wt = _; rw [hl, ip q1 q2]
   rw [e1] at he;rcases List.mem_append.1 he with h2 | h2
   · exact absurd hm (ho e (by rw [hl]; simp [h2]))
   · rcases List.mem_cons.1 h2 with rfl | h2
     · rfl
     · exact absurd hm (ho e (by rw [hl]; simp [h2]))
theorem MI.askR (h : MI (fun _ => False) N S) (hb : (b, x) ∈ S.ps) (hs : x.st = 1) {use most : Nat} (hu : use = 4 ∨ use = 5) (hm : use = 5 → most ≤ 8) : MI (fun _ => False) N (S.askR b x use most).2 := by
 have ho := h.out hb hs;unfold St.askR;cases hc : x.checkUse use most with
 | some i => exact h
 | none =>
   obtain ⟨c1, c2, c3⟩ := eF hc;have hk : okEnd (x.file (x.r 0)) := (h.i.file_ok hb _).resolve_left fun e => by rw [e] at c1; simp only at c1; omega
   have hj : MI (· = b) N (S.joinW b (x.file (x.r 0))) := ⟨h.i.joinW hb ho ⟨rfl, c3, fun h5 => by rw [h5] at c1; have := hm c1.symm; omega, .inl hs⟩ hk, (h.c.out_mono fun c hc => hc.elim).join rfl h.i.kn, h.x.congr rfl rfl rfl⟩;have h2 : MI (· = b) N ((S.joinW b (x.file (x.r 0))).look (x.file (x.r 0)).1) := MI.looks _ 16 hj;have hrow : ∀ e ∈ ((S.joinW b (x.file (x.r 0))).look (x.file (x.r 0)).1).wt, b ∈ e.2 → e.1 = x.file (x.r 0) := fun e he hme => by
     obtain ⟨e', h3, h4, h5⟩ := fS _ _ _ e he;rw [← h4];exact uB h.i.kn ho h3 (h5 b hme)
   generalize hS2 : (S.joinW b (x.file (x.r 0))).look (x.file (x.r 0)).1 = S2 at *;generalize hkk : x.file (x.r 0) = k at *;simp only
   split
   · rename_i hin;have hfst : b ∈ S2.ps.map (·.1) := by
       obtain ⟨xs, q1, q2⟩ := fQ hin;obtain ⟨y, hy, _⟩ := h2.i.rm _ q1 b (by rw [q2]; exact hin);exact fD hy
     obtain ⟨z, hz⟩ := eU hfst;rw [bt h2.i.g.pn hz];simp only;have hask := (h2.i.atRow hin hz).1;refine ⟨{ g := h2.i.g.stop1 hz (by omega), wf := ?_, fl := ?_, y8 := h2.i.y8, yb := h2.i.yb, kn := h2.i.kn, ne := h2.i.ne, nd := h2.i.nd, ke := h2.i.ke, rm := ?_ }, ?_, ?_⟩
     · intro q hq;rcases a5 hq with rfl | ⟨h3, _⟩
       · exact ⟨(h2.i.wf _ hz).r, (h2.i.wf _ hz).m⟩
       · exact h2.i.wf q h3
     · intro q hq;rcases a5 hq with rfl | ⟨h3, _⟩
       · exact h2.i.fl (b, z) hz
       · exact h2.i.fl q h3
     · intro e he c hce;obtain ⟨y, hy, ha⟩ := h2.i.rm e he c hce;by_cases ecb : c = b
       · subst ecb;obtain rfl := bp h2.i.g.pn hz hy;refine ⟨{ z with st := use }, au hz, ha.f, ha.a, ha.w, .inr ?_⟩;show use = e.1.2;rw [hrow e he hce, c1]
       · exact ⟨y, bW hy ecb, ha⟩
     · intro e he c hce y hy h1;rcases a5 hy with h3 | ⟨h3, h4⟩
       · have e3 : y = { z with st := use } := congrArg Prod.snd h3;rw [e3] at h1;simp only at h1;omega
       · exact h4 (h2.c e he c hce y h3 h1)
     · exact (h2.x.setP (x' := { z with st := use }) h2.i.g.pn hz rfl Iff.rfl (h2.x.un (b, z) hz)).congr rfl rfl rfl (gI (h2.i.g.lv _ hz))
   · rename_i hnin;refine ⟨h2.i, fun e he c hce y hy h1 => ?_, h2.x⟩;have ecb := h2.c e he c hce y hy h1;subst ecb;have := hrow e he hce;refine hnin ?_;have e5 : (k, e.2) ∈ S2.wt := by rw [← this]; exact he
     rw [cQ h2.i.kn e5];exact hce
end
structure FixL (S S' : St) : Prop extends Fix S S' where
 last : S'.last = S.last
theorem FixL.refl (S : St) : FixL S S := ⟨Fix.refl S, rfl⟩
theorem FixL.trans {S T U : St} (h : FixL S T) (k : FixL T U) : FixL S U := ⟨h.toFix.trans k.toFix, k.last.trans h.last⟩
theorem dP {S S' : St} (h1 : S'.sl = S.sl) (h2 : S'.bo = S.bo) (h3 : S'.pn = S.pn) (h4 : S'.pg = S.pg) (h5 : S'.now = S.now) (h6 : S'.last = S.last) : FixL S S' := ⟨⟨h1, h2, h3, h4, h5⟩, h6⟩
theorem dK (S : St) (b : Nat) (x : PS) : FixL S (S.setP b x) := dP rfl rfl rfl rfl rfl rfl
theorem ny (S : St) (b : Nat) (x : PS) (s : Nat) : FixL S (S.stop1 b x s) := dP rfl rfl rfl rfl rfl rfl
theorem nz (S : St) (b : Nat) (x : PS) : FixL S (S.wake1 b x) := dP rfl rfl rfl rfl rfl rfl
theorem nC (S : St) (b : Nat) (v : Int) : FixL S (S.r0 b v) := by
 unfold St.r0
 split
 · exact dK S b _
 · exact FixL.refl S
theorem uC (S : St) (b : Nat) (x : PS) (k : Nat × Nat) : FixL S (S.carry b x k) := by
 obtain ⟨ys, e, _⟩ := fB S b x k;rw [e]; exact dP rfl rfl rfl rfl rfl rfl
theorem nD {S S' : St} {k : Nat × Nat} (h : S.serve k = some S') : FixL S S' := by
 obtain ⟨b, x, _, _, _, _, rfl⟩ := cW h;have h1 : FixL S ((S.depart b k).carry b x k) := FixL.trans (T := S.depart b k) (dP rfl rfl rfl rfl rfl rfl) (uC (S.depart b k) b x k)
 split
 · exact h1
 · exact h1.trans (nz _ _ _)
theorem iq (p : Nat) : ∀ (n : Nat) (S : St), FixL S (St.looks n S p)
 | 0, S => FixL.refl S
 | n + 1, S => by
   unfold St.looks
   split
   · exact (nD ‹_›).trans (iq p n _)
   · split
     · exact (nD ‹_›).trans (iq p n _)
     · exact FixL.refl S
theorem qi (S : St) (b n : Nat) : FixL S (S.shut b n) := by
 unfold St.shut
 split
 · exact (dK S b _).trans (iq _ 16 _)
 · exact FixL.refl S
theorem kr (b : Nat) (f : Nat → Nat × Nat) : ∀ (ns : List Nat) (S : St), FixL S (S.shuts b f ns)
 | [], S => FixL.refl S
 | n :: ns, S => by
   show FixL S ((if f n = (0, 0) then S else S.shut b n).shuts b f ns)
   split
   · exact kr b f ns S
   · exact (qi S b n).trans (kr b f ns _)
theorem nE (id : Nat) : ∀ (bs : List Nat) (S : St), FixL S (S.orphs id bs)
 | [], S => FixL.refl S
 | b :: bs, S => by
   unfold St.orphs;refine FixL.trans ?_ (nE id bs _)
   split
   · split
     · exact dK S b _
     · exact FixL.refl S
   · exact FixL.refl S
theorem qj (S : St) (b : Nat) (x : PS) (i : Nat) : FixL S (S.take b x i) := by
 unfold St.take
 split
 · exact dP rfl rfl rfl rfl rfl rfl
 · exact FixL.refl S
theorem o9 (S : St) (b : Nat) : FixL S (S.parent1 b) := by
 unfold St.parent1
 split
 · split
   · split
     · split
       · exact (qj S b _ _).trans (nz _ _ _)
       · exact FixL.refl S
     · exact FixL.refl S
   · exact FixL.refl S
 · exact FixL.refl S
theorem ku : ∀ (bs : List Nat) (S : St), FixL S (S.parents bs)
 | [], S => FixL.refl S
 | b :: bs, S => (o9 S b).trans (ku bs _)
theorem iS (S : St) (b : Nat) (x : PS) (status : Int) : FixL S (S.fin b x status) := by
 unfold St.fin;refine FixL.trans ?_ (ku _ _);refine FixL.trans ?_ (nE _ _ _);refine FixL.trans ?_ (kr b x.f _ _);exact dP rfl rfl rfl rfl rfl rfl
theorem lu (S : St) (b : Nat) (x : PS) : FixL S (S.sleep1 b x) := by
 unfold St.sleep1
 split <;> exact dP rfl rfl rfl rfl rfl rfl
theorem nF (S : St) (b : Nat) (x : PS) : FixL S (S.waitR b x).2 := by
 unfold St.waitR
 split
 · simp only
   split
   · exact qj S b x _
   · exact ny S b x 2
 · exact FixL.refl S
theorem nG (S : St) (b : Nat) (x : PS) : FixL S (S.pipeR b x).2 := by
 unfold St.pipeR
 split
 · exact FixL.refl S
 · split
   · exact dP rfl rfl rfl rfl rfl rfl
   · exact FixL.refl S
theorem lw (S : St) (b : Nat) (x : PS) : FixL S (S.closeR b x).2 := by
 unfold St.closeR
 split
 · exact FixL.refl S
 · exact (qi S b _).trans (nC _ b 0)
theorem jv (S : St) (b : Nat) (x : PS) (use most : Nat) : FixL S (S.askR b x use most).2 := by
 unfold St.askR
 split
 · exact FixL.refl S
 · have h1 : FixL S ((S.joinW b (x.file (x.r 0))).look (x.file (x.r 0)).1) := FixL.trans (T := S.joinW b (x.file (x.r 0))) (dP rfl rfl rfl rfl rfl rfl) (iq _ 16 _);simp only
   split
   · split
     · exact h1.trans (ny _ _ _ _)
     · exact h1
   · exact h1
theorem ir (S : St) (b : Nat) : FixL S (S.after b) := by
 unfold St.after
 split
 · split
   · rename_i z _ _;refine (dK S b z.more).trans ?_;unfold St.turn
     split
     · exact FixL.refl _
     · exact dP rfl rfl rfl rfl rfl rfl
   · exact dK S b _
 · exact FixL.refl S
theorem iu (Q : St → Prop) {S : St} {b : Nat} {x : PS} {m : Int} {c : Nat} (h0 : Q (S.fin b x (x.r 0))) (h1 : S.ps.length < 8 → Q (S.forkS b x c)) (h2 : Q (S.waitR b x).2) (h3 : ∀ q, S.find (x.r 0) = some q → q.2.st ≠ 6 → Q ((S.fin q.1 q.2 65280).r0 b 0)) (h4 : Q (S.sleep1 b x)) (h5 : Q (S.yield1 b x)) (h6 : Q (S.setP b (x.r0 ((x.id : Int) % 65536)))) (h7 : Q (S.pipeR b x).2) (h8 : Q (S.closeR b x).2) (h9 : Q (S.askR b x 4 64).2) (h10 : Q (S.askR b x 5 8).2) (h11 : Q (S.setP b (x.r0 0))) (hS : Q S) : Q (S.grantS b x m c) := by
 unfold St.grantS;by_cases e0 : m = 0
 · rw [if_pos e0]; exact h0
 rw [if_neg e0];by_cases e1 : m = 1
 · rw [if_pos e1];by_cases e : 8 ≤ S.ps.length
   · rw [if_pos e]; exact hS
   · rw [if_neg e]; exact h1 (by omega)
 rw [if_neg e1];by_cases e2 : m = 2
 · rw [if_pos e2]; exact h2
 rw [if_neg e2];by_cases e3 : m = 3
 · rw [if_pos e3];cases hf : S.find (x.r 0) with
   | none => exact hS
   | some q =>
     simp only;by_cases e : q.2.st = 6
     · rw [if_pos e]; exact hS
     · rw [if_neg e]; exact h3 q hf e
 rw [if_neg e3];by_cases e4 : m = 4
 · rw [if_pos e4]; exact h4
 rw [if_neg e4];by_cases e5 : m = 5
 · rw [if_pos e5]; exact h5
 rw [if_neg e5];by_cases e6 : m = 6
 · rw [if_pos e6]; exact h6
 rw [if_neg e6];by_cases e7 : m = 7
 · rw [if_pos e7]; exact h7
 rw [if_neg e7];by_cases e8 : m = 8
 · rw [if_pos e8]; exact h8
 rw [if_neg e8];by_cases e9 : m = 9
 · rw [if_pos e9]; exact h9
 rw [if_neg e9];by_cases e10 : m = 10
 · rw [if_pos e10]; exact h10
 rw [if_neg e10];by_cases e11 : m = 11
 · rw [if_pos e11]; exact h11
 rw [if_neg e11]; exact hS
theorem rJ (S : St) (b : Nat) (x : PS) (m : Int) (c : Nat) : Fix S (S.grantS b x m c) ∧ (S.grantS b x m c).last ≤ S.last + 1 := by
 have lift : ∀ {T : St}, FixL S T → Fix S T ∧ T.last ≤ S.last + 1 := fun h => ⟨h.toFix, by rw [h.last]; omega⟩;exact iu (fun T => Fix S T ∧ T.last ≤ S.last + 1) (lift (iS S b x _)) (fun _ => ⟨⟨rfl, rfl, rfl, rfl, rfl⟩, Nat.le_refl _⟩) (lift (nF S b x)) (fun q _ _ => lift ((iS S q.1 q.2 _).trans (nC _ b 0))) (lift (lu S b x)) (lift (dP rfl rfl rfl rfl rfl rfl)) (lift (dK S b _)) (lift (nG S b x)) (lift (lw S b x)) (lift (jv S b x 4 64)) (lift (jv S b x 5 8)) (lift (dK S b _)) (lift (FixL.refl S))
theorem kw (Q : St → Prop) {S : St} {b : Nat} {x : PS} {c : Nat} (h0 : Q (S.fin b x 65281)) (h1 : ∀ i, (S.setP b x.next).grantV b x.next (S.pg x.at_ 1) = some i → Q (((S.setP b x.next).grantS b x.next (S.pg x.at_ 1) c).r0 b (ansOf i))) (h2 : (S.setP b x.next).grantV b x.next (S.pg x.at_ 1) = none → Q ((S.setP b x.next).grantS b x.next (S.pg x.at_ 1) c)) (h3 : ∀ x', x.at_ < S.pn → S.doR x = .ok x' → Q (S.setP b x')) : Q (S.runS b x c) := by
 unfold St.runS;by_cases e0 : S.pn ≤ x.at_
 · rw [if_pos e0]; exact h0
 rw [if_neg e0];by_cases e1 : S.pg x.at_ 0 = 9
 · rw [if_pos e1];cases hV : (S.setP b x.next).grantV b x.next (S.pg x.at_ 1) with
   | none => exact h2 hV
   | some i => exact h1 i hV
 rw [if_neg e1];cases hd : S.doR x with
 | ok x' => exact h3 x' (by omega) hd
 | error e => exact h0
theorem jw (S : St) (b : Nat) (x : PS) (c : Nat) : Fix S (S.runS b x c) ∧ (S.runS b x c).last ≤ S.last + 1 := by
 have lift : ∀ {T : St}, FixL S T → Fix S T ∧ T.last ≤ S.last + 1 := fun h => ⟨h.toFix, by rw [h.last]; omega⟩;have hg := rJ (S.setP b x.next) b x.next (S.pg x.at_ 1) c
 refine kw (fun T => Fix S T ∧ T.last ≤ S.last + 1) (lift (iS S b x _)) (fun i _ => ?_) (fun _ => ⟨(dK S b x.next).toFix.trans hg.1, hg.2⟩) fun x' _ _ => lift (dK S b _);have h := nC ((S.setP b x.next).grantS b x.next (S.pg x.at_ 1) c) b (ansOf i);exact ⟨(dK S b x.next).toFix.trans (hg.1.trans h.toFix), by rw [h.last]; exact hg.2⟩
section
variable {S S' : St} {b : Nat} {x x' : PS} {k : Nat × Nat} {P : Nat → Prop} {N : Nat → Nat}
theorem Shr.out (h : Shr S S') (ho : S.out b) : S'.out b := fun e he hm => by
 obtain ⟨e', h1, _, h3⟩ := h e he;exact ho e' h1 (h3 b hm)
theorem yI : Shr S (S.depart b k) := fun e he => by
 rcases b8 he with ⟨h1, _⟩ | ⟨h2, _, xs, h3, h4⟩
 · exact ⟨e, h1, rfl, fun _ h => h⟩
 · exact ⟨(k, xs), h3, h2.symm, fun c hc => by rw [h4] at hc; exact (List.mem_filter.1 hc).1⟩
theorem mr (h : S'.wt = S.wt) : Shr S S' := fun e he => ⟨e, by rw [← h]; exact he, rfl, fun _ h => h⟩
theorem iT (b : Nat) (f : Nat → Nat × Nat) : ∀ (ns : List Nat) (S : St), Shr S (S.shuts b f ns)
 | [], S => Shr.refl S
 | n :: ns, S => by
   show Shr S ((if f n = (0, 0) then S else S.shut b n).shuts b f ns)
   split
   · exact iT b f ns S
   · refine Shr.trans ?_ (iT b f ns _);unfold St.shut
     split
     · exact (mr (S' := S.setP b _) rfl).trans (fS _ 16 _)
     · exact Shr.refl S
theorem nH (id : Nat) : ∀ (bs : List Nat) (S : St), (S.orphs id bs).wt = S.wt
 | [], S => rfl
 | b :: bs, S => by
   unfold St.orphs;rw [nH id bs]
   split
   · split <;> rfl
   · rfl
theorem pd (S : St) (c : Nat) : (S.parent1 c).wt = S.wt := by
 unfold St.parent1
 split
 · split
   · split
     · split
       · show (S.take c _ _).wt = _;unfold St.take
         split <;> rfl
       · rfl
     · rfl
   · rfl
 · rfl
theorem kx : ∀ (bs : List Nat) (S : St), (S.parents bs).wt = S.wt
 | [], _ => rfl
 | c :: bs, S => by
   show ((S.parent1 c).parents bs).wt = _;rw [kx bs, pd]
theorem wL (S : St) (b : Nat) (x : PS) (status : Int) : Shr S (S.fin b x status) := by
 unfold St.fin;refine Shr.trans ?_ (mr (kx _ _));refine Shr.trans ?_ (mr (nH _ _ _));refine Shr.trans ?_ (iT b x.f _ _);exact yI.trans (mr rfl)
theorem MI.grantS (h : MI (fun _ => False) N S) (hb : (b, x) ∈ S.ps) (hs : x.st = 1) {c : Nat} (hc : ∀ q ∈ S.ps, c ≠ q.1) (hN : N c = S.last + 1) (m : Int) : MI (fun _ => False) N (S.grantS b x m c) := by
 have ho := h.out hb hs;have wx := (h.i.wf _ hb).r 0 (by omega);exact iu (MI (fun _ => False) N) (h.fin hb _) (fun h8 => h.forkS hb ho hc h8 hN) (h.waitR hb ho hs) (fun q hf _ => (h.fin (b := q.1) (x := q.2) (fC hf).1 _).r0' (fun z hz => (wL S q.1 q.2 _).out ho) (by omega)) (h.sleep1 hb ho) (h.yield1 hb ho hs) (h.r0 hb ho (by omega)) (h.pipeR hb ho) (h.closeR hb ho) (h.askR hb hs (.inl rfl) (by omega)) (h.askR hb hs (.inr rfl) (by omega)) (h.r0 hb ho (by omega)) h
theorem qk {op a c d : Int} (hw : WF x) (hc : 0 ≤ c ∧ c < 256) (hd : 0 ≤ d ∧ d < 256) (h : x.do op a c d = .ok x') : x'.st = x.st ∧ x'.lv = x.lv ∧ x'.id = x.id ∧ x'.par = x.par ∧ x'.used = x.used ∧ x'.f = x.f ∧ WF x' := by
 have hr : ∀ v : Int, 0 ≤ v ∧ v < 65536 → ∀ i, WF { x with at_ := x.at_ + 1, r := put x.r i v } := fun v hv i => ⟨fun j hj => by
   show 0 ≤ put x.r i v j ∧ put x.r i v j < 65536;unfold put; split
   · exact hv
   · exact hw.r j hj, hw.m⟩
 have ha8 : (a % 8).toNat < 8 := by omega
 have hc8 : (c % 8).toNat < 8 := by omega
 have wa := hw.r _ ha8;have wc := hw.r _ hc8;unfold PS.do at h
 simp only at h;by_cases e1 : op = 1
 · rw [if_pos e1] at h; cases h; exact ⟨rfl, rfl, rfl, rfl, rfl, rfl, hr _ (by omega) _⟩
 rw [if_neg e1] at h;by_cases e2 : op = 2
 · rw [if_pos e2] at h; cases h; exact ⟨rfl, rfl, rfl, rfl, rfl, rfl, hr _ wc _⟩
 rw [if_neg e2] at h;by_cases e3 : op = 3
 · rw [if_pos e3] at h; cases h; exact ⟨rfl, rfl, rfl, rfl, rfl, rfl, hr _ (by omega) _⟩
 rw [if_neg e3] at h;by_cases e4 : op = 4
 · rw [if_pos e4] at h; cases h; exact ⟨rfl, rfl, rfl, rfl, rfl, rfl, hr _ (by omega) _⟩
 rw [if_neg e4] at h;by_cases e5 : op = 5
 · rw [if_pos e5] at h; cases h; exact ⟨rfl, rfl, rfl, rfl, rfl, rfl, ⟨hw.r, hw.m⟩⟩
 rw [if_neg e5] at h;by_cases e6 : op = 6
 · rw [if_pos e6] at h; cases h; exact ⟨rfl, rfl, rfl, rfl, rfl, rfl, ⟨hw.r, hw.m⟩⟩
 rw [if_neg e6] at h;by_cases e7 : op = 7
 · rw [if_pos e7] at h
   split at h
   · rename_i hlt;have := hw.m (x.r (c % 8).toNat + d).toNat (by omega);cases h;exact ⟨rfl, rfl, rfl, rfl, rfl, rfl, hr _ (by omega) _⟩
   · cases h
 rw [if_neg e7] at h;by_cases e8 : op = 8
 · rw [if_pos e8] at h
   split at h
   · rename_i hlt;cases h;refine ⟨rfl, rfl, rfl, rfl, rfl, rfl, hw.r, fun j hj => ?_⟩;show 0 ≤ put x.m (x.r (c % 8).toNat + d).toNat (x.r (a % 8).toNat % 256) j ∧ put x.m (x.r (c % 8).toNat + d).toNat (x.r (a % 8).toNat % 256) j < 256;unfold put; split
     · omega
     · exact hw.m j hj
   · cases h
 rw [if_neg e8] at h;cases h
def Coded (S : St) : Prop := S.pn ≤ 256 ∧ ∀ i, i < S.pn → ∀ j, j < 4 → 0 ≤ S.pg i j ∧ S.pg i j < 256
theorem MI.runS (h : MI (fun _ => False) N S) (hp : Coded S) (hb : (b, x) ∈ S.ps) (hs : x.st = 1) {c : Nat} (hc : ∀ q ∈ S.ps, c ≠ q.1) (hN : N c = S.last + 1) : MI (fun _ => False) N (S.runS b x c) := by
 have ho := h.out hb hs;have h1 : MI (fun _ => False) N (S.setP b x.next) := h.like (x' := x.next) hb ho rfl rfl ⟨(h.i.wf _ hb).r, (h.i.wf _ hb).m⟩ (h.i.fl (b, x) hb) rfl rfl (h.x.un (b, x) hb);have hb1 : (b, x.next) ∈ (S.setP b x.next).ps := au hb;have hc1 : ∀ q ∈ (S.setP b x.next).ps, c ≠ q.1 := fun q hq => by
   rcases a5 hq with rfl | ⟨h2, _⟩
   · exact hc (b, x) hb
   · exact hc q h2
 have hg := h1.grantS hb1 hs hc1 hN (S.pg x.at_ 1);refine kw (MI (fun _ => False) N) (h.fin hb _) (fun i hV => ?_) (fun _ => hg) fun x' hlt hd => ?_
 · obtain ⟨hsame, _⟩ := lp hV;rw [hsame];exact h1.r0' (fun _ _ => ho) (tX i)
 · have hby := hp.2 _ hlt;obtain ⟨l1, l2, l3, l4, l5, l6, l7⟩ := qk (h.i.wf _ hb) (hby 2 (by omega)) (hby 3 (by omega)) hd;exact h.like hb ho l1 l2 l7 (by rw [l6]; exact h.i.fl (b, x) hb) l3 l4 (by rw [l5]; exact h.x.un (b, x) hb)
end
section
variable {S S' : St} {b : Nat} {x x' : PS} {P : Nat → Prop} {N : Nat → Nat}
theorem MI.wakes : ∀ (bs : List Nat) {S : St}, MI P N S → MI P N (S.wakes bs)
 | [], _, h => h
 | b :: bs, S, h => by
   unfold St.wakes;refine MI.wakes bs ?_;cases hg : S.get b with
   | none => exact h
   | some x =>
     simp only
     split
     · rename_i h3;have hb := bk hg;exact h.wake1 hb (h.i.out_st hb (by omega) (by omega) (by omega)) (by omega)
     · exact h
theorem eV (S : St) : ∀ n, (S.raises n).ps = S.ps ∧ (S.raises n).wt = S.wt ∧ (S.raises n).by_ = S.by_ ∧ (S.raises n).last = S.last ∧ (S.raises n).now = S.now
 | 0 => ⟨rfl, rfl, rfl, rfl, rfl⟩
 | n + 1 => eV S n
theorem lx (S : St) (h : ∀ l, 3 ≤ l → S.rows l = []) : ∀ n, n < 3 → ∀ l, 3 ≤ l → (S.raises n).rows l = []
 | 0, _ => h
 | n + 1, hn => fun l hl => by
   show put (put (S.raises n).rows 0 _) (n + 1) [] l = [];rw [gI hn l hl, gI (by omega) l hl];exact lx S h n (by omega) l hl
theorem bQ (x : PS) : (liftP x).st = x.st ∧ (liftP x).id = x.id ∧ (liftP x).par = x.par ∧ (liftP x).r = x.r ∧ (liftP x).m = x.m ∧ (liftP x).f = x.f ∧ (liftP x).used ≤ x.used := by
 unfold liftP
 split
 · exact ⟨rfl, rfl, rfl, rfl, rfl, rfl, Nat.zero_le _⟩
 · exact ⟨rfl, rfl, rfl, rfl, rfl, rfl, Nat.le_refl _⟩
theorem MI.raised (h : MI P N S) : MI P N ((S.lifts (S.ps.map (·.1))).raises 2) := by
 have hG := h.i.g.raise;have e := li h.i.g.pn;obtain ⟨r1, r2, r3, r4, r5⟩ := eV (S.lifts (S.ps.map (·.1))) 2;rw [e] at r1 r2 r3 r4 r5;rw [e] at hG ⊢;generalize hT : (S.setPs (S.ps.map fun q => (q.1, liftP q.2))).raises 2 = T at *;have cs : ∀ q ∈ T.ps, ∃ r ∈ S.ps, q = (r.1, liftP r.2) := fun q hq => by
   rw [r1] at hq;obtain ⟨r, hr, e⟩ := List.mem_map.1 hq;exact ⟨r, hr, e.symm⟩
 have to : ∀ c y, (c, y) ∈ S.ps → (c, liftP y) ∈ T.ps := fun c y hy => by rw [r1]; exact List.mem_map.2 ⟨(c, y), hy, rfl⟩
 have w : T.wt = S.wt := r2;refine ⟨{ g := hG, wf := ?_, fl := ?_, y8 := by rw [r3]; exact h.i.y8, yb := by rw [r3]; exact h.i.yb, kn := by rw [w]; exact h.i.kn, ne := by rw [w]; exact h.i.ne, nd := by rw [w]; exact h.i.nd, ke := by rw [w]; exact h.i.ke, rm := ?_ }, ?_, ⟨?_, ?_, ?_, ?_, ?_, ?_, ?_⟩⟩
 · intro q hq;obtain ⟨r, hr, rfl⟩ := cs q hq;obtain ⟨_, _, _, l4, l5, _, _⟩ := bQ r.2;exact ⟨by rw [l4]; exact (h.i.wf r hr).r, by rw [l5]; exact (h.i.wf r hr).m⟩
 · intro q hq;obtain ⟨r, hr, rfl⟩ := cs q hq;obtain ⟨_, _, _, _, _, l6, _⟩ := bQ r.2;simp only;rw [l6]; exact h.i.fl r hr
 · intro e he c hc;rw [w] at he;obtain ⟨y, hy, ha⟩ := h.i.rm e he c hc;obtain ⟨l1, _, _, l4, _, l6, _⟩ := bQ y;refine ⟨liftP y, to c y hy, ?_, by rw [l4]; exact ha.a, by rw [l4]; exact ha.w, by rw [l1]; exact ha.s⟩;have := ha.f;unfold PS.file at *;rw [l4, l6]; exact this
 · intro e he c hc y hy h1;rw [w] at he;obtain ⟨r, hr, e2⟩ := cs _ hy;have e3 : c = r.1 := congrArg Prod.fst e2;have e4 : y = liftP r.2 := congrArg Prod.snd e2;rw [e4, (bQ r.2).1] at h1;exact h.c e he c hc r.2 (by rw [e3]; exact hr) h1
 · intro q hq;obtain ⟨r, hr, rfl⟩ := cs q hq;rw [r5];exact Nat.le_trans (bQ r.2).2.2.2.2.2.2 (h.x.un r hr)
 · intro q hq r hr e;obtain ⟨q', hq', rfl⟩ := cs q hq;obtain ⟨r', hr', rfl⟩ := cs r hr;simp only at e;rw [(bQ q'.2).2.1, (bQ r'.2).2.1] at e;rw [h.x.idn q' hq' r' hr' e]
 · intro q hq;obtain ⟨r, hr, rfl⟩ := cs q hq;simp only;rw [(bQ r.2).2.1, r4];exact h.x.idr r hr
 · obtain ⟨q, hq, h1⟩ := h.x.p1;exact ⟨(q.1, liftP q.2), to q.1 q.2 hq, by simp only; rw [(bQ q.2).2.1]; exact h1⟩
 · intro q hq;obtain ⟨r, hr, rfl⟩ := cs q hq;simp only;rw [(bQ r.2).2.1, (bQ r.2).2.2.1];exact h.x.p0 r hr
 · rw [← hT]; exact lx _ h.x.r3 2 (by omega)
 · intro q hq;obtain ⟨r, hr, rfl⟩ := cs q hq;simp only;rw [(bQ r.2).2.1];exact h.x.nm r hr
theorem MI.boost (h : MI P N S) : MI P N S.boost := by
 unfold St.boost
 split
 · exact h.raised
 · exact h
theorem MI.lead (h : MI P N S) : MI P N S.lead := MI.boost (MI.wakes _ h)
def St.later (S : St) : St := { S with now := S.now + 1 }
theorem MI.later (h : MI P N S) : MI P N S.later where
 i := ⟨⟨h.i.g.pn, h.i.g.p8, h.i.g.lv, h.i.g.rn, h.i.g.rm, h.i.g.rr⟩, h.i.wf, h.i.fl, h.i.y8, h.i.yb, h.i.kn, h.i.ne, h.i.nd, h.i.ke, h.i.rm⟩
 c := h.c
 x := ⟨fun q hq => Nat.le_succ_of_le (h.x.un q hq), h.x.idn, h.x.idr, h.x.p1, h.x.p0, h.x.r3, h.x.nm⟩
theorem nI (S : St) (b : Nat) : (S.after b).later = S.later.after b := by
 unfold St.after;have e : S.later.get b = S.get b := rfl;rw [e];cases S.get b with
 | none => rfl
 | some z =>
   simp only
   split
   · show ((S.setP b z.more).turn b z.more).later = (S.later.setP b z.more).turn b z.more;unfold St.turn;have e2 : (S.later.setP b z.more).sl = (S.setP b z.more).sl := rfl;rw [e2]
     split <;> rfl
   · rfl
theorem MI.after (h : MI (fun _ => False) N S) (b : Nat) : MI (fun _ => False) N (S.after b).later := by
 rw [nI];have h1 := h.later;unfold St.after;cases hg : S.later.get b with
 | none => exact h1
 | some z =>
   simp only;have hb := bk hg;have hu : z.more.used ≤ S.later.now := Nat.succ_le_succ (h.x.un (b, z) hb);have hst : S.later.out b ∨ False ∨ z.more.st ≠ 1 := by
     by_cases e : z.st = 1
     · exact .inl (h1.out hb e)
     · exact .inr (.inr e)
   have h2 : MI (fun _ => False) N (S.later.setP b z.more) := ⟨h1.i.alike hb rfl rfl rfl rfl rfl, h1.c.setP hst, h1.x.setP h1.i.g.pn hb rfl Iff.rfl hu⟩
   split
   · rename_i e1;have hb2 : (b, z.more) ∈ (S.later.setP b z.more).ps := au hb;have ho : (S.later.setP b z.more).out b := h1.out hb e1;unfold St.turn
     split
     · exact h2
     · exact h2.move (x' := { z.more with lv := min (z.more.lv + 1) 2, used := 0 }) hb2 ho e1 e1 (by show min (z.lv + 1) 2 < 3; omega) ⟨(h1.i.wf _ hb).r, (h1.i.wf _ hb).m⟩ (h1.i.fl (b, z) hb) rfl rfl (Nat.zero_le _)
   · exact h2
structure TI (N : Nat → Nat) (S : St) : Prop where
 m : MI (fun _ => False) N S
 p : Coded S
 bo : S.bo ≠ 0
 ls : S.last ≤ S.now + 1
theorem TI.coded_lead (h : TI N S) : Coded S.lead := by
 have hf := cv S;unfold Coded;rw [hf.pn, hf.pg];exact h.p
theorem eW (hG : Good S) (hf : S.first = some b) : ∃ x, (b, x) ∈ S.ps ∧ x.st = 1 := by
 unfold St.first at hf
 have hm := List.mem_of_head? hf;rcases List.mem_append.1 hm with h | h
 · obtain ⟨y, hy, _, h2⟩ := hG.rm 0 (by omega) b h;exact ⟨y, hy, h2⟩
 · rcases List.mem_append.1 h with h | h
   · obtain ⟨y, hy, _, h2⟩ := hG.rm 1 (by omega) b h;exact ⟨y, hy, h2⟩
   · obtain ⟨y, hy, _, h2⟩ := hG.rm 2 (by omega) b h;exact ⟨y, hy, h2⟩
theorem dI (S : St) : S.lead.last = S.last := by
 have h1 : ∀ (bs : List Nat) (S : St), (S.wakes bs).last = S.last := by
   intro bs
   induction bs with
   | nil => intro S; rfl
   | cons b bs ih =>
     intro S;unfold St.wakes;rw [ih]
     split
     · split <;> rfl
     · rfl
 have h2 : ∀ (bs : List Nat) (S : St), (S.lifts bs).last = S.last := by
   intro bs
   induction bs with
   | nil => intro S; rfl
   | cons b bs ih =>
     intro S;unfold St.lifts;rw [ih]
     split
     · split <;> rfl
     · rfl
 unfold St.lead St.boost
 split
 · rw [(eV _ 2).2.2.2.1, h2]; exact h1 _ S
 · exact h1 _ S
theorem TI.running (h : TI N S) (hn : S.now < 2305843009213693952) (hf : S.lead.first = some b) (hb : (b, x) ∈ S.lead.ps) : Running S.lead b x := by
 have hl := h.m.lead;obtain ⟨y, hy, h1⟩ := eW hl.i.g hf;obtain rfl := bp hl.i.g.pn hb hy;have hfx := cv S;exact ⟨hl.i, hb, h1, hl.out hb h1, by rw [hfx.now]; omega, by rw [dI]; have := h.ls; omega⟩
theorem TI.idle (h : TI N S) : TI N S.lead.later := by
 have hfx := cv S;refine ⟨h.m.lead.later, h.coded_lead, by show S.lead.bo ≠ 0; rw [hfx.bo]; exact h.bo, ?_⟩;show S.lead.last ≤ S.lead.now + 1 + 1;rw [dI, hfx.now];have := h.ls;omega
theorem TI.ran (h : TI N S) (hf : S.lead.first = some b) (hb : (b, x) ∈ S.lead.ps) {c : Nat} (hc : ∀ q ∈ S.lead.ps, c ≠ q.1) (hN : N c = S.last + 1) : TI N ((S.lead.runS b x c).after b).later := by
 have hfx := cv S;have hl := h.m.lead;obtain ⟨y, hy, h1⟩ := eW hl.i.g hf;obtain rfl := bp hl.i.g.pn hb hy;have hr := jw S.lead b x c;have ha := ir (S.lead.runS b x c) b;refine ⟨(hl.runS h.coded_lead hb h1 hc (by rw [dI]; exact hN)).after b, ?_, ?_, ?_⟩
 · show Coded ((S.lead.runS b x c).after b);unfold Coded;rw [ha.pn, ha.pg, hr.1.pn, hr.1.pg];exact h.coded_lead
 · show ((S.lead.runS b x c).after b).bo ≠ 0;rw [ha.bo, hr.1.bo, hfx.bo]; exact h.bo
 · show ((S.lead.runS b x c).after b).last ≤ ((S.lead.runS b x c).after b).now + 1 + 1;rw [ha.last, ha.now, hr.1.now, hfx.now];have := hr.2;rw [dI] at this;have := h.ls;omega
end
end Go.Proofs.YtejkelcaljmnoaaGreatDoor
