/-
  Part 5 of the proof.
  No condition but those that each statement names.
-/
import Derived.Test.YtejkelcaljmnoaaGreatDoorHy04
import Derived.Test.YtejkelcaljmnoaaGreatDoorHy02
import Derived.Test.YtejkelcaljmnoaaGreatDoorHy03
set_option maxRecDepth 100000
set_option maxHeartbeats 4000000
set_option linter.unusedVariables false
set_option linter.unusedSimpArgs false
set_option linter.unusedSectionVars false
namespace Go.Proofs.YtejkelcaljmnoaaGreatDoor
open Go.Conc Go.Hx Go.Lo
structure NewK {R : World → World → Prop} {D : World → World → Array Event → Prop} (Δ : Dom R D) : Prop extends NewE Δ where
 r : ∀ cs, Δ.New (.cells cs 93)
 k : ∀ cs, Δ.New (.cells cs 96)
 y : ∀ cs, Δ.New (.cells cs 5)
 i : ∀ cs, Δ.New (.cells cs 158)
 p : ∀ cs, Δ.New (.cells cs 99)
theorem w6 : ∃ n, ∀ {σ} {F : Fam σ} {Δ : DM F} {main s} (K : Nat) (A : Lay) (S : St) (Fr L : Frag) (k : Nat × Nat), (∀ cs, (Δ s).New (.cells cs 96)) → Rep K A S Fr L → (∀ e ∈ S.wt, e.1 ≠ k) →
   CallsL Δ Tryz.prog main 160 [ptr K, keyv k].toArray n s L (fun s' v L' => s = s' ∧ v = .bool false ∧ Rep K A S Fr L') := by
 apply Exists.intro;intro σ F Δ main s K A S Fr L k hN hR hk;co_applyP aB 51 Tryz.func160 Tryz.ntmps160;co_applyP aa;co_applyP bT rfl (cn (hN _));intro xk L1 hA1;have hR1 := hR.add hA1;have hkx : At L1 K 15 (.map (some A.wt)) := hR1.kat rfl;have hw1 := hR1.w;rw [cJ] at hw1;have hkey := dR (A := A) (bs := A.born) hk;co_applyP oan rfl;co_applyP aq;co_applyP bq aT;co_applyP tr 0 rfl ae pI;co_applyP tr 1 rfl aJ pI;co_applyP tr 2 rfl (au (hf := cI)) pI;co_applyP tr 3 rfl (aF (ht := dN)) pI;co_applyP tr 4 rfl (ba (ht := bM) (hs := bh) (hm := hA1.self) (hi := Nat.le_refl _)) pI;co_applyP tr 5 rfl (nN (k := k) eO Tryz.underlying110 iC hw1) pI;co_applyP tr 6 rfl bL pI;co_applyP td (by kernel_rfl);co_applyP aq (n₂ := 0);co_applyP aq;rw [iB hkey];co_applyP bq aT;co_applyP tr 0 rfl ae pI;co_applyP tr 1 rfl (bB (hu := U91)) pI;co_applyP tr 2 rfl aA pI;co_applyP tr 3 rfl ae pI;co_applyP tu 4 rfl pI;co_applyP tu 5 rfl pI;co_applyP tu 6 rfl pI;co_applyP tu 7 rfl pI;co_applyP tu 8 rfl pI;co_applyP tu 9 rfl pI;co_applyP tu 10 rfl pI;co_applyP tr 11 rfl aP pI;co_applyP td (by kernel_rfl);co_applyP aQ rfl;co_applyP aa;co_applyP oan rfl;co_applyP aK;change ∃ v, resE .. = some v ∧ _;exact ⟨_, rfl, rfl, rfl, hR1⟩
theorem kB {K : Nat} {A : Lay} {S : St} {F L : Frag} (hR : Rep K A S F L) {k : Nat × Nat} {b : Nat} {xs : List Nat} (hin : (k, b :: xs) ∈ S.wt) : ∃ Q, (A.a (slot k)).b = some Q ∧ slv (A.a (slot k)) (b :: xs).length = .slice (some ⟨Q, 0, none⟩) (b :: xs).length ((b :: xs).length + (A.a (slot k)).junk.length) ∧ At L Q 0 (ptr b) := by
 cases h : (A.a (slot k)).b with
 | some Q =>
   refine ⟨Q, rfl, by unfold slv; rw [h], true, _, _, _, (hR.wa _ hin).mem h, by simp⟩
 | none =>
   have := hR.wa _ hin;unfold slOk at this;rw [h] at this;simp at this
theorem kC {A : Lay} {S : St} {k : Nat × Nat} {l1 l2 : Wt} {xs : List Nat} (hwl : A.born.length = S.wt.length) (hwt : S.wt = l1 ++ (k, xs) :: l2) (hl1 : ∀ e ∈ l1, e.1 ≠ k) : lk k (entsOf A S.wt A.born) 0 = some (l1.length, slv (A.a (slot k)) xs.length) := by
 obtain ⟨b1, c0, b2, hborn, hbl⟩ : ∃ b1 c0 b2, A.born = b1 ++ c0 :: b2 ∧ l1.length = b1.length := by
   have hl := hwl;rw [hwt] at hl;simp at hl;refine ⟨A.born.take l1.length, A.born[l1.length]'(by omega), A.born.drop (l1.length + 1), by simp, by simp; omega⟩
 have hents : entsOf A S.wt A.born = entsOf A l1 b1 ++ (k, slv (A.a (slot k)) xs.length, c0) :: entsOf A l2 b2 := by
   rw [hwt, hborn, cx A hbl]; rfl
 rw [hents, jE (dR hl1), dQ A hbl];simp [lk]
theorem w7 : ∃ n, ∀ {σ} {F : Fam σ} {Δ : DM F} {main s} (K : Nat) (A : Lay) (S : St) (Fr L : Frag) (k : Nat × Nat) (b : Nat) (x : PS) (xs : List Nat), (∀ cs, (Δ s).New (.cells cs 96)) → Rep K A S Fr L → Inv S → (k, b :: xs) ∈ S.wt → (b, x) ∈ S.ps → S.canBeDone x k = false →
   CallsL Δ Tryz.prog main 160 [ptr K, keyv k].toArray n s L (fun s' v L' => s = s' ∧ v = .bool false ∧ Rep K A S Fr L') := by
 obtain ⟨n1, g1⟩ := fM;apply Exists.intro;intro σ F Δ main s K A S Fr L k b x xs hN hR hI hin hb hcd;obtain ⟨l1, ys, l2, hwt, hl1, hl2⟩ := cK hI.kn (List.mem_map.2 ⟨_, hin, rfl⟩);have hke := hI.ke _ hin;co_applyP aB 51 Tryz.func160 Tryz.ntmps160;co_applyP aa;co_applyP bT rfl (cn (hN _));intro xk L1 hA1;have hR1 := hR.add hA1;have hkx : At L1 K 15 (.map (some A.wt)) := hR1.kat rfl;have hw1 := hR1.w;rw [cJ] at hw1;have hrow : ys = b :: xs := by
   have h1 := dg hI.kn hin;have h2 := dg hI.kn (S := S) (k := k) (xs := ys) (by rw [hwt]; simp);rw [← h2, h1]
 subst hrow;obtain ⟨Q, hQ, hsl, hat⟩ := kB hR1 hin;have hlk := kC hR1.wl hwt hl1;rw [hsl] at hlk;co_applyP oan rfl;co_applyP aq;co_applyP bq aT;co_applyP tr 0 rfl ae pI;co_applyP tr 1 rfl aJ pI;co_applyP tr 2 rfl (au (hf := cI)) pI;co_applyP tr 3 rfl (aF (ht := dN)) pI;co_applyP tr 4 rfl (ba (ht := bM) (hs := bh) (hm := hA1.self) (hi := Nat.le_refl _)) pI;co_applyP tr 5 rfl (nN (k := k) eO Tryz.underlying110 iC hw1) pI;co_applyP tr 6 rfl bL pI;co_applyP td (by kernel_rfl);co_applyP aq (n₂ := 0);co_applyP aq;rw [hlk];have hz : (((b :: xs).length : Int) == 0) = false := by simp; omega
 co_applyP bi [] 9 aT;co_applyP tr 0 rfl ae pN;co_applyP tr 1 rfl (bB (hu := U91)) pN;co_applyP tr 2 rfl aA pN;co_applyP tr 3 rfl ae pN;rw [hz];co_applyP tr 4 rfl (ae) pN;co_applyP tr 5 rfl (ae) pN;co_applyP tr 6 rfl (bH U91 bN) pN;co_applyP t0 7 rfl ((aF (ht := dz))) pN;co_applyP t0 8 rfl (ba (ht := bM) (hs := bh) (hm := hA1.self) (hi := Nat.le_refl _)) pN;co_applyP tc 9 rfl rfl rfl (g1 K A S Fr L1 b x k hN hR1 hb (hI.wf _ hb) hke.1.2 (hI.y8 _ hke.1.2));rintro _ _ _ ⟨rfl, rfl, hE⟩;refine ⟨ay (by simp), ?_⟩;rw [hcd];co_applyP to 10 rfl (cN) (ay (by simp));co_applyP to 11 rfl (aP) (ay (by simp));co_applyP td (by kernel_rfl);co_applyP aQ rfl;co_applyP aa;co_applyP oan rfl;co_applyP aK;change ∃ v, resE .. = some v ∧ _;exact ⟨_, rfl, rfl, rfl, hR1.ext hE⟩
theorem xa : ∃ n, ∀ {σ} {F : Fam σ} {Δ : DM F} {main s} (K : Nat) (A : Lay) (S : St) (Fr L : Frag) (eb : Nat → Nat × Nat) (k : Nat × Nat) (b : Nat) (x : PS) (xs : List Nat), NewK (Δ s) → Rep K A S Fr L → Ers eb Fr → Inv S → (k, b :: xs) ∈ S.wt → (b, x) ∈ S.ps → S.canBeDone x k = true → k.2 = 4 ∨ S.isOpen (otherE k) = true →
   CallsL Δ Tryz.prog main 160 [ptr K, keyv k].toArray n s L (fun s' v L' => s = s' ∧ v = .bool true ∧ ∃ A', Rep K A' (if x.st = 1 then (S.depart b k).carry b x k else ((S.depart b k).carry b x k).wake1 b (S.carried x k)) Fr L') := by
 obtain ⟨n1, g1⟩ := fM;obtain ⟨n2, g2⟩ := kr;obtain ⟨n3, g3⟩ := uz;obtain ⟨n4, g4⟩ := j9;apply Exists.intro;intro σ F Δ main s K A S Fr L eb k b x xs hN hR hEr hI hin hb hcd hoc;obtain ⟨l1, ys, l2, hwt, hl1, hl2⟩ := cK hI.kn (List.mem_map.2 ⟨_, hin, rfl⟩);have hke := hI.ke _ hin;have hask := hI.row hb hin (by simp);co_applyP aB 51 Tryz.func160 Tryz.ntmps160;co_applyP aa;co_applyP bT rfl (cn (hN.k _));intro xk L1 hA1;have hR1 := hR.fresh ⟨hA1.fn, hA1.sub⟩ hA1.new hA1.self;have hkx : At L1 K 15 (.map (some A.wt)) := hR1.kat rfl;have hw1 := hR1.w;rw [cJ] at hw1;have hrow : ys = b :: xs := by
   have h1 := dg hI.kn hin;have h2 := dg hI.kn (S := S) (k := k) (xs := ys) (by rw [hwt]; simp);rw [← h2, h1]
 subst hrow;obtain ⟨Q, hQ, hsl, hat⟩ := kB hR1 hin;have hlk := kC hR1.wl hwt hl1;rw [hsl] at hlk;co_applyP oan rfl;co_applyP aq;co_applyP bq aT;co_applyP tr 0 rfl ae pI;co_applyP tr 1 rfl aJ pI;co_applyP tr 2 rfl (au (hf := cI)) pI;co_applyP tr 3 rfl (aF (ht := dN)) pI;co_applyP tr 4 rfl (ba (ht := bM) (hs := bh) (hm := hA1.self) (hi := Nat.le_refl _)) pI;co_applyP tr 5 rfl (nN (k := k) eO Tryz.underlying110 iC hw1) pI;co_applyP tr 6 rfl bL pI;co_applyP td (by kernel_rfl);co_applyP aq;co_applyP aq;rw [hlk];have hz : (((b :: xs).length : Int) == 0) = false := by simp; omega
 co_applyP bi [] 9 aT;co_applyP tr 0 rfl ae pN;co_applyP tr 1 rfl (bB (hu := U91)) pN;co_applyP tr 2 rfl aA pN;co_applyP tr 3 rfl ae pN;rw [hz];co_applyP tr 4 rfl (ae) pN;co_applyP tr 5 rfl (ae) pN;co_applyP tr 6 rfl (bH U91 bN) pN;co_applyP t0 7 rfl ((aF (ht := dz))) pN;co_applyP t0 8 rfl (ba (ht := bM) (hs := bh) (hm := hA1.self) (hi := Nat.le_refl _)) pN;co_applyP tc 9 rfl rfl rfl (g1 K A S _ L1 b x k hN.k hR1 hb (hI.wf _ hb) hke.1.2 (hI.y8 _ hke.1.2));rintro _ _ _ ⟨rfl, rfl, hE⟩;refine ⟨ay (by simp), ?_⟩;rename_i L2;rw [hcd];co_applyP to 10 rfl (cN) (ay (by simp));co_applyP to 11 rfl (aP) (ay (by simp));have hR2 := hR1.ext hE;have hat2 := hE.at hat;co_applyP td (by kernel_rfl);co_applyP ai rfl;co_applyP aD;co_applyP aa;co_applyP om rfl rfl rfl (bH U91 bN);co_applyP oy rfl (aF (ht := dz));co_applyP oan rfl;co_applyP aa;co_applyP om rfl rfl rfl ae;co_applyP oy rfl (ba (ht := bM) (hs := bh) (hm := hR2.fr _ List.mem_cons_self) (hi := Nat.le_refl _));co_applyP oc rfl rfl rfl (g2 K A S _ L2 b x k hN.r hN.k hR2 hI.w hb);rintro _ _ _ ⟨rfl, rfl, A3, hwl3, hR3⟩;co_applyP ah;co_applyP aq;co_applyP aa;co_applyP om rfl rfl rfl ae;rename_i L3;have hb3 : (b, x) ∈ (S.depart b k).ps := hb;co_applyP oy rfl (ba (ht := bM) (hs := bh) (hm := hR3.fr _ List.mem_cons_self) (hi := Nat.le_refl _));co_applyP oc rfl rfl rfl (g3 K A3 _ _ L3 b x k hN.k hN.y hR3 hb3 (hI.wf _ hb) hke.1.2 hask.a (hI.y8 _ hke.1.2) hoc);rintro _ _ _ ⟨rfl, rfl, A5, hR5⟩;co_applyP oan rfl;co_applyP aa;co_applyP oy rfl ae;rename_i L5;have hb5 : (b, S.carried x k) ∈ ((S.depart b k).carry b x k).ps := by rw [eP]; exact av hb3
 have hd : Inv (S.depart b k) := hI.depart;have ho : (S.depart b k).out b := by have := hI.out_depart hb; rw [hask.f] at this; exact this
 have hI5 := Inv.carry hd (b := b) (x := x) (k := k) hb3 ho hke.1.2 hask.a hcd;have hst : (S.carried x k).st = x.st := (c9 S x k).1;have hs5 : At L5 b 2 (.int .i64 ((S.carried x k).st : Nat)) := hR5.pat hb5 (i := 2) rfl;co_applyP oy rfl (dH (v := .nilIface) (c := true) (hv := .inl ⟨rfl, rfl⟩) (hu := Tryz.underlying168));co_applyP ah;co_applyP ai rfl;co_applyP aD;co_applyP dZ (fun s'' ε'' L'' => s = s'' ∧ kn ε'' [] ∧ ∃ A6, Rep K A6 (if x.st = 1 then (S.depart b k).carry b x k else ((S.depart b k).carry b x k).wake1 b (S.carried x k)) Fr L'');co_applyP aa;co_applyP om rfl rfl rfl aJ;co_applyP oy rfl (au (hf := aC));co_applyP oy rfl (au (hf := cZ));co_applyP oy rfl (aF (ht := aY));co_applyP oy rfl fy;co_applyP ah;co_applyP bk rfl;intro hc;co_applyP ax;co_applyP om rfl rfl rfl ae
 · have h1 : ¬ x.st = 1 := by rw [hst] at hc; simp at hc; omega
   co_applyP oc rfl rfl rfl (g4 K A5 _ _ L5 b (S.carried x k) hN.r hR5 hb5 (hI5.g.lv _ hb5) (hI5.g.r8 (hI5.g.lv _ hb5)) (fun e he => cT e.1 (hI5.g.lv _ hb5)));rintro _ _ _ ⟨rfl, rfl, A6, _, hR6⟩;co_applyP ah;change _ = _ ∧ kn _ _ ∧ ∃ A6, _;exact ⟨rfl, rfl, A6, by rw [if_neg h1]; exact hR6.less fun t ht => List.mem_cons_of_mem _ ht⟩
 intro hc;co_applyP aD;change _ = _ ∧ kn _ _ ∧ ∃ A6, _;have h1 : x.st = 1 := by rw [hst] at hc; simp at hc; omega
 exact ⟨rfl, rfl, A5, by rw [if_pos h1]; exact hR5.less fun t ht => List.mem_cons_of_mem _ ht⟩;rintro _ ε6 L6 ⟨rfl, he6, A6, hR6⟩;co_applyP aV he6;co_applyP aa;co_applyP oan rfl;co_applyP aK;change ∃ v, resE .. = some v ∧ _;exact ⟨_, rfl, rfl, rfl, A6, hR6⟩
theorem xc : ∃ n, ∀ {σ} {F : Fam σ} {Δ : DM F} {main s} (K : Nat) (A : Lay) (S : St) (Fr L : Frag) (eb : Nat → Nat × Nat) (k : Nat × Nat) (b : Nat) (x : PS) (xs : List Nat), NewK (Δ s) → Rep K A S Fr L → Ers eb Fr → Inv S → (k, b :: xs) ∈ S.wt → (b, x) ∈ S.ps → S.canBeDone x k = true → k.2 ≠ 4 ∧ S.isOpen (otherE k) = false →
   CallsL Δ Tryz.prog main 160 [ptr K, keyv k].toArray n s L (fun s' v L' => s = s' ∧ v = .bool true ∧ ∃ A', Rep K A' (if x.st = 1 then (S.depart b k).carry b x k else ((S.depart b k).carry b x k).wake1 b (S.carried x k)) Fr L') := by
 obtain ⟨n1, g1⟩ := fM;obtain ⟨n2, g2⟩ := kr;obtain ⟨n3, g3⟩ := wY;obtain ⟨n4, g4⟩ := j9;obtain ⟨n5, g5⟩ := ki;apply Exists.intro;intro σ F Δ main s K A S Fr L eb k b x xs hN hR hEr hI hin hb hcd hoc;obtain ⟨l1, ys, l2, hwt, hl1, hl2⟩ := cK hI.kn (List.mem_map.2 ⟨_, hin, rfl⟩);have hke := hI.ke _ hin;have hask := hI.row hb hin (by simp);co_applyP aB 51 Tryz.func160 Tryz.ntmps160;co_applyP aa;co_applyP bT rfl (cn (hN.k _));intro xk L1 hA1;have hR1 := hR.fresh ⟨hA1.fn, hA1.sub⟩ hA1.new hA1.self;have hkx : At L1 K 15 (.map (some A.wt)) := hR1.kat rfl;have hw1 := hR1.w;rw [cJ] at hw1;have hrow : ys = b :: xs := by
   have h1 := dg hI.kn hin;have h2 := dg hI.kn (S := S) (k := k) (xs := ys) (by rw [hwt]; simp);rw [← h2, h1]
 subst hrow;obtain ⟨Q, hQ, hsl, hat⟩ := kB hR1 hin;have hlk := kC hR1.wl hwt hl1;rw [hsl] at hlk;co_applyP oan rfl;co_applyP aq;co_applyP bq aT;co_applyP tr 0 rfl ae pI;co_applyP tr 1 rfl aJ pI;co_applyP tr 2 rfl (au (hf := cI)) pI;co_applyP tr 3 rfl (aF (ht := dN)) pI;co_applyP tr 4 rfl (ba (ht := bM) (hs := bh) (hm := hA1.self) (hi := Nat.le_refl _)) pI;co_applyP tr 5 rfl (nN (k := k) eO Tryz.underlying110 iC hw1) pI;co_applyP tr 6 rfl bL pI;co_applyP td (by kernel_rfl);co_applyP aq;co_applyP aq;rw [hlk];have hz : (((b :: xs).length : Int) == 0) = false := by simp; omega
 co_applyP bi [] 9 aT;co_applyP tr 0 rfl ae pN;co_applyP tr 1 rfl (bB (hu := U91)) pN;co_applyP tr 2 rfl aA pN;co_applyP tr 3 rfl ae pN;rw [hz];co_applyP tr 4 rfl (ae) pN;co_applyP tr 5 rfl (ae) pN;co_applyP tr 6 rfl (bH U91 bN) pN;co_applyP t0 7 rfl ((aF (ht := dz))) pN;co_applyP t0 8 rfl (ba (ht := bM) (hs := bh) (hm := hA1.self) (hi := Nat.le_refl _)) pN;co_applyP tc 9 rfl rfl rfl (g1 K A S _ L1 b x k hN.k hR1 hb (hI.wf _ hb) hke.1.2 (hI.y8 _ hke.1.2));rintro _ _ _ ⟨rfl, rfl, hE⟩;refine ⟨ay (by simp), ?_⟩;rename_i L2;rw [hcd];co_applyP to 10 rfl (cN) (ay (by simp));co_applyP to 11 rfl (aP) (ay (by simp));have hR2 := hR1.ext hE;have hat2 := hE.at hat;co_applyP td (by kernel_rfl);co_applyP ai rfl;co_applyP aD;co_applyP aa;co_applyP om rfl rfl rfl (bH U91 bN);co_applyP oy rfl (aF (ht := dz));co_applyP oan rfl;co_applyP aa;co_applyP om rfl rfl rfl ae;co_applyP oy rfl (ba (ht := bM) (hs := bh) (hm := hR2.fr _ List.mem_cons_self) (hi := Nat.le_refl _));co_applyP oc rfl rfl rfl (g2 K A S _ L2 b x k hN.r hN.k hR2 hI.w hb);rintro _ _ _ ⟨rfl, rfl, A3, hwl3, hR3⟩;co_applyP ah;co_applyP aq;co_applyP aa;co_applyP om rfl rfl rfl ae;rename_i L3;have hb3 : (b, x) ∈ (S.depart b k).ps := hb;co_applyP oy rfl (ba (ht := bM) (hs := bh) (hm := hR3.fr _ List.mem_cons_self) (hi := Nat.le_refl _));co_applyP oc rfl rfl rfl (g3 K A3 _ _ L3 eb b x k hN.k hN.d hR3 (hEr.mono fun t ht => List.mem_cons_of_mem _ ht) hb3 (hI.wf _ hb) hoc.1 hask.a hoc.2);rintro _ _ _ ⟨rfl, r, rfl, hr4, hR4⟩;co_applyP oan rfl;co_applyP aa;co_applyP oy rfl ae;rename_i L4;co_applyP oy rfl (dH (v := .iface 180 (ptr r)) (c := false) (hv := .inr ⟨_, _, rfl, rfl⟩) (hu := Tryz.underlying168));co_applyP ah;co_applyP aQ rfl;co_applyP ax;co_applyP om rfl rfl rfl ae;co_applyP oc rfl rfl rfl (g5 K A3 _ _ L4 eb b x r 7 hN.toNewE hR4 (hEr.mono fun t ht => List.mem_cons_of_mem _ ht) hb3 hr4 (by decide) (by decide));rintro _ _ _ ⟨rfl, rfl, hR5'⟩;co_applyP ah;change wpE ..;rename_i L5;obtain ⟨A5, hA5⟩ : ∃ A5, A5 = A3 := ⟨_, rfl⟩;have hR5 : Rep K A5 ((S.depart b k).carry b x k) ((xk, true, Obj.cells (keyv k).cells 96) :: Fr) L5 := by rw [hA5]; unfold St.carry; rw [if_neg hoc.1, if_neg (by rw [show (S.depart b k).isOpen (otherE k) = S.isOpen (otherE k) from rfl, hoc.2]; simp)]; exact hR5'
 have hb5 : (b, S.carried x k) ∈ ((S.depart b k).carry b x k).ps := by rw [eP]; exact av hb3
 have hd : Inv (S.depart b k) := hI.depart;have ho : (S.depart b k).out b := by have := hI.out_depart hb; rw [hask.f] at this; exact this
 have hI5 := Inv.carry hd (b := b) (x := x) (k := k) hb3 ho hke.1.2 hask.a hcd;have hst : (S.carried x k).st = x.st := (c9 S x k).1;have hs5 : At L5 b 2 (.int .i64 ((S.carried x k).st : Nat)) := hR5.pat hb5 (i := 2) rfl;co_applyP dZ (fun s'' ε'' L'' => s = s'' ∧ kn ε'' [] ∧ ∃ A6, Rep K A6 (if x.st = 1 then (S.depart b k).carry b x k else ((S.depart b k).carry b x k).wake1 b (S.carried x k)) Fr L'');co_applyP aa;co_applyP om rfl rfl rfl aJ;co_applyP oy rfl (au (hf := aC));co_applyP oy rfl (au (hf := cZ));co_applyP oy rfl (aF (ht := aY));co_applyP oy rfl fy;co_applyP ah;co_applyP bk rfl;intro hc;co_applyP ax;co_applyP om rfl rfl rfl ae
 · have h1 : ¬ x.st = 1 := by rw [hst] at hc; simp at hc; omega
   co_applyP oc rfl rfl rfl (g4 K A5 _ _ L5 b (S.carried x k) hN.r hR5 hb5 (hI5.g.lv _ hb5) (hI5.g.r8 (hI5.g.lv _ hb5)) (fun e he => cT e.1 (hI5.g.lv _ hb5)));rintro _ _ _ ⟨rfl, rfl, A6, _, hR6⟩;co_applyP ah;change _ = _ ∧ kn _ _ ∧ ∃ A6, _;exact ⟨rfl, rfl, A6, by rw [if_neg h1]; exact hR6.less fun t ht => List.mem_cons_of_mem _ ht⟩
 intro hc;co_applyP aD;change _ = _ ∧ kn _ _ ∧ ∃ A6, _;have h1 : x.st = 1 := by rw [hst] at hc; simp at hc; omega
 exact ⟨rfl, rfl, A5, by rw [if_pos h1]; exact hR5.less fun t ht => List.mem_cons_of_mem _ ht⟩;rintro _ ε6 L6 ⟨rfl, he6, A6, hR6⟩;co_applyP aV he6;co_applyP aa;co_applyP oan rfl;co_applyP aK;change ∃ v, resE .. = some v ∧ _;exact ⟨_, rfl, rfl, rfl, A6, hR6⟩
theorem xd : ∃ n, ∀ {σ} {F : Fam σ} {Δ : DM F} {main s} (K : Nat) (A : Lay) (S : St) (Fr L : Frag) (eb : Nat → Nat × Nat) (k : Nat × Nat), NewK (Δ s) → Rep K A S Fr L → Ers eb Fr → Inv S →
   CallsL Δ Tryz.prog main 160 [ptr K, keyv k].toArray n s L (fun s' v L' => s = s' ∧ v = .bool (S.serve k).isSome ∧ ∃ A', Rep K A' ((S.serve k).getD S) Fr L') := by
 obtain ⟨n0, g0⟩ := w6;obtain ⟨n1, g1⟩ := w7;obtain ⟨n2, g2⟩ := xa;obtain ⟨n3, g3⟩ := xc;refine ⟨n0 + (n1 + (n2 + n3)), fun {σ F Δ main s} K A S Fr L eb k hN hR hE hI => aM (∀ e ∈ S.wt, e.1 ≠ k) (fun h => ?_) fun h => ?_⟩
 · have e : S.serve k = none := by unfold St.serve; rw [gV h]
   rw [e];exact aO (g0 K A S Fr L k hN.k hR h) fun s' v L' ⟨h1, h2, h3⟩ => ⟨h1, h2, A, h3⟩
 · have hk : k ∈ S.wt.map (·.1) := by
     refine Decidable.byContradiction fun hn => h fun e he e1 => hn (List.mem_map.2 ⟨e, he, e1⟩)
   obtain ⟨⟨k', ys⟩, hin, rfl⟩ := List.mem_map.1 hk;cases ys with
   | nil => exact absurd rfl (hI.ne _ hin)
   | cons b xs =>
     obtain ⟨x, hb, _⟩ := hI.rm _ hin b (by simp);have er := dg hI.kn hin;refine aM (S.canBeDone x k' = false) (fun h => ?_) fun h => aM (k'.2 = 4 ∨ S.isOpen (otherE k') = true) (fun ho => ?_) fun ho => ?_
     · have e : S.serve k' = none := by unfold St.serve; rw [er]; simp only [bl hI.g.pn hb, h]; rfl
       rw [e];exact aO (g1 K A S Fr L k' b x xs hN.k hR hI hin hb h) fun s' v L' ⟨h1, h2, h3⟩ => ⟨h1, h2, A, h3⟩
     · have hc : S.canBeDone x k' = true := by simpa using h
       have e : S.serve k' = some (if x.st = 1 then (S.depart b k').carry b x k' else ((S.depart b k').carry b x k').wake1 b (S.carried x k')) := by unfold St.serve; rw [er]; simp only [bl hI.g.pn hb, hc]; rfl
       rw [e];exact g2 K A S Fr L eb k' b x xs hN hR hE hI hin hb hc ho
     · have hc : S.canBeDone x k' = true := by simpa using h
       have e : S.serve k' = some (if x.st = 1 then (S.depart b k').carry b x k' else ((S.depart b k').carry b x k').wake1 b (S.carried x k')) := by unfold St.serve; rw [er]; simp only [bl hI.g.pn hb, hc]; rfl
       rw [e]
       exact g3 K A S Fr L eb k' b x xs hN hR hE hI hin hb hc ⟨fun h => ho (.inl h), by cases hh : S.isOpen (otherE k') with
         | false => rfl
         | true => exact absurd (.inr hh) ho⟩
theorem pw {S S' : St} {p m : Nat} (h : S.serve (p, 5) = some S') (hm : S'.meas p < m) : ∃ m', S'.meas p ≤ m' ∧ St.looks m S p = St.looks m' S' p := by
 cases m with
 | zero => omega
 | succ m => exact ⟨m, by omega, by simp only [St.looks, h]⟩
theorem px {S S' : St} {p m : Nat} (h5 : S.serve (p, 5) = none) (h : S.serve (p, 4) = some S') (hm : S'.meas p < m) : ∃ m', S'.meas p ≤ m' ∧ St.looks m S p = St.looks m' S' p := by
 cases m with
 | zero => omega
 | succ m => exact ⟨m, by omega, by simp only [St.looks, h5, h]⟩
theorem uA : ∃ n, ∀ {σ} {F : Fam σ} {Δ : DM F} {main s} (K : Nat) (A : Lay) (S : St) (Fr L : Frag) (eb : Nat → Nat × Nat) (p : Nat), (∀ s, NewK (Δ s)) → Rep K A S Fr L → Ers eb Fr → Inv S →
   CallsL Δ Tryz.prog main 147 [ptr K, .int .i64 (p : Nat)].toArray n s L (fun s' v L' => s = s' ∧ v = .tuple #[] ∧ ∃ A', Rep K A' (S.look p) Fr L') := by
 obtain ⟨n1, g1⟩ := xd;apply Exists.intro;intro σ F Δ main s K A S Fr L eb p hN hR hE hI;co_applyP aB 14 Tryz.func147 Tryz.ntmps147;co_applyP aI;co_applyP bK (fun c s' ε' L' => s' = s ∧ ∃ A' S' m, Rep K A' S' Fr L' ∧ Inv S' ∧ S'.meas p ≤ c ∧ S'.meas p ≤ m ∧ St.looks m S' p = S.look p ∧ kn ε' [(0, ptr K), (1, .int .i64 (p : Nat))]) 16
 · exact ⟨rfl, A, S, 16, hR, hI, qD hI p, qD hI p, rfl, rfl⟩
 rintro c s' ε' L' ⟨rfl, A', S', m, hR', hI', hc, hm, hlk, he⟩;co_applyP aV he;co_applyP bR ((S'.serve (p, 5)).isSome = true);intro h5
 · obtain ⟨S5, hS5⟩ := Option.isSome_iff_exists.1 h5;have hlt := kz hI' (.inr rfl) hS5;co_applyP aq;co_applyP aa;co_applyP om rfl rfl rfl ae;co_applyP oy rfl (bt (dC _ _));co_applyP oc rfl rfl rfl (g1 K A' S' Fr L' eb (p, 5) (hN _) hR' hE hI');rintro _ _ _ ⟨rfl, rfl, A2, hR2⟩;co_applyP oy rfl ae;rw [hS5] at hR2 ⊢;co_applyP ou rfl;co_applyP ou rfl;co_applyP ou rfl;co_applyP ou rfl;co_applyP oy rfl aP;co_applyP ah;co_applyP aQ rfl;co_applyP aD;co_applyP aI;co_applyP aD;change ∃ k', k' < _ ∧ _;obtain ⟨m', hm', e'⟩ := pw hS5 (show S5.meas p < m by omega);exact ⟨S5.meas p, by omega, rfl, A2, S5, m', hR2, hI'.serve hS5, Nat.le_refl _, hm', by rw [← e']; exact hlk, rfl⟩
 intro h5;have hS5 : S'.serve (p, 5) = none := by simpa using h5
 co_applyP bR ((S'.serve (p, 4)).isSome = true);intro h4
 · obtain ⟨S4, hS4⟩ := Option.isSome_iff_exists.1 h4;have hlt := kz hI' (.inl rfl) hS4;co_applyP aq;co_applyP aa;co_applyP om rfl rfl rfl ae;co_applyP oy rfl (bt (dC _ _));co_applyP oc rfl rfl rfl (g1 K A' S' Fr L' eb (p, 5) (hN _) hR' hE hI');rintro _ _ _ ⟨rfl, rfl, A2, hR2⟩;co_applyP oy rfl ae;rw [hS5] at hR2 ⊢;co_applyP om rfl rfl rfl (ae);co_applyP oy rfl (bt (dC _ _));co_applyP oc rfl rfl rfl (g1 K A2 S' Fr _ eb (p, 4) (hN _) hR2 hE hI');rintro _ _ _ ⟨rfl, rfl, A3, hR3⟩;co_applyP oy rfl aP;co_applyP ah;change wpE ..;rw [hS4] at hR3 ⊢;co_applyP aQ rfl;co_applyP aD;co_applyP aI;co_applyP aD;change ∃ k', k' < _ ∧ _;obtain ⟨m', hm', e'⟩ := px hS5 hS4 (show S4.meas p < m by omega);exact ⟨S4.meas p, by omega, rfl, A3, S4, m', hR3, hI'.serve hS4, Nat.le_refl _, hm', by rw [← e']; exact hlk, rfl⟩
 intro h4;have hS4 : S'.serve (p, 4) = none := by simpa using h4
 co_applyP aq (n₂ := 0);co_applyP aa;co_applyP om rfl rfl rfl ae;co_applyP oy rfl (bt (dC _ _));co_applyP oc rfl rfl rfl (g1 K A' S' Fr L' eb (p, 5) (hN _) hR' hE hI');rintro _ _ _ ⟨rfl, rfl, A2, hR2⟩;co_applyP oy rfl ae;rw [hS5] at hR2 ⊢;co_applyP om rfl rfl rfl (ae);co_applyP oy rfl (bt (dC _ _));co_applyP oc rfl rfl rfl (g1 K A2 S' Fr _ eb (p, 4) (hN _) hR2 hE hI');rintro _ _ _ ⟨rfl, rfl, A3, hR3⟩;co_applyP oy rfl aP;co_applyP ah;change wpE ..;rw [hS4] at hR3 ⊢;co_applyP ai rfl;co_applyP bS;change ∃ v, resE .. = some v ∧ _;refine ⟨_, rfl, rfl, rfl, A3, ?_⟩;rw [← hlk, pv hS5 hS4];exact hR3
theorem uB : ∃ n, ∀ {σ} {F : Fam σ} {Δ : DM F} {main s} (K : Nat) (A : Lay) (S : St) (Fr L : Frag) (eb : Nat → Nat × Nat) (b : Nat) (x : PS) (j : Nat), (∀ s, NewK (Δ s)) → Rep K A S Fr L → Ers eb Fr → Inv S → (b, x) ∈ S.ps → S.out b → j < 6 →
   CallsL Δ Tryz.prog main 127 [ptr K, ptr b, .int .i64 (j : Nat)].toArray n s L (fun s' v L' => s = s' ∧ v = .tuple #[] ∧ ∃ A', Rep K A' (S.shut b j) Fr L') := by
 obtain ⟨n1, g1⟩ := uA;apply Exists.intro;intro σ F Δ main s K A S Fr L eb b x j hN hR hE hI hb ho hj;have hd := hI.like (x' := { x with f := put x.f j (0, 0) }) hb ho rfl rfl ⟨(hI.wf _ hb).r, (hI.wf _ hb).m⟩ (kA (hI.fl _ hb) (.inl rfl));have eo : 79 + j * 2 = 79 + 2 * j := by omega
 co_applyP aB 23 Tryz.func127 Tryz.ntmps127;co_applyP aa;co_applyP om rfl rfl rfl ae;co_applyP oy rfl aJ;co_applyP oy rfl (au (hf := eg));co_applyP oy rfl (aX Tryz.underlying97 bh);co_applyP oy rfl (ba (ht := bM) (hs := bh) (hm := hR.p _ hb) (hi := by rw [bf]; omega));co_applyP bT rfl (eV (z := keyv (0, 0)) ((hN _).k _));intro nb L1 hA1;co_applyP oeN rfl (fun hnd => fH (hs := bh) (vs := [.int .i64 (x.f j).1, .int .i64 (x.f j).2]) (hy := by rw [eo, pl x hj]; rfl) (hnd := hnd) (hm := hA1.self) (hi := Nat.le_refl _));rintro _ L2 ⟨rfl, hU2⟩;co_applyP ah;co_applyP aa;co_applyP om rfl rfl rfl ae;have hR2 := hR.fresh (L' := L2) ⟨hU2.fn, fun t ht => hU2.ne _ (hA1.sub _ ht) (hA1.new _ ht)⟩ hA1.new hU2.self;co_applyP oy rfl (bt ui);co_applyP oy rfl aJ;co_applyP oy rfl (au (hf := eg));co_applyP oy rfl (aX Tryz.underlying97 bh);co_applyP oeN rfl (fun hnd => fH (hs := bh) (vs := [.int .i64 (0 : Nat), .int .i64 (0 : Nat)]) (hnd := hnd) (hm := hR2.p _ hb) (hi := by rw [bf]; simp; omega));rintro _ L3 ⟨rfl, hU3⟩;rw [eo, po x hj (0, 0)] at hU3;have hR3 := hR2.setP hb (x' := { x with f := put x.f j (0, 0) }) hU3;have h0 : At L3 nb 0 (.int .i64 ((x.f j).1 : Nat)) := ⟨true, _, _, _, hR3.fr _ List.mem_cons_self, rfl⟩;co_applyP ah;co_applyP ax;co_applyP om rfl rfl rfl (au (hf := dU));co_applyP oy rfl (aF (ht := aY));co_applyP oc rfl rfl rfl (g1 K A _ _ L3 eb (x.f j).1 hN hR3 (hE.mono fun t ht => List.mem_cons_of_mem _ ht) hd);rintro _ _ _ ⟨rfl, rfl, A4, hR4⟩;co_applyP ah;change ∃ v, resE .. = some v ∧ _;refine ⟨_, rfl, rfl, rfl, A4, ?_⟩;unfold St.shut;rw [bl hI.g.pn hb];exact hR4.less fun t ht => List.mem_cons_of_mem _ ht
def filesv (f : Nat → Nat × Nat) : Value := .agg #[.int .i64 (f 0).1, .int .i64 (f 0).2, .int .i64 (f 1).1, .int .i64 (f 1).2, .int .i64 (f 2).1, .int .i64 (f 2).2, .int .i64 (f 3).1, .int .i64 (f 3).2, .int .i64 (f 4).1, .int .i64 (f 4).2, .int .i64 (f 5).1, .int .i64 (f 5).2]
theorem gW (x : PS) : Value.agg ((pcells x).extract 79 91) = filesv x.f := by rfl
theorem yt (f : Nat → Nat × Nat) {i : Nat} (hi : i < 6) : evR Tryz.prog (Instr.index 97 (filesv f) (.int .i64 (i : Nat))) [] = some (keyv (f i), []) := by
 have : i = 0 ∨ i = 1 ∨ i = 2 ∨ i = 3 ∨ i = 4 ∨ i = 5 := by omega
 rcases this with rfl | rfl | rfl | rfl | rfl | rfl
 · show evR Tryz.prog (Instr.index 97 (filesv f) (.int .i64 ((0 : Nat) : Int))) [] = some (keyv (f 0), []);kernel_rfl
 · show evR Tryz.prog (Instr.index 97 (filesv f) (.int .i64 ((1 : Nat) : Int))) [] = some (keyv (f 1), []);kernel_rfl
 · show evR Tryz.prog (Instr.index 97 (filesv f) (.int .i64 ((2 : Nat) : Int))) [] = some (keyv (f 2), []);kernel_rfl
 · show evR Tryz.prog (Instr.index 97 (filesv f) (.int .i64 ((3 : Nat) : Int))) [] = some (keyv (f 3), []);kernel_rfl
 · show evR Tryz.prog (Instr.index 97 (filesv f) (.int .i64 ((4 : Nat) : Int))) [] = some (keyv (f 4), []);kernel_rfl
 · show evR Tryz.prog (Instr.index 97 (filesv f) (.int .i64 ((5 : Nat) : Int))) [] = some (keyv (f 5), []);kernel_rfl
theorem qE {N : Nat} {ε : Env} {L : Frag} {d : Option Tmp} {ty : TypeId} {ps : String} {af : Array Edge} {g : Option (Nat × Bool)} {x ix : Operand} {t : TypeId} {w j v : Value} (hv : evR Tryz.prog (Instr.index t w j) [] = some (v, [])) (hx : ev ε x = some w := by rfl) (hy : ev ε ix = some j := by rfl) : EY Tryz.prog N ε L ⟨d, .index t x ix, ty, ps, af, g⟩ v := fun a ha => by
 refine cR (fun _ => rfl) fun K hK => ?_;rw [ha.ev hx, ha.ev hy];exact bj hv hK
structure Shutting (b : Nat) (x : PS) (S S' : St) : Prop where
 i : Inv S'
 f : S'.ps.map (·.1) = S.ps.map (·.1)
 o : S'.out b
 m : ∃ f', (b, { x with f := f' }) ∈ S'.ps
theorem Shutting.step {b : Nat} {x : PS} {S S' : St} (h : Shutting b x S S') (n : Nat) : Shutting b x S (S'.shut b n) := by
 obtain ⟨f', hm⟩ := h.m;have hl := h.i.shut hm h.o n;exact ⟨hl.i, by rw [hl.f, aW]; exact h.f, hl.o b h.o, put f' n (0, 0), hl.m b _ h.o (av hm)⟩
theorem Shutting.all {b : Nat} {x : PS} {S : St} (f : Nat → Nat × Nat) : ∀ (ns : List Nat) {S' : St}, Shutting b x S S' → Shutting b x S (S'.shuts b f ns)
 | [], _, h => h
 | n :: ns, S', h => by
   show Shutting b x S ((if f n = (0, 0) then S' else S'.shut b n).shuts b f ns)
   split
   · exact Shutting.all f ns h
   · exact Shutting.all f ns (h.step n)
theorem rZ : ∃ n, ∀ {σ} {F : Fam σ} {Δ : DM F} {main s} (K : Nat) (A : Lay) (S : St) (Fr L : Frag) (eb : Nat → Nat × Nat) (b : Nat) (x : PS), (∀ s, NewK (Δ s)) → Rep K A S Fr L → Ers eb Fr → Inv S → (b, x) ∈ S.ps → S.out b →
   CallsL Δ Tryz.prog main 108 [ptr K, ptr b].toArray n s L (fun s' v L' => s = s' ∧ v = .tuple #[] ∧ ∃ A', Rep K A' (S.shuts b x.f (List.range' 0 6)) Fr L') := by
 obtain ⟨n1, g1⟩ := iF;obtain ⟨n2, g2⟩ := uB;apply Exists.intro;intro σ F Δ main s K A S Fr L eb b x hN hR hE hI hb ho;co_applyP aB 22 Tryz.func108 Tryz.ntmps108;co_applyP aa;co_applyP om rfl rfl rfl aJ;co_applyP oy rfl (au (hf := eg));co_applyP oy rfl (ba (ht := tS) (hs := tR) (hm := hR.p _ hb) (hi := by rw [bf]; omega));co_applyP oy rfl ae;co_applyP ah;co_applyP aI;rw [show (0 + 79 : Nat) = 79 from rfl, show (79 + 12 : Nat) = 91 from rfl, gW];co_applyP bK (fun c s' ε' L' => s' = s ∧ ∃ A' S' i, i ≤ 6 ∧ c + i = 6 ∧ Rep K A' S' Fr L' ∧ Shutting b x S S' ∧ S'.shuts b x.f (List.range' i (6 - i)) = S.shuts b x.f (List.range' 0 6) ∧ kn ε' [(0, ptr K), (1, ptr b), (9, filesv x.f), (10, .int .i64 (i : Nat))]) 6
 · exact ⟨rfl, A, S, 0, by omega, rfl, hR, ⟨hI, rfl, ho, x.f, hb⟩, rfl, rfl⟩
 rintro c s' ε' L' ⟨rfl, A', S', i, hi, hc, hR', hS', hsh, he⟩;co_applyP aV he;have ei : IntKind.i64.wrap ((i : Int) + 1) = ((i + 1 : Nat) : Int) := by simp [IntKind.wrap_i64]; omega
 co_applyP aa;co_applyP oy rfl cF;co_applyP ah;co_applyP aq;co_applyP bk rfl;intro hlt
 · have hi6 : i < 6 := by simp at hlt; omega
   have e6 : List.range' i (6 - i) = i :: List.range' (i + 1) (6 - (i + 1)) := by
     rw [show 6 - i = (6 - (i + 1)) + 1 by omega, List.range'_succ]
   rw [e6] at hsh;co_applyP aD;co_applyP aq;co_applyP aI;co_applyP aa;co_applyP om rfl rfl rfl (qE (yt x.f hi6));co_applyP bT rfl (eV (z := keyv (0, 0)) ((hN _).k _));intro nb L1 hA1;co_applyP oy rfl bL;co_applyP oeN rfl (fun hnd => fH (hs := bh) (vs := [.int .i64 (x.f i).1, .int .i64 (x.f i).2]) (hnd := hnd) (hm := hA1.self) (hi := Nat.le_refl _));rintro _ L2 ⟨rfl, hU2⟩;co_applyP ah;co_applyP aa;have hR2 := hR'.of hU2.fn (fun t ht => hU2.ne _ (hA1.sub _ ht) (hA1.new _ ht));co_applyP oy rfl (ba (ht := bM) (hs := bh) (hm := hU2.self) (hi := Nat.le_refl _));co_applyP oc rfl rfl rfl (g1 L2 (x.f i) (hN _).k);rintro _ _ _ ⟨rfl, rfl, hE3⟩;co_applyP oy rfl cN;co_applyP ah;change wpE ..;have hR3 := hR2.ext hE3;co_applyP bk rfl;intro hz;co_applyP ax;co_applyP om rfl rfl rfl ae;co_applyP oy rfl ae
   · have hz' : ¬ x.f i = (0, 0) := by simpa using hz
     obtain ⟨f', hm'⟩ := hS'.m;co_applyP oc rfl rfl rfl (g2 K A' S' Fr _ eb b _ i hN hR3 hE hS'.i hm' hS'.o hi6);rintro _ _ _ ⟨rfl, rfl, A4, hR4⟩;co_applyP ah;co_applyP ax;co_applyP oy rfl aR;co_applyP oy rfl ae;co_applyP ah;change ∃ k', k' < _ ∧ _;refine ⟨c - 1, by omega, rfl, A4, _, i + 1, by omega, by omega, hR4, hS'.step i, ?_, by rw [← ei]; rfl⟩;rw [← hsh];show _ = (if x.f i = (0, 0) then S' else S'.shut b i).shuts b x.f _;rw [if_neg hz']
   intro hz;co_applyP aD;co_applyP ax;co_applyP oy rfl aR;co_applyP oy rfl ae;co_applyP ah;change ∃ k', k' < _ ∧ _;have hz' : x.f i = (0, 0) := by simpa using hz
   refine ⟨c - 1, by omega, rfl, A', S', i + 1, by omega, by omega, hR3, hS', ?_, by rw [← ei]; rfl⟩;rw [← hsh];show _ = (if x.f i = (0, 0) then S' else S'.shut b i).shuts b x.f _;rw [if_pos hz']
 intro hlt;co_applyP bS;change ∃ v, resE .. = some v ∧ _;have hi6 : i = 6 := by simp at hlt; omega
 subst hi6;refine ⟨_, rfl, rfl, rfl, A', ?_⟩;rw [← hsh];exact hR'
end Go.Proofs.YtejkelcaljmnoaaGreatDoor
namespace Go.Lo
open Go.Conc Go.Hx
structure OldW (W : World) (O : Nat) (w : World) : Prop where
 t : w.tape = W.tape
 o : w.os = W.os
 u : w.output = W.output
 z : O ≤ w.heap.size
 b : ∀ x, x < O → w.heap[x]? = W.heap[x]?
theorem eX {w : World} {b x : Nat} {o : Obj} (h : x ≠ b) : (upd w b o).heap[x]? = w.heap[x]? := by simp [upd, Array.getElem?_setIfInBounds, Ne.symm h]
theorem kD {w : World} {b : Nat} {o : Obj} (h : b < w.heap.size) : (upd w b o).heap[b]? = some o := by simp [upd, h]
theorem dE {w : World} {x : Nat} {o : Obj} (h : x ≠ w.heap.size) : (more w o).heap[x]? = w.heap[x]? := by
 show (w.heap.push o)[x]? = w.heap[x]?;rw [Array.getElem?_push, if_neg h]
theorem ja {w : World} {o : Obj} : (more w o).heap[w.heap.size]? = some o := by
 show (w.heap.push o)[w.heap.size]? = some o;simp
theorem OldW.upd {W : World} {O : Nat} {w : World} (h : OldW W O w) {b : Nat} (hb : O ≤ b) (o : Obj) : OldW W O (upd w b o) :=
 ⟨h.t, h.o, h.u, by simpa [Lo.upd] using h.z, fun x hx => by rw [← h.b x hx]; simp [Lo.upd, Array.getElem?_setIfInBounds, show b ≠ x by omega]⟩
theorem OldW.more {W : World} {O : Nat} {w : World} (h : OldW W O w) (o : Obj) : OldW W O (more w o) :=
 ⟨h.t, h.o, h.u, by have := h.z; simp [Lo.more]; omega, fun x hx => by rw [← h.b x hx]; have := h.z; exact dE (by omega)⟩
theorem OldW.drew {W : World} {O : Nat} {w : World} (h : OldW W O w) : OldW W O (drew w) := ⟨h.t, h.o, h.u, h.z, h.b⟩
theorem qF {o o' : Obj} {ety : TypeId} (h : fits o o' = true) : isEv ety o' = isEv ety o := by
 cases o <;> cases o' <;> simp_all [fits, isEv, thing]
theorem jp {L : Frag} {n b : Nat} {fl : Bool} {o o' : Obj} (hn : L[n]? = some (b, fl, o)) : (L.set n (b, fl, o')).map (·.1) = L.map (·.1) := by
 apply List.ext_getElem?;intro i;simp only [List.getElem?_map, List.getElem?_set]
 split
 · rename_i e; subst e;obtain ⟨hlt, he⟩ := List.getElem?_eq_some_iff.1 hn;simp [hlt, he]
 · rfl
theorem cA {L : Frag} {n b : Nat} {fl : Bool} {o o' : Obj} (hd : (L.map (·.1)).Nodup) (hn : L[n]? = some (b, fl, o)) {t : Nat × Bool × Obj} (ht : t ∈ L.set n (b, fl, o')) : t = (b, fl, o') ∨ (t ∈ L ∧ t.1 ≠ b) := by
 obtain ⟨i, hi⟩ := List.getElem?_of_mem ht;rw [List.getElem?_set] at hi
 split at hi
 · split at hi
   · left; simpa using hi.symm
   · cases hi
 · rename_i hne;right;refine ⟨List.mem_of_getElem? hi, fun e => hne ?_⟩;have h1 : (L.map (·.1))[i]? = some t.1 := by simp [hi]
   have h2 : (L.map (·.1))[n]? = some b := by simp [hn]
   obtain ⟨hl1, he1⟩ := List.getElem?_eq_some_iff.1 h1;obtain ⟨hl2, he2⟩ := List.getElem?_eq_some_iff.1 h2;rcases Nat.lt_trichotomy n i with g | g | g
   · exact absurd (he2.trans (e.symm.trans he1.symm)) (List.pairwise_iff_getElem.1 hd n i hl2 hl1 g)
   · exact g
   · exact absurd (he1.trans (e.trans he2.symm)) (List.pairwise_iff_getElem.1 hd i n hl1 hl2 g)
theorem kE {m : Mark} (hm : okMark m = true) : (MemAct.ofEvent ⟨.mark m, false, true⟩).touch? = none ∧ m ≠ .disable ∧ m ≠ .enable := by
 cases m with
 | noRoom => exact ⟨rfl, nofun, nofun⟩
 | extern f => exact ⟨rfl, nofun, nofun⟩
 | _ => cases hm
structure OwnW (p : Par) (Sh : Loc → Prop) (E Dn : Nat) (W : World) (O : Nat) (L : Frag) (w : World) : Prop where
 has : ∀ t ∈ L, w.heap[t.1]? = some t.2.2
 ap : ∀ t ∈ L, t.1 ≠ E ∧ t.1 ≠ Dn ∧ (∀ l, blk l = some t.1 → ¬ Sh l) ∧ (isEv p.ety t.2.2 = true → t.1 < p.N0)
 own : ∀ t ∈ L, t.2.1 = true → O ≤ t.1 ∧ ∀ l, blk l = some t.1 → ¬ p.Still l
 nd : (L.map (·.1)).Nodup
 sz : p.N0 ≤ w.heap.size
 old : OldW W O w
 sh : ShOk p Sh
 hE : E < p.N0 ∧ Dn < p.N0
 oo : O ≤ E ∧ O ≤ Dn ∧ O ≤ p.N0
section
variable {p : Par} {Sh : Loc → Prop} {E Dn : Nat} {W : World} {O : Nat} {L : Frag} {w w₁ : World}
theorem OwnW.notFA (h : OwnW p Sh E Dn W O L w) {b : Nat} {fl : Bool} {o : Obj} (hm : (b, fl, o) ∈ L) : ¬ FA p w b := by
 rintro ⟨h1, o', ho', hi⟩;have := h.has _ hm;have h2 := (h.ap _ hm).2.2.2;simp only at this h2;rw [this] at ho';cases ho';exact absurd (h2 hi) (by omega)
theorem OwnW.lt (h : OwnW p Sh E Dn W O L w) {b : Nat} {fl : Bool} {o : Obj} (hm : (b, fl, o) ∈ L) : b < w.heap.size := (Array.getElem?_eq_some_iff.1 (h.has _ hm)).1
theorem OwnW.rely (h : OwnW p Sh E Dn W O L w) (r : RB p E Dn w w₁) : OwnW p Sh E Dn W O L w₁ :=
 { h with
   has := fun t ht => (r.block t.1 (h.lt (fl := t.2.1) (o := t.2.2) ht) (h.notFA (fl := t.2.1) (o := t.2.2) ht) (h.ap t ht).1 (h.ap t ht).2.1).trans (h.has t ht)
   sz := Nat.le_trans h.sz r.kept.size
   old := ⟨r.tape.trans h.old.t, r.os.trans h.old.o, r.output.trans h.old.u, Nat.le_trans h.old.z r.kept.size, fun x hx => by
     have h1 := h.oo;have h2 := h.sz;exact (r.block x (by omega) (fun f => by have := f.1; omega) (by omega) (by omega)).trans (h.old.b x hx)⟩ }
theorem py {b : Nat} {o o' : Obj} (hb : w.heap[b]? = some o) (hf : fits o o' = true) (x : Nat) : FA p (upd w b o') x ↔ FA p w x := by
 by_cases e : x = b
 · subst e;have hlt := (Array.getElem?_eq_some_iff.1 hb).1;unfold FA;rw [kD hlt, hb];simp [qF (ety := p.ety) hf]
 · unfold FA; rw [eX e]
theorem qG {o : Obj} (ho : isEv p.ety o = false) (x : Nat) : FA p (more w o) x ↔ FA p w x := by
 by_cases e : x = w.heap.size
 · subst e;unfold FA;rw [ja];simp [ho]
 · unfold FA; rw [dE e]
theorem OwnW.set (h : OwnW p Sh E Dn W O L w) {n b : Nat} {o o' : Obj} (hn : L[n]? = some (b, true, o)) (hf : fits o o' = true) :
   OwnW p Sh E Dn W O (L.set n (b, true, o')) (upd w b o') ∧ (RA p w (upd w b o') ∧ (upd w b o').heap[E]? = w.heap[E]? ∧ (upd w b o').heap[Dn]? = w.heap[Dn]?) ∧ (∀ i, EvB p Sh (upd w b o') ⟨.cell ⟨b, i, none⟩, true, false⟩) ∧ EvB p Sh (upd w b o') ⟨.obj b, true, false⟩ := by
 have hm := List.mem_of_getElem? hn;have hb : w.heap[b]? = some o := h.has _ hm;have hlt := h.lt hm;obtain ⟨a1, a2, a3, a4⟩ := h.ap _ hm;obtain ⟨o1, o2⟩ := h.own _ hm rfl
 have hO : OwnW p Sh E Dn W O (L.set n (b, true, o')) (upd w b o') :=
   { h with
     has := fun t ht => by
       rcases cA h.nd hn ht with rfl | ⟨h1, h2⟩
       · exact kD hlt
       · rw [eX h2]; exact h.has t h1
     ap := fun t ht => by
       rcases cA h.nd hn ht with rfl | ⟨h1, h2⟩
       · exact ⟨a1, a2, a3, fun e => a4 (by rw [qF hf] at e; exact e)⟩
       · exact h.ap t h1
     own := fun t ht hfl => by
       rcases cA h.nd hn ht with rfl | ⟨h1, h2⟩
       · exact ⟨o1, o2⟩
       · exact h.own t h1 hfl
     nd := by rw [jp hn]; exact h.nd
     sz := by simpa [upd] using h.sz
     old := h.old.upd o1 o' }
 have hnf : ¬ FA p (upd w b o') b := fun f => h.notFA hm ((py hb hf b).1 f);refine ⟨hO, ⟨⟨rfl, rfl, rfl, ⟨by simp [upd], fun x f => (py hb hf x).2 f, fun x _ nf f => nf ((py hb hf x).1 f)⟩, fun x f => eX fun e => h.notFA hm (e ▸ f), fun x cs ty fl hs hx => (eX fun e => ?_).trans hx⟩, eX (Ne.symm a1), eX (Ne.symm a2)⟩, fun i => ?_, ?_⟩
 · obtain ⟨j, hj⟩ := hs;exact o2 _ (by rw [← e]; rfl) hj
 · refine ⟨fun x hx _ => ?_, by simp, by simp⟩;simp only [MemAct.ofEvent, MemAct.touch?, Option.some.injEq] at hx;subst hx;exact ⟨⟨b, rfl, by simpa [upd] using hlt, hnf⟩, fun s => absurd s (a3 _ rfl), fun s => absurd s (o2 _ rfl)⟩
 · refine ⟨fun x hx _ => ?_, by simp, by simp⟩;simp only [MemAct.ofEvent, MemAct.touch?, Option.some.injEq] at hx;subst hx;exact ⟨⟨b, rfl, by simpa [upd] using hlt, hnf⟩, fun s => absurd s (a3 _ rfl), fun s => absurd s (o2 _ rfl)⟩
theorem OwnW.new (h : OwnW p Sh E Dn W O L w) {o : Obj} (ho : isEv p.ety o = false) :
   (∀ t ∈ L, t.1 ≠ w.heap.size) ∧ OwnW p Sh E Dn W O ((w.heap.size, true, o) :: L) (more w o) ∧ (RA p w (more w o) ∧ (more w o).heap[E]? = w.heap[E]? ∧ (more w o).heap[Dn]? = w.heap[Dn]?) := by
 have hne : ∀ t ∈ L, t.1 ≠ w.heap.size := fun t ht => Nat.ne_of_lt (h.lt (fl := t.2.1) (o := t.2.2) ht);have h1 := h.sz;have h2 := h.hE;have h3 := h.oo
 refine ⟨hne, { h with
     has := fun t ht => by
       rcases List.mem_cons.1 ht with rfl | ht
       · exact ja
       · rw [dE (hne t ht)]; exact h.has t ht
     ap := fun t ht => by
       rcases List.mem_cons.1 ht with rfl | ht
       · exact ⟨by show w.heap.size ≠ E; omega, by show w.heap.size ≠ Dn; omega, fun l hl s => by have := h.sh.low l _ s hl; simp only at this; omega, fun e => by simp only [ho] at e; cases e⟩
       · exact h.ap t ht
     own := fun t ht hfl => by
       rcases List.mem_cons.1 ht with rfl | ht
       · exact ⟨by show O ≤ w.heap.size; omega, fun l hl s => by have := h.sh.st l _ s hl; simp only at this; omega⟩
       · exact h.own t ht hfl
     nd := by
       simp only [List.map_cons, List.nodup_cons];exact ⟨fun hm => by obtain ⟨t, ht, e⟩ := List.mem_map.1 hm; exact hne t ht e, h.nd⟩
     sz := by simp [more]; omega
     old := h.old.more o }, ⟨⟨rfl, rfl, rfl, ⟨by simp [more], fun x f => (qG ho x).2 f, fun x _ nf f => nf ((qG ho x).1 f)⟩, fun x f => dE (Nat.ne_of_lt f.lt), fun x cs ty fl _ hx => (dE (Nat.ne_of_lt (Array.getElem?_eq_some_iff.1 hx).1)).trans hx⟩, dE (by omega), dE (by omega)⟩⟩
theorem OwnW.draw (h : OwnW p Sh E Dn W O L w) : OwnW p Sh E Dn W O L (drew w) := { h with old := h.old.drew }
def domW (p : Par) (Sh : Loc → Prop) (E Dn : Nat) (W : World) (O : Nat) : Dom (RB p E Dn) (DT p Sh E Dn) where
 New o := isEv p.ety o = false
 Own := OwnW p Sh E Dn W O
 Gu w w' := RA p w w' ∧ w'.heap[E]? = w.heap[E]? ∧ w'.heap[Dn]? = w.heap[Dn]?
 Ev := EvB p Sh
 gr w := ⟨RA.refl p w, rfl, rfl⟩
 gt h k := ⟨RA.trans _ _ _ h.1 k.1, k.2.1.trans h.2.1, k.2.2.trans h.2.2⟩
 em h k := ⟨fun x hx hm => ⟨(k.1 x hx hm).1.kept h.1.kept, (k.1 x hx hm).2⟩, k.2⟩
 dd h k := ⟨h.1, h.2.1, h.2.2, k⟩
 rely h r := h.rely r
 has h hm := h.has _ hm
 evc h hm i := by
   refine ⟨fun x hx _ => ?_, by simp, by simp⟩;simp only [MemAct.ofEvent, MemAct.touch?, Option.some.injEq] at hx;subst hx;exact ⟨⟨_, rfl, h.lt hm, h.notFA hm⟩, fun s => absurd s ((h.ap _ hm).2.2.1 _ rfl), fun _ => rfl⟩
 evo h hm := by
   refine ⟨fun x hx _ => ?_, by simp, by simp⟩;simp only [MemAct.ofEvent, MemAct.touch?, Option.some.injEq] at hx;subst hx;exact ⟨⟨_, rfl, h.lt hm, h.notFA hm⟩, fun s => absurd s ((h.ap _ hm).2.2.1 _ rfl), fun _ => rfl⟩
 set h hn hf := h.set hn hf
 new h ho := h.new ho
 draw h := ⟨h.draw, ⟨RA.at p _ _, rfl, rfl⟩⟩
 nor w m hm := by
   obtain ⟨h1, h2, h3⟩ := kE hm;exact ⟨fun x hx => (by rw [h1] at hx; cases hx), by simpa using h2, by simpa using h3⟩
 sub h hs hn := { h with has := fun t ht => h.has t (hs t ht), ap := fun t ht => h.ap t (hs t ht), own := fun t ht => h.own t (hs t ht), nd := hn }
 nd h := h.nd
 ld w := ⟨RA.at p w (w.drawn + 1), rfl, rfl, by simp⟩
end
structure Own0 (Sh : Loc → Prop) (W : World) (O : Nat) (L : Frag) (w : World) : Prop where
 has : ∀ t ∈ L, w.heap[t.1]? = some t.2.2
 ap : ∀ t ∈ L, ∀ l, blk l = some t.1 → ¬ Sh l
 own : ∀ t ∈ L, t.2.1 = true → O ≤ t.1
 nd : (L.map (·.1)).Nodup
 low : ∀ l b, Sh l → blk l = some b → b < w.heap.size
 old : OldW W O w
section
variable {Sh : Loc → Prop} {W : World} {O : Nat} {L : Frag} {w w₁ : World}
theorem Own0.lt (h : Own0 Sh W O L w) {b : Nat} {fl : Bool} {o : Obj} (hm : (b, fl, o) ∈ L) : b < w.heap.size := (Array.getElem?_eq_some_iff.1 (h.has _ hm)).1
theorem mE {e : Event} {b : Nat} (hl : blk e.loc = some b) (h : ∀ l, blk l = some b → ¬ Sh l) (hs : e.sync = false) : EvP Sh e := by
 obtain ⟨l, wr, sy⟩ := e;obtain rfl : sy = false := hs;cases l <;> simp only [blk] at hl <;> try cases hl
 · refine ⟨fun x hx s => ?_, by simp, by simp⟩;simp only [MemAct.ofEvent, MemAct.touch?, Option.some.injEq] at hx;subst hx;exact absurd s (h _ rfl)
 · refine ⟨fun x hx s => ?_, by simp, by simp⟩;cases wr <;> (simp only [MemAct.ofEvent, MemAct.touch?, Option.some.injEq] at hx; subst hx; exact absurd s (h _ rfl))
theorem Own0.set (h : Own0 Sh W O L w) {n b : Nat} {o o' : Obj} (hn : L[n]? = some (b, true, o)) : Own0 Sh W O (L.set n (b, true, o')) (upd w b o') := by
 have hm := List.mem_of_getElem? hn;have hlt := h.lt hm
 exact { h with
     has := fun t ht => by
       rcases cA h.nd hn ht with rfl | ⟨h1, h2⟩
       · exact kD hlt
       · rw [eX h2]; exact h.has t h1
     ap := fun t ht => by
       rcases cA h.nd hn ht with rfl | ⟨h1, h2⟩
       · exact h.ap (b, true, o) hm
       · exact h.ap t h1
     own := fun t ht hfl => by
       rcases cA h.nd hn ht with rfl | ⟨h1, h2⟩
       · exact h.own (b, true, o) hm rfl
       · exact h.own t h1 hfl
     nd := by rw [jp hn]; exact h.nd
     low := fun l b s hb => by simpa [upd] using h.low l b s hb
     old := h.old.upd (h.own _ hm rfl) o' }
theorem Own0.new (h : Own0 Sh W O L w) {o : Obj} : (∀ t ∈ L, t.1 ≠ w.heap.size) ∧ Own0 Sh W O ((w.heap.size, true, o) :: L) (more w o) := by
 have hne : ∀ t ∈ L, t.1 ≠ w.heap.size := fun t ht => Nat.ne_of_lt (h.lt (fl := t.2.1) (o := t.2.2) ht);have hz := h.old.z
 refine ⟨hne, { h with
     has := fun t ht => by
       rcases List.mem_cons.1 ht with rfl | ht
       · exact ja
       · rw [dE (hne t ht)]; exact h.has t ht
     ap := fun t ht => by
       rcases List.mem_cons.1 ht with rfl | ht
       · exact fun l hl s => by have := h.low l _ s hl; simp only at this; omega
       · exact h.ap t ht
     own := fun t ht hfl => by
       rcases List.mem_cons.1 ht with rfl | ht
       · exact hz
       · exact h.own t ht hfl
     nd := by
       simp only [List.map_cons, List.nodup_cons];exact ⟨fun hm => by obtain ⟨t, ht, e⟩ := List.mem_map.1 hm; exact hne t ht e, h.nd⟩
     low := fun l b s hb => by have := h.low l b s hb; simp [more]; omega
     old := h.old.more o }⟩
def dom0 (Sh : Loc → Prop) (W : World) (O : Nat) : Dom AtRel (D0 Sh) where
 New _ := True
 Own := Own0 Sh W O
 Gu _ _ := True
 Ev _ e := EvP Sh e
 gr _ := trivial
 gt _ _ := trivial
 em _ k := k
 dd _ k := k
 rely h r := by obtain ⟨d, rfl⟩ := r; exact { h with old := ⟨h.old.t, h.old.o, h.old.u, h.old.z, h.old.b⟩ }
 has h hm := h.has _ hm
 evc h hm _ := mE rfl (h.ap _ hm) rfl
 evo h hm := mE rfl (h.ap _ hm) rfl
 set h hn _ := ⟨h.set hn, trivial, fun _ => mE rfl (h.ap _ (List.mem_of_getElem? hn)) rfl, mE rfl (h.ap _ (List.mem_of_getElem? hn)) rfl⟩
 new h _ := ⟨(h.new (o := default)).1, h.new.2, trivial⟩
 draw h := ⟨{ h with old := h.old.drew }, trivial⟩
 nor _ m hm := by
   obtain ⟨h1, h2, h3⟩ := kE hm;exact ⟨fun x hx => (by rw [h1] at hx; cases hx), by simpa using h2, by simpa using h3⟩
 sub h hs hn := { h with has := fun t ht => h.has t (hs t ht), ap := fun t ht => h.ap t (hs t ht), own := fun t ht => h.own t (hs t ht), nd := hn }
 nd h := h.nd
 ld w := by simp [Hx.D0]
end
section
variable {p : Par} {Sh : Loc → Prop} {E Dn : Nat} {W : World} {O : Nat} {L : Frag} {w w₁ : World}
structure Beside (p : Par) (E Dn : Nat) (G : List (Nat × Obj)) (L : Frag) (w : World) : Prop where
 h : ∀ t ∈ G, w.heap[t.1]? = some t.2
 l : ∀ t ∈ G, ∀ u ∈ L, u.1 ≠ t.1
 a : ∀ t ∈ G, t.1 ≠ E ∧ t.1 ≠ Dn ∧ t.1 < p.N0
theorem Beside.rely {G : List (Nat × Obj)} (h : Beside p E Dn G L w) (hz : p.N0 ≤ w.heap.size) (r : RB p E Dn w w₁) : Beside p E Dn G L w₁ :=
 ⟨fun t ht => (r.block t.1 (by have := (h.a t ht).2.2; omega) (fun f => by have := f.1; have := (h.a t ht).2.2; omega) (h.a t ht).1 (h.a t ht).2.1).trans (h.h t ht), h.l, h.a⟩
def domV (p : Par) (Sh : Loc → Prop) (E Dn : Nat) (W : World) (O : Nat) (G : List (Nat × Obj)) : Dom (RB p E Dn) (DT p Sh E Dn) where
 New := (domW p Sh E Dn W O).New
 Own L w := (domW p Sh E Dn W O).Own L w ∧ Beside p E Dn G L w
 Gu := (domW p Sh E Dn W O).Gu
 Ev := (domW p Sh E Dn W O).Ev
 gr := (domW p Sh E Dn W O).gr
 gt := (domW p Sh E Dn W O).gt
 em := (domW p Sh E Dn W O).em
 dd := (domW p Sh E Dn W O).dd
 rely h r := ⟨(domW p Sh E Dn W O).rely h.1 r, h.2.rely (show OwnW p Sh E Dn W O _ _ from h.1).sz r⟩
 has h := (domW p Sh E Dn W O).has h.1
 evc h := (domW p Sh E Dn W O).evc h.1
 evo h := (domW p Sh E Dn W O).evo h.1
 set h hn hf := by
   obtain ⟨h1, h2, h3, h4⟩ := (domW p Sh E Dn W O).set h.1 hn hf;refine ⟨⟨h1, fun t ht => ?_, fun t ht u hu => ?_, h.2.a⟩, h2, h3, h4⟩
   · rw [eX (Ne.symm (h.2.l t ht _ (List.mem_of_getElem? hn)))]; exact h.2.h t ht
   · rcases cA ((domW p Sh E Dn W O).nd h.1) hn hu with rfl | ⟨h5, _⟩
     · have := h.2.l t ht _ (List.mem_of_getElem? hn);exact this
     · exact h.2.l t ht u h5
 new h ho := by
   obtain ⟨h1, h2, h3⟩ := (domW p Sh E Dn W O).new h.1 ho;have hz := (show OwnW p Sh E Dn W O _ _ from h.1).sz;refine ⟨h1, ⟨h2, fun t ht => ?_, fun t ht u hu => ?_, h.2.a⟩, h3⟩
   · rw [dE (by have := (h.2.a t ht).2.2; omega)]; exact h.2.h t ht
   · rcases List.mem_cons.1 hu with rfl | hu
     · have := (h.2.a t ht).2.2;simp only;omega
     · exact h.2.l t ht u hu
 draw h := by
   obtain ⟨h1, h2⟩ := (domW p Sh E Dn W O).draw h.1;exact ⟨⟨h1, h.2.h, h.2.l, h.2.a⟩, h2⟩
 nor := (domW p Sh E Dn W O).nor
 sub h hs hn := ⟨(domW p Sh E Dn W O).sub h.1 hs hn, h.2.h, fun t ht u hu => h.2.l t ht u (hs u hu), h.2.a⟩
 nd h := (domW p Sh E Dn W O).nd h.1
 ld := (domW p Sh E Dn W O).ld
end
section
variable {P : Program} {p : Par} {Sh : Loc → Prop} {E Dn : Nat} {PostB : World → Prop} {Aft : Goroutine → World → Prop} {W : World} {O : Nat} {G : List (Nat × Obj)} {fn : FuncId} {N : Nat} {Q : List Value → Exit → Env → Frag → Prop} {ε : Env} {L : Frag}
abbrev domT (P : Program) (p : Par) (Sh : Loc → Prop) (E Dn : Nat) (PostB : World → Prop) (Aft : Goroutine → World → Prop) (W : World) (O : Nat) (G : List (Nat × Obj)) : ∀ s, Dom ((tellF P p Sh E Dn PostB Aft).R s) ((tellF P p Sh E Dn PostB Aft).D s) := fun _ => domV p Sh E Dn W O G
theorem zd {ops : Array Oper} {i : Nat} {rest : List Nat} {d : Option Tmp} {x y : Operand} {ot : TypeId} {ps : String} {af : Array Edge} {g : Option (Nat × Bool)} {n : Nat} {v : Value} {vs : List Value} (ho : ops[i]? = some ⟨d, .send x y, ot, ps, af, g⟩)
   (hx : ev ε x = some (.chan (some E)) := by rfl) (hy : ev ε y = some v := by rfl) (hw : wantedE ops N ε g = some true := by rfl) (hd : dstOk N d = true := by rfl)
   (h : OpsE (domT P p Sh E Dn PostB Aft W O G) P false fn N ops rest n vs Q (putE d undef ε) L) :
   OpsE (domT P p Sh E Dn PostB Aft W O G) P false fn N ops (i :: rest) 0 (v :: vs) Q ε L := by
 intro a ha w hO;refine rj (z' := .tuple #[]) ho (ha.wanted hw) (fun w₁ h₁ => ⟨?_, ?_⟩) fun w₂ h₂ => h _ (ha.put hd undef) w₂ ((domV p Sh E Dn W O G).rely hO h₂)
 · simp only [execOp, ha.ev hx, ha.ev hy]; rfl
 · intro e he;have hm := mem_listed he;simp [execOp, go_sem] at hm
end
end Go.Lo
namespace Go.Proofs.YtejkelcaljmnoaaGreatDoor
open Go.Conc Go.Hx Go.Lo
def evt (now kind id x : Int) : Value := .agg #[.int .i64 now, .int .i64 kind, .int .i64 id, .int .i64 x]
theorem AR (a b c d : Int) : evR Tryz.prog (Instr.build 51 [(0, .int .i64 a), (1, .int .i64 b), (2, .int .i64 c), (3, .int .i64 d)].toArray) [] = some (evt a b c d, []) := by kernel_rfl
section
variable {p : Par} {Sh : Loc → Prop} {E Dn : Nat} {PostB : World → Prop} {Aft : Goroutine → World → Prop} {W : World} {O : Nat} {G0 : List (Nat × Obj)}
theorem mF : ∃ n, ∀ {p : Par} {Sh : Loc → Prop} {E Dn : Nat} {PostB : World → Prop} {Aft : Goroutine → World → Prop} {W : World} {O : Nat} {G0 : List (Nat × Obj)} {vs : List Value} (K : Nat) (A : Lay) (S : St) (Fr L : Frag) (kind id a : Int), Rep K A S Fr L →
   CallsL (domT Tryz.prog p Sh E Dn PostB Aft W O G0) Tryz.prog false 83 [ptr K, .chan (some E), .int .i64 kind, .int .i64 id, .int .i64 a].toArray n (evt S.now kind id a :: vs) L (fun s' v L' => vs = s' ∧ L = L' ∧ v = .tuple #[]) := by
 apply Exists.intro;intro p Sh E Dn PostB Aft W O G0 vs K A S Fr L kind id a hR;have hn : At L K 16 (.int .i64 (S.now : Nat)) := hR.kat rfl;co_applyP aB 19 Tryz.func83 Tryz.ntmps83;co_applyP ax;co_applyP om rfl rfl rfl ae;co_applyP oy rfl aJ;co_applyP oy rfl (au (hf := bZ));co_applyP oy rfl (aF (ht := aY));co_applyP om rfl rfl rfl ae;co_applyP om rfl rfl rfl (bt (AR _ _ _ _));co_applyP zd rfl;co_applyP ah;change ∃ v, resE .. = some v ∧ _;exact ⟨_, rfl, rfl, rfl, rfl⟩
end
def St.stop1 (S : St) (b : Nat) (x : PS) (s : Nat) : St := (S.setP b { x with st := s }).setRow x.lv ((S.rows x.lv).erase b)
section
variable {S S' : St} {b : Nat} {x x' : PS} {k : Nat × Nat}
theorem bX {c : Nat} {y : PS} (h : (c, y) ∈ S.ps) (hne : c ≠ b) : (c, y) ∈ (S.setP b x').ps := by
 simp only [St.setP, List.mem_map];exact ⟨(c, y), h, by rw [if_neg hne]⟩
theorem Good.stop1 (h : Good S) (hb : (b, x) ∈ S.ps) {s : Nat} (hs : s ≠ 1) : Good (S.stop1 b x s) := by
 have hlv := h.lv _ hb;have rows : ∀ l, (S.stop1 b x s).rows l = if l = x.lv then (S.rows x.lv).erase b else S.rows l := fun l => rfl;refine ⟨by unfold St.stop1 St.setRow; rw [aW]; exact h.pn, by unfold St.stop1 St.setRow; rw [d7]; exact h.p8, fun q hq => ?_, fun l hl => ?_, fun l hl c hc => ?_, fun q hq h1 => ?_⟩
 · rcases aU hq with rfl | ⟨h1, _⟩
   · exact hlv
   · exact h.lv q h1
 · rw [rows]
   split
   · exact (h.rn _ hlv).sublist List.erase_sublist
   · exact h.rn l hl
 · rw [rows] at hc;have old : c ≠ b → c ∈ S.rows l → ∃ y, (c, y) ∈ (S.stop1 b x s).ps ∧ y.lv = l ∧ y.st = 1 := fun hne hc' => by
     obtain ⟨y, hy, h1, h2⟩ := h.rm l hl c hc';exact ⟨y, bX hy hne, h1, h2⟩
   split at hc
   · rename_i e;subst e;refine old (fun e => ?_) (List.mem_of_mem_erase hc);rw [e] at hc;exact (List.Nodup.not_mem_erase (h.rn _ hlv)) hc
   · rename_i e;refine old (fun e' => ?_) hc;obtain ⟨y, hy, h1, h2⟩ := h.rm l hl c hc;rw [e'] at hy;rw [bp h.pn hb hy] at e;exact e h1.symm
 · rw [rows];rcases aU hq with rfl | ⟨h2, h3⟩
   · exact absurd h1 hs
   · have := h.rr q h2 h1
     split
     · rename_i e; rw [e] at this; exact (List.mem_erase_of_ne h3).2 this
     · exact this
theorem Inv.stop1 (h : Inv S) (hb : (b, x) ∈ S.ps) (ho : S.out b) {s : Nat} (hs : s ≠ 1) : Inv (S.stop1 b x s) where
 g := h.g.stop1 hb hs
 wf := fun q hq => by
   rcases aU hq with rfl | ⟨h1, _⟩
   · exact ⟨(h.wf _ hb).r, (h.wf _ hb).m⟩
   · exact h.wf q h1
 fl := fun q hq => by
   rcases aU hq with rfl | ⟨h1, _⟩
   · exact h.fl (b, x) hb
   · exact h.fl q h1
 y8 := h.y8
 yb := h.yb
 kn := h.kn
 ne := h.ne
 nd := h.nd
 ke := h.ke
 rm := fun e he c hc => by
   obtain ⟨y, hy, ha⟩ := h.rm e he c hc;exact ⟨y, bX hy (by rintro rfl; exact ho e he hc), ha⟩
theorem Inv.alike (h : Inv S) (hb : (b, x) ∈ S.ps) (hs : x'.st = x.st) (hl : x'.lv = x.lv) (hr : x'.r = x.r) (hf : x'.f = x.f) (hm : x'.m = x.m) : Inv (S.setP b x') where
 g := h.g.like hb hs hl
 wf := fun q hq => by
   rcases aU hq with rfl | ⟨h1, _⟩
   · exact ⟨by rw [hr]; exact (h.wf _ hb).r, by rw [hm]; exact (h.wf _ hb).m⟩
   · exact h.wf q h1
 fl := fun q hq => by
   rcases aU hq with rfl | ⟨h1, _⟩
   · rw [hf]; exact h.fl (b, x) hb
   · exact h.fl q h1
 y8 := h.y8
 yb := h.yb
 kn := h.kn
 ne := h.ne
 nd := h.nd
 ke := h.ke
 rm := fun e he c hc => by
   obtain ⟨y, hy, ha⟩ := h.rm e he c hc;by_cases ecb : c = b
   · subst ecb;obtain rfl := bp h.g.pn hb hy;refine ⟨x', av hb, ?_, by rw [hr]; exact ha.a, by rw [hr]; exact ha.w, by rw [hs]; exact ha.s⟩;have := ha.f;unfold PS.file at *;rw [hr, hf]; exact this
   · exact ⟨y, bX hy ecb, ha⟩
theorem Inv.orphs (id : Nat) : ∀ (bs : List Nat) {S : St}, Inv S → Inv (S.orphs id bs) ∧ (S.orphs id bs).ps.map (·.1) = S.ps.map (·.1)
 | [], S, h => ⟨h, rfl⟩
 | b :: bs, S, h => by
   unfold St.orphs;cases hg : S.get b with
   | none => exact Inv.orphs id bs h
   | some y =>
     simp only
     split
     · have hb := bz hg;have := Inv.orphs id bs (h.alike (x' := { y with par := 1 }) hb rfl rfl rfl rfl rfl);exact ⟨this.1, by rw [this.2, aW]⟩
     · exact Inv.orphs id bs h
theorem Inv.erase (h : Inv S) {i c : Nat} {y : PS} (hi : S.ps[i]? = some (c, y)) (hy : y.st = 6) {ls : Nat} : Inv { S.setPs (S.ps.eraseIdx i) with last := ls } where
 g := h.g.erase hi (by omega)
 wf := fun q hq => h.wf q (List.mem_of_mem_eraseIdx hq)
 fl := fun q hq => h.fl q (List.mem_of_mem_eraseIdx hq)
 y8 := h.y8
 yb := h.yb
 kn := h.kn
 ne := h.ne
 nd := h.nd
 ke := h.ke
 rm := fun e he c' hc => by
   obtain ⟨z, hz, ha⟩ := h.rm e he c' hc;refine ⟨z, ?_, ha⟩;show (c', z) ∈ S.ps.eraseIdx i;obtain ⟨j, hj⟩ := List.getElem?_of_mem hz;have hji : j ≠ i := fun e' => by
     subst e';rw [hj] at hi;simp at hi;have h1 := ha.s;rw [hi.2] at h1;rcases (h.ke e he).2 with h2 | h2 <;> omega
   rw [List.mem_eraseIdx_iff_getElem?];exact ⟨j, hji, hj⟩
theorem xe (h : WF x) (y : PS) : WF (told x y) := ⟨fun i hi => by
 show 0 ≤ put (put x.r 0 ((y.id : Int) % 65536)) 1 (y.stat % 65536) i ∧ put (put x.r 0 ((y.id : Int) % 65536)) 1 (y.stat % 65536) i < 65536;unfold put;have := h.r i hi
 split
 · omega
 · split
   · omega
   · exact this, h.m⟩
end
def St.fin (S : St) (b : Nat) (x : PS) (status : Int) : St :=
 let S2 := ((S.depart b (x.file (x.r 0))).stop1 b x 6).setP b { x with st := 6, stat := status }
 let S3 := S2.shuts b x.f (List.range' 0 6)
 let S4 := S3.orphs x.id (S3.ps.map (·.1))
 S4.parents (S4.ps.map (·.1))
theorem uC : ∃ n, ∀ {p : Par} {Sh : Loc → Prop} {E Dn : Nat} {PostB : World → Prop} {Aft : Goroutine → World → Prop} {W : World} {O : Nat} {G0 : List (Nat × Obj)} {vs : List Value} (K : Nat) (A : Lay) (S : St) (Fr L : Frag) (eb : Nat → Nat × Nat) (b : Nat) (x : PS) (status : Int), (∀ s, NewK (domT Tryz.prog p Sh E Dn PostB Aft W O G0 s)) → Rep K A S Fr L → Ers eb Fr → Inv S → (b, x) ∈ S.ps →
   CallsL (domT Tryz.prog p Sh E Dn PostB Aft W O G0) Tryz.prog false 94 [ptr K, ptr b, .int .i64 status, .chan (some E)].toArray n (evt S.now 4 x.id status :: vs) L (fun s' v L' => vs = s' ∧ v = .tuple #[] ∧ ∃ A' G, (∀ q ∈ S.ps, (∃ z, (q.1, z) ∈ (S.fin b x status).ps) ∨ ∃ z, pb q.1 z ∈ G ∧ z.st = 6) ∧ Rep K A' (S.fin b x status) (G ++ Fr) L') := by
 obtain ⟨n1, g1⟩ := kj;obtain ⟨n2, g2⟩ := kr;obtain ⟨n3, g3⟩ := kf;obtain ⟨n4, g4⟩ := mF;obtain ⟨n5, g5⟩ := rZ;obtain ⟨n6, g6⟩ := ur;obtain ⟨n7, g7⟩ := jw;apply Exists.intro;intro p Sh E Dn PostB Aft W O G0 vs K A S Fr L eb b x status hN hR hE hI hb;have hx0 : At L b 7 (.int .u16 (x.r 0)) := hR.pat hb (bg x (i := 0) (by omega));have ho := hI.out_depart hb;have hI1 : Inv (S.depart b (x.file (x.r 0))) := hI.depart;have hb1 : (b, x) ∈ (S.depart b (x.file (x.r 0))).ps := hb;have hlv := hI.g.lv _ hb;have hI2 := hI1.stop1 hb1 ho (s := 6) (by decide);have hb2 : (b, { x with st := 6 }) ∈ ((S.depart b (x.file (x.r 0))).stop1 b x 6).ps := av hb1;have hI3 := hI2.alike (x' := { x with st := 6, stat := status }) hb2 rfl rfl rfl rfl rfl;have hb3 : (b, { x with st := 6, stat := status }) ∈ (((S.depart b (x.file (x.r 0))).stop1 b x 6).setP b { x with st := 6, stat := status }).ps := av hb2;have h4 := Shutting.all (b := b) (x := { x with st := 6, stat := status }) x.f (List.range' 0 6) ⟨hI3, rfl, ho, x.f, hb3⟩;obtain ⟨f', hb4⟩ := h4.m;have h5 := Inv.orphs x.id ((St.shuts (((S.depart b (x.file (x.r 0))).stop1 b x 6).setP b { x with st := 6, stat := status }) b x.f (List.range' 0 6)).ps.map (·.1)) h4.i;have hfst : (St.orphs (St.shuts (((S.depart b (x.file (x.r 0))).stop1 b x 6).setP b { x with st := 6, stat := status }) b x.f (List.range' 0 6)) x.id ((St.shuts (((S.depart b (x.file (x.r 0))).stop1 b x 6).setP b { x with st := 6, stat := status }) b x.f (List.range' 0 6)).ps.map (·.1))).ps.map (·.1) = S.ps.map (·.1) := by
   rw [h5.2, h4.f, aW];show ((S.depart b (x.file (x.r 0))).setP b _).ps.map (·.1) = _;rw [aW]; rfl
 have hne : (St.orphs (St.shuts (((S.depart b (x.file (x.r 0))).stop1 b x 6).setP b { x with st := 6, stat := status }) b x.f (List.range' 0 6)) x.id ((St.shuts (((S.depart b (x.file (x.r 0))).stop1 b x 6).setP b { x with st := 6, stat := status }) b x.f (List.range' 0 6)).ps.map (·.1))).ps ≠ [] := by
   intro e;rw [e] at hfst;have : b ∈ S.ps.map (·.1) := List.mem_map.2 ⟨(b, x), hb, rfl⟩;rw [← hfst] at this;simp at this
 co_applyP aB 44 Tryz.func94 Tryz.ntmps94;co_applyP aa;co_applyP om rfl rfl rfl ae;co_applyP om rfl rfl rfl ae;co_applyP oy rfl aJ;co_applyP oy rfl (au (hf := aC));co_applyP oy rfl (au (hf := aS));co_applyP oy rfl (aX U47 aZ);co_applyP oy rfl (aF (ht := cH));co_applyP ocm rfl rfl rfl (g1 K A S Fr L b x (x.r 0) (hN _).k hR hb ((hI.wf _ hb).r 0 (by omega)));rintro _ _ _ ⟨rfl, rfl, hF1, hs1⟩;rename_i L1;have hR1 := hR.of hF1 hs1;co_applyP oc rfl rfl rfl (g2 K A S Fr L1 b x (x.file (x.r 0)) (hN _).r (hN _).k hR1 hI.w hb);rintro _ _ _ ⟨rfl, rfl, A2, hw2, hR2⟩;co_applyP ah;co_applyP aa;co_applyP om rfl rfl rfl ae;rename_i L2;co_applyP oc rfl rfl rfl (g3 K A2 _ Fr L2 b x 6 hR2 hb1 hlv (hI1.g.r8 hlv) (hI1.g.ex hlv) (fun e he => cT e.1 hlv));rintro _ _ _ ⟨rfl, rfl, A3, hw3, hR3⟩;co_applyP ah;co_applyP aa;co_applyP om rfl rfl rfl ae;co_applyP oy rfl aJ;co_applyP oy rfl (au (hf := aC));co_applyP oy rfl (au (hf := ql));rename_i L3;have hb2' := hb2;co_applyP osm rfl (hs := de) (hm := hR3.p _ hb2) (hi := by first | decide | (rw [bf]; omega) | (rw [bC]; omega));intro L4 hU4;have hR4 := hR3.setP (x' := { x with st := 6, stat := status }) hb2 hU4;have hid : At L4 b 0 (.int .i64 (x.id : Nat)) := hR4.pat hb3 (i := 0) rfl;co_applyP ah;co_applyP aa;co_applyP om rfl rfl rfl ae;co_applyP om rfl rfl rfl aJ;co_applyP oy rfl (au (hf := aC));co_applyP oy rfl (au (hf := dT));co_applyP oy rfl (aF (ht := aY));co_applyP oy rfl ae;co_applyP oc rfl rfl rfl (g4 K A3 _ Fr L4 4 x.id status hR4);rintro _ _ _ ⟨rfl, rfl, rfl⟩;co_applyP ah;co_applyP aa;co_applyP om rfl rfl rfl ae;co_applyP oc rfl rfl rfl (g5 K A3 _ Fr L4 eb b _ hN hR4 hE hI3 hb3 ho);rintro _ _ _ ⟨rfl, rfl, A5, hR5⟩;co_applyP ah;co_applyP aa;co_applyP om rfl rfl rfl ae;rename_i L5;co_applyP oc rfl rfl rfl (g6 K A5 _ Fr L5 b _ hR5 hb4);rintro _ _ _ ⟨rfl, rfl, hrel, hR6⟩;co_applyP ah;co_applyP ax;co_applyP oy rfl ae;rename_i L6;co_applyP oc rfl rfl rfl (g7 K A5 _ Fr L6 (hN _).r hR6 h5.1.g hne);rintro _ _ _ ⟨rfl, rfl, hG, A7, G, hall, hR7⟩;co_applyP ah;change ∃ v, resE .. = some v ∧ _;refine ⟨_, rfl, rfl, rfl, A7, G, fun q hq => ?_, hR7⟩;have hm : q.1 ∈ S.ps.map (·.1) := List.mem_map.2 ⟨q, hq, rfl⟩;rw [← hfst] at hm;obtain ⟨q', hq', e⟩ := List.mem_map.1 hm;have := hall q' hq';rw [e] at this;exact this
def PS.r0 (x : PS) (v : Int) : PS := { x with r := put x.r 0 v }
theorem eB (x : PS) (v : Int) : (pcells x).setIfInBounds (7 + 0) (.int .u16 v) = pcells (x.r0 v) := dP x (by omega) v
theorem uD (x : PS) (v : Int) : (pcells x).setIfInBounds 91 (.int .i64 v) = pcells { x with til := v } := by rfl
def St.sleep1 (S : St) (b : Nat) (x : PS) : St := if x.r 0 = 0 then S.setP b (x.r0 0) else (S.setP b { x.r0 0 with til := (S.now : Int) + x.r 0 }).stop1 b { x.r0 0 with til := (S.now : Int) + x.r 0 } 3
def St.yield1 (S : St) (b : Nat) (x : PS) : St :=
 let S2 := (S.setP b (x.r0 0)).setRow x.lv ((S.rows x.lv).erase b)
 S2.setRow x.lv (S2.rows x.lv ++ [b])
theorem xf : ∃ n, ∀ {σ} {F : Fam σ} {Δ : DM F} {main s} (K : Nat) (A : Lay) (S : St) (Fr L : Frag) (b : Nat) (x : PS), Rep K A S Fr L → Inv S → (b, x) ∈ S.ps → S.now < 4611686018427387904 → x.r 0 = 0 →
   CallsL Δ Tryz.prog main 134 [ptr K, ptr b].toArray n s L (fun s' v L' => s = s' ∧ v = .tuple #[] ∧ ∃ A', Rep K A' (S.sleep1 b x) Fr L') := by
 obtain ⟨n1, g1⟩ := kf;apply Exists.intro;intro σ F Δ main s K A S Fr L b x hR hI hb hnow h0;have hlv := hI.g.lv _ hb;have wx0 : 0 ≤ x.r 0 ∧ x.r 0 < 65536 := (hI.wf _ hb).r 0 (by omega);have w0 : IntKind.i64.wrap (x.r 0) = x.r 0 := by simp [IntKind.wrap_i64]; omega
 have w1 : IntKind.i64.wrap ((S.now : Int) + x.r 0) = (S.now : Int) + x.r 0 := by simp [IntKind.wrap_i64]; omega
 have hx0 : At L b 7 (.int .u16 (x.r 0)) := hR.pat hb (bg x (i := 0) (by omega));co_applyP aB 31 Tryz.func134 Tryz.ntmps134;co_applyP aa;co_applyP om rfl rfl rfl aJ;co_applyP oy rfl (au (hf := aC));co_applyP oy rfl (au (hf := aS));co_applyP oy rfl (aX U47 aZ);co_applyP oy rfl (aF (ht := cH));co_applyP oy rfl (cp (hs := U32) (ht := U3));co_applyP oan rfl;co_applyP aa;co_applyP om rfl rfl rfl aJ;co_applyP oy rfl (au (hf := aC));co_applyP oy rfl (au (hf := aS));co_applyP oy rfl (aX U47 aZ);simp only [w0];co_applyP osm rfl (hs := aZ) (hm := hR.p _ hb) (hi := by first | decide | (rw [bf]; omega) | (rw [bC]; omega));intro L1 hU1;have hR1 := hR.setP (x' := x.r0 0) hb (by rw [← eB]; exact hU1);have hb1 : (b, x.r0 0) ∈ (S.setP b (x.r0 0)).ps := av hb;have hn1 : At L1 K 16 (.int .i64 (S.now : Nat)) := hR1.kat rfl;have e0 : (x.r 0 == 0) = true := by simp [h0]
 co_applyP ah;co_applyP aq (n₂ := 0);co_applyP aa;co_applyP om rfl rfl rfl aA;co_applyP ah;change wpE ..;rw [e0];co_applyP aQ rfl;co_applyP aK;change ∃ v, resE .. = some v ∧ _;exact ⟨_, rfl, rfl, rfl, A, by unfold St.sleep1; rw [if_pos h0]; exact hR1⟩
theorem xg : ∃ n, ∀ {σ} {F : Fam σ} {Δ : DM F} {main s} (K : Nat) (A : Lay) (S : St) (Fr L : Frag) (b : Nat) (x : PS), Rep K A S Fr L → Inv S → (b, x) ∈ S.ps → S.now < 4611686018427387904 → x.r 0 ≠ 0 →
   CallsL Δ Tryz.prog main 134 [ptr K, ptr b].toArray n s L (fun s' v L' => s = s' ∧ v = .tuple #[] ∧ ∃ A', Rep K A' (S.sleep1 b x) Fr L') := by
 obtain ⟨n1, g1⟩ := kf;apply Exists.intro;intro σ F Δ main s K A S Fr L b x hR hI hb hnow h0;have hlv := hI.g.lv _ hb;have wx0 : 0 ≤ x.r 0 ∧ x.r 0 < 65536 := (hI.wf _ hb).r 0 (by omega);have w0 : IntKind.i64.wrap (x.r 0) = x.r 0 := by simp [IntKind.wrap_i64]; omega
 have w1 : IntKind.i64.wrap ((S.now : Int) + x.r 0) = (S.now : Int) + x.r 0 := by simp [IntKind.wrap_i64]; omega
 have hx0 : At L b 7 (.int .u16 (x.r 0)) := hR.pat hb (bg x (i := 0) (by omega));co_applyP aB 31 Tryz.func134 Tryz.ntmps134;co_applyP aa;co_applyP om rfl rfl rfl aJ;co_applyP oy rfl (au (hf := aC));co_applyP oy rfl (au (hf := aS));co_applyP oy rfl (aX U47 aZ);co_applyP oy rfl (aF (ht := cH));co_applyP oy rfl (cp (hs := U32) (ht := U3));co_applyP oan rfl;co_applyP aa;co_applyP om rfl rfl rfl aJ;co_applyP oy rfl (au (hf := aC));co_applyP oy rfl (au (hf := aS));co_applyP oy rfl (aX U47 aZ);simp only [w0];co_applyP osm rfl (hs := aZ) (hm := hR.p _ hb) (hi := by first | decide | (rw [bf]; omega) | (rw [bC]; omega));intro L1 hU1;have hR1 := hR.setP (x' := x.r0 0) hb (by rw [← eB]; exact hU1);have hb1 : (b, x.r0 0) ∈ (S.setP b (x.r0 0)).ps := av hb;have hn1 : At L1 K 16 (.int .i64 (S.now : Nat)) := hR1.kat rfl;have e0 : (x.r 0 == 0) = false := by simp [h0]
 co_applyP ah;co_applyP aq;co_applyP aa;co_applyP om rfl rfl rfl aA;co_applyP ah;change wpE ..;rw [e0];co_applyP ai rfl;co_applyP aD;co_applyP aa;co_applyP om rfl rfl rfl ae;co_applyP oy rfl aJ;co_applyP oy rfl (au (hf := bZ));co_applyP oy rfl (aF (ht := aY));co_applyP om rfl rfl rfl aR;co_applyP oy rfl aJ;co_applyP oy rfl (au (hf := qo));simp only [w1];co_applyP osm rfl (hs := de) (hm := hR1.p _ hb1) (hi := by first | decide | (rw [bf]; omega) | (rw [bC]; omega));intro L2 hU2;have hR2 := hR1.setP (x' := { x.r0 0 with til := (S.now : Int) + x.r 0 }) hb1 (by rw [← uD]; exact hU2);rw [dO] at hR2;co_applyP ah;co_applyP ax;co_applyP om rfl rfl rfl ae;co_applyP oc rfl rfl rfl (g1 K A _ Fr L2 b _ 3 hR2 (av hb) hlv (hI.g.r8 hlv) (fun c hc => jo (hI.g.ex hlv c hc)) (fun e he => cT e.1 hlv));rintro _ _ _ ⟨rfl, rfl, A3, hw3, hR3⟩;co_applyP ah;change ∃ v, resE .. = some v ∧ _;exact ⟨_, rfl, rfl, rfl, A3, by unfold St.sleep1; rw [if_neg h0]; exact hR3⟩
theorem xh : ∃ n, ∀ {σ} {F : Fam σ} {Δ : DM F} {main s} (K : Nat) (A : Lay) (S : St) (Fr L : Frag) (b : Nat) (x : PS), Rep K A S Fr L → Inv S → (b, x) ∈ S.ps → S.now < 4611686018427387904 →
   CallsL Δ Tryz.prog main 134 [ptr K, ptr b].toArray n s L (fun s' v L' => s = s' ∧ v = .tuple #[] ∧ ∃ A', Rep K A' (S.sleep1 b x) Fr L') := by
 obtain ⟨n0, g0⟩ := xf;obtain ⟨n1, g1⟩ := xg;exact ⟨n0 + n1, fun {σ F Δ main s} K A S Fr L b x hR hI hb hnow => aM (x.r 0 = 0) (fun h => g0 K A S Fr L b x hR hI hb hnow h) fun h => g1 K A S Fr L b x hR hI hb hnow h⟩
theorem xi : ∃ n, ∀ {σ} {F : Fam σ} {Δ : DM F} {main s} (K : Nat) (A : Lay) (S : St) (Fr L : Frag) (b : Nat) (x : PS), (∀ cs, (Δ s).New (.cells cs 93)) → Rep K A S Fr L → Inv S → (b, x) ∈ S.ps →
   CallsL Δ Tryz.prog main 135 [ptr K, ptr b].toArray n s L (fun s' v L' => s = s' ∧ v = .tuple #[] ∧ ∃ A', Rep K A' (S.yield1 b x) Fr L') := by
 obtain ⟨n1, g1⟩ := mm;obtain ⟨n2, g2⟩ := pi;apply Exists.intro;intro σ F Δ main s K A S Fr L b x hN hR hI hb;have hlv := hI.g.lv _ hb;co_applyP aB 19 Tryz.func135 Tryz.ntmps135;co_applyP aa;co_applyP om rfl rfl rfl aJ;co_applyP oy rfl (au (hf := aC));co_applyP oy rfl (au (hf := aS));co_applyP oy rfl (aX U47 aZ);co_applyP osm rfl (hs := aZ) (hm := hR.p _ hb) (hi := by first | decide | (rw [bf]; omega) | (rw [bC]; omega));intro L1 hU1;have hR1 := hR.setP (x' := x.r0 0) hb (by rw [← eB]; exact hU1);have hb1 : (b, x.r0 0) ∈ (S.setP b (x.r0 0)).ps := av hb;co_applyP ah;co_applyP aa;co_applyP om rfl rfl rfl aJ;co_applyP oy rfl (au (hf := dA));co_applyP oy rfl ae;co_applyP oc rfl rfl rfl (g1 K A _ Fr L1 b _ hR1 hb1 hlv (hI.g.r8 hlv) (fun c hc => jo (hI.g.ex hlv c hc)) (fun e he => cT e.1 hlv));rintro _ _ _ ⟨rfl, rfl, A2, hw2, hR2⟩;co_applyP ah;co_applyP ax;co_applyP om rfl rfl rfl aJ;co_applyP oy rfl (au (hf := dA));co_applyP oy rfl ae;rename_i L2;have h8 : (((S.setP b (x.r0 0)).setRow x.lv ((S.rows x.lv).erase b)).rows x.lv).length ≤ 8 := by
   have e : ((S.setP b (x.r0 0)).setRow x.lv ((S.rows x.lv).erase b)).rows x.lv = (S.rows x.lv).erase b := by simp [St.setRow, put]
   rw [e];exact Nat.le_trans List.length_erase_le (hI.g.r8 hlv)
 co_applyP oc rfl rfl rfl (g2 K A2 _ Fr L2 b (x.r0 0) hN hR2 hb1 hlv h8 (fun e he => cT e.1 hlv));rintro _ _ _ ⟨rfl, rfl, A3, hw3, hR3⟩;co_applyP ah;change ∃ v, resE .. = some v ∧ _;exact ⟨_, rfl, rfl, rfl, A3, hR3⟩
theorem uE : ∃ n, ∀ {σ} {F : Fam σ} {Δ : DM F} {main s} (L : Frag) (K b : Nat) (ch : Value),
   CallsL Δ Tryz.prog main 84 [ptr K, ptr b, .nilIface, ch].toArray n s L (fun s' v L' => s = s' ∧ L = L' ∧ v = .tuple #[]) := by
 apply Exists.intro;intro σ F Δ main s L K b ch;co_applyP aB 20 Tryz.func84 Tryz.ntmps84;co_applyP aa;co_applyP om rfl rfl rfl (dH (v := .nilIface) (c := true) (hv := .inl ⟨rfl, rfl⟩) (hu := Tryz.underlying168));co_applyP oy rfl ae;co_applyP ou rfl;co_applyP ou rfl;co_applyP ou rfl;co_applyP ou rfl;co_applyP oy rfl aP;co_applyP ah;co_applyP ai rfl;co_applyP aD;change ∃ v, resE .. = some v ∧ _;exact ⟨_, rfl, rfl, rfl, rfl⟩
theorem uF : ∃ n, ∀ {σ} {F : Fam σ} {Δ : DM F} {main s} (K : Nat) (A : Lay) (S : St) (Fr L : Frag) (eb : Nat → Nat × Nat) (b : Nat) (x : PS) (r i : Nat) (ch : Value), NewK (Δ s) → Rep K A S Fr L → Ers eb Fr → (b, x) ∈ S.ps → At L r 1 (erv eb i) → i < 11 → i ≠ 2 →
   CallsL Δ Tryz.prog main 84 [ptr K, ptr b, .iface 180 (ptr r), ch].toArray n s L (fun s' v L' => s = s' ∧ v = .tuple #[] ∧ Rep K A (S.setP b (x.r0 (ansOf i))) Fr L') := by
 obtain ⟨n1, g1⟩ := ki;apply Exists.intro;intro σ F Δ main s K A S Fr L eb b x r i ch hN hR hE hb hr hi hi2;co_applyP aB 20 Tryz.func84 Tryz.ntmps84;co_applyP aa;co_applyP om rfl rfl rfl (dH (v := .iface 180 (ptr r)) (c := false) (hv := .inr ⟨_, _, rfl, rfl⟩) (hu := Tryz.underlying168));co_applyP om rfl rfl rfl (ae);co_applyP oy rfl (ae);co_applyP oc rfl rfl rfl (g1 K A S Fr L eb b x r i hN.toNewE hR hE hb hr hi hi2);rintro _ _ _ ⟨rfl, rfl, hR1⟩;co_applyP oy rfl (cN);co_applyP oy rfl aP;co_applyP ah;co_applyP ai rfl;co_applyP aD;change ∃ v, resE .. = some v ∧ _;exact ⟨_, rfl, rfl, rfl, hR1⟩
theorem uG : ∃ n, ∀ {p : Par} {Sh : Loc → Prop} {E Dn : Nat} {PostB : World → Prop} {Aft : Goroutine → World → Prop} {W : World} {O : Nat} {G0 : List (Nat × Obj)} {vs : List Value} (K : Nat) (A : Lay) (S : St) (Fr L : Frag) (eb : Nat → Nat × Nat) (b : Nat) (x : PS) (e : Nat × Nat), (∀ s, NewK (domT Tryz.prog p Sh E Dn PostB Aft W O G0 s)) → Rep K A S Fr L → Ers eb Fr → Inv S → (b, x) ∈ S.ps →
   CallsL (domT Tryz.prog p Sh E Dn PostB Aft W O G0) Tryz.prog false 84 [ptr K, ptr b, .iface 255 (ptq e), .chan (some E)].toArray n (evt S.now 4 x.id 65281 :: vs) L (fun s' v L' => vs = s' ∧ v = .tuple #[] ∧ ∃ A' G, (∀ q ∈ S.ps, (∃ z, (q.1, z) ∈ (S.fin b x 65281).ps) ∨ ∃ z, pb q.1 z ∈ G ∧ z.st = 6) ∧ Rep K A' (S.fin b x 65281) (G ++ Fr) L') := by
 obtain ⟨n1, g1⟩ := pj;obtain ⟨n2, g2⟩ := uC;apply Exists.intro;intro p Sh E Dn PostB Aft W O G0 vs K A S Fr L eb b x e hN hR hE hI hb;co_applyP aB 20 Tryz.func84 Tryz.ntmps84;co_applyP aa;co_applyP om rfl rfl rfl (dH (v := .iface 255 (ptq e)) (c := false) (hv := .inr ⟨_, _, rfl, rfl⟩) (hu := Tryz.underlying168));co_applyP om rfl rfl rfl (ae);co_applyP oy rfl (ae);co_applyP oc rfl rfl rfl (g1 L eb b e (hN _).toNewE (hE.mono hR.fr));rintro _ _ _ ⟨rfl, rfl, hF1, hs1⟩;rename_i L1;have hR1 := hR.of hF1 hs1;co_applyP oy rfl (cN);co_applyP oy rfl aP;co_applyP ah;co_applyP aQ rfl;co_applyP ax;co_applyP om rfl rfl rfl ae;co_applyP oy rfl ae;co_applyP oc rfl rfl rfl (g2 K A S Fr L1 eb b x 65281 hN hR1 hE hI hb);rintro _ _ _ ⟨rfl, rfl, A2, G, hall, hR2⟩;co_applyP ah;change ∃ v, resE .. = some v ∧ _;exact ⟨_, rfl, rfl, rfl, A2, G, hall, hR2⟩
def erV (eb : Nat → Nat × Nat) : Option Nat → Value
 | none => .nilIface
 | some i => erv eb i
def Stays (b : Nat) (S : St) (G : Frag) : Prop := (∃ z, (b, z) ∈ S.ps) ∨ ∃ z, pb b z ∈ G ∧ z.st = 6
def St.hasChild (S : St) (x : PS) : Bool := S.ps.any fun q => decide (q.2.par = x.id)
def St.waitR (S : St) (b : Nat) (x : PS) : Option Nat × St := if S.hasChild x then (none, match S.childAt x with
 | some i => S.take b x i
 | none => S.stop1 b x 2) else (some 5, S)
theorem ze : ∃ n, ∀ {σ} {F : Fam σ} {Δ : DM F} {main s} (K : Nat) (A : Lay) (S : St) (Fr L : Frag) (eb : Nat → Nat × Nat) (b : Nat) (x : PS), Rep K A S Fr L → Ers eb Fr → (b, x) ∈ S.ps → S.hasChild x = false →
   CallsL Δ Tryz.prog main 132 [ptr K, ptr b].toArray n s L (fun s' v L' => s = s' ∧ v = erv eb 5 ∧ Rep K A S Fr L') := by
 obtain ⟨n0, g0⟩ := dD;obtain ⟨n1, g1⟩ := dB n0;apply Exists.intro;intro σ F Δ main s K A S Fr L eb b x hR hE hb hch;obtain ⟨base, cap, hv, hat0⟩ := bw hR.pa;simp only [List.length_map] at hv;have h5 : At L K 5 (.slice base (S.ps.map (·.1)).length cap) := by rw [List.length_map, ← hv]; exact hR.kat rfl
 have hcl : ∀ c ∈ S.ps.map (·.1), ∀ L', Ext L L' → CallsL Δ Tryz.prog main 128 ([ptr b] ++ [ptr c] ++ []).toArray n0 s L' (fun s' v L'' => s = s' ∧ v = .bool (S.testB (fun y => decide (y.par = x.id)) c) ∧ Ext L' L'') := by
   intro c hc L' hE';obtain ⟨q, hq, rfl⟩ := List.mem_map.1 hc;have e : S.testB (fun y => decide (y.par = x.id)) q.1 = decide (q.2.par = x.id) := by simp [St.testB, bl hR.pn (b := q.1) (x := q.2) hq]
   rw [e];refine aO (g0 L' b q.1 x q.2 (hE'.s _ (hR.p _ hb)) (hE'.s _ (hR.p _ hq))) fun s' v L'' ⟨h1, h2, h3⟩ => ⟨h1, h3, ?_⟩;subst h2;exact ⟨hE'.f, fun _ h => h⟩
 co_applyP aB 21 Tryz.func132 Tryz.ntmps132;co_applyP aa;co_applyP oan rfl;co_applyP aq (n₂ := 0);co_applyP aa;co_applyP om rfl rfl rfl aJ;co_applyP oy rfl (au (hf := bO));co_applyP oy rfl (aF (ht := dp));co_applyP om rfl rfl rfl o6;co_applyP oc rfl rfl rfl (g1 L 128 _ [ptr b] [] (S.ps.map (·.1)) (S.testB fun y => decide (y.par = x.id)) base cap (fun i v hv => by obtain ⟨b, _, h2, h3⟩ := hat0 i v (by simpa using hv); exact ⟨b, h2, h3⟩) (by simpa using hR.p8) Tryz.func128 rfl rfl hcl);rintro _ _ _ ⟨rfl, rfl, hE1⟩;co_applyP oy rfl cN;co_applyP ah;change wpE ..;rename_i L1;have e1 : (S.ps.map (·.1)).any (S.testB fun y => decide (y.par = x.id)) = false := by rw [gq hR.pn]; exact hch
 have hR1 := hR.ext hE1;have hg := (hE.mono hR1.fr).g 5 (by decide) (by decide);rw [e1];co_applyP aQ rfl;co_applyP aa;co_applyP oy rfl (aF (ht := ci));co_applyP oan rfl;co_applyP aK;change ∃ v, resE .. = some v ∧ _;exact ⟨_, rfl, rfl, rfl, hR1⟩
theorem zf : ∃ n, ∀ {σ} {F : Fam σ} {Δ : DM F} {main s} (K : Nat) (A : Lay) (S : St) (Fr L : Frag) (b : Nat) (x : PS), (∀ cs, (Δ s).New (.cells cs 93)) → Rep K A S Fr L → Inv S → (b, x) ∈ S.ps → x.st ≠ 6 → S.hasChild x = true → S.childAt x = none →
   CallsL Δ Tryz.prog main 132 [ptr K, ptr b].toArray n s L (fun s' v L' => s = s' ∧ v = .nilIface ∧ ∃ A', Rep K A' (S.stop1 b x 2) Fr L') := by
 obtain ⟨n0, g0⟩ := dD;obtain ⟨n1, g1⟩ := dB n0;obtain ⟨n2, g2⟩ := i8;obtain ⟨n3, g3⟩ := kf;apply Exists.intro;intro σ F Δ main s K A S Fr L b x hN hR hI hb hx6 hch hca;have hlv := hI.g.lv _ hb;obtain ⟨base, cap, hv, hat0⟩ := bw hR.pa;simp only [List.length_map] at hv;have h5 : At L K 5 (.slice base (S.ps.map (·.1)).length cap) := by rw [List.length_map, ← hv]; exact hR.kat rfl
 have hcl : ∀ c ∈ S.ps.map (·.1), ∀ L', Ext L L' → CallsL Δ Tryz.prog main 128 ([ptr b] ++ [ptr c] ++ []).toArray n0 s L' (fun s' v L'' => s = s' ∧ v = .bool (S.testB (fun y => decide (y.par = x.id)) c) ∧ Ext L' L'') := by
   intro c hc L' hE';obtain ⟨q, hq, rfl⟩ := List.mem_map.1 hc;have e : S.testB (fun y => decide (y.par = x.id)) q.1 = decide (q.2.par = x.id) := by simp [St.testB, bl hR.pn (b := q.1) (x := q.2) hq]
   rw [e];refine aO (g0 L' b q.1 x q.2 (hE'.s _ (hR.p _ hb)) (hE'.s _ (hR.p _ hq))) fun s' v L'' ⟨h1, h2, h3⟩ => ⟨h1, h3, ?_⟩;subst h2;exact ⟨hE'.f, fun _ h => h⟩
 co_applyP aB 21 Tryz.func132 Tryz.ntmps132;co_applyP aa;co_applyP oan rfl;co_applyP aq;co_applyP aa;co_applyP om rfl rfl rfl aJ;co_applyP oy rfl (au (hf := bO));co_applyP oy rfl (aF (ht := dp));co_applyP om rfl rfl rfl o6;co_applyP oc rfl rfl rfl (g1 L 128 _ [ptr b] [] (S.ps.map (·.1)) (S.testB fun y => decide (y.par = x.id)) base cap (fun i v hv => by obtain ⟨b, _, h2, h3⟩ := hat0 i v (by simpa using hv); exact ⟨b, h2, h3⟩) (by simpa using hR.p8) Tryz.func128 rfl rfl hcl);rintro _ _ _ ⟨rfl, rfl, hE1⟩;co_applyP oy rfl cN;co_applyP ah;change wpE ..;rename_i L1;have e1 : (S.ps.map (·.1)).any (S.testB fun y => decide (y.par = x.id)) = true := by rw [gq hR.pn]; exact hch
 have hR1 := hR.ext hE1;rw [e1];co_applyP ai rfl;co_applyP aD;co_applyP aq;co_applyP aa;co_applyP om rfl rfl rfl ae;co_applyP oc rfl rfl rfl (g2 K A S Fr L1 b x hN hR1 hb hx6);rintro _ _ _ ⟨rfl, hpost⟩;rename_i v2 L2;rw [hca] at hpost;obtain ⟨rfl, hR2⟩ := hpost;co_applyP oy rfl cN;co_applyP ah;co_applyP aQ rfl;co_applyP ax;co_applyP om rfl rfl rfl ae;co_applyP oc rfl rfl rfl (g3 K A S Fr L2 b x 2 hR2 hb hlv (hI.g.r8 hlv) (hI.g.ex hlv) (fun e he => cT e.1 hlv));rintro _ _ _ ⟨rfl, rfl, A3, hw3, hR3⟩;co_applyP ah;co_applyP aa;co_applyP oan rfl;co_applyP aK;change ∃ v, resE .. = some v ∧ _;exact ⟨_, rfl, rfl, rfl, A3, hR3⟩
theorem zg : ∃ n, ∀ {σ} {F : Fam σ} {Δ : DM F} {main s} (K : Nat) (A : Lay) (S : St) (Fr L : Frag) (b : Nat) (x : PS) (i : Nat), (∀ cs, (Δ s).New (.cells cs 93)) → Rep K A S Fr L → Inv S → (b, x) ∈ S.ps → x.st ≠ 6 → S.hasChild x = true → S.childAt x = some i →
   CallsL Δ Tryz.prog main 132 [ptr K, ptr b].toArray n s L (fun s' v L' => s = s' ∧ v = .nilIface ∧ ∃ A', Rep K A' (S.take b x i) Fr L') := by
 obtain ⟨n0, g0⟩ := dD;obtain ⟨n1, g1⟩ := dB n0;obtain ⟨n2, g2⟩ := i8;apply Exists.intro;intro σ F Δ main s K A S Fr L b x i hN hR hI hb hx6 hch hca;obtain ⟨base, cap, hv, hat0⟩ := bw hR.pa;simp only [List.length_map] at hv;have h5 : At L K 5 (.slice base (S.ps.map (·.1)).length cap) := by rw [List.length_map, ← hv]; exact hR.kat rfl
 have hcl : ∀ c ∈ S.ps.map (·.1), ∀ L', Ext L L' → CallsL Δ Tryz.prog main 128 ([ptr b] ++ [ptr c] ++ []).toArray n0 s L' (fun s' v L'' => s = s' ∧ v = .bool (S.testB (fun y => decide (y.par = x.id)) c) ∧ Ext L' L'') := by
   intro c hc L' hE';obtain ⟨q, hq, rfl⟩ := List.mem_map.1 hc;have e : S.testB (fun y => decide (y.par = x.id)) q.1 = decide (q.2.par = x.id) := by simp [St.testB, bl hR.pn (b := q.1) (x := q.2) hq]
   rw [e];refine aO (g0 L' b q.1 x q.2 (hE'.s _ (hR.p _ hb)) (hE'.s _ (hR.p _ hq))) fun s' v L'' ⟨h1, h2, h3⟩ => ⟨h1, h3, ?_⟩;subst h2;exact ⟨hE'.f, fun _ h => h⟩
 co_applyP aB 21 Tryz.func132 Tryz.ntmps132;co_applyP aa;co_applyP oan rfl;co_applyP aq;co_applyP aa;co_applyP om rfl rfl rfl aJ;co_applyP oy rfl (au (hf := bO));co_applyP oy rfl (aF (ht := dp));co_applyP om rfl rfl rfl o6;co_applyP oc rfl rfl rfl (g1 L 128 _ [ptr b] [] (S.ps.map (·.1)) (S.testB fun y => decide (y.par = x.id)) base cap (fun i v hv => by obtain ⟨b, _, h2, h3⟩ := hat0 i v (by simpa using hv); exact ⟨b, h2, h3⟩) (by simpa using hR.p8) Tryz.func128 rfl rfl hcl);rintro _ _ _ ⟨rfl, rfl, hE1⟩;co_applyP oy rfl cN;co_applyP ah;change wpE ..;rename_i L1;have e1 : (S.ps.map (·.1)).any (S.testB fun y => decide (y.par = x.id)) = true := by rw [gq hR.pn]; exact hch
 have hR1 := hR.ext hE1;rw [e1];co_applyP ai rfl;co_applyP aD;co_applyP aq;co_applyP aa;co_applyP om rfl rfl rfl ae;co_applyP oc rfl rfl rfl (g2 K A S Fr L1 b x hN hR1 hb hx6);rintro _ _ _ ⟨rfl, hpost⟩;rename_i v2 L2;rw [hca] at hpost;obtain ⟨rfl, c, y, a', hcy, hR2⟩ := hpost;co_applyP oy rfl cN;co_applyP ah;co_applyP ai rfl;co_applyP aD;co_applyP aa;co_applyP oan rfl;co_applyP aK;change ∃ v, resE .. = some v ∧ _;refine ⟨_, rfl, rfl, rfl, A.setA 0 a', ?_⟩;unfold St.take;rw [hcy];exact hR2.less fun t ht => List.mem_cons_of_mem _ ht
theorem zh : ∃ n, ∀ {σ} {F : Fam σ} {Δ : DM F} {main s} (K : Nat) (A : Lay) (S : St) (Fr L : Frag) (eb : Nat → Nat × Nat) (b : Nat) (x : PS), (∀ cs, (Δ s).New (.cells cs 93)) → Rep K A S Fr L → Ers eb Fr → Inv S → (b, x) ∈ S.ps → x.st ≠ 6 →
   CallsL Δ Tryz.prog main 132 [ptr K, ptr b].toArray n s L (fun s' v L' => s = s' ∧ v = erV eb (S.waitR b x).1 ∧ ∃ A', Rep K A' (S.waitR b x).2 Fr L') := by
 obtain ⟨n0, g0⟩ := ze;obtain ⟨n1, g1⟩ := zf;obtain ⟨n2, g2⟩ := zg;refine ⟨n0 + (n1 + n2), fun {σ F Δ main s} K A S Fr L eb b x hN hR hE hI hb h6 => aM (S.hasChild x = false) (fun h => ?_) fun h => aM (S.childAt x = none) (fun hc => ?_) fun hc => ?_⟩
 · have e : S.waitR b x = (some 5, S) := by unfold St.waitR; rw [if_neg (by rw [h]; simp)]
   rw [e];exact aO (g0 K A S Fr L eb b x hR hE hb h) fun s' v L' ⟨h1, h2, h3⟩ => ⟨h1, h2, A, h3⟩
 · have h' : S.hasChild x = true := by simpa using h
   have e : S.waitR b x = (none, S.stop1 b x 2) := by unfold St.waitR; rw [if_pos h', hc]
   rw [e];exact g1 K A S Fr L b x hN hR hI hb h6 h' hc
 · have h' : S.hasChild x = true := by simpa using h
   obtain ⟨i, hi⟩ : ∃ i, S.childAt x = some i := by
     cases hh : S.childAt x with
     | none => exact absurd hh hc
     | some i => exact ⟨i, rfl⟩
   have e : S.waitR b x = (none, S.take b x i) := by unfold St.waitR; rw [if_pos h', hi]
   rw [e];exact g2 K A S Fr L b x i hN hR hI hb h6 h' hi
section
variable {K : Nat} {A : Lay} {S : St} {F G L L' : Frag}
theorem Rep.off (h : Rep K A S F L) {b : Nat} {o : Obj} (hk : K ≠ b) (hp : ∀ q ∈ S.ps, q.1 ≠ b) (ha : ∀ i, (A.a i).b ≠ some b) (hy : ∀ i, (A.y i).b ≠ some b) (hw : A.wt ≠ b) (hg : A.g ≠ b) (hF : ∀ t ∈ F, t.1 ≠ b) (u : Upd L b o L') : Rep K A S F L' := by
 have arr : ∀ (a : Sl) (xs : List Value) (e : TypeId), a.b ≠ some b → slOk a xs e L → slOk a xs e L' := fun a xs e hn ha => by
   refine ha.mono fun c hc o ho => u.ne _ ho ?_;show c ≠ b;rintro rfl;exact hn hc
 exact { h with
   fn := u.fn
   k := u.ne _ h.k hk
   g := u.ne _ h.g hg
   p := fun q hq => u.ne _ (h.p q hq) (hp q hq)
   pa := arr _ _ _ (ha 0) h.pa
   rw := fun l hl => arr _ _ _ (ha _) (h.rw l hl)
   ya := fun i hi => arr _ _ _ (hy i) (h.ya i hi)
   w := u.ne _ h.w hw
   wa := fun e he => arr _ _ _ (ha _) (h.wa e he)
   al := fun i c hc => by obtain ⟨xs, hx⟩ := h.al i c hc; exact ⟨xs, u.ne _ hx (by rintro rfl; exact ha i hc)⟩
   yl := fun i c hc => by obtain ⟨xs, hx⟩ := h.yl i c hc; exact ⟨xs, u.ne _ hx (by rintro rfl; exact hy i hc)⟩
   fr := fun t ht => u.ne _ (h.fr t ht) (hF t ht) }
theorem Rep.aside (h : Rep K A S (G ++ F) L) {b : Nat} {z z' : PS} (hm : pb b z ∈ G) (hF : ∀ t ∈ F, t.1 ≠ b) (u : Upd L b (.cells (pcells z') 99) L') : Rep K A S ((pb b z' :: G.filter fun t => !decide (t.1 = b)) ++ F) L' := by
 have hd := h.fd (pb b z) (List.mem_append_left _ hm);have hbL := h.fr (pb b z) (List.mem_append_left _ hm);have h1 : Rep K A S ((G.filter fun t => !decide (t.1 = b)) ++ F) L := h.less fun t ht => by
   rcases List.mem_append.1 ht with h | h
   · exact List.mem_append_left _ (List.mem_filter.1 h).1
   · exact List.mem_append_right _ h
 have h2 := h1.off (b := b) (Ne.symm hd.1) (fun q hq => Ne.symm (hd.2.1 q hq)) hd.2.2.1 hd.2.2.2.1 (Ne.symm hd.2.2.2.2) (h.fn.ne h.g hbL (aE (by decide))) (fun t ht => by
   rcases List.mem_append.1 ht with h | h
   · have := (List.mem_filter.1 h).2;simpa using this
   · exact hF t h) u
 exact h2.beside u.self hd.2.1
end
def St.r0 (S : St) (b : Nat) (v : Int) : St := match S.get b with
 | some z => S.setP b (z.r0 v)
 | none => S
theorem fQ {S : St} {id : Int} {q : Nat × PS} (h : S.find id = some q) : q ∈ S.ps ∧ (q.2.id : Int) = id := by
 unfold St.find at h;exact ⟨List.mem_of_find?_eq_some h, by simpa using List.find?_some h⟩
theorem Rep.r0 {K : Nat} {A : Lay} {S : St} {F G L L' : Frag} (h : Rep K A S (G ++ F) L) {b : Nat} {z : PS} {v : Int} (hz : (b, z) ∈ S.ps ∨ (pb b z ∈ G ∧ z.st = 6)) (hF : ∀ t ∈ F, t.1 ≠ b) (u : Upd L b (.cells (pcells (z.r0 v)) 99) L') : ∃ G', Stays b (S.r0 b v) G' ∧ Rep K A (S.r0 b v) (G' ++ F) L' := by
 rcases hz with hz | ⟨hz, h6⟩
 · have e : S.r0 b v = S.setP b (z.r0 v) := by unfold St.r0; rw [bl h.pn hz]
   rw [e];exact ⟨G, .inl ⟨_, av hz⟩, h.setP hz u⟩
 · have hd := h.fd (pb b z) (List.mem_append_left _ hz);have e : S.r0 b v = S := by unfold St.r0; rw [iE fun r hr => Ne.symm (hd.2.1 r hr)]
   rw [e];exact ⟨_, .inr ⟨z.r0 v, List.mem_cons_self, h6⟩, h.aside hz hF u⟩
theorem Stays.at {K : Nat} {A : Lay} {S : St} {F G L : Frag} (h : Rep K A S (G ++ F) L) {b : Nat} (hs : Stays b S G) : ∃ z, pb b z ∈ L ∧ ((b, z) ∈ S.ps ∨ (pb b z ∈ G ∧ z.st = 6)) := by
 rcases hs with ⟨z, hz⟩ | ⟨z, hz, h6⟩
 · exact ⟨z, h.p _ hz, .inl hz⟩
 · exact ⟨z, h.fr _ (List.mem_append_left _ hz), .inr ⟨hz, h6⟩⟩
theorem zi : ∃ n, ∀ {σ} {F : Fam σ} {Δ : DM F} {main s} (K : Nat) (A : Lay) (S : St) (Fr L : Frag) (eb : Nat → Nat × Nat) (b : Nat) (x : PS) (ch : Value), Rep K A S Fr L → Ers eb Fr → Inv S → (b, x) ∈ S.ps → S.find (x.r 0) = none →
   CallsL Δ Tryz.prog main 133 [ptr K, ptr b, ch].toArray n s L (fun s' v L' => s = s' ∧ L = L' ∧ v = erv eb 6) := by
 obtain ⟨n1, g1⟩ := mj;apply Exists.intro;intro σ F Δ main s K A S Fr L eb b x ch hR hE hI hb hf;have wx0 : 0 ≤ x.r 0 ∧ x.r 0 < 65536 := (hI.wf _ hb).r 0 (by omega);have w0 : IntKind.i64.wrap (x.r 0) = x.r 0 := by simp [IntKind.wrap_i64]; omega
 have hx0 : At L b 7 (.int .u16 (x.r 0)) := hR.pat hb (bg x (i := 0) (by omega));have hg := (hE.mono hR.fr).g 6 (by decide) (by decide);co_applyP aB 37 Tryz.func133 Tryz.ntmps133;co_applyP aa;co_applyP oan rfl;co_applyP aa;co_applyP om rfl rfl rfl ae;co_applyP oy rfl aJ;co_applyP oy rfl (au (hf := aC));co_applyP oy rfl (au (hf := aS));co_applyP oy rfl (aX U47 aZ);co_applyP oy rfl (aF (ht := cH));co_applyP oy rfl (cp (hs := U32) (ht := U3));simp only [w0];co_applyP oc rfl rfl rfl (g1 K A S Fr L (x.r 0) hR);rintro _ _ _ ⟨rfl, rfl, rfl⟩;rw [hf];co_applyP oan rfl;co_applyP aq (n₂ := 0);co_applyP aa;co_applyP om rfl rfl rfl (jj (hu := U93));co_applyP oy rfl ae;co_applyP ou rfl;co_applyP ou rfl;co_applyP ou rfl;co_applyP ou rfl;co_applyP ou rfl;co_applyP ou rfl;co_applyP oy rfl aP;co_applyP ah;co_applyP aQ rfl;co_applyP aa;co_applyP oy rfl (aF (ht := ci));co_applyP oan rfl;co_applyP aK;change ∃ v, resE .. = some v ∧ _;exact ⟨_, rfl, rfl, rfl, rfl⟩
theorem zk : ∃ n, ∀ {σ} {F : Fam σ} {Δ : DM F} {main s} (K : Nat) (A : Lay) (S : St) (Fr L : Frag) (eb : Nat → Nat × Nat) (b : Nat) (x : PS) (ch : Value) (c : Nat) (y : PS), Rep K A S Fr L → Ers eb Fr → Inv S → (b, x) ∈ S.ps → S.find (x.r 0) = some (c, y) → y.st = 6 →
   CallsL Δ Tryz.prog main 133 [ptr K, ptr b, ch].toArray n s L (fun s' v L' => s = s' ∧ L = L' ∧ v = erv eb 6) := by
 obtain ⟨n1, g1⟩ := mj;apply Exists.intro;intro σ F Δ main s K A S Fr L eb b x ch c y hR hE hI hb hf h6;have wx0 : 0 ≤ x.r 0 ∧ x.r 0 < 65536 := (hI.wf _ hb).r 0 (by omega);have w0 : IntKind.i64.wrap (x.r 0) = x.r 0 := by simp [IntKind.wrap_i64]; omega
 have hx0 : At L b 7 (.int .u16 (x.r 0)) := hR.pat hb (bg x (i := 0) (by omega));have hg := (hE.mono hR.fr).g 6 (by decide) (by decide);have hc := (fQ hf).1;have hy2 : At L c 2 (.int .i64 (y.st : Nat)) := hR.pat hc (i := 2) rfl;co_applyP aB 37 Tryz.func133 Tryz.ntmps133;co_applyP aa;co_applyP oan rfl;co_applyP aa;co_applyP om rfl rfl rfl ae;co_applyP oy rfl aJ;co_applyP oy rfl (au (hf := aC));co_applyP oy rfl (au (hf := aS));co_applyP oy rfl (aX U47 aZ);co_applyP oy rfl (aF (ht := cH));co_applyP oy rfl (cp (hs := U32) (ht := U3));simp only [w0];co_applyP oc rfl rfl rfl (g1 K A S Fr L (x.r 0) hR);rintro _ _ _ ⟨rfl, rfl, rfl⟩;rw [hf];co_applyP oan rfl;co_applyP aq (n₂ := 0);co_applyP aa;co_applyP om rfl rfl rfl (jj (hu := U93));co_applyP om rfl rfl rfl (ae);co_applyP oy rfl (aJ);co_applyP oy rfl ((au (hf := aC)));co_applyP oy rfl ((au (hf := cZ)));co_applyP oy rfl ((aF (ht := aY)));co_applyP oy rfl (aA);co_applyP oy rfl aP;co_applyP ah;change wpE ..;rw [h6];co_applyP aQ rfl;co_applyP aa;co_applyP oy rfl (aF (ht := ci));co_applyP oan rfl;co_applyP aK;change ∃ v, resE .. = some v ∧ _;exact ⟨_, rfl, rfl, rfl, rfl⟩
theorem zl : ∃ n, ∀ {p : Par} {Sh : Loc → Prop} {E Dn : Nat} {PostB : World → Prop} {Aft : Goroutine → World → Prop} {W : World} {O : Nat} {G0 : List (Nat × Obj)} {vs : List Value} (K : Nat) (A : Lay) (S : St) (Fr L : Frag) (eb : Nat → Nat × Nat) (b : Nat) (x : PS) (c : Nat) (y : PS), (∀ s, NewK (domT Tryz.prog p Sh E Dn PostB Aft W O G0 s)) → Rep K A S Fr L → Ers eb Fr → Inv S → (b, x) ∈ S.ps → S.find (x.r 0) = some (c, y) → y.st ≠ 6 →
   CallsL (domT Tryz.prog p Sh E Dn PostB Aft W O G0) Tryz.prog false 133 [ptr K, ptr b, .chan (some E)].toArray n (evt S.now 4 y.id 65280 :: vs) L (fun s' v L' => vs = s' ∧ v = .nilIface ∧ ∃ A' G, Stays b ((S.fin c y 65280).r0 b 0) G ∧ Rep K A' ((S.fin c y 65280).r0 b 0) (G ++ Fr) L') := by
 obtain ⟨n1, g1⟩ := mj;obtain ⟨n2, g2⟩ := uC;apply Exists.intro;intro p Sh E Dn PostB Aft W O G0 vs K A S Fr L eb b x c y hN hR hE hI hb hf h6;have wx0 : 0 ≤ x.r 0 ∧ x.r 0 < 65536 := (hI.wf _ hb).r 0 (by omega);have w0 : IntKind.i64.wrap (x.r 0) = x.r 0 := by simp [IntKind.wrap_i64]; omega
 have hx0 : At L b 7 (.int .u16 (x.r 0)) := hR.pat hb (bg x (i := 0) (by omega));have hc := (fQ hf).1;have hy2 : At L c 2 (.int .i64 (y.st : Nat)) := hR.pat hc (i := 2) rfl;have e6 : ((y.st : Int) == 6) = false := by simp; omega
 have hFb : ∀ t ∈ Fr, t.1 ≠ b := fun t ht => (hR.fd t ht).2.1 _ hb;co_applyP aB 37 Tryz.func133 Tryz.ntmps133;co_applyP aa;co_applyP oan rfl;co_applyP aa;co_applyP om rfl rfl rfl ae;co_applyP oy rfl aJ;co_applyP oy rfl (au (hf := aC));co_applyP oy rfl (au (hf := aS));co_applyP oy rfl (aX U47 aZ);co_applyP oy rfl (aF (ht := cH));co_applyP oy rfl (cp (hs := U32) (ht := U3));simp only [w0];co_applyP oc rfl rfl rfl (g1 K A S Fr L (x.r 0) hR);rintro _ _ _ ⟨rfl, rfl, rfl⟩;rw [hf];co_applyP oan rfl;co_applyP aq;co_applyP aa;co_applyP om rfl rfl rfl (jj (hu := U93));co_applyP om rfl rfl rfl (ae);co_applyP oy rfl (aJ);co_applyP oy rfl ((au (hf := aC)));co_applyP oy rfl ((au (hf := cZ)));co_applyP oy rfl ((aF (ht := aY)));co_applyP oy rfl (aA);co_applyP oy rfl aP;co_applyP ah;change wpE ..;rw [e6];co_applyP ai rfl;co_applyP aD;co_applyP aa;co_applyP om rfl rfl rfl ae;co_applyP oy rfl ae;co_applyP oc rfl rfl rfl (g2 K A S Fr L eb c y 65280 hN hR hE hI hc);rintro _ _ _ ⟨rfl, rfl, A2, G, hall, hR2⟩;co_applyP ah;co_applyP aa;co_applyP om rfl rfl rfl aJ;co_applyP oy rfl (au (hf := aC));co_applyP oy rfl (au (hf := aS));co_applyP oy rfl (aX U47 aZ);rename_i L2;obtain ⟨z, hzL, hz⟩ := Stays.at hR2 (hall _ hb);co_applyP osm rfl (hs := aZ) (hm := hzL) (hi := by first | decide | (rw [bf]; omega) | (rw [bC]; omega));intro L3 hU3;rw [eB] at hU3;obtain ⟨G', hst, hR3⟩ := hR2.r0 hz hFb hU3;co_applyP ah;co_applyP aa;co_applyP oan rfl;co_applyP aK;change ∃ v, resE .. = some v ∧ _;exact ⟨_, rfl, rfl, rfl, A2, G', hst, hR3⟩
def St.closeR (S : St) (b : Nat) (x : PS) : Option Nat × St := if x.file (x.r 0) = (0, 0) then (some 3, S) else (none, (S.shut b (x.r 0).toNat).r0 b 0)
theorem xj : ∃ n, ∀ {σ} {F : Fam σ} {Δ : DM F} {main s} (K : Nat) (A : Lay) (S : St) (Fr L : Frag) (eb : Nat → Nat × Nat) (b : Nat) (x : PS), (∀ cs, (Δ s).New (.cells cs 96)) → Rep K A S Fr L → Ers eb Fr → Inv S → (b, x) ∈ S.ps → x.file (x.r 0) = (0, 0) →
   CallsL Δ Tryz.prog main 137 [ptr K, ptr b].toArray n s L (fun s' v L' => s = s' ∧ v = erv eb 3 ∧ Rep K A S Fr L') := by
 obtain ⟨n0, g0⟩ := kj;obtain ⟨n1, g1⟩ := iF;apply Exists.intro;intro σ F Δ main s K A S Fr L eb b x hN hR hE hI hb hf;have wx0 : 0 ≤ x.r 0 ∧ x.r 0 < 65536 := (hI.wf _ hb).r 0 (by omega);have hx0 : At L b 7 (.int .u16 (x.r 0)) := hR.pat hb (bg x (i := 0) (by omega));co_applyP aB 27 Tryz.func137 Tryz.ntmps137;co_applyP aa;co_applyP oan rfl;co_applyP aa;co_applyP om rfl rfl rfl aJ;co_applyP oy rfl (au (hf := aC));co_applyP oy rfl (au (hf := aS));co_applyP oy rfl (aX U47 aZ);co_applyP oy rfl (aF (ht := cH));co_applyP oan rfl;co_applyP aq (n₂ := 0);co_applyP aa;co_applyP om rfl rfl rfl ae;co_applyP ocm rfl rfl rfl (g0 K A S Fr L b x (x.r 0) hN hR hb wx0);rintro _ _ _ ⟨rfl, rfl, hF1, hs1⟩;rename_i L1;co_applyP oc rfl rfl rfl (g1 L1 (x.file (x.r 0)) hN);rintro _ _ _ ⟨rfl, rfl, hE2⟩;co_applyP ah;change wpE ..;rename_i L2;have hR2 := (hR.of hF1 hs1).ext hE2;have hg := (hE.mono hR2.fr).g 3 (by decide) (by decide);rw [decide_eq_true hf];co_applyP aQ rfl;co_applyP aa;co_applyP oy rfl (aF (ht := ci));co_applyP oan rfl;co_applyP aK;change ∃ v, resE .. = some v ∧ _;exact ⟨_, rfl, rfl, rfl, hR2⟩
theorem xl : ∃ n, ∀ {σ} {F : Fam σ} {Δ : DM F} {main s} (K : Nat) (A : Lay) (S : St) (Fr L : Frag) (eb : Nat → Nat × Nat) (b : Nat) (x : PS), (∀ s, NewK (Δ s)) → Rep K A S Fr L → Ers eb Fr → Inv S → (b, x) ∈ S.ps → S.out b → x.file (x.r 0) ≠ (0, 0) →
   CallsL Δ Tryz.prog main 137 [ptr K, ptr b].toArray n s L (fun s' v L' => s = s' ∧ v = .nilIface ∧ ∃ A', Rep K A' ((S.shut b (x.r 0).toNat).r0 b 0) Fr L') := by
 obtain ⟨n0, g0⟩ := kj;obtain ⟨n1, g1⟩ := iF;obtain ⟨n2, g2⟩ := uB;apply Exists.intro;intro σ F Δ main s K A S Fr L eb b x hN hR hE hI hb ho hf;have wx0 : 0 ≤ x.r 0 ∧ x.r 0 < 65536 := (hI.wf _ hb).r 0 (by omega);have hx0 : At L b 7 (.int .u16 (x.r 0)) := hR.pat hb (bg x (i := 0) (by omega));have h6 : x.r 0 < 6 := by
   refine Decidable.byContradiction fun h => hf ?_;unfold PS.file;rw [if_neg h]
 have w0 : IntKind.i64.wrap (x.r 0) = ((x.r 0).toNat : Nat) := by simp [IntKind.wrap_i64]; omega
 co_applyP aB 27 Tryz.func137 Tryz.ntmps137;co_applyP aa;co_applyP oan rfl;co_applyP aa;co_applyP om rfl rfl rfl aJ;co_applyP oy rfl (au (hf := aC));co_applyP oy rfl (au (hf := aS));co_applyP oy rfl (aX U47 aZ);co_applyP oy rfl (aF (ht := cH));co_applyP oan rfl;co_applyP aq;co_applyP aa;co_applyP om rfl rfl rfl ae;co_applyP ocm rfl rfl rfl (g0 K A S Fr L b x (x.r 0) (hN _).k hR hb wx0);rintro _ _ _ ⟨rfl, rfl, hF1, hs1⟩;rename_i L1;co_applyP oc rfl rfl rfl (g1 L1 (x.file (x.r 0)) (hN _).k);rintro _ _ _ ⟨rfl, rfl, hE2⟩;co_applyP ah;change wpE ..;rename_i L2;have hR2 := (hR.of hF1 hs1).ext hE2;rw [decide_eq_false hf];co_applyP ai rfl;co_applyP aD;co_applyP aa;co_applyP om rfl rfl rfl ae;co_applyP om rfl rfl rfl (cp (hs := U32) (ht := U3));rw [w0];co_applyP oc rfl rfl rfl (g2 K A S Fr L2 eb b x (x.r 0).toNat hN hR2 hE hI hb ho (by omega));rintro _ _ _ ⟨rfl, rfl, A3, hR3⟩;co_applyP ah;co_applyP aa;co_applyP om rfl rfl rfl aJ;co_applyP oy rfl (au (hf := aC));co_applyP oy rfl (au (hf := aS));co_applyP oy rfl (aX U47 aZ);rename_i L3;have hl := hI.shut hb ho (x.r 0).toNat;have hb3 := hl.m b _ ho (av hb);co_applyP osm rfl (hs := aZ) (hm := hR3.p _ hb3) (hi := by first | decide | (rw [bf]; omega) | (rw [bC]; omega));intro L4 hU4;rw [eB] at hU4;have hR4 := hR3.setP hb3 hU4;co_applyP ah;co_applyP aa;co_applyP oan rfl;co_applyP aK;change ∃ v, resE .. = some v ∧ _;refine ⟨_, rfl, rfl, rfl, A3, ?_⟩;unfold St.r0;rw [bl hl.i.g.pn hb3];exact hR4
theorem xm : ∃ n, ∀ {σ} {F : Fam σ} {Δ : DM F} {main s} (K : Nat) (A : Lay) (S : St) (Fr L : Frag) (eb : Nat → Nat × Nat) (b : Nat) (x : PS), (∀ s, NewK (Δ s)) → Rep K A S Fr L → Ers eb Fr → Inv S → (b, x) ∈ S.ps → S.out b →
   CallsL Δ Tryz.prog main 137 [ptr K, ptr b].toArray n s L (fun s' v L' => s = s' ∧ v = erV eb (S.closeR b x).1 ∧ ∃ A', Rep K A' (S.closeR b x).2 Fr L') := by
 obtain ⟨n0, g0⟩ := xj;obtain ⟨n1, g1⟩ := xl;refine ⟨n0 + n1, fun {σ F Δ main s} K A S Fr L eb b x hN hR hE hI hb ho => aM (x.file (x.r 0) = (0, 0)) (fun h => ?_) fun h => ?_⟩
 · have e : S.closeR b x = (some 3, S) := by unfold St.closeR; rw [if_pos h]
   rw [e];exact aO (g0 K A S Fr L eb b x (hN _).k hR hE hI hb h) fun s' v L' ⟨h1, h2, h3⟩ => ⟨h1, h2, A, h3⟩
 · have e : S.closeR b x = (none, (S.shut b (x.r 0).toNat).r0 b 0) := by unfold St.closeR; rw [if_neg h]
   rw [e];exact g1 K A S Fr L eb b x hN hR hE hI hb ho h
theorem xn (xs : List Nat) (b : Nat) : decide (0 ≤ idx xs b) = decide (b ∈ xs) := by
 unfold idx;cases h : xs.findIdx? (· == b) with
 | none =>
   have := List.findIdx?_eq_none_iff.1 h;have hn : b ∉ xs := fun hm => by simpa using this b hm
   simp [hn]
 | some i =>
   obtain ⟨h1, h2, _⟩ := List.findIdx?_eq_some_iff_getElem.1 h;have hm : b ∈ xs := by
     have e : xs[i] = b := by simpa using h2
     rw [← e]; exact List.getElem_mem h1
   simp [hm]
theorem pz : ∃ n, ∀ {σ} {F : Fam σ} {Δ : DM F} {main s} (L : Frag) (a : Sl) (xs : List Nat) (b : Nat), xs.length ≤ 8 → slOk a (xs.map ptr) 93 L → (∀ c ∈ xs, ∃ x, pb c x ∈ L) → (∃ x, pb b x ∈ L) →
   CallsL Δ Tryz.prog main 153 [slv a xs.length, ptr b].toArray n s L (fun s' v L' => s = s' ∧ L = L' ∧ v = .bool (decide (b ∈ xs))) := by
 obtain ⟨n1, g1⟩ := qu;apply Exists.intro;intro σ F Δ main s L a xs b h8 ha hc hb;co_applyP aB 9 Tryz.func153 Tryz.ntmps153;co_applyP aa;co_applyP oan rfl;co_applyP aa;co_applyP om rfl rfl rfl ae;co_applyP oc rfl rfl rfl (g1 L a xs b h8 ha hc hb);rintro _ _ _ ⟨rfl, rfl, rfl⟩;co_applyP oy rfl fh;co_applyP oan rfl;co_applyP aK;change ∃ v, resE .. = some v ∧ _;exact ⟨_, rfl, rfl, rfl, by rw [← xn]⟩
def PS.checkUse (x : PS) (use most : Nat) : Option Nat := if (x.file (x.r 0)).2 ≠ use then some 3 else if x.r 2 = 0 ∨ (most : Int) < x.r 2 then some 9 else if 64 < x.r 1 + x.r 2 then some 8 else none
theorem kF : ∃ n, ∀ {σ} {F : Fam σ} {Δ : DM F} {main s} (K : Nat) (A : Lay) (S : St) (Fr L : Frag) (eb : Nat → Nat × Nat) (b : Nat) (x : PS) (use most : Nat), (∀ cs, (Δ s).New (.cells cs 96)) → Rep K A S Fr L → Ers eb Fr → Inv S → (b, x) ∈ S.ps →
   CallsL Δ Tryz.prog main 152 [ptr b, .int .i64 (use : Nat), .int .i64 (most : Nat)].toArray n s L (fun s' v L' => s = s' ∧ v = erV eb (x.checkUse use most) ∧ Ext L L') := by
 obtain ⟨n0, g0⟩ := kj;apply Exists.intro;intro σ F Δ main s K A S Fr L eb b x use most hN hR hE hI hb;have wx0 : 0 ≤ x.r 0 ∧ x.r 0 < 65536 := (hI.wf _ hb).r 0 (by omega);have wx1 : 0 ≤ x.r 1 ∧ x.r 1 < 65536 := (hI.wf _ hb).r 1 (by omega);have wx2 : 0 ≤ x.r 2 ∧ x.r 2 < 65536 := (hI.wf _ hb).r 2 (by omega);have hx0 : At L b 7 (.int .u16 (x.r 0)) := hR.pat hb (bg x (i := 0) (by omega));have hx1 : At L b 8 (.int .u16 (x.r 1)) := hR.pat hb (bg x (i := 1) (by omega));have hx2 : At L b 9 (.int .u16 (x.r 2)) := hR.pat hb (bg x (i := 2) (by omega));have w1 : IntKind.i64.wrap (x.r 1) = x.r 1 := by simp [IntKind.wrap_i64]; omega
 have w2 : IntKind.i64.wrap (x.r 2) = x.r 2 := by simp [IntKind.wrap_i64]; omega
 have w3 : IntKind.i64.wrap (x.r 1 + x.r 2) = x.r 1 + x.r 2 := by simp [IntKind.wrap_i64]; omega
 co_applyP aB 51 Tryz.func152 Tryz.ntmps152;co_applyP aa;co_applyP oan rfl;co_applyP aq;co_applyP bq aT;co_applyP tr 0 rfl ae pI;co_applyP tr 1 rfl aJ pI;co_applyP tr 2 rfl (au (hf := aC)) pI;co_applyP tr 3 rfl (au (hf := aS)) pI;co_applyP tr 4 rfl (aX U47 aZ) pI;co_applyP tr 5 rfl (aF (ht := cH)) pI;co_applyP tr 6 rfl (cp (hs := U32) (ht := U3)) pI;co_applyP tr 7 rfl ae pI;co_applyP tr 8 rfl aJ pI;co_applyP tr 9 rfl (au (hf := aC)) pI;co_applyP tr 10 rfl (au (hf := aS)) pI;co_applyP tr 11 rfl (aX U47 aZ) pI;co_applyP tr 12 rfl (aF (ht := cH)) pI;co_applyP tr 13 rfl (cp (hs := U32) (ht := U3)) pI;co_applyP tr 14 rfl bL pI;co_applyP tr 15 rfl bL pI;co_applyP td (by kernel_rfl);co_applyP aq;co_applyP aI;co_applyP aa;co_applyP om rfl rfl rfl ae;co_applyP oy rfl aJ;co_applyP oy rfl (au (hf := aC));co_applyP oy rfl (au (hf := aS));co_applyP oy rfl (aX U47 aZ);co_applyP oy rfl (aF (ht := cH));simp only [w1, w2];co_applyP ocm rfl rfl rfl (g0 K A S Fr L b x (x.r 0) hN hR hb wx0);rintro _ _ _ ⟨rfl, rfl, hF1, hs1⟩;co_applyP oy rfl (Aj (hf := wG));co_applyP om rfl rfl rfl fy;co_applyP oan rfl;change wpE ..;rename_i L1;have hE1 : Ext L L1 := ⟨hF1, hs1⟩;have hR1 := hR.ext hE1;have hg3 := (hE.mono hR1.fr).g 3 (by decide) (by decide);have hg8 := (hE.mono hR1.fr).g 8 (by decide) (by decide);have hg9 := (hE.mono hR1.fr).g 9 (by decide) (by decide);co_applyP bk rfl;intro h1;co_applyP aa;co_applyP oy rfl (aF (ht := ci));co_applyP oan rfl;co_applyP aK;change ∃ v, resE .. = some v ∧ _
 · have h1' : (x.file (x.r 0)).2 ≠ use := by simp at h1; omega
   exact ⟨_, rfl, rfl, by unfold PS.checkUse; rw [if_pos h1']; rfl, hE1⟩
 intro h1;have h1' : ¬ (x.file (x.r 0)).2 ≠ use := by simp at h1; omega
 co_applyP bR (x.r 2 = 0);intro h0
 · have e0 : (x.r 2 == 0) = true := by simp [h0]
   co_applyP aa;co_applyP om rfl rfl rfl aA;co_applyP oy rfl ae;rw [e0];co_applyP ou rfl;co_applyP ou rfl;co_applyP ou rfl;co_applyP oy rfl aP;co_applyP oan rfl;co_applyP aQ rfl;co_applyP aa;co_applyP oy rfl (aF (ht := ci));co_applyP oan rfl;co_applyP aK;change ∃ v, resE .. = some v ∧ _;exact ⟨_, rfl, rfl, by unfold PS.checkUse; rw [if_neg h1', if_pos (.inl h0)]; rfl, hE1⟩
 intro h0;have e0 : (x.r 2 == 0) = false := by simp [h0]
 co_applyP aa;co_applyP om rfl rfl rfl aA;co_applyP oy rfl ae;rw [e0];co_applyP om rfl rfl rfl (ae);co_applyP oy rfl (dn);co_applyP oy rfl aP;co_applyP oan rfl;co_applyP bk rfl;intro h2;co_applyP aa;co_applyP oy rfl (aF (ht := ci));co_applyP oan rfl;co_applyP aK;change ∃ v, resE .. = some v ∧ _
 · have h2' : (most : Int) < x.r 2 := by simpa using h2
   exact ⟨_, rfl, rfl, by unfold PS.checkUse; rw [if_neg h1', if_pos (.inr h2')]; rfl, hE1⟩
 intro h2;co_applyP aa;co_applyP om rfl rfl rfl ae;co_applyP oy rfl aR;co_applyP oy rfl dn;co_applyP oan rfl;change wpE ..;have h2' : ¬ (x.r 2 = 0 ∨ (most : Int) < x.r 2) := fun h => h.elim h0 fun h => by simp at h2; omega
 simp only [w3];co_applyP bk rfl;intro h3;co_applyP aa;co_applyP oy rfl (aF (ht := ci));co_applyP oan rfl;co_applyP aK;change ∃ v, resE .. = some v ∧ _
 · have h3' : 64 < x.r 1 + x.r 2 := by simpa using h3
   exact ⟨_, rfl, rfl, by unfold PS.checkUse; rw [if_neg h1', if_neg h2', if_pos h3']; rfl, hE1⟩
 intro h3;co_applyP aD;co_applyP aa;co_applyP oan rfl;co_applyP aK;change ∃ v, resE .. = some v ∧ _;have h3' : ¬ 64 < x.r 1 + x.r 2 := by simpa using h3
 exact ⟨_, rfl, rfl, by unfold PS.checkUse; rw [if_neg h1', if_neg h2', if_neg h3']; rfl, hE1⟩
end Go.Proofs.YtejkelcaljmnoaaGreatDoor
namespace Go.Lo
open Go.Conc Go.Hx
section
variable {P : Program} {New : Obj → Prop} {N : Nat} {ε : Env} {L : Frag} {d : Option Tmp} {ty : TypeId} {ps : String} {af : Array Edge} {g : Option (Nat × Bool)}
theorem AS {x ix : Operand} {t kt et : TypeId} {r clock i c : Nat} {k : Nat × Nat} {v : Value} {l : Ents} (hnd : (L.map (·.1)).Nodup) (H : Key2 P kt) (hu : P.underlying t = some (.map kt et)) (hm : (r, true, mapO l clock) ∈ L) (hl : lk k l 0 = some (i, v)) (hc : l[i]? = some (k, v, c)) (hx : ev ε x = some (.map (some r)) := by rfl) (hi : ev ε ix = some (kv k) := by rfl) :
   EO P New N ε L ⟨d, .mapEntry t x ix, ty, ps, af, g⟩ (fun r' L'' => r' = .tuple #[v, .int .i64 (c : Nat)] ∧ Upd L r (mapO l clock) L'') := by
 intro a ha;obtain ⟨n, hn⟩ := List.getElem?_of_mem hm;show wpS P New (Instr.mapEntry t (a.eval x) (a.eval ix) >>= fun v => pure (Next.value v)) _ L;rw [ha.ev hx, ha.ev hi, aj];unfold Instr.mapEntry;rw [aj, aN hu];simp only [aj];refine eI hm rfl ?_;simp only [mapO, aj];refine bJ (K := (· = ())) (fun _ _ => ?_) _ (bj (H.ck _ _ _) rfl);refine bJ (K := (· = lk k l 0)) (fun _ e => ?_) _ (d8 H l rfl);subst e;rw [hl];have hkey : ((((l.map ent).toArray[i]?).map (·.key)).getD (kv k)) = kv k := by simp [hc, ent]
 have hborn : ((((l.map ent).toArray[i]?).map (·.born)).getD 0) = c := by simp [hc, ent]
 simp only [aj, hkey, hborn];have hs : Instr.keyThatStays (kv k) (kv k) = pure (kv k) := by
   unfold Instr.keyThatStays;have : Instr.sameBits 10000 (kv k) (kv k) = true := by simp [Instr.sameBits]
   rw [this]; rfl
 rw [hs, bm];have he : (l.map ent).toArray.modify i (fun e => { e with key := kv k }) = (l.map ent).toArray := by
   apply Array.ext';simp only [Array.toList_modify];apply List.ext_getElem?;intro j;simp only [List.getElem?_modify, List.getElem?_map];by_cases e : i = j
   · subst e; simp [hc, ent]
   · cases l[j]? with
     | none => rfl
     | some e' => simp [e]
 rw [he];refine dk hn rfl rfl ?_;rw [bm, bm];have hborn2 : ((((l.map ent).toArray[i]?).map (fun x => ((x.born : Nat) : Int))).getD 0) = (c : Nat) := by simp [hc, ent]
 refine ⟨?_, cS hnd hn⟩;rw [hborn2]; rfl
theorem AT {x ix : Operand} {t kt et : TypeId} {r clock : Nat} {k : Nat × Nat} {z : Value} {l : Ents} (hnd : (L.map (·.1)).Nodup) (H : Key2 P kt) (hu : P.underlying t = some (.map kt et)) (hz : zeroAt P et = some z) (hm : (r, true, mapO l clock) ∈ L) (hl : lk k l 0 = none) (hx : ev ε x = some (.map (some r)) := by rfl) (hi : ev ε ix = some (kv k) := by rfl) :
   EO P New N ε L ⟨d, .mapEntry t x ix, ty, ps, af, g⟩ (fun r' L'' => r' = .tuple #[z, .int .i64 (clock : Nat)] ∧ Upd L r (mapO (l ++ [(k, z, clock)]) (clock + 1)) L'') := by
 intro a ha;obtain ⟨n, hn⟩ := List.getElem?_of_mem hm;show wpS P New (Instr.mapEntry t (a.eval x) (a.eval ix) >>= fun v => pure (Next.value v)) _ L;rw [ha.ev hx, ha.ev hi, aj];unfold Instr.mapEntry;rw [aj, aN hu];simp only [aj];refine eI hm rfl ?_;simp only [mapO, aj];refine bJ (K := (· = ())) (fun _ _ => ?_) _ (bj (H.ck _ _ _) rfl);refine bJ (K := (· = lk k l 0)) (fun _ e => ?_) _ (d8 H l rfl);subst e;rw [hl];simp only [aj];refine bJ (K := (· = z)) (fun z' e => ?_) _ (by rw [gI hz]);obtain rfl : z' = z := e;refine dk hn rfl rfl ?_;rw [bm, bm];refine ⟨rfl, ?_⟩;have he : (l.map ent).toArray.push ⟨kv k, z', clock⟩ = ((l ++ [(k, z', clock)]).map ent).toArray := by apply Array.ext'; simp [ent]
 rw [he];exact cS hnd hn
theorem AU {x ix y : Operand} {t : TypeId} {r clock c : Nat} {k : Nat × Nat} {v v0 : Value} {l1 l2 : Ents} (hnd : (L.map (·.1)).Nodup) (hm : (r, true, mapO (l1 ++ (k, v0, c) :: l2) clock) ∈ L) (hc : ∀ e ∈ l1, e.2.2 ≠ c) (hx : ev ε x = some (.map (some r)) := by rfl) (hi : ev ε ix = some (.int .i64 (c : Nat)) := by rfl) (hy : ev ε y = some v := by rfl) :
   EO P New N ε L ⟨d, .entryStore t x ix y, ty, ps, af, g⟩ (fun r' L'' => r' = undef ∧ Upd L r (mapO (l1 ++ (k, v, c) :: l2) clock) L'') := by
 intro a ha;obtain ⟨n, hn⟩ := List.getElem?_of_mem hm;show wpS P New (Instr.entryStore t (a.eval x) (a.eval ix) (a.eval y) >>= fun _ => pure Next.skip) _ L;rw [ha.ev hx, ha.ev hi, ha.ev hy, aj];unfold Instr.entryStore;simp only [aj];refine eI hm rfl ?_;simp only [mapO, aj];have hf : ((l1 ++ (k, v0, c) :: l2).map ent).toArray.findIdx? (fun e => (e.born : Int) == (c : Int)) = some l1.length := by
   rw [List.findIdx?_toArray, List.map_append, List.findIdx?_append, List.findIdx?_eq_none_iff.2 (by
     intro e he;obtain ⟨e', he', rfl⟩ := List.mem_map.1 he;have := hc e' he';simp [ent];omega)]
   simp [List.findIdx?_cons, ent]
 refine bJ (K := (· = (c : Int))) (fun _ e => ?_) _ (by exact rfl);subst e;rw [hf];refine dk hn rfl rfl ?_;refine ⟨trivial, ?_⟩;have he : ((l1 ++ (k, v0, c) :: l2).map ent).toArray.modify l1.length (fun e => { e with val := v }) = ((l1 ++ (k, v, c) :: l2).map ent).toArray := by
   apply Array.ext';simp only [Array.toList_modify];apply List.ext_getElem?;intro j;simp only [List.getElem?_modify, List.getElem?_map];by_cases e : l1.length = j
   · subst e; simp [ent]
   · simp only [if_neg e];rcases Nat.lt_or_gt_of_ne (Ne.symm e) with h | h
     · rw [List.getElem?_append_left h, List.getElem?_append_left h]; simp
     · rw [List.getElem?_append_right (by omega), List.getElem?_append_right (by omega)];obtain ⟨m, hm⟩ : ∃ m, j - l1.length = m + 1 := ⟨j - l1.length - 1, by omega⟩;rw [hm]; simp
 rw [he];exact cS hnd hn
end
end Go.Lo
namespace Go.Proofs.YtejkelcaljmnoaaGreatDoor
open Go.Conc Go.Hx Go.Lo
def rowJoin (b : Nat) (k : Nat × Nat) (l : Wt) : Wt := if ∀ e ∈ l, e.1 ≠ k then l ++ [(k, [b])] else l.map fun e => if e.1 = k then (k, e.2 ++ [b]) else e
def St.joinW (S : St) (b : Nat) (k : Nat × Nat) : St := S.setW (rowJoin b k S.wt)
def St.askR (S : St) (b : Nat) (x : PS) (use most : Nat) : Option Nat × St := match x.checkUse use most with
 | some i => (some i, S)
 | none =>
   let S2 := (S.joinW b (x.file (x.r 0))).look (x.file (x.r 0)).1
   (none, if b ∈ S2.rowAt (x.file (x.r 0)) then (match S2.get b with
     | some z => S2.stop1 b z use
     | none => S2) else S2)
theorem iH {b : Nat} {k : Nat × Nat} {l1 l2 : Wt} {xs : List Nat} (h1 : ∀ e ∈ l1, e.1 ≠ k) (h2 : ∀ e ∈ l2, e.1 ≠ k) : rowJoin b k (l1 ++ (k, xs) :: l2) = l1 ++ (k, xs ++ [b]) :: l2 := by
 unfold rowJoin;rw [if_neg (fun h => h (k, xs) (by simp) rfl)];rw [List.map_append, List.map_cons, if_pos rfl];have e : ∀ l : Wt, (∀ e ∈ l, e.1 ≠ k) → l.map (fun e => if e.1 = k then (k, e.2 ++ [b]) else e) = l := fun l h => by
   conv => rhs; rw [← List.map_id l]
   apply List.map_congr_left;intro e he;rw [if_neg (h e he)]; rfl
 rw [e l1 h1, e l2 h2]
theorem fu {b : Nat} {k : Nat × Nat} {l : Wt} (h : ∀ e ∈ l, e.1 ≠ k) : rowJoin b k l = l ++ [(k, [b])] := by unfold rowJoin; rw [if_pos h]
theorem Inv.joinW {S : St} {b : Nat} {x : PS} {k : Nat × Nat} (h : Inv S) (hb : (b, x) ∈ S.ps) (ho : S.out b) (ha : Asks x k) (hk : okEnd k) : Inv (S.joinW b k) := by
 by_cases hn : ∀ e ∈ S.wt, e.1 ≠ k
 · have e : (S.joinW b k).wt = S.wt ++ [(k, [b])] := fu hn;have cs : ∀ e' ∈ (S.joinW b k).wt, e' ∈ S.wt ∨ e' = (k, [b]) := fun e' he => by rw [e] at he; simpa using he
   exact {
     g := ⟨h.g.pn, h.g.p8, h.g.lv, h.g.rn, h.g.rm, h.g.rr⟩
     wf := h.wf, fl := h.fl, y8 := h.y8, yb := h.yb
     kn := by
       rw [e, List.map_append];refine List.nodup_append.2 ⟨h.kn, by simp, fun a ha' c hc => ?_⟩;simp at hc;subst hc;rintro rfl;obtain ⟨e', he', e2⟩ := List.mem_map.1 ha';exact hn e' he' e2
     ne := fun e' he => (cs e' he).elim (h.ne e') fun e => by subst e; simp
     nd := fun e' he => (cs e' he).elim (h.nd e') fun e => by subst e; simp
     ke := fun e' he => (cs e' he).elim (h.ke e') fun e => by subst e; exact hk
     rm := fun e' he c hc => (cs e' he).elim (fun h' => h.rm e' h' c hc) fun e => by subst e; simp at hc; subst hc; exact ⟨x, hb, ha⟩ }
 · have hk' : k ∈ S.wt.map (·.1) := Decidable.byContradiction fun hn' => hn fun e he e1 => hn' (List.mem_map.2 ⟨e, he, e1⟩);obtain ⟨l1, ys, l2, hl, h1, h2⟩ := cK h.kn hk';have e : (S.joinW b k).wt = l1 ++ (k, ys ++ [b]) :: l2 := by show rowJoin b k S.wt = _; rw [hl, iH h1 h2]
   have hin : (k, ys) ∈ S.wt := by rw [hl]; simp
   have cs : ∀ e' ∈ (S.joinW b k).wt, e' ∈ S.wt ∨ e' = (k, ys ++ [b]) := fun e' he => by
     rw [e] at he;rcases List.mem_append.1 he with h' | h'
     · exact .inl (by rw [hl]; simp [h'])
     · rcases List.mem_cons.1 h' with h' | h'
       · exact .inr h'
       · exact .inl (by rw [hl]; simp [h'])
   exact {
     g := ⟨h.g.pn, h.g.p8, h.g.lv, h.g.rn, h.g.rm, h.g.rr⟩
     wf := h.wf, fl := h.fl, y8 := h.y8, yb := h.yb
     kn := by
       have := h.kn;rw [hl] at this;rw [e];simpa using this
     ne := fun e' he => (cs e' he).elim (h.ne e') fun e => by subst e; simp
     nd := fun e' he => (cs e' he).elim (h.nd e') fun e => by
       subst e;refine List.nodup_append.2 ⟨h.nd _ hin, by simp, fun a ha' c hc => ?_⟩;simp at hc;subst hc;rintro rfl;exact ho _ hin ha'
     ke := fun e' he => (cs e' he).elim (h.ke e') fun e => by subst e; exact hk
     rm := fun e' he c hc => (cs e' he).elim (fun h' => h.rm e' h' c hc) fun e => by
       subst e;rcases List.mem_append.1 hc with h' | h'
       · exact h.rm _ hin c h'
       · simp at h'; subst h'; exact ⟨x, hb, ha⟩ }
theorem AV : ∃ n, ∀ {σ} {F : Fam σ} {Δ : DM F} {main s} (K : Nat) (A : Lay) (S : St) (Fr L : Frag) (eb : Nat → Nat × Nat) (b : Nat) (x : PS) (use most i : Nat), (∀ cs, (Δ s).New (.cells cs 96)) → Rep K A S Fr L → Ers eb Fr → Inv S → (b, x) ∈ S.ps → x.checkUse use most = some i →
   CallsL Δ Tryz.prog main 138 [ptr K, ptr b, .int .i64 (use : Nat), .int .i64 (most : Nat)].toArray n s L (fun s' v L' => s = s' ∧ v = erv eb i ∧ Rep K A S Fr L') := by
 obtain ⟨n0, g0⟩ := kF;apply Exists.intro;intro σ F Δ main s K A S Fr L eb b x use most i hN hR hE hI hb hc;co_applyP aB 53 Tryz.func138 Tryz.ntmps138;co_applyP aa;co_applyP oan rfl;co_applyP aq (n₂ := 0);co_applyP aa;co_applyP om rfl rfl rfl ae;co_applyP oy rfl ae;co_applyP oc rfl rfl rfl (g0 K A S Fr L eb b x use most hN hR hE hI hb);rintro _ _ _ ⟨rfl, rfl, hE1⟩;rw [hc];co_applyP oan rfl;co_applyP aa;co_applyP om rfl rfl rfl (dH (v := erv eb i) (c := false) (hv := .inr ⟨_, _, rfl, rfl⟩) (hu := Tryz.underlying168));co_applyP ah;co_applyP aQ rfl;co_applyP aa;co_applyP oy rfl ae;co_applyP oan rfl;co_applyP aK;change ∃ v, resE .. = some v ∧ _;exact ⟨_, rfl, rfl, rfl, hR.ext hE1⟩
theorem Rep.joinW1 {K : Nat} {A : Lay} {S : St} {F L L1 L' : Frag} (hR : Rep K A S F L) (hI : Inv S) {b : Nat} {k : Nat × Nat} {l1 l2 : Wt} {xs b1 b2 : List Nat} {c0 : Nat} {a' : Sl} (hwt : S.wt = l1 ++ (k, xs) :: l2) (h1 : ∀ e ∈ l1, e.1 ≠ k) (h2 : ∀ e ∈ l2, e.1 ≠ k) (hborn : A.born = b1 ++ c0 :: b2) (hbl : l1.length = b1.length) (hp : Ap1 L (A.a (slot k)) xs b a' L1) (hU : Upd L1 A.wt (mapO (entsOf A l1 b1 ++ (k, slv a' (xs.length + 1), c0) :: entsOf A l2 b2) A.clock) L') : Rep K (A.setW k a' A.born A.clock) (S.joinW b k) F L' := by
 have hin : (k, xs) ∈ S.wt := by rw [hwt]; simp
 have hkk : okKey k := (hI.ke _ hin).key;have hslot : ∀ e ∈ S.wt, e.1 ≠ k → slot e.1 ≠ slot k := fun e he hne h => hne (km (hI.ke e he).key hkk h);have hAs : ∀ (l : Wt) (bs : List Nat), (∀ e ∈ l, e ∈ S.wt ∧ e.1 ≠ k) → entsOf (A.setW k a' A.born A.clock) l bs = entsOf A l bs := fun l bs h => eh fun e he => by
   have := hslot e (h e he).1 (h e he).2;simp [Lay.setW, put, this]
 have hi1 : ∀ e ∈ l1, e ∈ S.wt ∧ e.1 ≠ k := fun e he => ⟨by rw [hwt]; simp [he], h1 e he⟩;have hi2 : ∀ e ∈ l2, e ∈ S.wt ∧ e.1 ≠ k := fun e he => ⟨by rw [hwt]; simp [he], h2 e he⟩;have e0 : S.joinW b k = S.setW (l1 ++ (k, xs ++ [b]) :: l2) := by unfold St.joinW; rw [hwt, iH h1 h2]
 have hwa : ∀ c, (A.a (slot k)).b = some c → c ≠ A.wt := fun c hc e => by
   obtain ⟨ys, hy⟩ := hR.al _ _ hc;rw [e] at hy;exact absurd (hR.fn _ _ _ _ _ hy hR.w).2 (by simp [wobj])
 have hwL1 : (A.a (slot k)).b ≠ some A.wt := fun e => hwa _ e rfl;have hne : ∀ c, a'.b = some c → c ≠ A.wt := fun c hc e => by
   rcases hp.d c hc with h | h
   · exact hwa c h e
   · exact h _ hR.w e.symm
 rw [e0];refine hR.setWait hU.fn (fun t ht g1 g2 => hU.ne _ (hp.sub _ ht g2) g1) ?_ (by rw [hR.wl, hwt]; simp) hR.bn hR.bc ?_ (fun c hc => ⟨_, hU.ne _ (hp.ok.mem hc) (hne c hc)⟩) (fun c hc => ?_)
 · have := hU.self;have e1 : entsOf (A.setW k a' A.born A.clock) (l1 ++ (k, xs ++ [b]) :: l2) A.born = entsOf A l1 b1 ++ (k, slv a' (xs.length + 1), c0) :: entsOf A l2 b2 := by
     conv => lhs; rw [hborn]
     rw [← hborn, hborn, cx _ hbl];show entsOf (A.setW k a' (b1 ++ c0 :: b2) A.clock) l1 b1 ++ (k, slv ((A.setW k a' (b1 ++ c0 :: b2) A.clock).a (slot k)) (xs ++ [b]).length, c0) :: entsOf (A.setW k a' (b1 ++ c0 :: b2) A.clock) l2 b2 = _;rw [← hborn, hAs _ _ hi1, hAs _ _ hi2];have e2 : (A.setW k a' A.born A.clock).a (slot k) = a' := by simp [Lay.setW, put]
     rw [e2]; simp
   rw [e1]; exact this
 · intro e he;rcases List.mem_append.1 he with h | h
   · exact .inr ⟨(hi1 e h).1, hslot e (hi1 e h).1 (hi1 e h).2⟩
   · rcases List.mem_cons.1 h with rfl | h
     · exact .inl ⟨rfl, hp.ok.mono fun c hc o ho => hU.ne _ ho (hne c hc)⟩
     · exact .inr ⟨(hi2 e h).1, hslot e (hi2 e h).1 (hi2 e h).2⟩
 · rcases hp.d c hc with h | h
   · exact .inl h
   · refine .inr ⟨fun i hi => ?_, fun t ht => h t (hR.fr t ht)⟩;obtain ⟨ys, hy⟩ := hR.al i c hi;exact h _ hy rfl
theorem Rep.joinW0 {K : Nat} {A : Lay} {S : St} {F L L0 L1 L' : Frag} (hR : Rep K A S F L) (hI : Inv S) {b : Nat} {k : Nat × Nat} {a' : Sl} {z : Value} (hk : okEnd k) (hn : ∀ e ∈ S.wt, e.1 ≠ k) (hU0 : Upd L A.wt (mapO (entsOf A S.wt A.born ++ [(k, z, A.clock)]) (A.clock + 1)) L0) (hp : Ap1 L0 ⟨none, []⟩ [] b a' L1) (hU : Upd L1 A.wt (mapO (entsOf A S.wt A.born ++ [(k, slv a' 1, A.clock)]) (A.clock + 1)) L') : Rep K (A.setW k a' (A.born ++ [A.clock]) (A.clock + 1)) (S.joinW b k) F L' := by
 have hslot : ∀ e ∈ S.wt, slot e.1 ≠ slot k := fun e he h => hn e he (km (hI.ke e he).key hk.key h);have e0 : S.joinW b k = S.setW (S.wt ++ [(k, [b])]) := by unfold St.joinW; rw [fu hn]
 have hnew : ∀ c, a'.b = some c → ∀ t ∈ L, t.1 ≠ c := fun c hc t ht e => by
   rcases hp.d c hc with h | h
   · cases h
   · by_cases ew : t.1 = A.wt
     · exact h _ hU0.self (by rw [← ew]; exact e)
     · exact h _ (hU0.ne _ ht ew) e
 have hne : ∀ c, a'.b = some c → c ≠ A.wt := fun c hc e => hnew c hc _ hR.w e.symm;rw [e0];refine hR.setWait hU.fn (fun t ht g1 g2 => hU.ne _ (hp.sub _ (hU0.ne _ ht g1) (by simp)) g1) ?_ (by simp [hR.wl]) ?_ ?_ ?_ (fun c hc => ⟨_, hU.ne _ (hp.ok.mem hc) (hne c hc)⟩) (fun c hc => ?_)
 · have e1 : entsOf (A.setW k a' (A.born ++ [A.clock]) (A.clock + 1)) (S.wt ++ [(k, [b])]) (A.born ++ [A.clock]) = entsOf A S.wt A.born ++ [(k, slv a' 1, A.clock)] := by
     rw [cx _ hR.wl.symm];have e2 : entsOf (A.setW k a' (A.born ++ [A.clock]) (A.clock + 1)) S.wt A.born = entsOf A S.wt A.born := eh fun e he => by
       have := hslot e he;simp [Lay.setW, put, this]
     rw [e2];congr 1;show [(k, slv ((A.setW k a' (A.born ++ [A.clock]) (A.clock + 1)).a (slot k)) 1, A.clock)] = _;have e3 : (A.setW k a' (A.born ++ [A.clock]) (A.clock + 1)).a (slot k) = a' := by simp [Lay.setW, put]
     rw [e3]
   rw [e1]; exact hU.self
 · refine List.nodup_append.2 ⟨hR.bn, by simp, fun x hx y hy => ?_⟩;have := hR.bc x hx;simp at hy;omega
 · intro x hx;rcases List.mem_append.1 hx with h | h
   · have := hR.bc x h; omega
   · simp at h; omega
 · intro e he;rcases List.mem_append.1 he with h | h
   · exact .inr ⟨h, hslot e h⟩
   · simp at h;subst h;exact .inl ⟨rfl, hp.ok.mono fun c hc o ho => hU.ne _ ho (hne c hc)⟩
 · refine .inr ⟨fun i hi => ?_, fun t ht => hnew c hc t (hR.fr t ht)⟩;obtain ⟨ys, hy⟩ := hR.al i c hi;exact hnew c hc _ hy rfl
theorem jq {A : Lay} {l : Wt} {bs : List Nat} {e : (Nat × Nat) × Value × Nat} (h : e ∈ entsOf A l bs) : e.2.2 ∈ bs := by
 unfold entsOf at h;obtain ⟨p, hp, rfl⟩ := List.mem_map.1 h;exact (List.of_mem_zip hp).2
theorem AW : ∃ n, ∀ {σ} {F : Fam σ} {Δ : DM F} {main s} (K : Nat) (A : Lay) (S : St) (Fr L : Frag) (eb : Nat → Nat × Nat) (b : Nat) (x : PS) (use most : Nat) (k : Nat × Nat), (∀ s, NewK (Δ s)) → Rep K A S Fr L → Ers eb Fr → Inv S → (b, x) ∈ S.ps → S.out b → x.checkUse use most = none → k = x.file (x.r 0) → okEnd k → Asks x k →
   CallsL Δ Tryz.prog main 138 [ptr K, ptr b, .int .i64 (use : Nat), .int .i64 (most : Nat)].toArray n s L (fun s' v L' => s = s' ∧ v = .nilIface ∧ ∃ A', Rep K A' (if b ∈ ((S.joinW b k).look k.1).rowAt k then (match ((S.joinW b k).look k.1).get b with
     | some z => ((S.joinW b k).look k.1).stop1 b z use
     | none => ((S.joinW b k).look k.1)) else ((S.joinW b k).look k.1)) Fr L') := by
 obtain ⟨n0, g0⟩ := kF;obtain ⟨n1, g1⟩ := kj;obtain ⟨n2, g2⟩ := uA;obtain ⟨n3, g3⟩ := pz;obtain ⟨n4, g4⟩ := kf;apply Exists.intro;intro σ F Δ main s K A S Fr L eb b x use most k hN hR hE hI hb ho hc hk hke hask;have wx0 : 0 ≤ x.r 0 ∧ x.r 0 < 65536 := (hI.wf _ hb).r 0 (by omega);have hIj := hI.joinW hb ho hask hke;have hlk := hIj.look k.1;have hbn : b ∈ S.ps.map (·.1) := List.mem_map.2 ⟨_, hb, rfl⟩;co_applyP aB 53 Tryz.func138 Tryz.ntmps138;co_applyP aa;co_applyP oan rfl;co_applyP aq;co_applyP aa;co_applyP om rfl rfl rfl ae;co_applyP oy rfl ae;co_applyP oc rfl rfl rfl (g0 K A S Fr L eb b x use most (hN _).k hR hE hI hb);rintro _ _ _ ⟨rfl, rfl, hE1⟩;rename_i L1;rw [hc];have hR1 := hR.ext hE1;have hx0 : At L1 b 7 (.int .u16 (x.r 0)) := hR1.pat hb (bg x (i := 0) (by omega));co_applyP oan rfl;co_applyP aa;co_applyP om rfl rfl rfl (dH (v := .nilIface) (c := true) (hv := .inl ⟨rfl, rfl⟩) (hu := Tryz.underlying168));co_applyP ah;co_applyP ai rfl;co_applyP aD;co_applyP aa;co_applyP om rfl rfl rfl ae;co_applyP oy rfl aJ;co_applyP oy rfl (au (hf := aC));co_applyP oy rfl (au (hf := aS));co_applyP oy rfl (aX U47 aZ);co_applyP oy rfl (aF (ht := cH));co_applyP ocm rfl rfl rfl (g1 K A S Fr L1 b x (x.r 0) (hN _).k hR1 hb wx0);rintro _ _ _ ⟨rfl, rfl, hF2, hs2⟩;rename_i L2;rw [← hk];have hR2 := hR1.of hF2 hs2;co_applyP bT rfl (eV (z := keyv (0, 0)) ((hN _).k _));intro xk L3 hA3;co_applyP oeN rfl (fun hnd => fH (hs := bh) (vs := [.int .i64 k.1, .int .i64 k.2]) (hnd := hnd) (hm := hA3.self) (hi := Nat.le_refl _));rintro _ L4 ⟨rfl, hU4⟩;co_applyP ah;change wpE ..;have hR4 := hR2.fresh (L' := L4) (b := xk) (o := .cells (keyv k).cells 96) ⟨hU4.fn, fun t ht => hU4.ne _ (hA3.sub _ ht) (hA3.new _ ht)⟩ hA3.new hU4.self;have hw4 := hR4.w;rw [cJ] at hw4;have hxk4 := hR4.fr _ List.mem_cons_self;have hRm : ∀ (L : Frag), kb K (kst A S) ∈ L → (xk, true, Obj.cells (keyv k).cells 96) ∈ L → ∀ t ∈ [kb K (kst A S), (xk, true, Obj.cells (keyv k).cells 96)], t ∈ L := fun L h1 h2 t ht => by
   simp only [List.mem_cons, List.mem_nil_iff, or_false] at ht;rcases ht with rfl | rfl
   · exact h1
   · exact h2
 have hkR : At [kb K (kst A S), (xk, true, Obj.cells (keyv k).cells 96)] K 15 (.map (some A.wt)) := ⟨true, _, _, _, List.mem_cons_self, rfl⟩;have hxR : (xk, true, Obj.cells (keyv k).cells 96) ∈ [kb K (kst A S), (xk, true, Obj.cells (keyv k).cells 96)] := by simp
 have hKw : K ≠ A.wt := hR4.fn.ne hR4.k hR4.w (by simp [wobj]);have hxw : xk ≠ A.wt := (hR4.fd _ List.mem_cons_self).2.2.2.2;co_applyP dZ (fun s'' ε'' L'' => s = s'' ∧ kn ε'' [(0, ptr K), (1, ptr b), (2, .int .i64 (use : Nat)), (10, ptr xk)] ∧ ∃ A5, Rep K A5 (S.joinW b k) ((xk, true, Obj.cells (keyv k).cells 96) :: Fr) L'');co_applyP bR (∀ e ∈ S.wt, e.1 ≠ k);intro hn
 · have hkey := iB (i := 0) (dR (A := A) (bs := A.born) hn);co_applyP bi [kb K (kst A S), (xk, true, Obj.cells (keyv k).cells 96)] 6 (nf := 0) aT;co_applyP tr 0 rfl ae (ak (hRm _ hR4.k hxk4));co_applyP tr 1 rfl aJ (ak (hRm _ hR4.k hxk4));co_applyP tr 2 rfl (au (hf := cI)) (ak (hRm _ hR4.k hxk4));co_applyP tr 3 rfl (aF (ht := dN)) (ak (hRm _ hR4.k hxk4));co_applyP tr 5 rfl ae (ak (hRm _ hR4.k hxk4));co_applyP tr 4 rfl (ba (ht := bM) (hs := bh) (hm := hxR) (hi := Nat.le_refl _)) (ak (hRm _ hR4.k hxk4));co_applyP te (i := 6) rfl (ip ((hN _).r _) (hx := rfl) (hu := U91) (hs := bN) (hz := iy));rintro _ _ ⟨nb, hnb, rfl, rfl⟩;refine ⟨ay (hRm _ (List.mem_cons_of_mem _ hR4.k) (List.mem_cons_of_mem _ hxk4)), ?_⟩;have hA5 := dx (o := .cells #[ptr b] 93) hR4.fn hnb;have hR5 := hR4.add hA5;co_applyP a0;intro hnd;co_applyP te (i := 7) rfl (AT (k := k) (hnd := hnd) eO Tryz.underlying110 iC (hm := hA5.sub _ hw4) (hl := hkey));rintro _ _ ⟨rfl, hU6⟩;refine ⟨ay (hRm _ (hU6.ne _ hR5.k hKw) (hU6.ne _ (hA5.sub _ hxk4) hxw)), ?_⟩;rename_i L6;co_applyP tr 8 rfl (bW) (ay (hRm _ (hU6.ne _ hR5.k hKw) (hU6.ne _ (hA5.sub _ hxk4) hxw)));co_applyP tr 10 rfl (bW) (ay (hRm _ (hU6.ne _ hR5.k hKw) (hU6.ne _ (hA5.sub _ hxk4) hxw)));co_applyP a0;intro hnd6;have hnbw : nb ≠ A.wt := fun e => hnb _ hw4 e.symm;co_applyP te (i := 9) rfl (qv (a := ⟨none, []⟩) (xs := []) (c := b) (hnd := hnd6) (hN := (hN _).r) (ha := ⟨rfl, rfl⟩) (h8 := by simp) (hnb := hU6.ne _ hA5.self hnbw));rintro _ _ ⟨a', rfl, hp⟩;refine ⟨ay (hRm _ (hp.sub _ (hU6.ne _ hR5.k hKw) (by simp)) (hp.sub _ (hU6.ne _ (hA5.sub _ hxk4) hxw) (by simp))), ?_⟩;rename_i L7;co_applyP a0;intro hnd7;co_applyP te (i := 11) rfl (AU (l1 := entsOf A S.wt A.born) (l2 := []) (k := k) (v0 := .slice none 0 0) (c := A.clock) (hnd := hnd7) (hm := hp.sub _ hU6.self (by simp)) (hc := fun e he => Nat.ne_of_lt (hR4.bc _ (jq he))));rintro _ _ ⟨rfl, hU8⟩;refine ⟨ay (hRm _ (hU8.ne _ (hp.sub _ (hU6.ne _ hR5.k hKw) (by simp)) hKw) (hU8.ne _ (hp.sub _ (hU6.ne _ (hA5.sub _ hxk4) hxw) (by simp)) hxw)), ?_⟩;co_applyP td (by kernel_rfl);change _ = _ ∧ kn _ _ ∧ ∃ A5, _;exact ⟨rfl, rfl, _, hR5.joinW0 hI hke hn hU6 hp hU8⟩
 intro hn;have hk' : k ∈ S.wt.map (·.1) := Decidable.byContradiction fun hn' => hn fun e he e1 => hn' (List.mem_map.2 ⟨e, he, e1⟩);obtain ⟨l1, xs, l2, hwt, hl1, hl2⟩ := cK hI.kn hk';have hin : (k, xs) ∈ S.wt := by rw [hwt]; simp
 obtain ⟨b1, c0, b2, hborn, hbl⟩ : ∃ b1 c0 b2, A.born = b1 ++ c0 :: b2 ∧ l1.length = b1.length := by
   have hl := hR4.wl;rw [hwt] at hl;simp at hl;refine ⟨A.born.take l1.length, A.born[l1.length]'(by omega), A.born.drop (l1.length + 1), by simp, by simp; omega⟩
 have hents : entsOf A S.wt A.born = entsOf A l1 b1 ++ (k, slv (A.a (slot k)) xs.length, c0) :: entsOf A l2 b2 := by
   rw [hwt, hborn, cx A hbl]; rfl
 have hlkr := kC hR4.wl hwt hl1;have hat : (entsOf A S.wt A.born)[l1.length]? = some (k, slv (A.a (slot k)) xs.length, c0) := by
   rw [hents, ← dQ A hbl]; simp
 have hc0 : ∀ e ∈ entsOf A l1 b1, e.2.2 ≠ c0 := fun e he => by
   have h1 := jq he;have h2 := hR4.bn;rw [hborn] at h2;exact (List.nodup_append.1 h2).2.2 _ h1 c0 (by simp)
 have hrw : ∀ {c : Nat} {fl : Bool} {o : Obj}, (c, fl, o) ∈ L4 → (∀ c', o ≠ Obj.cells c' 93) → (A.a (slot k)).b ≠ some c := fun hm ho hc => by
   obtain ⟨ys, hy⟩ := hR4.al _ _ hc;exact ho _ (hR4.fn _ _ _ _ _ hm hy).2
 have hrK := hrw hR4.k fun c => aE (by decide);have hrx := hrw hxk4 fun c => aE (by decide);have hrW := hrw hw4 fun c => by simp [mapO]
 co_applyP bi [kb K (kst A S), (xk, true, Obj.cells (keyv k).cells 96)] 6 (nf := 0) aT;co_applyP tr 0 rfl ae (ak (hRm _ hR4.k hxk4));co_applyP tr 1 rfl aJ (ak (hRm _ hR4.k hxk4));co_applyP tr 2 rfl (au (hf := cI)) (ak (hRm _ hR4.k hxk4));co_applyP tr 3 rfl (aF (ht := dN)) (ak (hRm _ hR4.k hxk4));co_applyP tr 5 rfl ae (ak (hRm _ hR4.k hxk4));co_applyP tr 4 rfl (ba (ht := bM) (hs := bh) (hm := hxR) (hi := Nat.le_refl _)) (ak (hRm _ hR4.k hxk4));co_applyP te (i := 6) rfl (ip ((hN _).r _) (hx := rfl) (hu := U91) (hs := bN) (hz := iy));rintro _ _ ⟨nb, hnb, rfl, rfl⟩;refine ⟨ay (hRm _ (List.mem_cons_of_mem _ hR4.k) (List.mem_cons_of_mem _ hxk4)), ?_⟩;have hA5 := dx (o := .cells #[ptr b] 93) hR4.fn hnb;have hR5 := hR4.add hA5;co_applyP a0;intro hnd;co_applyP te (i := 7) rfl (AS (k := k) (hnd := hnd) eO Tryz.underlying110 (hm := hA5.sub _ hw4) (hl := hlkr) (hc := hat));rintro _ _ ⟨rfl, hU6⟩;refine ⟨ay (hRm _ (hU6.ne _ hR5.k hKw) (hU6.ne _ (hA5.sub _ hxk4) hxw)), ?_⟩;rename_i L6;have hE6 := upd_same hR5.fn (hA5.sub _ hw4) hU6;have hR6 := hR5.ext hE6;co_applyP tr 8 rfl (bW) (ay (hRm _ (hU6.ne _ hR5.k hKw) (hU6.ne _ (hA5.sub _ hxk4) hxw)));co_applyP tr 10 rfl (bW) (ay (hRm _ (hU6.ne _ hR5.k hKw) (hU6.ne _ (hA5.sub _ hxk4) hxw)));co_applyP a0;intro hnd6;have hx8 := hI.w.rl _ hin;co_applyP te (i := 9) rfl (qv (a := A.a (slot k)) (xs := xs) (c := b) (hnd := hnd6) (hN := (hN _).r) (ha := hR6.wa _ hin) (h8 := by simp at hx8; omega) (hnb := hE6.s _ hA5.self));rintro _ _ ⟨a', rfl, hp⟩;refine ⟨ay (hRm _ (hp.sub _ hR6.k hrK) (hp.sub _ (hE6.s _ (hA5.sub _ hxk4)) hrx)), ?_⟩;rename_i L7;co_applyP a0;intro hnd7;co_applyP te (i := 11) rfl (AU (l1 := entsOf A l1 b1) (l2 := entsOf A l2 b2) (k := k) (v0 := slv (A.a (slot k)) xs.length) (c := c0) (hnd := hnd7) (hm := by rw [← hents]; exact hp.sub _ hU6.self hrW) (hc := hc0));rintro _ _ ⟨rfl, hU8⟩;refine ⟨ay (hRm _ (hU8.ne _ (hp.sub _ hR6.k hrK) hKw) (hU8.ne _ (hp.sub _ (hE6.s _ (hA5.sub _ hxk4)) hrx) hxw)), ?_⟩;co_applyP td (by kernel_rfl);change _ = _ ∧ kn _ _ ∧ ∃ A5, _;exact ⟨rfl, rfl, _, hR6.joinW1 hI hwt hl1 hl2 hborn hbl hp hU8⟩;rintro _ ε5 L5 ⟨rfl, he5, A5, hR5⟩;co_applyP aV he5;have h05 : At L5 xk 0 (.int .i64 (k.1 : Nat)) := ⟨true, _, _, _, hR5.fr _ List.mem_cons_self, rfl⟩;co_applyP aa;co_applyP om rfl rfl rfl (au (hf := dU));co_applyP oy rfl (aF (ht := aY));co_applyP oc rfl rfl rfl (g2 K A5 _ _ L5 eb k.1 hN hR5 (hE.mono fun t ht => List.mem_cons_of_mem _ ht) hIj);rintro _ _ _ ⟨rfl, rfl, A6, hR6⟩;co_applyP ah;change wpE ..;rename_i L6;generalize hS2 : (S.joinW b k).look k.1 = S2 at *;obtain ⟨z, hz⟩ : ∃ z, (b, z) ∈ S2.ps := by
   have : b ∈ S2.ps.map (·.1) := by rw [hlk.f]; exact hbn
   obtain ⟨q, hq, rfl⟩ := List.mem_map.1 this;exact ⟨q.2, hq⟩
 have hlv := hlk.i.g.lv _ hz;have hget := bl hlk.i.g.pn hz;have hw6 := hR6.w;rw [cJ] at hw6;have hxk6 := hR6.fr _ List.mem_cons_self;have hk6 : At L6 K 15 (.map (some A6.wt)) := hR6.kat rfl;co_applyP dZ (fun s'' ε'' L'' => s = s'' ∧ kn ε'' [] ∧ ∃ A7, Rep K A7 (if b ∈ S2.rowAt k then (match S2.get b with | some z => S2.stop1 b z use | none => S2) else S2) Fr L'');co_applyP bR (∀ e ∈ S2.wt, e.1 ≠ k);intro hn
 · have hkey := iB (i := 0) (dR (A := A6) (bs := A6.born) hn);co_applyP aq;co_applyP bi [] 7 aT;co_applyP tr 0 rfl ae pN;co_applyP tr 1 rfl aJ pN;co_applyP tr 2 rfl (au (hf := cI)) pN;co_applyP t0 3 rfl (aF (ht := dN)) pN;co_applyP tr 6 rfl ae pN;co_applyP t0 4 rfl (ba (ht := bM) (hs := bh) (hm := hxk6) (hi := Nat.le_refl _)) pN;co_applyP t0 5 rfl (nN (k := k) eO Tryz.underlying110 iC hw6) pN;rw [hkey];co_applyP tc 7 rfl rfl rfl (g3 L6 ⟨none, []⟩ [] b (by simp) ⟨rfl, rfl⟩ (fun c hc => by simp at hc) ⟨z, hR6.p _ hz⟩);rintro _ _ _ ⟨rfl, rfl, rfl⟩;refine ⟨ay (by simp), ?_⟩;co_applyP td (by kernel_rfl);change wpE ..;rw [show decide (b ∈ ([] : List Nat)) = false by simp];co_applyP ai rfl;co_applyP aD;change _ = _ ∧ kn _ _ ∧ ∃ A7, _;exact ⟨rfl, rfl, A6, by rw [gV hn, if_neg (by simp)]; exact hR6.less fun t ht => List.mem_cons_of_mem _ ht⟩
 intro hn;have hk' : k ∈ S2.wt.map (·.1) := Decidable.byContradiction fun hn' => hn fun e he e1 => hn' (List.mem_map.2 ⟨e, he, e1⟩);obtain ⟨l1, xs, l2, hwt, hl1, hl2⟩ := cK hlk.i.kn hk';have hin : (k, xs) ∈ S2.wt := by rw [hwt]; simp
 have hlkr := kC hR6.wl hwt hl1;have hra := dg hlk.i.kn hin;co_applyP aq;co_applyP bi [] 7 aT;co_applyP tr 0 rfl ae pN;co_applyP tr 1 rfl aJ pN;co_applyP tr 2 rfl (au (hf := cI)) pN;co_applyP t0 3 rfl (aF (ht := dN)) pN;co_applyP tr 6 rfl ae pN;co_applyP t0 4 rfl (ba (ht := bM) (hs := bh) (hm := hxk6) (hi := Nat.le_refl _)) pN;co_applyP t0 5 rfl (nN (k := k) eO Tryz.underlying110 iC hw6) pN;rw [hlkr];co_applyP tc 7 rfl rfl rfl (g3 L6 (A6.a (slot k)) xs b (hlk.i.w.rl _ hin) (hR6.wa _ hin) (fun c hc => by obtain ⟨y, hy⟩ := hlk.i.w.rm _ hin c hc; exact ⟨y, hR6.p _ hy⟩) ⟨z, hR6.p _ hz⟩);rintro _ _ _ ⟨rfl, rfl, rfl⟩;refine ⟨ay (by simp), ?_⟩;co_applyP td (by kernel_rfl);co_applyP bk rfl;intro hm;co_applyP ax;co_applyP om rfl rfl rfl ae;co_applyP oy rfl ae
 · have hm' : b ∈ xs := by simpa using hm
   co_applyP oc rfl rfl rfl (g4 K A6 S2 _ L6 b z use hR6 hz hlv (hlk.i.g.r8 hlv) (hlk.i.g.ex hlv) (fun e he => cT e.1 hlv));rintro _ _ _ ⟨rfl, rfl, A7, hw7, hR7⟩;co_applyP ah;change _ = _ ∧ kn _ _ ∧ ∃ A7, _;exact ⟨rfl, rfl, A7, by rw [hra, if_pos hm', hget]; exact hR7.less fun t ht => List.mem_cons_of_mem _ ht⟩
 intro hm;co_applyP aD;change _ = _ ∧ kn _ _ ∧ ∃ A7, _;have hm' : ¬ b ∈ xs := by simpa using hm
 exact ⟨rfl, rfl, A6, by rw [hra, if_neg hm']; exact hR6.less fun t ht => List.mem_cons_of_mem _ ht⟩;rintro _ ε7 L7 ⟨rfl, he7, A7, hR7⟩;co_applyP aV he7;co_applyP aa;co_applyP oan rfl;co_applyP aK;change ∃ v, resE .. = some v ∧ _;exact ⟨_, rfl, rfl, rfl, A7, hR7⟩
theorem fS {x : PS} {use most : Nat} (h : x.checkUse use most = none) : (x.file (x.r 0)).2 = use ∧ x.r 2 ≤ most ∧ x.r 1 + x.r 2 ≤ 64 := by
 unfold PS.checkUse at h
 split at h
 · cases h
 · rename_i h1
   split at h
   · cases h
   · rename_i h2
     split at h
     · cases h
     · rename_i h3;exact ⟨by omega, by omega, by omega⟩
theorem Inv.file_ok {S : St} {b : Nat} {x : PS} (h : Inv S) (hb : (b, x) ∈ S.ps) (n : Int) : x.file n = (0, 0) ∨ okEnd (x.file n) := by
 unfold PS.file
 split
 · by_cases h0 : n < 0
   · have : n.toNat = 0 := by omega
     rw [this]; exact h.fl _ hb 0 (by omega)
   · exact h.fl _ hb _ (by omega)
 · exact .inl rfl
theorem yu : ∃ n, ∀ {σ} {F : Fam σ} {Δ : DM F} {main s} (K : Nat) (A : Lay) (S : St) (Fr L : Frag) (eb : Nat → Nat × Nat) (b : Nat) (x : PS) (use most : Nat), (∀ s, NewK (Δ s)) → Rep K A S Fr L → Ers eb Fr → Inv S → (b, x) ∈ S.ps → S.out b → x.st = 1 → use = 4 ∨ use = 5 → (use = 5 → most ≤ 8) →
   CallsL Δ Tryz.prog main 138 [ptr K, ptr b, .int .i64 (use : Nat), .int .i64 (most : Nat)].toArray n s L (fun s' v L' => s = s' ∧ v = erV eb (S.askR b x use most).1 ∧ ∃ A', Rep K A' (S.askR b x use most).2 Fr L') := by
 obtain ⟨n0, g0⟩ := AV;obtain ⟨n1, g1⟩ := AW;refine ⟨n0 + n1, fun {σ F Δ main s} K A S Fr L eb b x use most hN hR hE hI hb ho hst hu hm => aM (x.checkUse use most ≠ none) (fun h => ?_) fun h => ?_⟩
 · cases hc : x.checkUse use most with
   | none => exact absurd hc h
   | some i =>
     have e : S.askR b x use most = (some i, S) := by unfold St.askR; rw [hc]
     rw [e];exact aO (g0 K A S Fr L eb b x use most i (hN _).k hR hE hI hb hc) fun s' v L' ⟨h1, h2, h3⟩ => ⟨h1, h2, A, h3⟩
 · have hc : x.checkUse use most = none := Decidable.byContradiction h;obtain ⟨c1, c2, c3⟩ := fS hc;have hk : okEnd (x.file (x.r 0)) := (hI.file_ok hb _).resolve_left fun e => by rw [e] at c1; simp only at c1; omega
   have e : S.askR b x use most = (none, if b ∈ ((S.joinW b (x.file (x.r 0))).look (x.file (x.r 0)).1).rowAt (x.file (x.r 0)) then (match ((S.joinW b (x.file (x.r 0))).look (x.file (x.r 0)).1).get b with
     | some z => ((S.joinW b (x.file (x.r 0))).look (x.file (x.r 0)).1).stop1 b z use
     | none => ((S.joinW b (x.file (x.r 0))).look (x.file (x.r 0)).1)) else ((S.joinW b (x.file (x.r 0))).look (x.file (x.r 0)).1)) := by unfold St.askR; rw [hc] <;> rfl
   rw [e];exact g1 K A S Fr L eb b x use most _ hN hR hE hI hb ho hc rfl hk ⟨rfl, c3, fun h5 => by rw [h5] at c1; have := hm c1.symm; omega, .inl hst⟩
theorem pB : zeroAt Tryz.prog 3 = some (.int .i64 0) := by kernel_rfl
theorem AX : bytesAt Tryz.prog 3 = some 8 := by kernel_rfl
structure ApI (L : Frag) (a : Sl) (zs : List Value) (a' : Sl) (L' : Frag) : Prop where
 ok : slOk a' zs 3 L'
 fn : Fun L'
 sub : ∀ t ∈ L, a.b ≠ some t.1 → t ∈ L'
 d : ∀ b, a'.b = some b → a.b = some b ∨ ∀ t ∈ L, t.1 ≠ b
section
variable {New : Obj → Prop} {N : Nat} {ε : Env} {L : Frag} {d : Option Tmp} {ty : TypeId} {ps : String} {af : Array Edge} {g : Option (Nat × Bool)} {x y : Operand}
theorem xo {a : Sl} {xs : List Value} (ha : slOk a xs 3 L) : Reads Tryz.prog L 1 xs.length (slv a xs.length) xs.toArray := by
 cases hab : a.b with
 | none =>
   unfold slOk at ha;rw [hab] at ha;obtain rfl : xs = [] := ha.1;have e3 : slv a 0 = .slice none 0 0 := by unfold slv; rw [hab]
   show Reads Tryz.prog L 1 0 (slv a 0) #[];rw [e3]; exact dM
 | some b =>
   have hm := ha.mem hab;have e3 : slv a xs.length = .slice (some ⟨b, 0, none⟩) xs.length (xs.length + a.junk.length) := by unfold slv; rw [hab]
   rw [e3];have := cB (P := Tryz.prog) (sz := 1) (n := xs.length) (len := xs.length) (cap := xs.length + a.junk.length) (o := 0) hm (by simp);have e7 : (xs ++ a.junk).take xs.length = xs := by rw [List.take_append_of_le_length (by simp)]; exact List.take_of_length_le (by simp)
   simpa [e7] using this
theorem AY {a : Sl} {xs ys : List Value} {yb : Option Addr} {yc : Nat} (hx : ev ε x = some (slv a xs.length) := by rfl) (hy : ev ε y = some (.slice yb ys.length yc) := by rfl) (hnd : (L.map (·.1)).Nodup) (hN : ∀ cs, New (.cells cs 3)) (ha : slOk a xs 3 L) (hr : Reads Tryz.prog L 1 ys.length (.slice yb ys.length yc) ys.toArray) (hpl : ys.all plainV = true) (h8 : xs.length ≤ 1000) (h8' : ys.length ≤ 1000) :
   EO Tryz.prog New N ε L ⟨d, .call ⟨.builtin .append, #[x, y], #[54, 54]⟩, ty, ps, af, g⟩ (fun r L' => ∃ a', r = slv a' (xs ++ ys).length ∧ ApI L a (xs ++ ys) a' L') := by
 have hws := xo ha
 have grow : ∀ (cap0 : Nat), (∃ base, slv a xs.length = .slice base xs.length cap0) → cap0 < xs.length + ys.length →
     EO Tryz.prog New N ε L ⟨d, .call ⟨.builtin .append, #[x, y], #[54, 54]⟩, ty, ps, af, g⟩ (fun r L' => ∃ a', r = slv a' (xs ++ ys).length ∧ ApI L a (xs ++ ys) a' L') := by
   rintro cap0 ⟨base, hb⟩ hc;rw [hb] at hws hx;intro ac hac;refine bV ?_ _ _ (lq (by_ := 7) (New := New) hx hy (bF hnd) U54 U54 de AX pB hws hr hc (by omega) hN ac hac);intro r L' q;cases r <;> try exact q.elim
   · obtain ⟨b, cap, h1, h2, rfl, hA⟩ := q;rw [eN rfl] at hA;refine ⟨⟨some b, List.replicate (cap - (xs.length + ys.length)) (.int .i64 0)⟩, ?_, ?_, hA.fn, fun t ht _ => hA.sub t ht, fun b' hb' => .inr ?_⟩
     · unfold slv; simp; omega
     · have e5 : xs.toArray ++ ys.toArray ++ (List.replicate (cap - (xs.length + ys.length)) (Value.int .i64 0)).toArray = ((xs ++ ys) ++ List.replicate (cap - (xs.length + ys.length)) (Value.int .i64 0)).toArray := by
         apply Array.ext'; simp
       rw [e5] at hA;exact hA.self
     · obtain rfl : b = b' := by simpa using hb'
       exact hA.new
   · obtain ⟨b, cap, _, _, e, _⟩ := q; cases e
 cases hab : a.b with
 | none =>
   have h2 := ha;unfold slOk at h2;rw [hab] at h2;obtain ⟨e1, e2⟩ := h2;obtain rfl : xs = [] := e1;have e3 : slv a 0 = .slice none 0 0 := by unfold slv; rw [hab]
   by_cases h0 : 0 < ys.length
   · exact grow 0 ⟨none, e3⟩ (by simpa using h0)
   · obtain rfl : ys = [] := List.length_eq_zero_iff.1 (by omega);intro ac hac;rw [List.length_nil, e3] at hx;refine bV ?_ _ _ (pr (New := New) hx hy U54 U54 de hr ac hac);intro r L' q;cases r <;> try exact q.elim
     · obtain ⟨rfl, rfl⟩ := q;exact ⟨a, e3.symm, ha, bF hnd, fun t ht _ => ht, fun b hb => by rw [hab] at hb; cases hb⟩
     · exact absurd q.1 (by simp [undef])
 | some b =>
   have hm := ha.mem hab;have e3 : slv a xs.length = .slice (some ⟨b, 0, none⟩) xs.length (xs.length + a.junk.length) := by unfold slv; rw [hab]
   by_cases hj : ys.length ≤ a.junk.length
   · intro ac hac;rw [e3] at hx;refine bV ?_ _ _ (jY (New := New) hx hy hnd U54 U54 de hr (by omega) hm (by simp; omega) (by simpa using hpl) ac hac);intro r L' q;cases r <;> try exact q.elim
     · obtain ⟨rfl, hU⟩ := q;have e4 : puts (xs ++ a.junk).toArray (0 + xs.length * 1) ys.toArray.toList = ((xs ++ ys) ++ a.junk.drop ys.length).toArray := by
         rw [co _ _ _ (by simp; omega)];have e6 : (xs ++ a.junk).drop (xs.length + ys.length) = a.junk.drop ys.length := by
           rw [List.drop_append]; simp
         have e7 : (xs ++ a.junk).take xs.length = xs := by rw [List.take_append_of_le_length (by simp)]; exact List.take_of_length_le (by simp)
         simp [e6, e7]
       rw [e4] at hU;refine ⟨⟨some b, a.junk.drop ys.length⟩, ?_, hU.self, hU.fn, fun t ht hne => hU.ne t ht fun e => hne (by rw [hab, e]), fun b' hb' => .inl (by rw [hab]; exact hb')⟩;unfold slv; simp; omega
     · exact absurd q.1 (by simp [undef])
   · exact grow (xs.length + a.junk.length) ⟨_, e3⟩ (by omega)
end
def St.shutAt (S : St) (p : Nat) : Bool := !S.isOpen (p, 4) && !S.isOpen (p, 5)
def St.unused (S : St) : Nat := match (List.range' 1 4).find? S.shutAt with
 | some p => p
 | none => 0
theorem r6 {S : St} {i : Nat} (h1 : 1 ≤ i) (h5 : i < 5) (hn : ∀ j, 1 ≤ j → j < i → S.shutAt j = false) (hi : S.shutAt i = true) : S.unused = i := by
 unfold St.unused;have e : (List.range' 1 4).find? S.shutAt = some i := by
   show [1, 2, 3, 4].find? S.shutAt = some i;have : i = 1 ∨ i = 2 ∨ i = 3 ∨ i = 4 := by omega
   rcases this with rfl | rfl | rfl | rfl
   · simp [List.find?_cons, hi]
   · simp [List.find?_cons, hi, hn 1 (by omega) (by omega)]
   · simp [List.find?_cons, hi, hn 1 (by omega) (by omega), hn 2 (by omega) (by omega)]
   · simp [List.find?_cons, hi, hn 1 (by omega) (by omega), hn 2 (by omega) (by omega), hn 3 (by omega) (by omega)]
 rw [e]
theorem nS {S : St} (hn : ∀ j, 1 ≤ j → j < 5 → S.shutAt j = false) : S.unused = 0 := by
 unfold St.unused;have e : (List.range' 1 4).find? S.shutAt = none := by
   show [1, 2, 3, 4].find? S.shutAt = none;simp [List.find?_cons, hn 1 (by omega) (by omega), hn 2 (by omega) (by omega), hn 3 (by omega) (by omega), hn 4 (by omega) (by omega)]
 rw [e]
theorem lz (S : St) : S.unused < 5 := by
 unfold St.unused
 split
 · rename_i p h;have := List.mem_of_find?_eq_some h;simp [List.mem_range'] at this;omega
 · omega
theorem kG : ∃ n, ∀ {σ} {F : Fam σ} {Δ : DM F} {main s} (K : Nat) (A : Lay) (S : St) (Fr L : Frag), (∀ s cs, (Δ s).New (.cells cs 96)) → Rep K A S Fr L →
   CallsL Δ Tryz.prog main 150 [ptr K].toArray n s L (fun s' v L' => s = s' ∧ v = .int .i64 (S.unused : Nat) ∧ Ext L L') := by
 obtain ⟨n1, g1⟩ := iD;apply Exists.intro;intro σ F Δ main s K A S Fr L hN hR;co_applyP aB 21 Tryz.func150 Tryz.ntmps150;co_applyP aa;co_applyP oan rfl;co_applyP aq;co_applyP aa;co_applyP oan rfl;co_applyP aI;co_applyP bK (fun c s' ε' L' => s' = s ∧ Ext L L' ∧ ∃ i : Nat, 1 ≤ i ∧ i ≤ 5 ∧ c + i = 5 ∧ (∀ j, 1 ≤ j → j < i → S.shutAt j = false) ∧ kn ε' [(0, ptr K), (3, .int .i64 (i : Nat))]) 4
 · exact ⟨rfl, ⟨hR.fn, fun _ h => h⟩, 1, by omega, by omega, rfl, fun j h1 h2 => by omega, rfl⟩
 rintro c s' ε' L' ⟨rfl, hE, i, hi1, hi5, hc, hn, he⟩;co_applyP aV he;have hR' := hR.ext hE;have ei : IntKind.i64.wrap ((i : Int) + 1) = ((i + 1 : Nat) : Int) := by simp [IntKind.wrap_i64]; omega
 co_applyP aq;co_applyP aa;co_applyP om rfl rfl rfl nu;co_applyP ah;co_applyP bk rfl;intro hlt
 · have hi4 : i < 5 := by simp at hlt; omega
   co_applyP aD;co_applyP dZ (fun s'' ε'' L'' => s' = s'' ∧ kn ε'' [(0, ptr K), (3, .int .i64 (i : Nat))] ∧ Ext L L'' ∧ S.shutAt i = false);co_applyP bR (S.isOpen (i, 4) = true);intro h4
   · skip
     co_applyP aI;co_applyP aa;co_applyP om rfl rfl rfl ae;co_applyP oy rfl (bt (dC _ _));co_applyP oc rfl rfl rfl (g1 K A S Fr L' (i, 4) (hN _) hR');rintro _ _ _ ⟨rfl, rfl, hE1⟩;co_applyP oy rfl cN;co_applyP oy rfl ae;rw [h4];co_applyP ou rfl;co_applyP ou rfl;co_applyP ou rfl;co_applyP ou rfl;co_applyP ou rfl;co_applyP oy rfl aP;co_applyP ah;co_applyP ai rfl;co_applyP aD;change _ = _ ∧ kn _ _ ∧ _ ∧ _;exact ⟨rfl, rfl, hE.trans hE1, by unfold St.shutAt; rw [h4]; rfl⟩
   intro h4;have h4' : S.isOpen (i, 4) = false := by simpa using h4
   co_applyP bR (S.isOpen (i, 5) = true);intro h5
   · skip
     co_applyP aI;co_applyP aa;co_applyP om rfl rfl rfl ae;co_applyP oy rfl (bt (dC _ _));co_applyP oc rfl rfl rfl (g1 K A S Fr L' (i, 4) (hN _) hR');rintro _ _ _ ⟨rfl, rfl, hE1⟩;co_applyP oy rfl cN;co_applyP oy rfl ae;rename_i L1;rw [h4'];co_applyP om rfl rfl rfl (ae);co_applyP oy rfl (bt (dC _ _));co_applyP oc rfl rfl rfl (g1 K A S Fr L1 (i, 5) (hN _) (hR'.ext hE1));rintro _ _ _ ⟨rfl, rfl, hE2⟩;rw [h5];co_applyP oy rfl (cN);co_applyP oy rfl aP;co_applyP ah;co_applyP ai rfl;co_applyP aD;change _ = _ ∧ kn _ _ ∧ _ ∧ _;exact ⟨rfl, rfl, hE.trans (hE1.trans hE2), by unfold St.shutAt; rw [h4', h5]; rfl⟩
   intro h5;have h5' : S.isOpen (i, 5) = false := by simpa using h5
   co_applyP aI;co_applyP aa;co_applyP om rfl rfl rfl ae;co_applyP oy rfl (bt (dC _ _));co_applyP oc rfl rfl rfl (g1 K A S Fr L' (i, 4) (hN _) hR');rintro _ _ _ ⟨rfl, rfl, hE1⟩;co_applyP oy rfl cN;co_applyP oy rfl ae;rename_i L1;rw [h4'];co_applyP om rfl rfl rfl (ae);co_applyP oy rfl (bt (dC _ _));co_applyP oc rfl rfl rfl (g1 K A S Fr L1 (i, 5) (hN _) (hR'.ext hE1));rintro _ _ _ ⟨rfl, rfl, hE2⟩;rw [h5'];co_applyP oy rfl (cN);co_applyP oy rfl aP;co_applyP ah;co_applyP aQ rfl;co_applyP aa;co_applyP oy rfl ae;co_applyP oan rfl;co_applyP aK;change ∃ v, resE .. = some v ∧ _;exact ⟨_, rfl, rfl, by rw [r6 hi1 hi4 hn (by unfold St.shutAt; rw [h4', h5']; rfl)], hE.trans (hE1.trans hE2)⟩;rintro s'' ε'' L'' ⟨rfl, he2, hE2, hsh⟩;co_applyP aV he2;co_applyP ax;co_applyP om rfl rfl rfl aR;co_applyP oan rfl;change ∃ k', k' < _ ∧ _;refine ⟨c - 1, by omega, rfl, hE2, i + 1, by omega, by omega, by omega, fun j h1 h2 => ?_, by rw [← ei]; rfl⟩;by_cases e : j = i
   · rw [e]; exact hsh
   · exact hn j h1 (by omega)
 intro hlt;co_applyP bS;co_applyP aa;co_applyP oan rfl;co_applyP aK;change ∃ v, resE .. = some v ∧ _;have hi5' : i = 5 := by simp at hlt; omega
 subst hi5';exact ⟨_, rfl, rfl, by rw [nS hn]; rfl, hE⟩
structure NewT {R : World → World → Prop} {D : World → World → Array Event → Prop} (Δ : Dom R D) : Prop extends NewK Δ where
 n : ∀ cs, Δ.New (.cells cs 3)
abbrev nums (l : List Nat) : List Value := l.map fun (i : Nat) => Value.int .i64 (i : Nat)
def PS.frees (x : PS) (n : Nat) : List Nat := (List.range n).filter fun i => decide (x.f i = (0, 0))
theorem xp {x : PS} {i : Nat} (h : x.f i = (0, 0)) : x.frees (i + 1) = x.frees i ++ [i] := by
 unfold PS.frees; rw [List.range_succ, List.filter_append]; simp [h]
theorem qH {x : PS} {i : Nat} (h : ¬ x.f i = (0, 0)) : x.frees (i + 1) = x.frees i := by
 unfold PS.frees; rw [List.range_succ, List.filter_append]; simp [h]
theorem r7 (x : PS) (n : Nat) : (x.frees n).length ≤ n := by
 unfold PS.frees;have := List.length_filter_le (fun i => decide (x.f i = (0, 0))) (List.range n);simpa using this
theorem pC : ∃ n, ∀ {σ} {F : Fam σ} {Δ : DM F} {main s} (L : Frag) (b : Nat) (x : PS), (∀ s, NewT (Δ s)) → Fun L → pb b x ∈ L →
   CallsL Δ Tryz.prog main 151 [ptr b].toArray n s L (fun s' v L' => s = s' ∧ ∃ a, v = slv a (nums (x.frees 6)).length ∧ slOk a (nums (x.frees 6)) 3 L' ∧ (∀ t ∈ L, a.b ≠ some t.1) ∧ Ext L L') := by
 obtain ⟨n1, g1⟩ := iF;apply Exists.intro;intro σ F Δ main s L b x hN hF hb;co_applyP aB 22 Tryz.func151 Tryz.ntmps151;co_applyP aa;co_applyP oan rfl;co_applyP aa;co_applyP oan rfl;co_applyP aq;co_applyP aa;co_applyP om rfl rfl rfl aJ;co_applyP oy rfl (au (hf := eg));co_applyP oy rfl (ba (ht := tS) (hs := tR) (hm := hb) (hi := by rw [bf]; omega));co_applyP oy rfl ae;co_applyP ah;co_applyP aI;rw [show (0 + 79 : Nat) = 79 from rfl, show (79 + 12 : Nat) = 91 from rfl, gW];co_applyP bK (fun c s' ε' L' => s' = s ∧ Ext L L' ∧ ∃ i a, i ≤ 6 ∧ c + i = 6 ∧ slOk a (nums (x.frees i)) 3 L' ∧ (∀ t ∈ L, a.b ≠ some t.1) ∧ kn ε' [(0, ptr b), (9, filesv x.f), (10, .int .i64 (i : Nat)), (3, slv a (nums (x.frees i)).length)]) 6
 · exact ⟨rfl, ⟨hF, fun _ h => h⟩, 0, ⟨none, []⟩, by omega, rfl, ⟨rfl, rfl⟩, fun t ht => by simp, rfl⟩
 rintro c s' ε' L' ⟨rfl, hE, i, a, hi, hc, ha, han, he⟩;co_applyP aV he;have ei : IntKind.i64.wrap ((i : Int) + 1) = ((i + 1 : Nat) : Int) := by simp [IntKind.wrap_i64]; omega
 have hfl := r7 x i;co_applyP aa;co_applyP oy rfl cF;co_applyP ah;co_applyP aq;co_applyP bk rfl;intro hlt
 · have hi6 : i < 6 := by simp at hlt; omega
   co_applyP aD;co_applyP dZ (fun s'' ε'' L'' => s' = s'' ∧ Ext L L'' ∧ ∃ a', slOk a' (nums (x.frees (i + 1))) 3 L'' ∧ (∀ t ∈ L, a'.b ≠ some t.1) ∧ kn ε'' [(0, ptr b), (9, filesv x.f), (10, .int .i64 (i : Nat)), (3, slv a' (nums (x.frees (i + 1))).length)]);co_applyP aI;co_applyP aa;co_applyP om rfl rfl rfl (qE (yt x.f hi6));co_applyP bT rfl (eV (z := keyv (0, 0)) ((hN _).k _));intro nb L1 hA1;co_applyP oy rfl bL;co_applyP oeN rfl (fun hnd => fH (hs := bh) (vs := [.int .i64 (x.f i).1, .int .i64 (x.f i).2]) (hnd := hnd) (hm := hA1.self) (hi := Nat.le_refl _));rintro _ L2 ⟨rfl, hU2⟩;co_applyP ah;co_applyP aa;have hE2 : Ext L' L2 := ⟨hU2.fn, fun t ht => hU2.ne _ (hA1.sub _ ht) (hA1.new _ ht)⟩;co_applyP oy rfl (ba (ht := bM) (hs := bh) (hm := hU2.self) (hi := Nat.le_refl _));co_applyP oc rfl rfl rfl (g1 L2 (x.f i) (hN _).k);rintro _ _ _ ⟨rfl, rfl, hE3⟩;co_applyP ah;change wpE ..;rename_i L3;have hE3' := hE2.trans hE3;have ha3 := ha.mono fun c hc o ho => hE3'.s _ ho;co_applyP bk rfl;intro hz;co_applyP ax;co_applyP om rfl rfl rfl ae
   · have hz' : x.f i = (0, 0) := by simpa using hz
     co_applyP bT rfl (ip ((hN _).n _) (hu := U54) (hs := de) (hz := pB));intro nb4 L4 hA4;have hr : Reads Tryz.prog L4 1 [Value.int .i64 (i : Nat)].length (.slice (some ⟨nb4, 0, none⟩) [Value.int .i64 (i : Nat)].length 1) [Value.int .i64 (i : Nat)].toArray := by
       have := cB (P := Tryz.prog) (sz := 1) (n := 1) (len := 1) (cap := 1) (o := 0) hA4.self (by simp);simpa using this
     co_applyP oeN rfl (fun hnd => AY (a := a) (xs := nums (x.frees i)) (ys := [Value.int .i64 (i : Nat)]) (hnd := hnd) (hN := (hN _).n) (ha := ha3.mono fun c hc o ho => hA4.sub _ ho) (hr := hr) (hpl := rfl) (h8 := by simp; omega) (h8' := by simp));rintro _ L5 ⟨a', rfl, hp⟩;co_applyP oan rfl;change _ = _ ∧ _ ∧ ∃ a', _ ∧ _ ∧ kn _ _;have ef : nums (x.frees (i + 1)) = nums (x.frees i) ++ [Value.int .i64 (i : Nat)] := by rw [xp hz']; simp
     refine ⟨rfl, ⟨hp.fn, fun t ht => hp.sub _ (hA4.sub _ (hE3'.s _ (hE.s _ ht))) (han t ht)⟩, a', by rw [ef]; exact hp.ok, fun t ht e => ?_, by rw [ef]; rfl⟩;rcases hp.d _ e with h | h
     · exact han t ht h
     · exact h _ (hA4.sub _ (hE3'.s _ (hE.s _ ht))) rfl
   intro hz;co_applyP aD;change _ = _ ∧ _ ∧ ∃ a', _ ∧ _ ∧ kn _ _;have hz' : ¬ x.f i = (0, 0) := by simpa using hz
   exact ⟨rfl, hE.trans hE3', a, by rw [qH hz']; exact ha3, han, by rw [qH hz']; rfl⟩;rintro s'' ε'' L'' ⟨rfl, hE4, a', ha', han', he4⟩;co_applyP aV he4;co_applyP ax;co_applyP oy rfl aR;co_applyP oy rfl ae;co_applyP ah;change ∃ k', k' < _ ∧ _;exact ⟨c - 1, by omega, rfl, hE4, i + 1, a', by omega, by omega, ha', han', by rw [← ei]; rfl⟩
 intro hlt;co_applyP bS;co_applyP aa;co_applyP oy rfl ae;co_applyP oan rfl;co_applyP aK;change ∃ v, resE .. = some v ∧ _;have hi6' : i = 6 := by simp at hlt; omega
 subst hi6';exact ⟨_, rfl, rfl, a, rfl, ha, han, hE⟩
def PS.piped (x : PS) (u i j : Nat) : PS := { x with f := put (put x.f i (u, 4)) j (u, 5), r := put (put x.r 0 i) 1 j }
def St.pipeR (S : St) (b : Nat) (x : PS) : Option Nat × St := if S.unused = 0 then (some 4, S) else match x.frees 6 with
 | i :: j :: _ => (none, (S.setY S.unused []).setP b (x.piped S.unused i j))
 | _ => (some 4, S)
theorem zm : ∃ n, ∀ {σ} {F : Fam σ} {Δ : DM F} {main s} (K : Nat) (A : Lay) (S : St) (Fr L : Frag) (eb : Nat → Nat × Nat) (b : Nat) (x : PS), (∀ s, NewT (Δ s)) → Rep K A S Fr L → Ers eb Fr → (b, x) ∈ S.ps → S.unused = 0 →
   CallsL Δ Tryz.prog main 136 [ptr K, ptr b].toArray n s L (fun s' v L' => s = s' ∧ v = erv eb 4 ∧ Rep K A S Fr L') := by
 obtain ⟨n0, g0⟩ := kG;obtain ⟨n1, g1⟩ := pC;apply Exists.intro;intro σ F Δ main s K A S Fr L eb b x hN hR hE hb hu;co_applyP aB 60 Tryz.func136 Tryz.ntmps136;co_applyP aa;co_applyP oan rfl;co_applyP aa;co_applyP oy rfl ae;co_applyP oc rfl rfl rfl (g0 K A S Fr L (fun s => (hN s).k) hR);rintro _ _ _ ⟨rfl, rfl, hE1⟩;co_applyP oy rfl ae;rename_i L1;have hR1 := hR.ext hE1;co_applyP oc rfl rfl rfl (g1 L1 b x hN hE1.f (hR1.p _ hb));rintro _ _ _ ⟨rfl, a, rfl, ha, han, hE2⟩;co_applyP oy rfl bL;co_applyP oan rfl;co_applyP aq (n₂ := 0);co_applyP aq;rename_i L2;have hR2 := hR1.ext hE2;have hg := (hE.mono hR2.fr).g 4 (by decide) (by decide);rw [hu];co_applyP ax;co_applyP om rfl rfl rfl aA;co_applyP oy rfl ae;co_applyP ou rfl;co_applyP ou rfl;co_applyP ou rfl;co_applyP oy rfl aP;co_applyP ah;co_applyP aQ rfl;co_applyP aa;co_applyP oy rfl (aF (ht := ci));co_applyP oan rfl;co_applyP aK;change ∃ v, resE .. = some v ∧ _;exact ⟨_, rfl, rfl, rfl, hR2⟩
theorem zn : ∃ n, ∀ {σ} {F : Fam σ} {Δ : DM F} {main s} (K : Nat) (A : Lay) (S : St) (Fr L : Frag) (eb : Nat → Nat × Nat) (b : Nat) (x : PS), (∀ s, NewT (Δ s)) → Rep K A S Fr L → Ers eb Fr → (b, x) ∈ S.ps → S.unused ≠ 0 → (x.frees 6).length < 2 →
   CallsL Δ Tryz.prog main 136 [ptr K, ptr b].toArray n s L (fun s' v L' => s = s' ∧ v = erv eb 4 ∧ Rep K A S Fr L') := by
 obtain ⟨n0, g0⟩ := kG;obtain ⟨n1, g1⟩ := pC;apply Exists.intro;intro σ F Δ main s K A S Fr L eb b x hN hR hE hb hu hlt;have eu : ((S.unused : Int) == 0) = false := by simp; omega
 co_applyP aB 60 Tryz.func136 Tryz.ntmps136;co_applyP aa;co_applyP oan rfl;co_applyP aa;co_applyP oy rfl ae;co_applyP oc rfl rfl rfl (g0 K A S Fr L (fun s => (hN s).k) hR);rintro _ _ _ ⟨rfl, rfl, hE1⟩;co_applyP oy rfl ae;rename_i L1;have hR1 := hR.ext hE1;co_applyP oc rfl rfl rfl (g1 L1 b x hN hE1.f (hR1.p _ hb));rintro _ _ _ ⟨rfl, a, rfl, ha, han, hE2⟩;co_applyP oy rfl bL;co_applyP oan rfl;co_applyP aq (n₂ := 0);co_applyP aq;rename_i L2;have hR2 := hR1.ext hE2;have hg := (hE.mono hR2.fr).g 4 (by decide) (by decide);obtain ⟨base, cap, hv, hat⟩ := bw ha;rw [hv];co_applyP ax;co_applyP om rfl rfl rfl aA;co_applyP oy rfl ae;rw [eu];co_applyP om rfl rfl rfl ((bB (hu := U54)));co_applyP oy rfl (cF);co_applyP oy rfl aP;co_applyP ah;change wpE ..;have el : decide (((nums (x.frees 6)).length : Int) < 2) = true := by simp; omega
 rw [el];co_applyP aQ rfl;co_applyP aa;co_applyP oy rfl (aF (ht := ci));co_applyP oan rfl;co_applyP aK;change ∃ v, resE .. = some v ∧ _;exact ⟨_, rfl, rfl, rfl, hR2⟩
theorem zo : ∃ n, ∀ {σ} {F : Fam σ} {Δ : DM F} {main s} (K : Nat) (A : Lay) (S : St) (Fr L : Frag) (eb : Nat → Nat × Nat) (b : Nat) (x : PS) (i j : Nat) (l : List Nat), (∀ s, NewT (Δ s)) → Rep K A S Fr L → (b, x) ∈ S.ps → S.unused ≠ 0 → x.frees 6 = i :: j :: l → i < 6 → j < 6 →
   CallsL Δ Tryz.prog main 136 [ptr K, ptr b].toArray n s L (fun s' v L' => s = s' ∧ v = .nilIface ∧ ∃ A', Rep K A' ((S.setY S.unused []).setP b (x.piped S.unused i j)) Fr L') := by
 obtain ⟨n0, g0⟩ := kG;obtain ⟨n1, g1⟩ := pC;apply Exists.intro;intro σ F Δ main s K A S Fr L eb b x i j l hN hR hb hu hij hi6 hj6;have eu : ((S.unused : Int) == 0) = false := by simp; omega
 have hu5 := lz S;co_applyP aB 60 Tryz.func136 Tryz.ntmps136;co_applyP aa;co_applyP oan rfl;co_applyP aa;co_applyP oy rfl ae;co_applyP oc rfl rfl rfl (g0 K A S Fr L (fun s => (hN s).k) hR);rintro _ _ _ ⟨rfl, rfl, hE1⟩;co_applyP oy rfl ae;rename_i L1;have hR1 := hR.ext hE1;co_applyP oc rfl rfl rfl (g1 L1 b x hN hE1.f (hR1.p _ hb));rintro _ _ _ ⟨rfl, a, rfl, ha, han, hE2⟩;co_applyP oy rfl bL;co_applyP oan rfl;co_applyP aq;co_applyP aq;rename_i L2;have hR2 := hR1.ext hE2;obtain ⟨base, cap, hv, hat⟩ := bw ha;obtain ⟨q, haq, hbase, hq0⟩ := hat 0 (.int .i64 (i : Nat)) (by rw [hij]; rfl);obtain ⟨q', haq', _, hq1⟩ := hat 1 (.int .i64 (j : Nat)) (by rw [hij]; rfl);obtain rfl : q = q' := by rw [haq] at haq'; exact Option.some.inj haq'
 have hlen : (nums (x.frees 6)).length = l.length + 2 := by rw [hij]; simp
 rw [hv, hbase];co_applyP ax;co_applyP om rfl rfl rfl aA;co_applyP oy rfl ae;rw [eu];co_applyP om rfl rfl rfl ((bB (hu := U54)));co_applyP oy rfl (cF);co_applyP oy rfl aP;co_applyP ah;change wpE ..;have el : decide (((nums (x.frees 6)).length : Int) < 2) = false := by rw [hlen]; simp; omega
 rw [el];co_applyP ai rfl;co_applyP aD;co_applyP aa;co_applyP om rfl rfl rfl ae;co_applyP oy rfl aJ;co_applyP oy rfl (au (hf := eM));co_applyP oy rfl (aX o7 gK);co_applyP osm rfl (hs := gK) (hm := hR2.k) (hi := by first | decide | (rw [bf]; omega) | (rw [bC]; omega));intro L3 hU3;have hqm : ∃ cs, (q, true, Obj.cells cs 3) ∈ L2 ∧ cs[0]? = some (.int .i64 (i : Nat)) ∧ cs[1]? = some (.int .i64 (j : Nat)) := by
   refine ⟨_, ha.mem haq, ?_, ?_⟩
   · rw [hij]; rfl
   · rw [hij]; rfl
 obtain ⟨cq, hq2, hcq0, hcq1⟩ := hqm;have hqK : q ≠ K := hR2.fn.ne hq2 hR2.k (aE (by decide));have hqb : q ≠ b := hR2.fn.ne hq2 (hR2.p _ hb) (aE (by decide));have hR3 : Rep K (A.setY S.unused ⟨none, []⟩) (S.setY S.unused []) Fr L3 := by
   refine hR2.setBytes hu5 hU3.fn ?_ (fun t ht h1 h2 => hU3.ne _ ht h1) ⟨rfl, rfl⟩ (fun c hc => by cases hc);show (K, true, Obj.cells (kcells _) 115) ∈ L3;have := hU3.self;rw [mA _ hu5] at this;rw [pt];exact this
 have hb3 : (b, x) ∈ (S.setY S.unused []).ps := hb;have hq3 := hU3.ne _ hq2 hqK;have a30 : At L3 q 0 (.int .i64 (i : Nat)) := ⟨true, _, _, _, hq3, hcq0⟩;have hl0 : (0 : Int) < ((nums (x.frees 6)).length : Nat) := by rw [hlen]; omega
 have hl1 : (1 : Int) < ((nums (x.frees 6)).length : Nat) := by rw [hlen]; omega
 co_applyP ah;co_applyP aq;co_applyP bi [] 9 (nf := 0) aT;co_applyP tr 0 rfl ae pN;co_applyP tr 1 rfl ae pN;co_applyP tr 2 rfl (bH U54 de) pN;co_applyP t0 3 rfl (aF (ht := aY)) pN;co_applyP tr 4 rfl ae pN;co_applyP tr 6 rfl aJ pN;co_applyP tr 7 rfl (au (hf := eg)) pN;co_applyP tr 5 rfl (bt (dC _ _)) pN;co_applyP tr 8 rfl ((aX Tryz.underlying97 bh)) pN;have eo : ∀ j : Nat, 79 + j * 2 = 79 + 2 * j := fun j => by omega
 co_applyP a0;intro hnd3;co_applyP te (i := 9) rfl (fH (hs := bh) (vs := [.int .i64 ((S.unused, 4) : Nat × Nat).1, .int .i64 ((S.unused, 4) : Nat × Nat).2]) (hnd := hnd3) (hm := hR3.p _ hb3) (hi := by rw [bf]; simp; omega));rintro _ _ ⟨rfl, hU4⟩;refine ⟨ay (by simp), ?_⟩;rename_i L4;rw [eo, po x hi6 (S.unused, 4)] at hU4;have hR4 := hR3.setP hb3 (x' := { x with f := put x.f i (S.unused, 4) }) hU4;have hb4 : (b, { x with f := put x.f i (S.unused, 4) }) ∈ ((S.setY S.unused []).setP b { x with f := put x.f i (S.unused, 4) }).ps := av hb3;have hq4 := hU4.ne _ hq3 hqb;have a41 : At L4 q 1 (.int .i64 (j : Nat)) := ⟨true, _, _, _, hq4, hcq1⟩;co_applyP td (by kernel_rfl);co_applyP aq;co_applyP bi [] 9 (nf := 0) aT;co_applyP tr 0 rfl ae pN;co_applyP tr 1 rfl ae pN;co_applyP tr 2 rfl (bH U54 de) pN;co_applyP t0 3 rfl (aF (ht := aY)) pN;co_applyP tr 4 rfl ae pN;co_applyP tr 6 rfl aJ pN;co_applyP tr 7 rfl (au (hf := eg)) pN;co_applyP tr 5 rfl (bt (dC _ _)) pN;co_applyP tr 8 rfl ((aX Tryz.underlying97 bh)) pN;co_applyP a0;intro hnd4;co_applyP te (i := 9) rfl (fH (hs := bh) (vs := [.int .i64 ((S.unused, 5) : Nat × Nat).1, .int .i64 ((S.unused, 5) : Nat × Nat).2]) (hnd := hnd4) (hm := hR4.p _ hb4) (hi := by rw [bf]; simp; omega));rintro _ _ ⟨rfl, hU5⟩;refine ⟨ay (by simp), ?_⟩;rename_i L5;rw [eo, po _ hj6 (S.unused, 5)] at hU5;have hR5 := hR4.setP hb4 (x' := { x with f := put (put x.f i (S.unused, 4)) j (S.unused, 5) }) hU5;rw [dO] at hR5;have hb5 : (b, { x with f := put (put x.f i (S.unused, 4)) j (S.unused, 5) }) ∈ ((S.setY S.unused []).setP b { x with f := put (put x.f i (S.unused, 4)) j (S.unused, 5) }).ps := av hb3;have hq5 := hU5.ne _ hq4 hqb;have a50 : At L5 q 0 (.int .i64 (i : Nat)) := ⟨true, _, _, _, hq5, hcq0⟩;have a51 : At L5 q 1 (.int .i64 (j : Nat)) := ⟨true, _, _, _, hq5, hcq1⟩;have wi : IntKind.u16.wrap ((i : Nat) : Int) = ((i : Nat) : Int) := by rw [cW]; omega
 have wj : IntKind.u16.wrap ((j : Nat) : Int) = ((j : Nat) : Int) := by rw [cW]; omega
 co_applyP td (by kernel_rfl);co_applyP aq;co_applyP bi [] 14 (nf := 0) aT;co_applyP tr 0 rfl ae pN;co_applyP tr 1 rfl ae pN;co_applyP tr 2 rfl ae pN;co_applyP tr 3 rfl (bH U54 de) pN;co_applyP t0 4 rfl (aF (ht := aY)) pN;co_applyP tr 5 rfl (cp (hs := U3) (ht := U32)) pN;co_applyP tr 6 rfl ae pN;co_applyP tr 7 rfl (bH U54 de) pN;co_applyP t0 8 rfl (aF (ht := aY)) pN;co_applyP tr 9 rfl (cp (hs := U3) (ht := U32)) pN;co_applyP tr 10 rfl aJ pN;co_applyP tr 11 rfl (au (hf := aC)) pN;co_applyP tr 12 rfl (au (hf := aS)) pN;co_applyP tr 13 rfl (aX U47 aZ) pN;co_applyP tr 15 rfl aJ pN;co_applyP tr 16 rfl (au (hf := aC)) pN;co_applyP tr 17 rfl (au (hf := aS)) pN;rw [wi, wj];co_applyP a0;intro hnd5;co_applyP te (i := 14) rfl (fq (hnd := hnd5) (hm := hR5.p _ hb5) (hi := by rw [bf]; omega) (hs := aZ));rintro _ _ ⟨rfl, hU6⟩;refine ⟨ay (by simp), ?_⟩;rename_i L6;have p7 : ∀ (y : PS) (v : Int), (pcells y).setIfInBounds 7 (.int .u16 v) = pcells { y with r := put y.r 0 v } := fun y v => dP y (i := 0) (by omega) v;have p8 : ∀ (y : PS) (v : Int), (pcells y).setIfInBounds 8 (.int .u16 v) = pcells { y with r := put y.r 1 v } := fun y v => dP y (i := 1) (by omega) v;have hU6' : Upd L5 b (.cells (pcells { x with f := put (put x.f i (S.unused, 4)) j (S.unused, 5), r := put x.r 0 i }) 99) L6 := by
   have := hU6;simp only [p7] at this;exact this
 have hR6 := hR5.setP hb5 hU6';rw [dO] at hR6;co_applyP to 18 rfl ((aX U47 aZ)) (ay (by simp));co_applyP a0;intro hnd6;co_applyP te (i := 19) rfl (fq (hnd := hnd6) (hm := hR6.p _ (av hb3)) (hi := by rw [bf]; omega) (hs := aZ));rintro _ _ ⟨rfl, hU7⟩;refine ⟨ay (by simp), ?_⟩;rename_i L7;have hU7' : Upd L6 b (.cells (pcells (x.piped S.unused i j)) 99) L7 := by
   have := hU7;simp only [p8] at this;exact this
 have hR7 := hR6.setP (av hb3) hU7';rw [dO] at hR7;co_applyP td (by kernel_rfl);co_applyP aa;co_applyP oan rfl;co_applyP aK;change ∃ v, resE .. = some v ∧ _;exact ⟨_, rfl, rfl, rfl, _, hR7⟩
def St.taken (S : St) (c : Nat) (y : PS) : St := { S.setPs (S.ps ++ [(c, { y with id := S.last + 1 })]) with last := S.last + 1 }
def St.adopt (S : St) (c : Nat) (y : PS) : St := (S.taken c y).wake1 c { y with id := S.last + 1 }
theorem r9 (k : KS) (v : Nat) : (kcells k).setIfInBounds 6 (.int .i64 (v : Nat)) = kcells { k with last := v } := rfl
theorem sd (A : Lay) (S : St) (a' : Sl) (ps' : List (Nat × PS)) (ls : Nat) : kcells (kst (A.setA 0 a') { S.setPs ps' with last := ls }) = kcells { kst A S with procs := slv a' ps'.length, last := ls } := by
 unfold kcells kst Lay.setA put St.setPs;simp
theorem yv : ∃ n, ∀ {σ} {F : Fam σ} {Δ : DM F} {main s} (K : Nat) (A : Lay) (S : St) (Fr L : Frag) (c : Nat) (y : PS), (∀ cs, (Δ s).New (.cells cs 93)) → Rep K A S (pb c y :: Fr) L → (∀ t ∈ Fr, t.1 ≠ c) → S.ps.length < 8 → S.last < 4611686018427387904 → y.lv < 3 → (S.rows y.lv).length ≤ 8 →
   CallsL Δ Tryz.prog main 48 [ptr K, ptr c].toArray n s L (fun s' v L' => s = s' ∧ v = .tuple #[] ∧ ∃ A', Rep K A' (S.adopt c y) Fr L') := by
 obtain ⟨n1, g1⟩ := j9;apply Exists.intro;intro σ F Δ main s K A S Fr L c y hN hR hF h8 hl hlv hr8;have w1 : IntKind.i64.wrap ((S.last : Int) + 1) = ((S.last + 1 : Nat) : Int) := by simp [IntKind.wrap_i64]; omega
 have hlast : At L K 6 (.int .i64 (S.last : Nat)) := hR.kat rfl;have hcp : ∀ q ∈ S.ps, c ≠ q.1 := (hR.fd _ List.mem_cons_self).2.1;co_applyP aB 32 Tryz.func48 Tryz.ntmps48;co_applyP aa;co_applyP om rfl rfl rfl aJ;co_applyP oy rfl (au (hf := j5));co_applyP oy rfl (aF (ht := aY));co_applyP oy rfl aR;co_applyP oy rfl aJ;co_applyP oy rfl (au (hf := j5));rw [w1];co_applyP osm rfl (hs := de) (hm := hR.k) (hi := by first | decide | (rw [bf]; omega) | (rw [bC]; omega));intro L1 hU1;rw [r9] at hU1;have hR1 : Rep K A { S with last := S.last + 1 } (pb c y :: Fr) L1 := hR.setK rfl rfl rfl rfl rfl rfl hU1;have hlast1 : At L1 K 6 (.int .i64 ((S.last + 1 : Nat) : Nat)) := hR1.kat rfl;co_applyP ah;co_applyP aa;co_applyP om rfl rfl rfl ae;co_applyP oy rfl aJ;co_applyP oy rfl (au (hf := j5));co_applyP oy rfl (aF (ht := aY));co_applyP oy rfl aJ;co_applyP oy rfl (au (hf := aC));co_applyP oy rfl (au (hf := dT));co_applyP osm rfl (hs := de) (hm := hR1.fr _ List.mem_cons_self) (hi := by first | decide | (rw [bf]; omega) | (rw [bC]; omega));intro L2 hU2;have hU2' : Upd L1 c (.cells (pcells { y with id := S.last + 1 }) 99) L2 := by rw [← wL]; exact hU2
 have hR2 : Rep K A { S with last := S.last + 1 } ((pb c { y with id := S.last + 1 } :: ([pb c y].filter fun t => !decide (t.1 = c))) ++ Fr) L2 := Rep.aside (G := [pb c y]) (F := Fr) hR1 List.mem_cons_self hF hU2';have hc2 : pb c { y with id := S.last + 1 } ∈ L2 := hU2'.self;have hR2' : Rep K A { S with last := S.last + 1 } Fr L2 := hR2.less fun t ht => by simp [ht]
 have h5 : At L2 K 5 (slv (A.a 0) (S.ps.map (·.1)).length) := by rw [List.length_map]; exact hR2'.kat rfl
 co_applyP ah;co_applyP aa;co_applyP om rfl rfl rfl ae;co_applyP oy rfl aJ;co_applyP oy rfl (au (hf := bO));co_applyP oy rfl (aF (ht := dp));co_applyP oy rfl ae;co_applyP bT rfl (ip (hN _) (hx := rfl) (hu := U91) (hs := bN) (hz := iy));intro nb L3 hA3;have hR3 := hR2'.add hA3;have epa : (S.ps.map fun q => ptr q.1) = (S.ps.map (·.1)).map ptr := by rw [List.map_map]; rfl
 have hpa : slOk (A.a 0) ((S.ps.map (·.1)).map ptr) 93 L3 := by rw [← epa]; exact hR3.pa
 co_applyP oeN rfl (fun hnd => qv (a := A.a 0) (xs := S.ps.map (·.1)) (c := c) (hnd := hnd) (hN := hN) (ha := hpa) (h8 := by simp; omega) (hnb := hA3.self));rintro _ L4 ⟨a', rfl, hp⟩;co_applyP oy rfl aJ;co_applyP oy rfl (au (hf := bO));have hal : ∀ {b : Nat} {fl : Bool} {o : Obj}, (b, fl, o) ∈ L3 → (∀ c', o ≠ Obj.cells c' 93) → (A.a 0).b ≠ some b := fun hm ho hc => by
   obtain ⟨ys, hy⟩ := hR3.al _ _ hc;exact ho _ (hR3.fn _ _ _ _ _ hm hy).2
 have hKa := hal hR3.k fun c => aE (by decide);have hca := hal (hA3.sub _ hc2) fun c => aE (by decide);co_applyP oeN rfl (fun hnd => fq (hs := eK) (hnd := hnd) (hm := hp.sub _ hR3.k hKa) (hi := by rw [bC]; omega) (hp := fi _ _));rintro _ L5 ⟨rfl, hU5⟩;co_applyP ah;co_applyP ax;co_applyP om rfl rfl rfl ae;have hKc : c ≠ K := hR2'.fn.ne hc2 hR2'.k (aE (by decide));have hc5 := hU5.ne _ (hp.sub _ (hA3.sub _ hc2) hca) hKc;have hR5 : Rep K (A.setA 0 a') (S.taken c y) Fr L5 := by
   refine Rep.setPs (S := { S with last := S.last + 1 }) hR3 (ps' := S.ps ++ [(c, { y with id := S.last + 1 })]) (ls := S.last + 1) hU5.fn ?_ (fun t ht h1 h2 => hU5.ne _ (hp.sub _ ht h2) h1) ?_ ?_ ?_ (by simp; omega) ?_ ?_
   · show (K, true, Obj.cells (kcells _) 115) ∈ L5;have := hU5.self;rw [ks] at this;rw [sd];have el : (S.ps ++ [(c, { y with id := S.last + 1 })]).length = (S.ps.map (·.1)).length + 1 := by simp
     rw [el];exact this
   · have e2 : ((S.ps ++ [(c, { y with id := S.last + 1 })]).map fun (q : Nat × PS) => ptr q.1) = ((S.ps.map (·.1)) ++ [c]).map ptr := by simp
     rw [e2];refine hp.ok.mono fun d hd o ho => hU5.ne _ ho fun e => ?_;have h1 := hp.ok.mem hd;have e' : d = K := e;rw [e'] at h1;exact aE (by decide) (hp.fn _ _ _ _ _ h1 (hp.sub _ hR3.k hKa)).2
   · intro q hq;rcases List.mem_append.1 hq with h | h
     · exact hU5.ne _ (hp.sub _ (hR3.p q h) (hal (hR3.p q h) fun c => aE (by decide))) (hR3.fn.ne (hR3.p q h) hR3.k (aE (by decide)))
     · simp at h;subst h;exact hc5
   · rw [List.map_append];refine List.nodup_append.2 ⟨hR3.pn, by simp, fun u hu v hv => ?_⟩;simp at hv;subst hv;rintro rfl;obtain ⟨q, hq, e⟩ := List.mem_map.1 hu;exact hcp q hq e.symm
   · intro t ht q hq;rcases List.mem_append.1 hq with h | h
     · exact (hR3.fd t ht).2.1 q h
     · simp at h;subst h;exact hF t ht
   · intro d hd;rcases hp.d d hd with h | h
     · exact .inl h
     · refine .inr ⟨fun i hi => ?_, fun t ht => h t (hR3.fr t ht)⟩;obtain ⟨ys, hy⟩ := hR3.al i d hi;exact h _ hy rfl
 have hb5 : (c, { y with id := S.last + 1 }) ∈ (S.taken c y).ps := List.mem_append_right _ List.mem_cons_self;co_applyP oc rfl rfl rfl (g1 K _ _ Fr L5 c { y with id := S.last + 1 } hN hR5 hb5 hlv hr8 (fun e he => cT e.1 hlv));rintro _ _ _ ⟨rfl, rfl, A6, hw6, hR6⟩;co_applyP ah;change ∃ v, resE .. = some v ∧ _;exact ⟨_, rfl, rfl, rfl, A6, hR6⟩
def PS.copy (x : PS) : PS := ⟨0, x.id, 0, 0, x.at_, 0, 0, x.r, x.m, x.f, 0⟩
def regv (r : Nat → Int) : Value := .agg #[.int .u16 (r 0), .int .u16 (r 1), .int .u16 (r 2), .int .u16 (r 3), .int .u16 (r 4), .int .u16 (r 5), .int .u16 (r 6), .int .u16 (r 7)]
def memv (m : Nat → Int) : Value := .agg ((List.range 64).map fun i => Value.int .u8 (m i)).toArray
def headv (par at_ : Int) (r : Nat → Int) : Value := .agg #[.int .i64 0, .int .i64 par, .int .i64 0, .int .i64 0, .int .i64 at_, .int .i64 0, .int .i64 0, .int .u16 (r 0), .int .u16 (r 1), .int .u16 (r 2), .int .u16 (r 3), .int .u16 (r 4), .int .u16 (r 5), .int .u16 (r 6), .int .u16 (r 7)]
theorem se (x : PS) : Value.agg ((pcells x).extract 7 15) = regv x.r := by rfl
theorem uH (x : PS) : Value.agg ((pcells x).extract 15 79) = memv x.m := by
 have h := yr x (i := 0) (n := 64) (by omega);have h' : (pcells x).extract 15 79 = ((x.peek 0 64).map fun v => Value.int .u8 v).toArray := h;rw [h'];unfold memv PS.peek;rw [List.map_map];congr 2
theorem AZ (par at_ : Int) (r : Nat → Int) : evR Tryz.prog (Instr.build 49 [(1, .int .i64 par), (4, .int .i64 at_), (7, regv r)].toArray) [] = some (headv par at_ r, []) := by kernel_rfl
theorem A8 (x : PS) : evR Tryz.prog (Instr.build 99 [(0, headv (x.id : Nat) (x.at_ : Nat) x.r), (1, memv x.m), (2, filesv x.f)].toArray) [] = some (.agg (pcells x.copy), []) := by kernel_rfl
def St.forkS (S : St) (b : Nat) (x : PS) (c : Nat) : St := (S.adopt c (x.copy.r0 0)).setP b (x.r0 (((S.last + 1 : Nat) : Int) % 65536))
theorem zp : ∃ n, ∀ {σ} {F : Fam σ} {Δ : DM F} {main s} (K : Nat) (A : Lay) (S : St) (Fr L : Frag) (eb : Nat → Nat × Nat) (b : Nat), Rep K A S Fr L → Ers eb Fr → 8 ≤ S.ps.length →
   CallsL Δ Tryz.prog main 131 [ptr K, ptr b].toArray n s L (fun s' v L' => s = s' ∧ L = L' ∧ v = erv eb 4) := by
 apply Exists.intro;intro σ F Δ main s K A S Fr L eb b hR hE h8;obtain ⟨base, cap, hv, hat0⟩ := bw hR.pa;simp only [List.length_map] at hv;have h5 : At L K 5 (.slice base S.ps.length cap) := by rw [← hv]; exact hR.kat rfl
 have hg := (hE.mono hR.fr).g 4 (by decide) (by decide);have e8 : decide ((8 : Int) ≤ (S.ps.length : Nat)) = true := by simp; omega
 co_applyP aB 58 Tryz.func131 Tryz.ntmps131;co_applyP aa;co_applyP oan rfl;co_applyP aq (n₂ := 0);co_applyP aa;co_applyP om rfl rfl rfl aJ;co_applyP oy rfl (au (hf := bO));co_applyP oy rfl (aF (ht := dp));co_applyP oy rfl (bB (hu := U91));co_applyP oy rfl fh;co_applyP ah;change wpE ..;rw [e8];co_applyP aQ rfl;co_applyP aa;co_applyP oy rfl (aF (ht := ci));co_applyP oan rfl;co_applyP aK;change ∃ v, resE .. = some v ∧ _;exact ⟨_, rfl, rfl, rfl, rfl⟩
theorem zq : ∃ n, ∀ {σ} {F : Fam σ} {Δ : DM F} {main s} (K : Nat) (A : Lay) (S : St) (Fr L : Frag) (b : Nat) (x : PS), (∀ cs, (Δ s).New (.cells cs 93)) → (∀ cs, (Δ s).New (.cells cs 99)) → Rep K A S Fr L → Inv S → (b, x) ∈ S.ps → S.ps.length < 8 → S.last < 4611686018427387904 →
   CallsL Δ Tryz.prog main 131 [ptr K, ptr b].toArray n s L (fun s' v L' => s = s' ∧ v = .nilIface ∧ ∃ A' c, (∀ q ∈ S.ps, c ≠ q.1) ∧ Rep K A' (S.forkS b x c) Fr L') := by
 obtain ⟨n1, g1⟩ := yv;apply Exists.intro;intro σ F Δ main s K A S Fr L b x hN hN9 hR hI hb h8 hls;obtain ⟨base, cap, hv, hat0⟩ := bw hR.pa;simp only [List.length_map] at hv;have h5 : At L K 5 (.slice base S.ps.length cap) := by rw [← hv]; exact hR.kat rfl
 have e8 : decide ((8 : Int) ≤ (S.ps.length : Nat)) = false := by simp; omega
 have hid : At L b 0 (.int .i64 (x.id : Nat)) := hR.pat hb (i := 0) rfl;have hat : At L b 4 (.int .i64 (x.at_ : Nat)) := hR.pat hb (i := 4) rfl;co_applyP aB 58 Tryz.func131 Tryz.ntmps131;co_applyP aa;co_applyP oan rfl;co_applyP aq;co_applyP aa;co_applyP om rfl rfl rfl aJ;co_applyP oy rfl (au (hf := bO));co_applyP oy rfl (aF (ht := dp));co_applyP oy rfl (bB (hu := U91));co_applyP oy rfl fh;co_applyP ah;change wpE ..;rw [e8];co_applyP ai rfl;co_applyP aD;co_applyP aq;co_applyP bi [] 25 (nf := 0) aT;co_applyP tr 0 rfl ae pN;co_applyP tr 1 rfl aJ pN;co_applyP tr 2 rfl (au (hf := aC)) pN;co_applyP tr 3 rfl (au (hf := dT)) pN;co_applyP t0 4 rfl (aF (ht := aY)) pN;co_applyP tr 5 rfl ae pN;co_applyP tr 6 rfl aJ pN;co_applyP tr 7 rfl (au (hf := aC)) pN;co_applyP tr 8 rfl (au (hf := cQ)) pN;co_applyP t0 9 rfl (aF (ht := aY)) pN;co_applyP tr 10 rfl ae pN;co_applyP tr 11 rfl aJ pN;co_applyP tr 12 rfl (au (hf := aC)) pN;co_applyP tr 13 rfl (au (hf := aS)) pN;co_applyP tr 16 rfl ae pN;co_applyP tr 17 rfl aJ pN;co_applyP tr 18 rfl (au (hf := gp)) pN;co_applyP tr 20 rfl ae pN;co_applyP tr 21 rfl aJ pN;co_applyP tr 22 rfl (au (hf := eg)) pN;co_applyP t0 14 rfl (ba (ht := Aq) (hs := Ap) (hm := hR.p _ hb) (hi := by rw [bf]; omega)) pN;co_applyP t0 19 rfl (ba (ht := Au) (hs := As) (hm := hR.p _ hb) (hi := by rw [bf]; omega)) pN;co_applyP t0 23 rfl (ba (ht := tS) (hs := tR) (hm := hR.p _ hb) (hi := by rw [bf]; omega)) pN;rw [show (0 + 0 + 7 + 8 : Nat) = 15 from rfl, show (0 + 0 + 7 : Nat) = 7 from rfl, se, show (0 + 15 + 64 : Nat) = 79 from rfl, uH, show (0 + 79 + 12 : Nat) = 91 from rfl, gW];co_applyP tr 15 rfl (bt (AZ _ _ _)) pN;co_applyP tr 24 rfl (bt (A8 x)) pN;co_applyP nv (i := 25) rfl (cn (hN9 _));intro c L1 hA1;refine ⟨ay (by simp), ?_⟩;co_applyP to 26 rfl (bL) (ay (by simp));have hA1' : Add L c (.cells (pcells x.copy) 99) L1 := hA1;have hR1 : Rep K A S (pb c x.copy :: Fr) L1 := hR.fresh ⟨hA1'.fn, hA1'.sub⟩ hA1'.new hA1'.self;have hcp : ∀ q ∈ S.ps, c ≠ q.1 := (hR1.fd _ List.mem_cons_self).2.1;have hcF : ∀ t ∈ Fr, t.1 ≠ c := fun t ht => hA1'.new t (hR.fr t ht)
 co_applyP td (by kernel_rfl);co_applyP aa;co_applyP om rfl rfl rfl aJ;co_applyP oy rfl (au (hf := aC));co_applyP oy rfl (au (hf := aS));co_applyP oy rfl (aX U47 aZ);co_applyP osm rfl (hs := aZ) (hm := hR1.fr _ List.mem_cons_self) (hi := by first | decide | (rw [bf]; omega) | (rw [bC]; omega));intro L2 hU2;rw [eB] at hU2;have hR2 : Rep K A S ((pb c (x.copy.r0 0) :: ([pb c x.copy].filter fun t => !decide (t.1 = c))) ++ Fr) L2 := Rep.aside (G := [pb c x.copy]) (F := Fr) hR1 List.mem_cons_self hcF hU2;have hR2' : Rep K A S (pb c (x.copy.r0 0) :: Fr) L2 := hR2.less fun t ht => by
   rcases List.mem_cons.1 ht with rfl | h
   · simp
   · simp [h]
 co_applyP ah;co_applyP aa;co_applyP om rfl rfl rfl ae;co_applyP oc rfl rfl rfl (g1 K A S Fr L2 c (x.copy.r0 0) hN hR2' hcF h8 hls (by show 0 < 3; omega) (hI.g.r8 (l := 0) (by omega)));rintro _ _ _ ⟨rfl, rfl, A3, hR3⟩;co_applyP ah;co_applyP aq;rename_i L3;have hbc : b ≠ c := fun e => hcp _ hb e.symm;have hb3 : (b, x) ∈ (S.adopt c (x.copy.r0 0)).ps := bX (List.mem_append_left _ hb) hbc;have hc3 : (c, { x.copy.r0 0 with id := S.last + 1, st := 1, used := 0 }) ∈ (S.adopt c (x.copy.r0 0)).ps := av (List.mem_append_right _ List.mem_cons_self);have hid3 : At L3 c 0 (.int .i64 ((S.last + 1 : Nat) : Nat)) := hR3.pat hc3 (i := 0) rfl;have wl : IntKind.u16.wrap (((S.last + 1 : Nat) : Nat) : Int) = ((S.last + 1 : Nat) : Int) % 65536 := cW _;co_applyP bi [] 11 (nf := 0) aT;co_applyP tr 0 rfl ae pN;co_applyP tr 1 rfl ae pN;co_applyP tr 2 rfl aJ pN;co_applyP tr 3 rfl (au (hf := aC)) pN;co_applyP tr 4 rfl (au (hf := dT)) pN;co_applyP t0 5 rfl (aF (ht := aY)) pN;co_applyP tr 6 rfl (cp (hs := U3) (ht := U32)) pN;co_applyP tr 7 rfl aJ pN;co_applyP tr 8 rfl (au (hf := aC)) pN;co_applyP tr 9 rfl (au (hf := aS)) pN;co_applyP tr 10 rfl (aX U47 aZ) pN;rw [wl];co_applyP a0;intro hnd3;co_applyP te (i := 11) rfl (fq (hnd := hnd3) (hm := hR3.p _ hb3) (hi := by rw [bf]; omega) (hs := aZ));rintro _ _ ⟨rfl, hU4⟩;refine ⟨ay (by simp), ?_⟩;rename_i L4;have hU4' : Upd L3 b (.cells (pcells (x.r0 (((S.last + 1 : Nat) : Int) % 65536))) 99) L4 := by rw [← eB]; exact hU4
 have hR4 := hR3.setP hb3 hU4';co_applyP td (by kernel_rfl);co_applyP aa;co_applyP oan rfl;co_applyP aK;change ∃ v, resE .. = some v ∧ _;exact ⟨_, rfl, rfl, rfl, A3, c, hcp, hR4⟩
end Go.Proofs.YtejkelcaljmnoaaGreatDoor
namespace Go.Lo
open Go.Conc Go.Hx
section
variable {σ : Type} {F : Fam σ} (Δ : ∀ s, Dom (F.R s) (F.D s)) (P : Program) (main : Bool) (fn : FuncId) (N : Nat)
def LastE (ops : Array Oper) (Q : σ → Exit → Env → Frag → Prop) (nf : Nat) (L0 : Frag) (e : Nat) (fuel : Nat) (ls : Array Bool) (s : σ) (ε : Env) (L : Frag) : Prop :=
 ∀ a, Fits N ε a → Down ops ls → ∀ w, (Δ s).Own L w → AnyY F P main fn ops (fun ls s w => ∃ L, (Δ s).Own L w ∧ (ls.getD e true = false → ∀ t ∈ L0, t ∈ L)) (up Δ (upE N Q)) nf fuel ls s a w
end
section
variable {σ : Type} {F : Fam σ} {Δ : ∀ s, Dom (F.R s) (F.D s)} {P : Program} {main : Bool} {fn : FuncId} {N : Nat} {Q : σ → Exit → Env → Frag → Prop} {s : σ} {ε : Env} {L : Frag} {ops : Array Oper} {nf : Nat} {e : Nat} {fuel : Nat} {ls : Array Bool}
theorem uI {id : Nat} (e : Nat) {nf : Nat} (hm : P.follows .mixedOrders = true := by first | rfl | kernel_rfl) (h : LastE Δ P main fn N ops Q nf L e ops.size (Array.replicate ops.size false) s ε L) : wpE Δ P main fn N (.region id ops true) (ops.size * (nf + 3) + 1 + 1) s Q ε L := by
 intro a ha w hO;exact jV (S := fun ls s' w => ∃ L', (Δ s').Own L' w ∧ (ls.getD e true = false → ∀ t ∈ L, t ∈ L')) (Δ s).ld hm fun w₁ h₁ => h a ha jU _ ((Δ s).draw ((Δ s).rely hO h₁)).1
theorem lt {i : Nat} {d : Option Tmp} {k : Op} {ot : TypeId} {ps : String} {af : Array Edge} {g : Option (Nat × Bool)} {v : Value} (ho : ops[i]? = some ⟨d, k, ot, ps, af, g⟩) (hy : EY P N ε L ⟨d, k, ot, ps, af, g⟩ v)
   (hs : Region.noSelect ops = true := by kernel_rfl) (hf : Region.free .any ops ls i = true := by kernel_rfl) (hr : (Region.ready .any ops ls).contains i = true := by kernel_rfl) (hie : i ≠ e := by decide) (hh : hangs ops ops.size e i = true := by kernel_rfl) (hw : wantedE ops N ε g = some true := by rfl) (hd : dstOk N d = true := by rfl)
   (h : LastE Δ P main fn N ops Q nf L e fuel (ls.setIfInBounds i true) s (putE d v ε) L) : LastE Δ P main fn N ops Q nf L e (fuel + 1) ls s ε L := by
 intro a ha hD w hO;have hrm : i ∈ Region.ready .any ops ls := by simpa using hr
 refine iX (fun _ s _ _ ⟨L, h1, h2⟩ r => ⟨L, (Δ s).rely h1 r, h2⟩) jW ho hs hf hr hD (fun ls s w => ?_) (fun ls' hD' hun s' => .inl ⟨ha.wanted hw, fun w' ⟨L', hO', h3⟩ => ?_⟩) ⟨L, hO, fun _ t ht => ht⟩ (h _ (ha.put hd v) (hD.step hrm) w hO)
 · refine exists_congr fun L' => and_congr_right fun _ => ?_;rw [getD_set_ne true hie]
 · have hsub : ∀ t ∈ L, t ∈ L' := by
     refine h3 ?_;cases he : ls'.getD e true with
     | false => rfl
     | true =>
       have := hD'.hangs _ _ _ hh he;rw [l9 this] at hun;cases hun
   obtain ⟨q1, q2⟩ := lX (Δ s') hO' ((hy a ha).mono hsub);exact ⟨q1, (Δ s').dd ((Δ s').gr w') fun e he => q2 e (mem_listed he)⟩
theorem lc {i : Nat} {d : Option Tmp} {k : Op} {ot : TypeId} {ps : String} {af : Array Edge} {g : Option (Nat × Bool)} {f : FuncId} {args : Array Operand} {ats : Array TypeId} {vs : List Value} {Post : σ → Value → Frag → Prop} {L0 : Frag} (ho : ops[i]? = some ⟨d, k, ot, ps, af, g⟩) (hop : k = .call { callee := .value (.func f), args, argTypes := ats }) (ha : args.toList.map (ev ε) = vs.map some) (hcall : CallsL Δ P main f vs.toArray nf s L Post)
   (hr : Region.ready .any ops ls = [i] := by kernel_rfl) (hr' : Region.ready .any ops (ls.setIfInBounds i true) = [] := by kernel_rfl) (hle : (ls.setIfInBounds i true).getD e true = true := by first | rfl | decide) (hw : wantedE ops N ε g = some true := by rfl) (hd : dstOk N d = true := by rfl)
   (h : ∀ s' v L', Post s' v L' → Q s' .normal (putE d v ε) L') : LastE Δ P main fn N ops Q nf L0 e (fuel + 1) ls s ε L := by
 intro a hf hD w hO;have e' : args.map a.eval = vs.toArray := by
   apply Array.ext';simp only [Array.toList_map];have : ∀ (l : List Operand) (vs : List Value), l.map (ev ε) = vs.map some → l.map a.eval = vs := by
     intro l
     induction l with
     | nil => intro vs h; cases vs <;> simp_all
     | cons x l ih =>
       intro vs h;cases vs with
       | nil => simp at h
       | cons v vs =>
         simp only [List.map_cons, List.cons.injEq] at h ⊢;exact ⟨hf.ev h.1, ih vs h.2⟩
   exact this _ _ ha
 refine ik hr (by simp) fun j hj => ?_;obtain rfl : j = i := by simpa using hj
 have hc := hcall w hO;rw [← e'] at hc;refine .inr ⟨_, f, args, ats, _, ho, hf.wanted hw, hop, hc, fun s' v w' ⟨L', hL, hp⟩ => ⟨⟨L', hL, fun h' => ?_⟩, lm hr' ⟨L', hL, _, hf.put hd v, h s' v L' hp⟩ _⟩⟩;rw [hle] at h';cases h'
end
end Go.Lo
