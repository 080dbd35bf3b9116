/-
  Part 12 of the proof.
  No condition but those that each statement names.
-/
import Derived.Test.YtejkelcaljmnoaaGreatDoorHy11
import Derived.Test.YtejkelcaljmnoaaGreatDoorHy05
set_option maxRecDepth 100000
set_option linter.unusedVariables false
set_option linter.unusedSimpArgs false
set_option linter.unusedSectionVars false
namespace Go.Proofs.YtejkelcaljmnoaaGreatDoor
open Go.Conc Go.Hx Go.Lo
theorem jc {A : Lay} {l : Wt} {bs : List Nat} {e : (Nat × Nat) × Value × Nat} (h : e ∈ entsOf A l bs) : e.2.2 ∈ bs := by
 unfold entsOf at h;obtain ⟨p, hp, rfl⟩ := List.mem_map.1 h;exact (List.of_mem_zip hp).2
theorem z5 : ∃ n, ∀ {σ : Type} {F : Fam σ} {Δ : ∀ s, Dom (F.R s) (F.D s)} {main : Bool} {s : σ} (K : Nat) (A : Lay) (S : St) (Fr L : Frag) (eb : Nat → Nat × Nat) (b : Nat) (x : PS) (use most : Nat) (k : Nat × Nat), (∀ s, NewK (Δ s)) → Rep K A S Fr L → Ers eb Fr → Inv S → (b, x) ∈ S.ps → S.out b → x.checkUse use most = none → k = x.file (x.r 0) → okEnd k → Asks x k →
   CallsL Δ Tryz.prog main 138 [ptr K, ptr b, .int .i64 (use : Nat), .int .i64 (most : Nat)].toArray n s L (fun s' v L' => s = s' ∧ v = .nilIface ∧ ∃ A', Rep K A' (if b ∈ ((S.joinW b k).look k.1).rowAt k then (match ((S.joinW b k).look k.1).get b with
     | some z => ((S.joinW b k).look k.1).stop1 b z use
     | none => ((S.joinW b k).look k.1)) else ((S.joinW b k).look k.1)) Fr L') := by
 obtain ⟨n0, g0⟩ := kl;obtain ⟨n1, g1⟩ := jZ;obtain ⟨n2, g2⟩ := tZ;obtain ⟨n3, g3⟩ := o7;obtain ⟨n4, g4⟩ := jV;apply Exists.intro;intro σ F Δ main s K A S Fr L eb b x use most k hN hR hE hI hb ho hc hk hke hask;have wx0 : 0 ≤ x.r 0 ∧ x.r 0 < 65536 := (hI.wf _ hb).r 0 (by omega);have hIj := hI.joinW hb ho hask hke;have hlk := hIj.look k.1;have hbn : b ∈ S.ps.map (·.1) := List.mem_map.2 ⟨_, hb, rfl⟩;co_applyP aB 53 Tryz.func138 Tryz.ntmps138;co_applyP ae;co_applyP aa;co_applyP oy rfl ak;co_applyP ah;change wpE ..;co_applyP ae;co_applyP ae;co_applyP aa;co_applyP oy rfl aj;co_applyP oy rfl aj;co_applyP oy rfl aj;co_applyP oc rfl rfl rfl (g0 K A S Fr L eb b x use most (hN _).k hR hE hI hb);rintro _ _ _ ⟨rfl, rfl, hE1⟩;rename_i L1;rw [hc];have hR1 := hR.ext hE1;have hx0 : At L1 b 7 (.int .u16 (x.r 0)) := hR1.pat hb (bh x (i := 0) (by omega));co_applyP oy rfl ak;co_applyP ah;change wpE ..;co_applyP ae;co_applyP aa;co_applyP oy rfl aj;co_applyP oy rfl (dx (v := .nilIface) (c := true) (hv := .inl ⟨rfl, rfl⟩) (hu := Tryz.underlying168));co_applyP ah;change wpE ..;co_applyP aq rfl;co_applyP aA;change wpE ..;co_applyP ae;co_applyP aa;co_applyP oy rfl aj;co_applyP oy rfl aj;co_applyP oy rfl aL;co_applyP oy rfl (av (hf := aD));co_applyP oy rfl (av (hf := aY));co_applyP oy rfl (a0 Tryz.underlying47 a9);co_applyP oy rfl (aC (ht := cp));co_applyP ocm rfl rfl rfl (g1 K A S Fr L1 b x (x.r 0) (hN _).k hR1 hb wx0);rintro _ _ _ ⟨rfl, rfl, hF2, hs2⟩;rename_i L2;rw [← hk];have hR2 := hR1.of hF2 hs2;co_applyP bN rfl (dQ (z := keyv (0, 0)) ((hN _).k _));intro xk L3 hA3;co_applyP oeN rfl (fun hnd => fj (hs := bi) (vs := [.int .i64 k.1, .int .i64 k.2]) (hnd := hnd) (hm := hA3.self) (hi := Nat.le_refl _));rintro _ L4 ⟨rfl, hU4⟩;co_applyP ah;change wpE ..;have hR4 := hR2.fresh (L' := L4) (b := xk) (o := .cells (keyv k).cells 96) ⟨hU4.fn, fun t ht => hU4.ne _ (hA3.sub _ ht) (hA3.new _ ht)⟩ hA3.new hU4.self;have hw4 := hR4.w;rw [ct] at hw4;have hxk4 := hR4.fr _ List.mem_cons_self;have hRm : ∀ (L : Frag), kb K (kst A S) ∈ L → (xk, true, Obj.cells (keyv k).cells 96) ∈ L → ∀ t ∈ [kb K (kst A S), (xk, true, Obj.cells (keyv k).cells 96)], t ∈ L := fun L h1 h2 t ht => by
   simp only [List.mem_cons, List.mem_nil_iff, or_false] at ht;rcases ht with rfl | rfl
   · exact h1
   · exact h2
 have hkR : At [kb K (kst A S), (xk, true, Obj.cells (keyv k).cells 96)] K 15 (.map (some A.wt)) := ⟨true, _, _, _, List.mem_cons_self, rfl⟩;have hxR : (xk, true, Obj.cells (keyv k).cells 96) ∈ [kb K (kst A S), (xk, true, Obj.cells (keyv k).cells 96)] := by simp
 have hKw : K ≠ A.wt := hR4.fn.ne hR4.k hR4.w (by simp [wobj]);have hxw : xk ≠ A.wt := (hR4.fd _ List.mem_cons_self).2.2.2.2;co_applyP dR (fun s'' ε'' L'' => s = s'' ∧ kn ε'' [(0, ptr K), (1, ptr b), (2, .int .i64 (use : Nat)), (10, ptr xk)] ∧ ∃ A5, Rep K A5 (S.joinW b k) ((xk, true, Obj.cells (keyv k).cells 96) :: Fr) L'');co_applyP bK (∀ e ∈ S.wt, e.1 ≠ k);intro hn
 · have hkey := ig (i := 0) (dH (A := A) (bs := A.born) hn);co_applyP bm [kb K (kst A S), (xk, true, Obj.cells (keyv k).cells 96)] 6 (nf := 0) aZ;co_applyP tr (i := 0) rfl aj (ai (hRm _ hR4.k hxk4));co_applyP tr (i := 1) rfl aL (ai (hRm _ hR4.k hxk4));co_applyP tr (i := 2) rfl (av (hf := cr)) (ai (hRm _ hR4.k hxk4));co_applyP tr (i := 3) rfl (aC (ht := dD)) (ai (hRm _ hR4.k hxk4));co_applyP tr (i := 5) rfl aj (ai (hRm _ hR4.k hxk4));co_applyP tr (i := 4) rfl (a8 (ht := bJ) (hs := bi) (hm := hxR) (hi := Nat.le_refl _)) (ai (hRm _ hR4.k hxk4));co_applyP te (i := 6) rfl (iY ((hN _).r _) (hx := rfl) (hu := Tryz.underlying91) (hs := bI) (hz := hY));rintro _ _ ⟨nb, hnb, rfl, rfl⟩;refine ⟨aE (hRm _ (List.mem_cons_of_mem _ hR4.k) (List.mem_cons_of_mem _ hxk4)), ?_⟩;have hA5 := dk (o := .cells #[ptr b] 93) hR4.fn hnb;have hR5 := hR4.add hA5;co_applyP ba;intro hnd;co_applyP te (i := 7) rfl (zY (k := k) (hnd := hnd) ey Tryz.underlying110 ii (hm := hA5.sub _ hw4) (hl := hkey));rintro _ _ ⟨rfl, hU6⟩;refine ⟨aE (hRm _ (hU6.ne _ hR5.k hKw) (hU6.ne _ (hA5.sub _ hxk4) hxw)), ?_⟩;rename_i L6;co_applyP tr (i := 8) rfl (bM) (aE (hRm _ (hU6.ne _ hR5.k hKw) (hU6.ne _ (hA5.sub _ hxk4) hxw)));co_applyP tr (i := 10) rfl (bM) (aE (hRm _ (hU6.ne _ hR5.k hKw) (hU6.ne _ (hA5.sub _ hxk4) hxw)));co_applyP ba;intro hnd6;have hnbw : nb ≠ A.wt := fun e => hnb _ hw4 e.symm;co_applyP te (i := 9) rfl (pW (a := ⟨none, []⟩) (xs := []) (c := b) (hnd := hnd6) (hN := (hN _).r) (ha := ⟨rfl, rfl⟩) (h8 := by simp) (hnb := hU6.ne _ hA5.self hnbw));rintro _ _ ⟨a', rfl, hp⟩;refine ⟨aE (hRm _ (hp.sub _ (hU6.ne _ hR5.k hKw) (by simp)) (hp.sub _ (hU6.ne _ (hA5.sub _ hxk4) hxw) (by simp))), ?_⟩;rename_i L7;co_applyP ba;intro hnd7;co_applyP te (i := 11) rfl (zZ (l1 := entsOf A S.wt A.born) (l2 := []) (k := k) (v0 := .slice none 0 0) (c := A.clock) (hnd := hnd7) (hm := hp.sub _ hU6.self (by simp)) (hc := fun e he => Nat.ne_of_lt (hR4.bc _ (jc he))));rintro _ _ ⟨rfl, hU8⟩;refine ⟨aE (hRm _ (hU8.ne _ (hp.sub _ (hU6.ne _ hR5.k hKw) (by simp)) hKw) (hU8.ne _ (hp.sub _ (hU6.ne _ (hA5.sub _ hxk4) hxw) (by simp)) hxw)), ?_⟩;co_applyP td (by kernel_rfl);change _ = _ ∧ kn _ _ ∧ ∃ A5, _;exact ⟨rfl, rfl, _, hR5.joinW0 hI hke hn hU6 hp hU8⟩
 intro hn;have hk' : k ∈ S.wt.map (·.1) := Decidable.byContradiction fun hn' => hn fun e he e1 => hn' (List.mem_map.2 ⟨e, he, e1⟩);obtain ⟨l1, xs, l2, hwt, hl1, hl2⟩ := cu hI.kn hk';have hin : (k, xs) ∈ S.wt := by rw [hwt]; simp
 obtain ⟨b1, c0, b2, hborn, hbl⟩ : ∃ b1 c0 b2, A.born = b1 ++ c0 :: b2 ∧ l1.length = b1.length := by
   have hl := hR4.wl;rw [hwt] at hl;simp at hl;refine ⟨A.born.take l1.length, A.born[l1.length]'(by omega), A.born.drop (l1.length + 1), by simp, by simp; omega⟩
 have hents : entsOf A S.wt A.born = entsOf A l1 b1 ++ (k, slv (A.a (slot k)) xs.length, c0) :: entsOf A l2 b2 := by
   rw [hwt, hborn, ci A hbl]; rfl
 have hlkr := kh hR4.wl hwt hl1;have hat : (entsOf A S.wt A.born)[l1.length]? = some (k, slv (A.a (slot k)) xs.length, c0) := by
   rw [hents, ← dG A hbl]; simp
 have hc0 : ∀ e ∈ entsOf A l1 b1, e.2.2 ≠ c0 := fun e he => by
   have h1 := jc he;have h2 := hR4.bn;rw [hborn] at h2;exact (List.nodup_append.1 h2).2.2 _ h1 c0 (by simp)
 have hrw : ∀ {c : Nat} {fl : Bool} {o : Obj}, (c, fl, o) ∈ L4 → (∀ c', o ≠ Obj.cells c' 93) → (A.a (slot k)).b ≠ some c := fun hm ho hc => by
   obtain ⟨ys, hy⟩ := hR4.al _ _ hc;exact ho _ (hR4.fn _ _ _ _ _ hm hy).2
 have hrK := hrw hR4.k fun c => aF (by decide);have hrx := hrw hxk4 fun c => aF (by decide);have hrW := hrw hw4 fun c => by simp [mapO]
 co_applyP bm [kb K (kst A S), (xk, true, Obj.cells (keyv k).cells 96)] 6 (nf := 0) aZ;co_applyP tr (i := 0) rfl aj (ai (hRm _ hR4.k hxk4));co_applyP tr (i := 1) rfl aL (ai (hRm _ hR4.k hxk4));co_applyP tr (i := 2) rfl (av (hf := cr)) (ai (hRm _ hR4.k hxk4));co_applyP tr (i := 3) rfl (aC (ht := dD)) (ai (hRm _ hR4.k hxk4));co_applyP tr (i := 5) rfl aj (ai (hRm _ hR4.k hxk4));co_applyP tr (i := 4) rfl (a8 (ht := bJ) (hs := bi) (hm := hxR) (hi := Nat.le_refl _)) (ai (hRm _ hR4.k hxk4));co_applyP te (i := 6) rfl (iY ((hN _).r _) (hx := rfl) (hu := Tryz.underlying91) (hs := bI) (hz := hY));rintro _ _ ⟨nb, hnb, rfl, rfl⟩;refine ⟨aE (hRm _ (List.mem_cons_of_mem _ hR4.k) (List.mem_cons_of_mem _ hxk4)), ?_⟩;have hA5 := dk (o := .cells #[ptr b] 93) hR4.fn hnb;have hR5 := hR4.add hA5;co_applyP ba;intro hnd;co_applyP te (i := 7) rfl (zX (k := k) (hnd := hnd) ey Tryz.underlying110 (hm := hA5.sub _ hw4) (hl := hlkr) (hc := hat));rintro _ _ ⟨rfl, hU6⟩;refine ⟨aE (hRm _ (hU6.ne _ hR5.k hKw) (hU6.ne _ (hA5.sub _ hxk4) hxw)), ?_⟩;rename_i L6;have hE6 := upd_same hR5.fn (hA5.sub _ hw4) hU6;have hR6 := hR5.ext hE6;co_applyP tr (i := 8) rfl (bM) (aE (hRm _ (hU6.ne _ hR5.k hKw) (hU6.ne _ (hA5.sub _ hxk4) hxw)));co_applyP tr (i := 10) rfl (bM) (aE (hRm _ (hU6.ne _ hR5.k hKw) (hU6.ne _ (hA5.sub _ hxk4) hxw)));co_applyP ba;intro hnd6;have hx8 := hI.w.rl _ hin;co_applyP te (i := 9) rfl (pW (a := A.a (slot k)) (xs := xs) (c := b) (hnd := hnd6) (hN := (hN _).r) (ha := hR6.wa _ hin) (h8 := by simp at hx8; omega) (hnb := hE6.s _ hA5.self));rintro _ _ ⟨a', rfl, hp⟩;refine ⟨aE (hRm _ (hp.sub _ hR6.k hrK) (hp.sub _ (hE6.s _ (hA5.sub _ hxk4)) hrx)), ?_⟩;rename_i L7;co_applyP ba;intro hnd7;co_applyP te (i := 11) rfl (zZ (l1 := entsOf A l1 b1) (l2 := entsOf A l2 b2) (k := k) (v0 := slv (A.a (slot k)) xs.length) (c := c0) (hnd := hnd7) (hm := by rw [← hents]; exact hp.sub _ hU6.self hrW) (hc := hc0));rintro _ _ ⟨rfl, hU8⟩;refine ⟨aE (hRm _ (hU8.ne _ (hp.sub _ hR6.k hrK) hKw) (hU8.ne _ (hp.sub _ (hE6.s _ (hA5.sub _ hxk4)) hrx) hxw)), ?_⟩;co_applyP td (by kernel_rfl);change _ = _ ∧ kn _ _ ∧ ∃ A5, _;exact ⟨rfl, rfl, _, hR6.joinW1 hI hwt hl1 hl2 hborn hbl hp hU8⟩;rintro _ ε5 L5 ⟨rfl, he5, A5, hR5⟩;co_applyP a6 he5;have h05 : At L5 xk 0 (.int .i64 (k.1 : Nat)) := ⟨true, _, _, _, hR5.fr _ List.mem_cons_self, rfl⟩;co_applyP ae;co_applyP aa;co_applyP oy rfl aj;co_applyP oy rfl (av (hf := dJ));co_applyP oy rfl (aC (ht := aV));co_applyP oc rfl rfl rfl (g2 K A5 _ _ L5 eb k.1 hN hR5 (hE.mono fun t ht => List.mem_cons_of_mem _ ht) hIj);rintro _ _ _ ⟨rfl, rfl, A6, hR6⟩;co_applyP ah;change wpE ..;rename_i L6;generalize hS2 : (S.joinW b k).look k.1 = S2 at *;obtain ⟨z, hz⟩ : ∃ z, (b, z) ∈ S2.ps := by
   have : b ∈ S2.ps.map (·.1) := by rw [hlk.f]; exact hbn
   obtain ⟨q, hq, rfl⟩ := List.mem_map.1 this;exact ⟨q.2, hq⟩
 have hlv := hlk.i.g.lv _ hz;have hget := bt hlk.i.g.pn hz;have hw6 := hR6.w;rw [ct] at hw6;have hxk6 := hR6.fr _ List.mem_cons_self;have hk6 : At L6 K 15 (.map (some A6.wt)) := hR6.kat rfl;co_applyP dR (fun s'' ε'' L'' => s = s'' ∧ kn ε'' [] ∧ ∃ A7, Rep K A7 (if b ∈ S2.rowAt k then (match S2.get b with | some z => S2.stop1 b z use | none => S2) else S2) Fr L'');co_applyP bK (∀ e ∈ S2.wt, e.1 ≠ k);intro hn
 · have hkey := ig (i := 0) (dH (A := A6) (bs := A6.born) hn);co_applyP ae;co_applyP bm [] 7 aZ;co_applyP tr (i := 0) rfl aj (ai (by simp));co_applyP tr (i := 1) rfl aL (ai (by simp));co_applyP tr (i := 2) rfl (av (hf := cr)) (ai (by simp));co_applyP t0 (i := 3) rfl (aC (ht := dD)) (ai (by simp));co_applyP tr (i := 6) rfl aj (ai (by simp));co_applyP t0 (i := 4) rfl (a8 (ht := bJ) (hs := bi) (hm := hxk6) (hi := Nat.le_refl _)) (ai (by simp));co_applyP t0 (i := 5) rfl (nq (k := k) ey Tryz.underlying110 ii hw6) (ai (by simp));rw [hkey];co_applyP tc (i := 7) rfl rfl rfl (g3 L6 ⟨none, []⟩ [] b (by simp) ⟨rfl, rfl⟩ (fun c hc => by simp at hc) ⟨z, hR6.p _ hz⟩);rintro _ _ _ ⟨rfl, rfl, rfl⟩;refine ⟨aE (by simp), ?_⟩;co_applyP td (by kernel_rfl);change wpE ..;rw [show decide (b ∈ ([] : List Nat)) = false by simp];co_applyP aq rfl;co_applyP aA;change _ = _ ∧ kn _ _ ∧ ∃ A7, _;exact ⟨rfl, rfl, A6, by rw [gG hn, if_neg (by simp)]; exact hR6.less fun t ht => List.mem_cons_of_mem _ ht⟩
 intro hn;have hk' : k ∈ S2.wt.map (·.1) := Decidable.byContradiction fun hn' => hn fun e he e1 => hn' (List.mem_map.2 ⟨e, he, e1⟩);obtain ⟨l1, xs, l2, hwt, hl1, hl2⟩ := cu hlk.i.kn hk';have hin : (k, xs) ∈ S2.wt := by rw [hwt]; simp
 have hlkr := kh hR6.wl hwt hl1;have hra := cQ hlk.i.kn hin;co_applyP ae;co_applyP bm [] 7 aZ;co_applyP tr (i := 0) rfl aj (ai (by simp));co_applyP tr (i := 1) rfl aL (ai (by simp));co_applyP tr (i := 2) rfl (av (hf := cr)) (ai (by simp));co_applyP t0 (i := 3) rfl (aC (ht := dD)) (ai (by simp));co_applyP tr (i := 6) rfl aj (ai (by simp));co_applyP t0 (i := 4) rfl (a8 (ht := bJ) (hs := bi) (hm := hxk6) (hi := Nat.le_refl _)) (ai (by simp));co_applyP t0 (i := 5) rfl (nq (k := k) ey Tryz.underlying110 ii hw6) (ai (by simp));rw [hlkr];co_applyP tc (i := 7) rfl rfl rfl (g3 L6 (A6.a (slot k)) xs b (hlk.i.w.rl _ hin) (hR6.wa _ hin) (fun c hc => by obtain ⟨y, hy⟩ := hlk.i.w.rm _ hin c hc; exact ⟨y, hR6.p _ hy⟩) ⟨z, hR6.p _ hz⟩);rintro _ _ _ ⟨rfl, rfl, rfl⟩;refine ⟨aE (by simp), ?_⟩;co_applyP td (by kernel_rfl);change wpE ..;co_applyP bl rfl;intro hm;co_applyP aa;co_applyP oy rfl aj;co_applyP oy rfl aj;co_applyP oy rfl aj
 · have hm' : b ∈ xs := by simpa using hm
   co_applyP oc rfl rfl rfl (g4 K A6 S2 _ L6 b z use hR6 hz hlv (hlk.i.g.r8 hlv) (hlk.i.g.ex hlv) (fun e he => cI e.1 hlv));rintro _ _ _ ⟨rfl, rfl, A7, hw7, hR7⟩;co_applyP ah;change _ = _ ∧ kn _ _ ∧ ∃ A7, _;exact ⟨rfl, rfl, A7, by rw [hra, if_pos hm', hget]; exact hR7.less fun t ht => List.mem_cons_of_mem _ ht⟩
 intro hm;co_applyP aA;change _ = _ ∧ kn _ _ ∧ ∃ A7, _;have hm' : ¬ b ∈ xs := by simpa using hm
 exact ⟨rfl, rfl, A6, by rw [hra, if_neg hm']; exact hR6.less fun t ht => List.mem_cons_of_mem _ ht⟩;rintro _ ε7 L7 ⟨rfl, he7, A7, hR7⟩;co_applyP a6 he7;co_applyP ae;co_applyP aa;co_applyP oy rfl ak;co_applyP ah;change wpE ..;co_applyP aJ;change ∃ v, resE .. = some v ∧ _;exact ⟨_, rfl, rfl, rfl, A7, hR7⟩
theorem eF {x : PS} {use most : Nat} (h : x.checkUse use most = none) : (x.file (x.r 0)).2 = use ∧ x.r 2 ≤ most ∧ x.r 1 + x.r 2 ≤ 64 := by
 unfold PS.checkUse at h
 split at h
 · cases h
 · rename_i h1
   split at h
   · cases h
   · rename_i h2
     split at h
     · cases h
     · rename_i h3;exact ⟨by omega, by omega, by omega⟩
theorem Inv.file_ok {S : St} {b : Nat} {x : PS} (h : Inv S) (hb : (b, x) ∈ S.ps) (n : Int) : x.file n = (0, 0) ∨ okEnd (x.file n) := by
 unfold PS.file
 split
 · by_cases h0 : n < 0
   · have : n.toNat = 0 := by omega
     rw [this]; exact h.fl _ hb 0 (by omega)
   · exact h.fl _ hb _ (by omega)
 · exact .inl rfl
theorem xC : ∃ n, ∀ {σ : Type} {F : Fam σ} {Δ : ∀ s, Dom (F.R s) (F.D s)} {main : Bool} {s : σ} (K : Nat) (A : Lay) (S : St) (Fr L : Frag) (eb : Nat → Nat × Nat) (b : Nat) (x : PS) (use most : Nat), (∀ s, NewK (Δ s)) → Rep K A S Fr L → Ers eb Fr → Inv S → (b, x) ∈ S.ps → S.out b → x.st = 1 → use = 4 ∨ use = 5 → (use = 5 → most ≤ 8) →
   CallsL Δ Tryz.prog main 138 [ptr K, ptr b, .int .i64 (use : Nat), .int .i64 (most : Nat)].toArray n s L (fun s' v L' => s = s' ∧ v = erV eb (S.askR b x use most).1 ∧ ∃ A', Rep K A' (S.askR b x use most).2 Fr L') := by
 obtain ⟨n0, g0⟩ := z4;obtain ⟨n1, g1⟩ := z5;refine ⟨n0 + n1, fun {σ F Δ main s} K A S Fr L eb b x use most hN hR hE hI hb ho hst hu hm => aS (x.checkUse use most ≠ none) (fun h => ?_) fun h => ?_⟩
 · cases hc : x.checkUse use most with
   | none => exact absurd hc h
   | some i =>
     have e : S.askR b x use most = (some i, S) := by unfold St.askR; rw [hc]
     rw [e];exact aU (g0 K A S Fr L eb b x use most i (hN _).k hR hE hI hb hc) fun s' v L' ⟨h1, h2, h3⟩ => ⟨h1, h2, A, h3⟩
 · have hc : x.checkUse use most = none := Decidable.byContradiction h;obtain ⟨c1, c2, c3⟩ := eF hc;have hk : okEnd (x.file (x.r 0)) := (hI.file_ok hb _).resolve_left fun e => by rw [e] at c1; simp only at c1; omega
   have e : S.askR b x use most = (none, if b ∈ ((S.joinW b (x.file (x.r 0))).look (x.file (x.r 0)).1).rowAt (x.file (x.r 0)) then (match ((S.joinW b (x.file (x.r 0))).look (x.file (x.r 0)).1).get b with
     | some z => ((S.joinW b (x.file (x.r 0))).look (x.file (x.r 0)).1).stop1 b z use
     | none => ((S.joinW b (x.file (x.r 0))).look (x.file (x.r 0)).1)) else ((S.joinW b (x.file (x.r 0))).look (x.file (x.r 0)).1)) := by unfold St.askR; rw [hc]; rfl
   rw [e];exact g1 K A S Fr L eb b x use most _ hN hR hE hI hb ho hc rfl hk ⟨rfl, c3, fun h5 => by rw [h5] at c1; have := hm c1.symm; omega, .inl hst⟩
theorem wq : zeroAt Tryz.prog 3 = some (.int .i64 0) := by kernel_rfl
theorem z6 : bytesAt Tryz.prog 3 = some 8 := by kernel_rfl
structure ApI (L : Frag) (a : Sl) (zs : List Value) (a' : Sl) (L' : Frag) : Prop where
 ok : slOk a' zs 3 L'
 fn : Fun L'
 sub : ∀ t ∈ L, a.b ≠ some t.1 → t ∈ L'
 d : ∀ b, a'.b = some b → a.b = some b ∨ ∀ t ∈ L, t.1 ≠ b
section
variable {New : Obj → Prop} {N : Nat} {ε : Env} {L : Frag} {d : Option Tmp} {ty : TypeId} {ps : String} {af : Array Edge} {g : Option (Nat × Bool)} {x y : Operand}
theorem wu {a : Sl} {xs : List Value} (ha : slOk a xs 3 L) : Reads Tryz.prog L 1 xs.length (slv a xs.length) xs.toArray := by
 cases hab : a.b with
 | none =>
   unfold slOk at ha;rw [hab] at ha;obtain rfl : xs = [] := ha.1;have e3 : slv a 0 = .slice none 0 0 := by unfold slv; rw [hab]
   show Reads Tryz.prog L 1 0 (slv a 0) #[];rw [e3]; exact dC
 | some b =>
   have hm := ha.mem hab;have e3 : slv a xs.length = .slice (some ⟨b, 0, none⟩) xs.length (xs.length + a.junk.length) := by unfold slv; rw [hab]
   rw [e3];have := b7 (P := Tryz.prog) (sz := 1) (n := xs.length) (len := xs.length) (cap := xs.length + a.junk.length) (o := 0) hm (by simp);have e7 : (xs ++ a.junk).take xs.length = xs := by rw [List.take_append_of_le_length (by simp)]; exact List.take_of_length_le (by simp)
   simpa [e7] using this
theorem z7 {a : Sl} {xs ys : List Value} {yb : Option Addr} {yc : Nat} (hx : ev ε x = some (slv a xs.length) := by rfl) (hy : ev ε y = some (.slice yb ys.length yc) := by rfl) (hnd : (L.map (·.1)).Nodup) (hN : ∀ cs, New (.cells cs 3)) (ha : slOk a xs 3 L) (hr : Reads Tryz.prog L 1 ys.length (.slice yb ys.length yc) ys.toArray) (hpl : ys.all plainV = true) (h8 : xs.length ≤ 1000) (h8' : ys.length ≤ 1000) :
   EO Tryz.prog New N ε L ⟨d, .call ⟨.builtin .append, #[x, y], #[54, 54]⟩, ty, ps, af, g⟩ (fun r L' => ∃ a', r = slv a' (xs ++ ys).length ∧ ApI L a (xs ++ ys) a' L') := by
 have hws := wu ha
 have grow : ∀ (cap0 : Nat), (∃ base, slv a xs.length = .slice base xs.length cap0) → cap0 < xs.length + ys.length →
     EO Tryz.prog New N ε L ⟨d, .call ⟨.builtin .append, #[x, y], #[54, 54]⟩, ty, ps, af, g⟩ (fun r L' => ∃ a', r = slv a' (xs ++ ys).length ∧ ApI L a (xs ++ ys) a' L') := by
   rintro cap0 ⟨base, hb⟩ hc;rw [hb] at hws hx;intro ac hac;refine bR ?_ _ _ (la (by_ := 7) (New := New) hx hy (bF hnd) Tryz.underlying54 Tryz.underlying54 dm z6 wq hws hr hc (by omega) hN ac hac);intro r L' q;cases r <;> try exact q.elim
   · obtain ⟨b, cap, h1, h2, rfl, hA⟩ := q;rw [eq rfl] at hA;refine ⟨⟨some b, List.replicate (cap - (xs.length + ys.length)) (.int .i64 0)⟩, ?_, ?_, hA.fn, fun t ht _ => hA.sub t ht, fun b' hb' => .inr ?_⟩
     · unfold slv; simp; omega
     · have e5 : xs.toArray ++ ys.toArray ++ (List.replicate (cap - (xs.length + ys.length)) (Value.int .i64 0)).toArray = ((xs ++ ys) ++ List.replicate (cap - (xs.length + ys.length)) (Value.int .i64 0)).toArray := by
         apply Array.ext'; simp
       rw [e5] at hA;exact hA.self
     · obtain rfl : b = b' := by simpa using hb'
       exact hA.new
   · obtain ⟨b, cap, _, _, e, _⟩ := q; cases e
 cases hab : a.b with
 | none =>
   have h2 := ha;unfold slOk at h2;rw [hab] at h2;obtain ⟨e1, e2⟩ := h2;obtain rfl : xs = [] := e1;have e3 : slv a 0 = .slice none 0 0 := by unfold slv; rw [hab]
   by_cases h0 : 0 < ys.length
   · exact grow 0 ⟨none, e3⟩ (by simpa using h0)
   · obtain rfl : ys = [] := List.length_eq_zero_iff.1 (by omega);intro ac hac;rw [List.length_nil, e3] at hx;refine bR ?_ _ _ (oY (New := New) hx hy Tryz.underlying54 Tryz.underlying54 dm hr ac hac);intro r L' q;cases r <;> try exact q.elim
     · obtain ⟨rfl, rfl⟩ := q;exact ⟨a, e3.symm, ha, bF hnd, fun t ht _ => ht, fun b hb => by rw [hab] at hb; cases hb⟩
     · exact absurd q.1 (by simp [undef])
 | some b =>
   have hm := ha.mem hab;have e3 : slv a xs.length = .slice (some ⟨b, 0, none⟩) xs.length (xs.length + a.junk.length) := by unfold slv; rw [hab]
   by_cases hj : ys.length ≤ a.junk.length
   · intro ac hac;rw [e3] at hx;refine bR ?_ _ _ (jM (New := New) hx hy hnd Tryz.underlying54 Tryz.underlying54 dm hr (by omega) hm (by simp; omega) (by simpa using hpl) ac hac);intro r L' q;cases r <;> try exact q.elim
     · obtain ⟨rfl, hU⟩ := q;have e4 : puts (xs ++ a.junk).toArray (0 + xs.length * 1) ys.toArray.toList = ((xs ++ ys) ++ a.junk.drop ys.length).toArray := by
         rw [b6 _ _ _ (by simp; omega)];have e6 : (xs ++ a.junk).drop (xs.length + ys.length) = a.junk.drop ys.length := by
           rw [List.drop_append]; simp
         have e7 : (xs ++ a.junk).take xs.length = xs := by rw [List.take_append_of_le_length (by simp)]; exact List.take_of_length_le (by simp)
         simp [e6, e7]
       rw [e4] at hU;refine ⟨⟨some b, a.junk.drop ys.length⟩, ?_, hU.self, hU.fn, fun t ht hne => hU.ne t ht fun e => hne (by rw [hab, e]), fun b' hb' => .inl (by rw [hab]; exact hb')⟩;unfold slv; simp; omega
     · exact absurd q.1 (by simp [undef])
   · exact grow (xs.length + a.junk.length) ⟨_, e3⟩ (by omega)
end
def St.shutAt (S : St) (p : Nat) : Bool := !S.isOpen (p, 4) && !S.isOpen (p, 5)
def St.unused (S : St) : Nat := match (List.range' 1 4).find? S.shutAt with
 | some p => p
 | none => 0
theorem rB {S : St} {i : Nat} (h1 : 1 ≤ i) (h5 : i < 5) (hn : ∀ j, 1 ≤ j → j < i → S.shutAt j = false) (hi : S.shutAt i = true) : S.unused = i := by
 unfold St.unused;have e : (List.range' 1 4).find? S.shutAt = some i := by
   show [1, 2, 3, 4].find? S.shutAt = some i;have : i = 1 ∨ i = 2 ∨ i = 3 ∨ i = 4 := by omega
   rcases this with rfl | rfl | rfl | rfl
   · simp [List.find?_cons, hi]
   · simp [List.find?_cons, hi, hn 1 (by omega) (by omega)]
   · simp [List.find?_cons, hi, hn 1 (by omega) (by omega), hn 2 (by omega) (by omega)]
   · simp [List.find?_cons, hi, hn 1 (by omega) (by omega), hn 2 (by omega) (by omega), hn 3 (by omega) (by omega)]
 rw [e]
theorem nw {S : St} (hn : ∀ j, 1 ≤ j → j < 5 → S.shutAt j = false) : S.unused = 0 := by
 unfold St.unused;have e : (List.range' 1 4).find? S.shutAt = none := by
   show [1, 2, 3, 4].find? S.shutAt = none;simp [List.find?_cons, hn 1 (by omega) (by omega), hn 2 (by omega) (by omega), hn 3 (by omega) (by omega), hn 4 (by omega) (by omega)]
 rw [e]
theorem ll (S : St) : S.unused < 5 := by
 unfold St.unused
 split
 · rename_i p h;have := List.mem_of_find?_eq_some h;simp [List.mem_range'] at this;omega
 · omega
theorem ko : ∃ n, ∀ {σ : Type} {F : Fam σ} {Δ : ∀ s, Dom (F.R s) (F.D s)} {main : Bool} {s : σ} (K : Nat) (A : Lay) (S : St) (Fr L : Frag), (∀ s cs, (Δ s).New (.cells cs 96)) → Rep K A S Fr L →
   CallsL Δ Tryz.prog main 150 [ptr K].toArray n s L (fun s' v L' => s = s' ∧ v = .int .i64 (S.unused : Nat) ∧ Ext L L') := by
 obtain ⟨n1, g1⟩ := ij;apply Exists.intro;intro σ F Δ main s K A S Fr L hN hR;co_applyP aB 21 Tryz.func150 Tryz.ntmps150;co_applyP ae;co_applyP aa;co_applyP oy rfl ak;co_applyP ah;change wpE ..;co_applyP ae;co_applyP ae;co_applyP aa;co_applyP oy rfl ak;co_applyP ah;change wpE ..;co_applyP aI;co_applyP bG (fun c s' ε' L' => s' = s ∧ Ext L L' ∧ ∃ i : Nat, 1 ≤ i ∧ i ≤ 5 ∧ c + i = 5 ∧ (∀ j, 1 ≤ j → j < i → S.shutAt j = false) ∧ kn ε' [(0, ptr K), (3, .int .i64 (i : Nat))]) 4
 · exact ⟨rfl, ⟨hR.fn, fun _ h => h⟩, 1, by omega, by omega, rfl, fun j h1 h2 => by omega, rfl⟩
 rintro c s' ε' L' ⟨rfl, hE, i, hi1, hi5, hc, hn, he⟩;co_applyP a6 he;have hR' := hR.ext hE;have ei : IntKind.i64.wrap ((i : Int) + 1) = ((i + 1 : Nat) : Int) := by simp [IntKind.wrap_i64]; omega
 co_applyP ae;co_applyP ae;co_applyP aa;co_applyP oy rfl aj;co_applyP oy rfl k9;co_applyP ah;change wpE ..;co_applyP bl rfl;intro hlt
 · have hi4 : i < 5 := by simp at hlt; omega
   co_applyP aA;change wpE ..;co_applyP dR (fun s'' ε'' L'' => s' = s'' ∧ kn ε'' [(0, ptr K), (3, .int .i64 (i : Nat))] ∧ Ext L L'' ∧ S.shutAt i = false);co_applyP bK (S.isOpen (i, 4) = true);intro h4
   · skip
     co_applyP aI;co_applyP ae;co_applyP aa;co_applyP oy rfl aj;co_applyP oy rfl aj;co_applyP oy rfl (bq (dq _ _));co_applyP oc rfl rfl rfl (g1 K A S Fr L' (i, 4) (hN _) hR');rintro _ _ _ ⟨rfl, rfl, hE1⟩;co_applyP oy rfl bY;co_applyP oy rfl aj;rw [h4];co_applyP ou rfl;co_applyP ou rfl;co_applyP ou rfl;co_applyP ou rfl;co_applyP ou rfl;co_applyP oy rfl aN;co_applyP ah;change wpE ..;co_applyP aq rfl;co_applyP aA;change _ = _ ∧ kn _ _ ∧ _ ∧ _;exact ⟨rfl, rfl, hE.trans hE1, by unfold St.shutAt; rw [h4]; rfl⟩
   intro h4;have h4' : S.isOpen (i, 4) = false := by simpa using h4
   co_applyP bK (S.isOpen (i, 5) = true);intro h5
   · skip
     co_applyP aI;co_applyP ae;co_applyP aa;co_applyP oy rfl aj;co_applyP oy rfl aj;co_applyP oy rfl (bq (dq _ _));co_applyP oc rfl rfl rfl (g1 K A S Fr L' (i, 4) (hN _) hR');rintro _ _ _ ⟨rfl, rfl, hE1⟩;co_applyP oy rfl bY;co_applyP oy rfl aj;rename_i L1;rw [h4'];co_applyP oy rfl (aj);co_applyP oy rfl (aj);co_applyP oy rfl (bq (dq _ _));co_applyP oc rfl rfl rfl (g1 K A S Fr L1 (i, 5) (hN _) (hR'.ext hE1));rintro _ _ _ ⟨rfl, rfl, hE2⟩;rw [h5];co_applyP oy rfl (bY);co_applyP oy rfl aN;co_applyP ah;change wpE ..;co_applyP aq rfl;co_applyP aA;change _ = _ ∧ kn _ _ ∧ _ ∧ _;exact ⟨rfl, rfl, hE.trans (hE1.trans hE2), by unfold St.shutAt; rw [h4', h5]; rfl⟩
   intro h5;have h5' : S.isOpen (i, 5) = false := by simpa using h5
   co_applyP aI;co_applyP ae;co_applyP aa;co_applyP oy rfl aj;co_applyP oy rfl aj;co_applyP oy rfl (bq (dq _ _));co_applyP oc rfl rfl rfl (g1 K A S Fr L' (i, 4) (hN _) hR');rintro _ _ _ ⟨rfl, rfl, hE1⟩;co_applyP oy rfl bY;co_applyP oy rfl aj;rename_i L1;rw [h4'];co_applyP oy rfl (aj);co_applyP oy rfl (aj);co_applyP oy rfl (bq (dq _ _));co_applyP oc rfl rfl rfl (g1 K A S Fr L1 (i, 5) (hN _) (hR'.ext hE1));rintro _ _ _ ⟨rfl, rfl, hE2⟩;rw [h5'];co_applyP oy rfl (bY);co_applyP oy rfl aN;co_applyP ah;change wpE ..;co_applyP aW rfl;co_applyP ae;co_applyP aa;co_applyP oy rfl aj;co_applyP oy rfl ak;co_applyP ah;change wpE ..;co_applyP aJ;change ∃ v, resE .. = some v ∧ _;exact ⟨_, rfl, rfl, by rw [rB hi1 hi4 hn (by unfold St.shutAt; rw [h4', h5']; rfl)], hE.trans (hE1.trans hE2)⟩;rintro s'' ε'' L'' ⟨rfl, he2, hE2, hsh⟩;co_applyP a6 he2;co_applyP aa;co_applyP oy rfl aj;co_applyP oy rfl a7;co_applyP oy rfl ak;co_applyP ah;change ∃ k', k' < _ ∧ _;refine ⟨c - 1, by omega, rfl, hE2, i + 1, by omega, by omega, by omega, fun j h1 h2 => ?_, by rw [← ei]; rfl⟩;by_cases e : j = i
   · rw [e]; exact hsh
   · exact hn j h1 (by omega)
 intro hlt;co_applyP bL;change wpE ..;co_applyP ae;co_applyP aa;co_applyP oy rfl ak;co_applyP ah;change wpE ..;co_applyP aJ;change ∃ v, resE .. = some v ∧ _;have hi5' : i = 5 := by simp at hlt; omega
 subst hi5';exact ⟨_, rfl, rfl, by rw [nw hn]; rfl, hE⟩
structure NewT {R : World → World → Prop} {D : World → World → Array Event → Prop} (Δ : Dom R D) : Prop extends NewK Δ where
 n : ∀ cs, Δ.New (.cells cs 3)
abbrev nums (l : List Nat) : List Value := l.map fun (i : Nat) => Value.int .i64 (i : Nat)
def PS.frees (x : PS) (n : Nat) : List Nat := (List.range n).filter fun i => decide (x.f i = (0, 0))
theorem wv {x : PS} {i : Nat} (h : x.f i = (0, 0)) : x.frees (i + 1) = x.frees i ++ [i] := by
 unfold PS.frees; rw [List.range_succ, List.filter_append]; simp [h]
theorem qg {x : PS} {i : Nat} (h : ¬ x.f i = (0, 0)) : x.frees (i + 1) = x.frees i := by
 unfold PS.frees; rw [List.range_succ, List.filter_append]; simp [h]
theorem rC (x : PS) (n : Nat) : (x.frees n).length ≤ n := by
 unfold PS.frees;have := List.length_filter_le (fun i => decide (x.f i = (0, 0))) (List.range n);simpa using this
theorem o8 : ∃ n, ∀ {σ : Type} {F : Fam σ} {Δ : ∀ s, Dom (F.R s) (F.D s)} {main : Bool} {s : σ} (L : Frag) (b : Nat) (x : PS), (∀ s, NewT (Δ s)) → Fun L → pb b x ∈ L →
   CallsL Δ Tryz.prog main 151 [ptr b].toArray n s L (fun s' v L' => s = s' ∧ ∃ a, v = slv a (nums (x.frees 6)).length ∧ slOk a (nums (x.frees 6)) 3 L' ∧ (∀ t ∈ L, a.b ≠ some t.1) ∧ Ext L L') := by
 obtain ⟨n1, g1⟩ := il;apply Exists.intro;intro σ F Δ main s L b x hN hF hb;co_applyP aB 22 Tryz.func151 Tryz.ntmps151;co_applyP ae;co_applyP aa;co_applyP oy rfl ak;co_applyP ah;change wpE ..;co_applyP ae;co_applyP aa;co_applyP oy rfl ak;co_applyP ah;change wpE ..;co_applyP ae;co_applyP ae;co_applyP aa;co_applyP oy rfl aj;co_applyP oy rfl aL;co_applyP oy rfl (av (hf := dT));co_applyP oy rfl (a8 (ht := tl) (hs := tj) (hm := hb) (hi := by rw [bg]; omega));co_applyP oy rfl aj;co_applyP ah;change wpE ..;co_applyP aI;rw [show (0 + 79 : Nat) = 79 from rfl, show (79 + 12 : Nat) = 91 from rfl, gH];co_applyP bG (fun c s' ε' L' => s' = s ∧ Ext L L' ∧ ∃ i a, i ≤ 6 ∧ c + i = 6 ∧ slOk a (nums (x.frees i)) 3 L' ∧ (∀ t ∈ L, a.b ≠ some t.1) ∧ kn ε' [(0, ptr b), (9, filesv x.f), (10, .int .i64 (i : Nat)), (3, slv a (nums (x.frees i)).length)]) 6
 · exact ⟨rfl, ⟨hF, fun _ h => h⟩, 0, ⟨none, []⟩, by omega, rfl, ⟨rfl, rfl⟩, fun t ht => by simp, rfl⟩
 rintro c s' ε' L' ⟨rfl, hE, i, a, hi, hc, ha, han, he⟩;co_applyP a6 he;have ei : IntKind.i64.wrap ((i : Int) + 1) = ((i + 1 : Nat) : Int) := by simp [IntKind.wrap_i64]; omega
 have hfl := rC x i;co_applyP ae;co_applyP aa;co_applyP oy rfl bX;co_applyP ah;change wpE ..;co_applyP ae;co_applyP bl rfl;intro hlt
 · have hi6 : i < 6 := by simp at hlt; omega
   co_applyP aA;change wpE ..;co_applyP dR (fun s'' ε'' L'' => s' = s'' ∧ Ext L L'' ∧ ∃ a', slOk a' (nums (x.frees (i + 1))) 3 L'' ∧ (∀ t ∈ L, a'.b ≠ some t.1) ∧ kn ε'' [(0, ptr b), (9, filesv x.f), (10, .int .i64 (i : Nat)), (3, slv a' (nums (x.frees (i + 1))).length)]);co_applyP aI;co_applyP ae;co_applyP aa;co_applyP oy rfl aj;co_applyP oy rfl (ub (xA x.f hi6));co_applyP bN rfl (dQ (z := keyv (0, 0)) ((hN _).k _));intro nb L1 hA1;co_applyP oy rfl ak;co_applyP oeN rfl (fun hnd => fj (hs := bi) (vs := [.int .i64 (x.f i).1, .int .i64 (x.f i).2]) (hnd := hnd) (hm := hA1.self) (hi := Nat.le_refl _));rintro _ L2 ⟨rfl, hU2⟩;co_applyP ah;change wpE ..;co_applyP ae;co_applyP aa;have hE2 : Ext L' L2 := ⟨hU2.fn, fun t ht => hU2.ne _ (hA1.sub _ ht) (hA1.new _ ht)⟩;co_applyP oy rfl (a8 (ht := bJ) (hs := bi) (hm := hU2.self) (hi := Nat.le_refl _));co_applyP oc rfl rfl rfl (g1 L2 (x.f i) (hN _).k);rintro _ _ _ ⟨rfl, rfl, hE3⟩;co_applyP ah;change wpE ..;rename_i L3;have hE3' := hE2.trans hE3;have ha3 := ha.mono fun c hc o ho => hE3'.s _ ho;co_applyP bl rfl;intro hz;co_applyP aa;co_applyP oy rfl aj;co_applyP oy rfl aj
   · have hz' : x.f i = (0, 0) := by simpa using hz
     co_applyP bN rfl (iY ((hN _).n _) (hu := Tryz.underlying54) (hs := dm) (hz := wq));intro nb4 L4 hA4;have hr : Reads Tryz.prog L4 1 [Value.int .i64 (i : Nat)].length (.slice (some ⟨nb4, 0, none⟩) [Value.int .i64 (i : Nat)].length 1) [Value.int .i64 (i : Nat)].toArray := by
       have := b7 (P := Tryz.prog) (sz := 1) (n := 1) (len := 1) (cap := 1) (o := 0) hA4.self (by simp);simpa using this
     co_applyP oeN rfl (fun hnd => z7 (a := a) (xs := nums (x.frees i)) (ys := [Value.int .i64 (i : Nat)]) (hnd := hnd) (hN := (hN _).n) (ha := ha3.mono fun c hc o ho => hA4.sub _ ho) (hr := hr) (hpl := rfl) (h8 := by simp; omega) (h8' := by simp));rintro _ L5 ⟨a', rfl, hp⟩;co_applyP oy rfl ak;co_applyP ah;change _ = _ ∧ _ ∧ ∃ a', _ ∧ _ ∧ kn _ _;have ef : nums (x.frees (i + 1)) = nums (x.frees i) ++ [Value.int .i64 (i : Nat)] := by rw [wv hz']; simp
     refine ⟨rfl, ⟨hp.fn, fun t ht => hp.sub _ (hA4.sub _ (hE3'.s _ (hE.s _ ht))) (han t ht)⟩, a', by rw [ef]; exact hp.ok, fun t ht e => ?_, by rw [ef]; rfl⟩;rcases hp.d _ e with h | h
     · exact han t ht h
     · exact h _ (hA4.sub _ (hE3'.s _ (hE.s _ ht))) rfl
   intro hz;co_applyP aA;change _ = _ ∧ _ ∧ ∃ a', _ ∧ _ ∧ kn _ _;have hz' : ¬ x.f i = (0, 0) := by simpa using hz
   exact ⟨rfl, hE.trans hE3', a, by rw [qg hz']; exact ha3, han, by rw [qg hz']; rfl⟩;rintro s'' ε'' L'' ⟨rfl, hE4, a', ha', han', he4⟩;co_applyP a6 he4;co_applyP aa;co_applyP oy rfl a7;co_applyP oy rfl aj;co_applyP ah;change ∃ k', k' < _ ∧ _;exact ⟨c - 1, by omega, rfl, hE4, i + 1, a', by omega, by omega, ha', han', by rw [← ei]; rfl⟩
 intro hlt;co_applyP bL;change wpE ..;co_applyP ae;co_applyP aa;co_applyP oy rfl aj;co_applyP oy rfl ak;co_applyP ah;change wpE ..;co_applyP aJ;change ∃ v, resE .. = some v ∧ _;have hi6' : i = 6 := by simp at hlt; omega
 subst hi6';exact ⟨_, rfl, rfl, a, rfl, ha, han, hE⟩
def PS.piped (x : PS) (u i j : Nat) : PS := { x with f := put (put x.f i (u, 4)) j (u, 5), r := put (put x.r 0 i) 1 j }
def St.pipeR (S : St) (b : Nat) (x : PS) : Option Nat × St := if S.unused = 0 then (some 4, S) else match x.frees 6 with
 | i :: j :: _ => (none, (S.setY S.unused []).setP b (x.piped S.unused i j))
 | _ => (some 4, S)
theorem yv : ∃ n, ∀ {σ : Type} {F : Fam σ} {Δ : ∀ s, Dom (F.R s) (F.D s)} {main : Bool} {s : σ} (K : Nat) (A : Lay) (S : St) (Fr L : Frag) (eb : Nat → Nat × Nat) (b : Nat) (x : PS), (∀ s, NewT (Δ s)) → Rep K A S Fr L → Ers eb Fr → (b, x) ∈ S.ps → S.unused = 0 →
   CallsL Δ Tryz.prog main 136 [ptr K, ptr b].toArray n s L (fun s' v L' => s = s' ∧ v = erv eb 4 ∧ Rep K A S Fr L') := by
 obtain ⟨n0, g0⟩ := ko;obtain ⟨n1, g1⟩ := o8;apply Exists.intro;intro σ F Δ main s K A S Fr L eb b x hN hR hE hb hu;co_applyP aB 60 Tryz.func136 Tryz.ntmps136;co_applyP ae;co_applyP aa;co_applyP oy rfl ak;co_applyP ah;change wpE ..;co_applyP ae;co_applyP aa;co_applyP oy rfl aj;co_applyP oc rfl rfl rfl (g0 K A S Fr L (fun s => (hN s).k) hR);rintro _ _ _ ⟨rfl, rfl, hE1⟩;co_applyP oy rfl aj;rename_i L1;have hR1 := hR.ext hE1;co_applyP oc rfl rfl rfl (g1 L1 b x hN hE1.f (hR1.p _ hb));rintro _ _ _ ⟨rfl, a, rfl, ha, han, hE2⟩;co_applyP oy rfl ak;co_applyP oy rfl ak;co_applyP ah;change wpE ..;co_applyP ae (n₂ := 0);co_applyP ae;rename_i L2;have hR2 := hR1.ext hE2;have hg := (hE.mono hR2.fr).g 4 (by decide) (by decide);rw [hu];co_applyP aa;co_applyP oy rfl aj;co_applyP oy rfl ay;co_applyP oy rfl aj;co_applyP ou rfl;co_applyP ou rfl;co_applyP ou rfl;co_applyP oy rfl aN;co_applyP ah;change wpE ..;co_applyP aW rfl;co_applyP ae;co_applyP aa;co_applyP oy rfl (aC (ht := b4));co_applyP oy rfl ak;co_applyP ah;change wpE ..;co_applyP aJ;change ∃ v, resE .. = some v ∧ _;exact ⟨_, rfl, rfl, rfl, hR2⟩
theorem yw : ∃ n, ∀ {σ : Type} {F : Fam σ} {Δ : ∀ s, Dom (F.R s) (F.D s)} {main : Bool} {s : σ} (K : Nat) (A : Lay) (S : St) (Fr L : Frag) (eb : Nat → Nat × Nat) (b : Nat) (x : PS), (∀ s, NewT (Δ s)) → Rep K A S Fr L → Ers eb Fr → (b, x) ∈ S.ps → S.unused ≠ 0 → (x.frees 6).length < 2 →
   CallsL Δ Tryz.prog main 136 [ptr K, ptr b].toArray n s L (fun s' v L' => s = s' ∧ v = erv eb 4 ∧ Rep K A S Fr L') := by
 obtain ⟨n0, g0⟩ := ko;obtain ⟨n1, g1⟩ := o8;apply Exists.intro;intro σ F Δ main s K A S Fr L eb b x hN hR hE hb hu hlt;have eu : ((S.unused : Int) == 0) = false := by simp; omega
 co_applyP aB 60 Tryz.func136 Tryz.ntmps136;co_applyP ae;co_applyP aa;co_applyP oy rfl ak;co_applyP ah;change wpE ..;co_applyP ae;co_applyP aa;co_applyP oy rfl aj;co_applyP oc rfl rfl rfl (g0 K A S Fr L (fun s => (hN s).k) hR);rintro _ _ _ ⟨rfl, rfl, hE1⟩;co_applyP oy rfl aj;rename_i L1;have hR1 := hR.ext hE1;co_applyP oc rfl rfl rfl (g1 L1 b x hN hE1.f (hR1.p _ hb));rintro _ _ _ ⟨rfl, a, rfl, ha, han, hE2⟩;co_applyP oy rfl ak;co_applyP oy rfl ak;co_applyP ah;change wpE ..;co_applyP ae (n₂ := 0);co_applyP ae;rename_i L2;have hR2 := hR1.ext hE2;have hg := (hE.mono hR2.fr).g 4 (by decide) (by decide);obtain ⟨base, cap, hv, hat⟩ := bA ha;rw [hv];co_applyP aa;co_applyP oy rfl aj;co_applyP oy rfl ay;co_applyP oy rfl aj;rw [eu];co_applyP oy rfl (aj);co_applyP oy rfl ((bz (hu := Tryz.underlying54)));co_applyP oy rfl (bX);co_applyP oy rfl aN;co_applyP ah;change wpE ..;have el : decide (((nums (x.frees 6)).length : Int) < 2) = true := by simp; omega
 rw [el];co_applyP aW rfl;co_applyP ae;co_applyP aa;co_applyP oy rfl (aC (ht := b4));co_applyP oy rfl ak;co_applyP ah;change wpE ..;co_applyP aJ;change ∃ v, resE .. = some v ∧ _;exact ⟨_, rfl, rfl, rfl, hR2⟩
theorem yx : ∃ n, ∀ {σ : Type} {F : Fam σ} {Δ : ∀ s, Dom (F.R s) (F.D s)} {main : Bool} {s : σ} (K : Nat) (A : Lay) (S : St) (Fr L : Frag) (eb : Nat → Nat × Nat) (b : Nat) (x : PS) (i j : Nat) (l : List Nat), (∀ s, NewT (Δ s)) → Rep K A S Fr L → (b, x) ∈ S.ps → S.unused ≠ 0 → x.frees 6 = i :: j :: l → i < 6 → j < 6 →
   CallsL Δ Tryz.prog main 136 [ptr K, ptr b].toArray n s L (fun s' v L' => s = s' ∧ v = .nilIface ∧ ∃ A', Rep K A' ((S.setY S.unused []).setP b (x.piped S.unused i j)) Fr L') := by
 obtain ⟨n0, g0⟩ := ko;obtain ⟨n1, g1⟩ := o8;apply Exists.intro;intro σ F Δ main s K A S Fr L eb b x i j l hN hR hb hu hij hi6 hj6;have eu : ((S.unused : Int) == 0) = false := by simp; omega
 have hu5 := ll S;co_applyP aB 60 Tryz.func136 Tryz.ntmps136;co_applyP ae;co_applyP aa;co_applyP oy rfl ak;co_applyP ah;change wpE ..;co_applyP ae;co_applyP aa;co_applyP oy rfl aj;co_applyP oc rfl rfl rfl (g0 K A S Fr L (fun s => (hN s).k) hR);rintro _ _ _ ⟨rfl, rfl, hE1⟩;co_applyP oy rfl aj;rename_i L1;have hR1 := hR.ext hE1;co_applyP oc rfl rfl rfl (g1 L1 b x hN hE1.f (hR1.p _ hb));rintro _ _ _ ⟨rfl, a, rfl, ha, han, hE2⟩;co_applyP oy rfl ak;co_applyP oy rfl ak;co_applyP ah;change wpE ..;co_applyP ae;co_applyP ae;rename_i L2;have hR2 := hR1.ext hE2;obtain ⟨base, cap, hv, hat⟩ := bA ha;obtain ⟨q, haq, hbase, hq0⟩ := hat 0 (.int .i64 (i : Nat)) (by rw [hij]; rfl);obtain ⟨q', haq', _, hq1⟩ := hat 1 (.int .i64 (j : Nat)) (by rw [hij]; rfl);obtain rfl : q = q' := by rw [haq] at haq'; exact Option.some.inj haq'
 have hlen : (nums (x.frees 6)).length = l.length + 2 := by rw [hij]; simp
 rw [hv, hbase];co_applyP aa;co_applyP oy rfl aj;co_applyP oy rfl ay;co_applyP oy rfl aj;rw [eu];co_applyP oy rfl (aj);co_applyP oy rfl ((bz (hu := Tryz.underlying54)));co_applyP oy rfl (bX);co_applyP oy rfl aN;co_applyP ah;change wpE ..;have el : decide (((nums (x.frees 6)).length : Int) < 2) = false := by rw [hlen]; simp; omega
 rw [el];co_applyP aq rfl;co_applyP aA;change wpE ..;co_applyP ae;co_applyP aa;co_applyP oy rfl aj;co_applyP oy rfl aj;co_applyP oy rfl aL;co_applyP oy rfl (av (hf := ep));co_applyP oy rfl (a0 Tryz.underlying113 gm);co_applyP osm rfl (hs := gm) (hm := hR2.k) (hi := by first | decide | (rw [bg]; omega) | (rw [bC]; omega));intro L3 hU3;have hqm : ∃ cs, (q, true, Obj.cells cs 3) ∈ L2 ∧ cs[0]? = some (.int .i64 (i : Nat)) ∧ cs[1]? = some (.int .i64 (j : Nat)) := by
   refine ⟨_, ha.mem haq, ?_, ?_⟩
   · rw [hij]; rfl
   · rw [hij]; rfl
 obtain ⟨cq, hq2, hcq0, hcq1⟩ := hqm;have hqK : q ≠ K := hR2.fn.ne hq2 hR2.k (aF (by decide));have hqb : q ≠ b := hR2.fn.ne hq2 (hR2.p _ hb) (aF (by decide));have hR3 : Rep K (A.setY S.unused ⟨none, []⟩) (S.setY S.unused []) Fr L3 := by
   refine hR2.setBytes hu5 hU3.fn ?_ (fun t ht h1 h2 => hU3.ne _ ht h1) ⟨rfl, rfl⟩ (fun c hc => by cases hc);show (K, true, Obj.cells (kcells _) 115) ∈ L3;have := hU3.self;rw [mi _ hu5] at this;rw [oZ];exact this
 have hb3 : (b, x) ∈ (S.setY S.unused []).ps := hb;have hq3 := hU3.ne _ hq2 hqK;have a30 : At L3 q 0 (.int .i64 (i : Nat)) := ⟨true, _, _, _, hq3, hcq0⟩;have hl0 : (0 : Int) < ((nums (x.frees 6)).length : Nat) := by rw [hlen]; omega
 have hl1 : (1 : Int) < ((nums (x.frees 6)).length : Nat) := by rw [hlen]; omega
 co_applyP ah;change wpE ..;co_applyP ae;co_applyP bm [] 9 (nf := 0) aZ;co_applyP tr (i := 0) rfl aj (ai (by simp));co_applyP tr (i := 1) rfl aj (ai (by simp));co_applyP tr (i := 2) rfl (bv Tryz.underlying54 dm) (ai (by simp));co_applyP t0 (i := 3) rfl (aC (ht := aV)) (ai (by simp));co_applyP tr (i := 4) rfl aj (ai (by simp));co_applyP tr (i := 6) rfl aL (ai (by simp));co_applyP tr (i := 7) rfl (av (hf := dT)) (ai (by simp));co_applyP tr (i := 5) rfl (bq (dq _ _)) (ai (by simp));co_applyP tr (i := 8) rfl ((a0 Tryz.underlying97 bi)) (ai (by simp));have eo : ∀ j : Nat, 79 + j * 2 = 79 + 2 * j := fun j => by omega
 co_applyP ba;intro hnd3;co_applyP te (i := 9) rfl (fj (hs := bi) (vs := [.int .i64 ((S.unused, 4) : Nat × Nat).1, .int .i64 ((S.unused, 4) : Nat × Nat).2]) (hnd := hnd3) (hm := hR3.p _ hb3) (hi := by rw [bg]; simp; omega));rintro _ _ ⟨rfl, hU4⟩;refine ⟨aE (by simp), ?_⟩;rename_i L4;rw [eo, oW x hi6 (S.unused, 4)] at hU4;have hR4 := hR3.setP hb3 (x' := { x with f := put x.f i (S.unused, 4) }) hU4;have hb4 : (b, { x with f := put x.f i (S.unused, 4) }) ∈ ((S.setY S.unused []).setP b { x with f := put x.f i (S.unused, 4) }).ps := au hb3;have hq4 := hU4.ne _ hq3 hqb;have a41 : At L4 q 1 (.int .i64 (j : Nat)) := ⟨true, _, _, _, hq4, hcq1⟩;co_applyP td (by kernel_rfl);change wpE ..;co_applyP ae;co_applyP bm [] 9 (nf := 0) aZ;co_applyP tr (i := 0) rfl aj (ai (by simp));co_applyP tr (i := 1) rfl aj (ai (by simp));co_applyP tr (i := 2) rfl (bv Tryz.underlying54 dm) (ai (by simp));co_applyP t0 (i := 3) rfl (aC (ht := aV)) (ai (by simp));co_applyP tr (i := 4) rfl aj (ai (by simp));co_applyP tr (i := 6) rfl aL (ai (by simp));co_applyP tr (i := 7) rfl (av (hf := dT)) (ai (by simp));co_applyP tr (i := 5) rfl (bq (dq _ _)) (ai (by simp));co_applyP tr (i := 8) rfl ((a0 Tryz.underlying97 bi)) (ai (by simp));co_applyP ba;intro hnd4;co_applyP te (i := 9) rfl (fj (hs := bi) (vs := [.int .i64 ((S.unused, 5) : Nat × Nat).1, .int .i64 ((S.unused, 5) : Nat × Nat).2]) (hnd := hnd4) (hm := hR4.p _ hb4) (hi := by rw [bg]; simp; omega));rintro _ _ ⟨rfl, hU5⟩;refine ⟨aE (by simp), ?_⟩;rename_i L5;rw [eo, oW _ hj6 (S.unused, 5)] at hU5;have hR5 := hR4.setP hb4 (x' := { x with f := put (put x.f i (S.unused, 4)) j (S.unused, 5) }) hU5;rw [dE] at hR5;have hb5 : (b, { x with f := put (put x.f i (S.unused, 4)) j (S.unused, 5) }) ∈ ((S.setY S.unused []).setP b { x with f := put (put x.f i (S.unused, 4)) j (S.unused, 5) }).ps := au hb3;have hq5 := hU5.ne _ hq4 hqb;have a50 : At L5 q 0 (.int .i64 (i : Nat)) := ⟨true, _, _, _, hq5, hcq0⟩;have a51 : At L5 q 1 (.int .i64 (j : Nat)) := ⟨true, _, _, _, hq5, hcq1⟩;have wi : IntKind.u16.wrap ((i : Nat) : Int) = ((i : Nat) : Int) := by rw [cL]; omega
 have wj : IntKind.u16.wrap ((j : Nat) : Int) = ((j : Nat) : Int) := by rw [cL]; omega
 co_applyP td (by kernel_rfl);change wpE ..;co_applyP ae;co_applyP bm [] 14 (nf := 0) aZ;co_applyP tr (i := 0) rfl aj (ai (by simp));co_applyP tr (i := 1) rfl aj (ai (by simp));co_applyP tr (i := 2) rfl aj (ai (by simp));co_applyP tr (i := 3) rfl (bv Tryz.underlying54 dm) (ai (by simp));co_applyP t0 (i := 4) rfl (aC (ht := aV)) (ai (by simp));co_applyP tr (i := 5) rfl (cg (hs := Tryz.underlying3) (ht := Tryz.underlying32)) (ai (by simp));co_applyP tr (i := 6) rfl aj (ai (by simp));co_applyP tr (i := 7) rfl (bv Tryz.underlying54 dm) (ai (by simp));co_applyP t0 (i := 8) rfl (aC (ht := aV)) (ai (by simp));co_applyP tr (i := 9) rfl (cg (hs := Tryz.underlying3) (ht := Tryz.underlying32)) (ai (by simp));co_applyP tr (i := 10) rfl aL (ai (by simp));co_applyP tr (i := 11) rfl (av (hf := aD)) (ai (by simp));co_applyP tr (i := 12) rfl (av (hf := aY)) (ai (by simp));co_applyP tr (i := 13) rfl (a0 Tryz.underlying47 a9) (ai (by simp));co_applyP tr (i := 15) rfl aL (ai (by simp));co_applyP tr (i := 16) rfl (av (hf := aD)) (ai (by simp));co_applyP tr (i := 17) rfl (av (hf := aY)) (ai (by simp));rw [wi, wj];co_applyP ba;intro hnd5;co_applyP te (i := 14) rfl (fb (hnd := hnd5) (hm := hR5.p _ hb5) (hi := by rw [bg]; omega) (hs := a9));rintro _ _ ⟨rfl, hU6⟩;refine ⟨aE (by simp), ?_⟩;rename_i L6;have p7 : ∀ (y : PS) (v : Int), (pcells y).setIfInBounds 7 (.int .u16 v) = pcells { y with r := put y.r 0 v } := fun y v => dF y (i := 0) (by omega) v;have p8 : ∀ (y : PS) (v : Int), (pcells y).setIfInBounds 8 (.int .u16 v) = pcells { y with r := put y.r 1 v } := fun y v => dF y (i := 1) (by omega) v;have hU6' : Upd L5 b (.cells (pcells { x with f := put (put x.f i (S.unused, 4)) j (S.unused, 5), r := put x.r 0 i }) 99) L6 := by
   have := hU6;simp only [p7] at this;exact this
 have hR6 := hR5.setP hb5 hU6';rw [dE] at hR6;co_applyP to (i := 18) rfl ((a0 Tryz.underlying47 a9)) (aE (by simp));co_applyP ba;intro hnd6;co_applyP te (i := 19) rfl (fb (hnd := hnd6) (hm := hR6.p _ (au hb3)) (hi := by rw [bg]; omega) (hs := a9));rintro _ _ ⟨rfl, hU7⟩;refine ⟨aE (by simp), ?_⟩;rename_i L7;have hU7' : Upd L6 b (.cells (pcells (x.piped S.unused i j)) 99) L7 := by
   have := hU7;simp only [p8] at this;exact this
 have hR7 := hR6.setP (au hb3) hU7';rw [dE] at hR7;co_applyP td (by kernel_rfl);change wpE ..;co_applyP ae;co_applyP aa;co_applyP oy rfl ak;co_applyP ah;change wpE ..;co_applyP aJ;change ∃ v, resE .. = some v ∧ _;exact ⟨_, rfl, rfl, rfl, _, hR7⟩
def St.taken (S : St) (c : Nat) (y : PS) : St := { S.setPs (S.ps ++ [(c, { y with id := S.last + 1 })]) with last := S.last + 1 }
def St.adopt (S : St) (c : Nat) (y : PS) : St := (S.taken c y).wake1 c { y with id := S.last + 1 }
theorem rF (k : KS) (v : Nat) : (kcells k).setIfInBounds 6 (.int .i64 (v : Nat)) = kcells { k with last := v } := rfl
theorem rG (A : Lay) (S : St) (a' : Sl) (ps' : List (Nat × PS)) (ls : Nat) : kcells (kst (A.setA 0 a') { S.setPs ps' with last := ls }) = kcells { kst A S with procs := slv a' ps'.length, last := ls } := by
 unfold kcells kst Lay.setA put St.setPs;simp
theorem xD : ∃ n, ∀ {σ : Type} {F : Fam σ} {Δ : ∀ s, Dom (F.R s) (F.D s)} {main : Bool} {s : σ} (K : Nat) (A : Lay) (S : St) (Fr L : Frag) (c : Nat) (y : PS), (∀ cs, (Δ s).New (.cells cs 93)) → Rep K A S (pb c y :: Fr) L → (∀ t ∈ Fr, t.1 ≠ c) → S.ps.length < 8 → S.last < 4611686018427387904 → y.lv < 3 → (S.rows y.lv).length ≤ 8 →
   CallsL Δ Tryz.prog main 48 [ptr K, ptr c].toArray n s L (fun s' v L' => s = s' ∧ v = .tuple #[] ∧ ∃ A', Rep K A' (S.adopt c y) Fr L') := by
 obtain ⟨n1, g1⟩ := jU;apply Exists.intro;intro σ F Δ main s K A S Fr L c y hN hR hF h8 hl hlv hr8;have w1 : IntKind.i64.wrap ((S.last : Int) + 1) = ((S.last + 1 : Nat) : Int) := by simp [IntKind.wrap_i64]; omega
 have hlast : At L K 6 (.int .i64 (S.last : Nat)) := hR.kat rfl;have hcp : ∀ q ∈ S.ps, c ≠ q.1 := (hR.fd _ List.mem_cons_self).2.1;co_applyP aB 32 Tryz.func48 Tryz.ntmps48;co_applyP ae;co_applyP aa;co_applyP oy rfl aj;co_applyP oy rfl aL;co_applyP oy rfl (av (hf := jQ));co_applyP oy rfl (aC (ht := aV));co_applyP oy rfl a7;co_applyP oy rfl aL;co_applyP oy rfl (av (hf := jQ));rw [w1];co_applyP osm rfl (hs := dm) (hm := hR.k) (hi := by first | decide | (rw [bg]; omega) | (rw [bC]; omega));intro L1 hU1;rw [rF] at hU1;have hR1 : Rep K A { S with last := S.last + 1 } (pb c y :: Fr) L1 := hR.setK rfl rfl rfl rfl rfl rfl hU1;have hlast1 : At L1 K 6 (.int .i64 ((S.last + 1 : Nat) : Nat)) := hR1.kat rfl;co_applyP ah;change wpE ..;co_applyP ae;co_applyP aa;co_applyP oy rfl aj;co_applyP oy rfl aj;co_applyP oy rfl aL;co_applyP oy rfl (av (hf := jQ));co_applyP oy rfl (aC (ht := aV));co_applyP oy rfl aL;co_applyP oy rfl (av (hf := aD));co_applyP oy rfl (av (hf := cn));co_applyP osm rfl (hs := dm) (hm := hR1.fr _ List.mem_cons_self) (hi := by first | decide | (rw [bg]; omega) | (rw [bC]; omega));intro L2 hU2;have hU2' : Upd L1 c (.cells (pcells { y with id := S.last + 1 }) 99) L2 := by rw [← vE]; exact hU2
 have hR2 : Rep K A { S with last := S.last + 1 } ((pb c { y with id := S.last + 1 } :: ([pb c y].filter fun t => !decide (t.1 = c))) ++ Fr) L2 := Rep.aside (G := [pb c y]) (F := Fr) hR1 List.mem_cons_self hF hU2';have hc2 : pb c { y with id := S.last + 1 } ∈ L2 := hU2'.self;have hR2' : Rep K A { S with last := S.last + 1 } Fr L2 := hR2.less fun t ht => by simp [ht]
 have h5 : At L2 K 5 (slv (A.a 0) (S.ps.map (·.1)).length) := by rw [List.length_map]; exact hR2'.kat rfl
 co_applyP ah;change wpE ..;co_applyP ae;co_applyP aa;co_applyP oy rfl aj;co_applyP oy rfl aj;co_applyP oy rfl aL;co_applyP oy rfl (av (hf := bO));co_applyP oy rfl (aC (ht := cZ));co_applyP oy rfl aj;co_applyP bN rfl (iY (hN _) (hx := rfl) (hu := Tryz.underlying91) (hs := bI) (hz := hY));intro nb L3 hA3;have hR3 := hR2'.add hA3;have epa : (S.ps.map fun q => ptr q.1) = (S.ps.map (·.1)).map ptr := by rw [List.map_map]; rfl
 have hpa : slOk (A.a 0) ((S.ps.map (·.1)).map ptr) 93 L3 := by rw [← epa]; exact hR3.pa
 co_applyP oeN rfl (fun hnd => pW (a := A.a 0) (xs := S.ps.map (·.1)) (c := c) (hnd := hnd) (hN := hN) (ha := hpa) (h8 := by simp; omega) (hnb := hA3.self));rintro _ L4 ⟨a', rfl, hp⟩;co_applyP oy rfl aL;co_applyP oy rfl (av (hf := bO));have hal : ∀ {b : Nat} {fl : Bool} {o : Obj}, (b, fl, o) ∈ L3 → (∀ c', o ≠ Obj.cells c' 93) → (A.a 0).b ≠ some b := fun hm ho hc => by
   obtain ⟨ys, hy⟩ := hR3.al _ _ hc;exact ho _ (hR3.fn _ _ _ _ _ hm hy).2
 have hKa := hal hR3.k fun c => aF (by decide);have hca := hal (hA3.sub _ hc2) fun c => aF (by decide);co_applyP oeN rfl (fun hnd => fb (hs := eg) (hnd := hnd) (hm := hp.sub _ hR3.k hKa) (hi := by rw [bC]; omega) (hp := eQ _ _));rintro _ L5 ⟨rfl, hU5⟩;co_applyP ah;change wpE ..;co_applyP aa;co_applyP oy rfl aj;co_applyP oy rfl aj;have hKc : c ≠ K := hR2'.fn.ne hc2 hR2'.k (aF (by decide));have hc5 := hU5.ne _ (hp.sub _ (hA3.sub _ hc2) hca) hKc;have hR5 : Rep K (A.setA 0 a') (S.taken c y) Fr L5 := by
   refine Rep.setPs (S := { S with last := S.last + 1 }) hR3 (ps' := S.ps ++ [(c, { y with id := S.last + 1 })]) (ls := S.last + 1) hU5.fn ?_ (fun t ht h1 h2 => hU5.ne _ (hp.sub _ ht h2) h1) ?_ ?_ ?_ (by simp; omega) ?_ ?_
   · show (K, true, Obj.cells (kcells _) 115) ∈ L5;have := hU5.self;rw [j5] at this;rw [rG];have el : (S.ps ++ [(c, { y with id := S.last + 1 })]).length = (S.ps.map (·.1)).length + 1 := by simp
     rw [el];exact this
   · have e2 : ((S.ps ++ [(c, { y with id := S.last + 1 })]).map fun (q : Nat × PS) => ptr q.1) = ((S.ps.map (·.1)) ++ [c]).map ptr := by simp
     rw [e2];refine hp.ok.mono fun d hd o ho => hU5.ne _ ho fun e => ?_;have h1 := hp.ok.mem hd;have e' : d = K := e;rw [e'] at h1;exact aF (by decide) (hp.fn _ _ _ _ _ h1 (hp.sub _ hR3.k hKa)).2
   · intro q hq;rcases List.mem_append.1 hq with h | h
     · exact hU5.ne _ (hp.sub _ (hR3.p q h) (hal (hR3.p q h) fun c => aF (by decide))) (hR3.fn.ne (hR3.p q h) hR3.k (aF (by decide)))
     · simp at h;subst h;exact hc5
   · rw [List.map_append];refine List.nodup_append.2 ⟨hR3.pn, by simp, fun u hu v hv => ?_⟩;simp at hv;subst hv;rintro rfl;obtain ⟨q, hq, e⟩ := List.mem_map.1 hu;exact hcp q hq e.symm
   · intro t ht q hq;rcases List.mem_append.1 hq with h | h
     · exact (hR3.fd t ht).2.1 q h
     · simp at h;subst h;exact hF t ht
   · intro d hd;rcases hp.d d hd with h | h
     · exact .inl h
     · refine .inr ⟨fun i hi => ?_, fun t ht => h t (hR3.fr t ht)⟩;obtain ⟨ys, hy⟩ := hR3.al i d hi;exact h _ hy rfl
 have hb5 : (c, { y with id := S.last + 1 }) ∈ (S.taken c y).ps := List.mem_append_right _ List.mem_cons_self;co_applyP oc rfl rfl rfl (g1 K _ _ Fr L5 c { y with id := S.last + 1 } hN hR5 hb5 hlv hr8 (fun e he => cI e.1 hlv));rintro _ _ _ ⟨rfl, rfl, A6, hw6, hR6⟩;co_applyP ah;change ∃ v, resE .. = some v ∧ _;exact ⟨_, rfl, rfl, rfl, A6, hR6⟩
def PS.copy (x : PS) : PS := ⟨0, x.id, 0, 0, x.at_, 0, 0, x.r, x.m, x.f, 0⟩
def regv (r : Nat → Int) : Value := .agg #[.int .u16 (r 0), .int .u16 (r 1), .int .u16 (r 2), .int .u16 (r 3), .int .u16 (r 4), .int .u16 (r 5), .int .u16 (r 6), .int .u16 (r 7)]
def memv (m : Nat → Int) : Value := .agg ((List.range 64).map fun i => Value.int .u8 (m i)).toArray
def headv (par at_ : Int) (r : Nat → Int) : Value := .agg #[.int .i64 0, .int .i64 par, .int .i64 0, .int .i64 0, .int .i64 at_, .int .i64 0, .int .i64 0, .int .u16 (r 0), .int .u16 (r 1), .int .u16 (r 2), .int .u16 (r 3), .int .u16 (r 4), .int .u16 (r 5), .int .u16 (r 6), .int .u16 (r 7)]
theorem rH (x : PS) : Value.agg ((pcells x).extract 7 15) = regv x.r := by rfl
theorem uh (x : PS) : Value.agg ((pcells x).extract 15 79) = memv x.m := by
 have h := xz x (i := 0) (n := 64) (by omega);have h' : (pcells x).extract 15 79 = ((x.peek 0 64).map fun v => Value.int .u8 v).toArray := h;rw [h'];unfold memv PS.peek;rw [List.map_map];congr 2
theorem z8 (par at_ : Int) (r : Nat → Int) : evR Tryz.prog (Instr.build 49 [(1, .int .i64 par), (4, .int .i64 at_), (7, regv r)].toArray) [] = some (headv par at_ r, []) := by kernel_rfl
theorem z9 (x : PS) : evR Tryz.prog (Instr.build 99 [(0, headv (x.id : Nat) (x.at_ : Nat) x.r), (1, memv x.m), (2, filesv x.f)].toArray) [] = some (.agg (pcells x.copy), []) := by kernel_rfl
def St.forkS (S : St) (b : Nat) (x : PS) (c : Nat) : St := (S.adopt c (x.copy.r0 0)).setP b (x.r0 (((S.last + 1 : Nat) : Int) % 65536))
theorem yy : ∃ n, ∀ {σ : Type} {F : Fam σ} {Δ : ∀ s, Dom (F.R s) (F.D s)} {main : Bool} {s : σ} (K : Nat) (A : Lay) (S : St) (Fr L : Frag) (eb : Nat → Nat × Nat) (b : Nat), Rep K A S Fr L → Ers eb Fr → 8 ≤ S.ps.length →
   CallsL Δ Tryz.prog main 131 [ptr K, ptr b].toArray n s L (fun s' v L' => s = s' ∧ L = L' ∧ v = erv eb 4) := by
 apply Exists.intro;intro σ F Δ main s K A S Fr L eb b hR hE h8;obtain ⟨base, cap, hv, hat0⟩ := bA hR.pa;simp only [List.length_map] at hv;have h5 : At L K 5 (.slice base S.ps.length cap) := by rw [← hv]; exact hR.kat rfl
 have hg := (hE.mono hR.fr).g 4 (by decide) (by decide);have e8 : decide ((8 : Int) ≤ (S.ps.length : Nat)) = true := by simp; omega
 co_applyP aB 58 Tryz.func131 Tryz.ntmps131;co_applyP ae;co_applyP aa;co_applyP oy rfl ak;co_applyP ah;change wpE ..;co_applyP ae (n₂ := 0);co_applyP ae;co_applyP aa;co_applyP oy rfl aj;co_applyP oy rfl aL;co_applyP oy rfl (av (hf := bO));co_applyP oy rfl (aC (ht := cZ));co_applyP oy rfl (bz (hu := Tryz.underlying91));co_applyP oy rfl d9;co_applyP ah;change wpE ..;rw [e8];co_applyP aW rfl;co_applyP ae;co_applyP aa;co_applyP oy rfl (aC (ht := b4));co_applyP oy rfl ak;co_applyP ah;change wpE ..;co_applyP aJ;change ∃ v, resE .. = some v ∧ _;exact ⟨_, rfl, rfl, rfl, rfl⟩
theorem yz : ∃ n, ∀ {σ : Type} {F : Fam σ} {Δ : ∀ s, Dom (F.R s) (F.D s)} {main : Bool} {s : σ} (K : Nat) (A : Lay) (S : St) (Fr L : Frag) (b : Nat) (x : PS), (∀ cs, (Δ s).New (.cells cs 93)) → (∀ cs, (Δ s).New (.cells cs 99)) → Rep K A S Fr L → Inv S → (b, x) ∈ S.ps → S.ps.length < 8 → S.last < 4611686018427387904 →
   CallsL Δ Tryz.prog main 131 [ptr K, ptr b].toArray n s L (fun s' v L' => s = s' ∧ v = .nilIface ∧ ∃ A' c, (∀ q ∈ S.ps, c ≠ q.1) ∧ Rep K A' (S.forkS b x c) Fr L') := by
 obtain ⟨n1, g1⟩ := xD;apply Exists.intro;intro σ F Δ main s K A S Fr L b x hN hN9 hR hI hb h8 hls;obtain ⟨base, cap, hv, hat0⟩ := bA hR.pa;simp only [List.length_map] at hv;have h5 : At L K 5 (.slice base S.ps.length cap) := by rw [← hv]; exact hR.kat rfl
 have e8 : decide ((8 : Int) ≤ (S.ps.length : Nat)) = false := by simp; omega
 have hid : At L b 0 (.int .i64 (x.id : Nat)) := hR.pat hb (i := 0) rfl;have hat : At L b 4 (.int .i64 (x.at_ : Nat)) := hR.pat hb (i := 4) rfl;co_applyP aB 58 Tryz.func131 Tryz.ntmps131;co_applyP ae;co_applyP aa;co_applyP oy rfl ak;co_applyP ah;change wpE ..;co_applyP ae;co_applyP ae;co_applyP aa;co_applyP oy rfl aj;co_applyP oy rfl aL;co_applyP oy rfl (av (hf := bO));co_applyP oy rfl (aC (ht := cZ));co_applyP oy rfl (bz (hu := Tryz.underlying91));co_applyP oy rfl d9;co_applyP ah;change wpE ..;rw [e8];co_applyP aq rfl;co_applyP aA;change wpE ..;co_applyP ae;co_applyP bm [] 25 (nf := 0) aZ;co_applyP tr (i := 0) rfl aj (ai (by simp));co_applyP tr (i := 1) rfl aL (ai (by simp));co_applyP tr (i := 2) rfl (av (hf := aD)) (ai (by simp));co_applyP tr (i := 3) rfl (av (hf := cn)) (ai (by simp));co_applyP t0 (i := 4) rfl (aC (ht := aV)) (ai (by simp));co_applyP tr (i := 5) rfl aj (ai (by simp));co_applyP tr (i := 6) rfl aL (ai (by simp));co_applyP tr (i := 7) rfl (av (hf := aD)) (ai (by simp));co_applyP tr (i := 8) rfl (av (hf := cB)) (ai (by simp));co_applyP t0 (i := 9) rfl (aC (ht := aV)) (ai (by simp));co_applyP tr (i := 10) rfl aj (ai (by simp));co_applyP tr (i := 11) rfl aL (ai (by simp));co_applyP tr (i := 12) rfl (av (hf := aD)) (ai (by simp));co_applyP tr (i := 13) rfl (av (hf := aY)) (ai (by simp));co_applyP tr (i := 16) rfl aj (ai (by simp));co_applyP tr (i := 17) rfl aL (ai (by simp));co_applyP tr (i := 18) rfl (av (hf := fO)) (ai (by simp));co_applyP tr (i := 20) rfl aj (ai (by simp));co_applyP tr (i := 21) rfl aL (ai (by simp));co_applyP tr (i := 22) rfl (av (hf := dT)) (ai (by simp));co_applyP t0 (i := 14) rfl (a8 (ht := zw) (hs := zv) (hm := hR.p _ hb) (hi := by rw [bg]; omega)) (ai (by simp));co_applyP t0 (i := 19) rfl (a8 (ht := zz) (hs := zy) (hm := hR.p _ hb) (hi := by rw [bg]; omega)) (ai (by simp));co_applyP t0 (i := 23) rfl (a8 (ht := tl) (hs := tj) (hm := hR.p _ hb) (hi := by rw [bg]; omega)) (ai (by simp));rw [show (0 + 0 + 7 + 8 : Nat) = 15 from rfl, show (0 + 0 + 7 : Nat) = 7 from rfl, rH, show (0 + 15 + 64 : Nat) = 79 from rfl, uh, show (0 + 79 + 12 : Nat) = 91 from rfl, gH];co_applyP tr (i := 15) rfl (bq (z8 _ _ _)) (ai (by simp));co_applyP tr (i := 24) rfl (bq (z9 x)) (ai (by simp));co_applyP m5 (i := 25) rfl (bV (hN9 _));intro c L1 hA1;refine ⟨aE (by simp), ?_⟩;co_applyP to (i := 26) rfl (ak) (aE (by simp));have hA1' : Add L c (.cells (pcells x.copy) 99) L1 := hA1;have hR1 : Rep K A S (pb c x.copy :: Fr) L1 := hR.fresh ⟨hA1'.fn, hA1'.sub⟩ hA1'.new hA1'.self;have hcp : ∀ q ∈ S.ps, c ≠ q.1 := (hR1.fd _ List.mem_cons_self).2.1;have hcF : ∀ t ∈ Fr, t.1 ≠ c := fun t ht => hA1'.new t (hR.fr t ht)
 co_applyP td (by kernel_rfl);change wpE ..;co_applyP ae;co_applyP aa;co_applyP oy rfl aj;co_applyP oy rfl aL;co_applyP oy rfl (av (hf := aD));co_applyP oy rfl (av (hf := aY));co_applyP oy rfl (a0 Tryz.underlying47 a9);co_applyP osm rfl (hs := a9) (hm := hR1.fr _ List.mem_cons_self) (hi := by first | decide | (rw [bg]; omega) | (rw [bC]; omega));intro L2 hU2;rw [dW] at hU2;have hR2 : Rep K A S ((pb c (x.copy.r0 0) :: ([pb c x.copy].filter fun t => !decide (t.1 = c))) ++ Fr) L2 := Rep.aside (G := [pb c x.copy]) (F := Fr) hR1 List.mem_cons_self hcF hU2;have hR2' : Rep K A S (pb c (x.copy.r0 0) :: Fr) L2 := hR2.less fun t ht => by
   rcases List.mem_cons.1 ht with rfl | h
   · simp
   · simp [h]
 co_applyP ah;change wpE ..;co_applyP ae;co_applyP aa;co_applyP oy rfl aj;co_applyP oy rfl aj;co_applyP oc rfl rfl rfl (g1 K A S Fr L2 c (x.copy.r0 0) hN hR2' hcF h8 hls (by show 0 < 3; omega) (hI.g.r8 (l := 0) (by omega)));rintro _ _ _ ⟨rfl, rfl, A3, hR3⟩;co_applyP ah;change wpE ..;co_applyP ae;rename_i L3;have hbc : b ≠ c := fun e => hcp _ hb e.symm;have hb3 : (b, x) ∈ (S.adopt c (x.copy.r0 0)).ps := bW (List.mem_append_left _ hb) hbc;have hc3 : (c, { x.copy.r0 0 with id := S.last + 1, st := 1, used := 0 }) ∈ (S.adopt c (x.copy.r0 0)).ps := au (List.mem_append_right _ List.mem_cons_self);have hid3 : At L3 c 0 (.int .i64 ((S.last + 1 : Nat) : Nat)) := hR3.pat hc3 (i := 0) rfl;have wl : IntKind.u16.wrap (((S.last + 1 : Nat) : Nat) : Int) = ((S.last + 1 : Nat) : Int) % 65536 := cL _;co_applyP bm [] 11 (nf := 0) aZ;co_applyP tr (i := 0) rfl aj (ai (by simp));co_applyP tr (i := 1) rfl aj (ai (by simp));co_applyP tr (i := 2) rfl aL (ai (by simp));co_applyP tr (i := 3) rfl (av (hf := aD)) (ai (by simp));co_applyP tr (i := 4) rfl (av (hf := cn)) (ai (by simp));co_applyP t0 (i := 5) rfl (aC (ht := aV)) (ai (by simp));co_applyP tr (i := 6) rfl (cg (hs := Tryz.underlying3) (ht := Tryz.underlying32)) (ai (by simp));co_applyP tr (i := 7) rfl aL (ai (by simp));co_applyP tr (i := 8) rfl (av (hf := aD)) (ai (by simp));co_applyP tr (i := 9) rfl (av (hf := aY)) (ai (by simp));co_applyP tr (i := 10) rfl (a0 Tryz.underlying47 a9) (ai (by simp));rw [wl];co_applyP ba;intro hnd3;co_applyP te (i := 11) rfl (fb (hnd := hnd3) (hm := hR3.p _ hb3) (hi := by rw [bg]; omega) (hs := a9));rintro _ _ ⟨rfl, hU4⟩;refine ⟨aE (by simp), ?_⟩;rename_i L4;have hU4' : Upd L3 b (.cells (pcells (x.r0 (((S.last + 1 : Nat) : Int) % 65536))) 99) L4 := by rw [← dW]; exact hU4
 have hR4 := hR3.setP hb3 hU4';co_applyP td (by kernel_rfl);change wpE ..;co_applyP ae;co_applyP aa;co_applyP oy rfl ak;co_applyP ah;change wpE ..;co_applyP aJ;change ∃ v, resE .. = some v ∧ _;exact ⟨_, rfl, rfl, rfl, A3, c, hcp, hR4⟩
end Go.Proofs.YtejkelcaljmnoaaGreatDoor
namespace Go.Lo
open Go.Conc Go.Hx
section
variable {σ : Type} {F : Fam σ} (Δ : ∀ s, Dom (F.R s) (F.D s)) (P : Program) (main : Bool) (fn : FuncId) (N : Nat)
def LastE (ops : Array Oper) (Q : σ → Exit → Env → Frag → Prop) (nf : Nat) (L0 : Frag) (e : Nat) (fuel : Nat) (ls : Array Bool) (s : σ) (ε : Env) (L : Frag) : Prop :=
 ∀ a, Fits N ε a → Down ops ls → ∀ w, (Δ s).Own L w → AnyY F P main fn ops (fun ls s w => ∃ L, (Δ s).Own L w ∧ (ls.getD e true = false → ∀ t ∈ L0, t ∈ L)) (up Δ (upE N Q)) nf fuel ls s a w
end
section
variable {σ : Type} {F : Fam σ} {Δ : ∀ s, Dom (F.R s) (F.D s)} {P : Program} {main : Bool} {fn : FuncId} {N : Nat} {Q : σ → Exit → Env → Frag → Prop} {s : σ} {ε : Env} {L : Frag} {ops : Array Oper} {nf : Nat} {e : Nat} {fuel : Nat} {ls : Array Bool}
theorem ui {id : Nat} (e : Nat) {nf : Nat} (hm : P.follows .mixedOrders = true := by first | rfl | kernel_rfl) (h : LastE Δ P main fn N ops Q nf L e ops.size (Array.replicate ops.size false) s ε L) : wpE Δ P main fn N (.region id ops true) (ops.size * (nf + 3) + 1 + 1) s Q ε L := by
 intro a ha w hO;exact jK (S := fun ls s' w => ∃ L', (Δ s').Own L' w ∧ (ls.getD e true = false → ∀ t ∈ L, t ∈ L')) (Δ s).ld hm fun w₁ h₁ => h a ha jJ _ ((Δ s).draw ((Δ s).rely hO h₁)).1
theorem lt {i : Nat} {d : Option Tmp} {k : Op} {ot : TypeId} {ps : String} {af : Array Edge} {g : Option (Nat × Bool)} {v : Value} (ho : ops[i]? = some ⟨d, k, ot, ps, af, g⟩) (hy : EY P N ε L ⟨d, k, ot, ps, af, g⟩ v)
   (hs : Region.noSelect ops = true := by kernel_rfl) (hf : Region.free .any ops ls i = true := by kernel_rfl) (hr : (Region.ready .any ops ls).contains i = true := by kernel_rfl) (hie : i ≠ e := by decide) (hh : hangs ops ops.size e i = true := by kernel_rfl) (hw : wantedE ops N ε g = some true := by rfl) (hd : dstOk N d = true := by rfl)
   (h : LastE Δ P main fn N ops Q nf L e fuel (ls.setIfInBounds i true) s (putE d v ε) L) : LastE Δ P main fn N ops Q nf L e (fuel + 1) ls s ε L := by
 intro a ha hD w hO;have hrm : i ∈ Region.ready .any ops ls := by simpa using hr
 refine iM (fun _ s _ _ ⟨L, h1, h2⟩ r => ⟨L, (Δ s).rely h1 r, h2⟩) jL ho hs hf hr hD (fun ls s w => ?_) (fun ls' hD' hun s' => .inl ⟨ha.wanted hw, fun w' ⟨L', hO', h3⟩ => ?_⟩) ⟨L, hO, fun _ t ht => ht⟩ (h _ (ha.put hd v) (hD.step hrm) w hO)
 · refine exists_congr fun L' => and_congr_right fun _ => ?_;rw [getD_set_ne true hie]
 · have hsub : ∀ t ∈ L, t ∈ L' := by
     refine h3 ?_;cases he : ls'.getD e true with
     | false => rfl
     | true =>
       have := hD'.hangs _ _ _ hh he;rw [lR this] at hun;cases hun
   obtain ⟨q1, q2⟩ := lO (Δ s') hO' ((hy a ha).mono hsub);exact ⟨q1, (Δ s').dd ((Δ s').gr w') fun e he => q2 e (mem_listed he)⟩
theorem lc {i : Nat} {d : Option Tmp} {k : Op} {ot : TypeId} {ps : String} {af : Array Edge} {g : Option (Nat × Bool)} {f : FuncId} {args : Array Operand} {ats : Array TypeId} {vs : List Value} {Post : σ → Value → Frag → Prop} {L0 : Frag} (ho : ops[i]? = some ⟨d, k, ot, ps, af, g⟩) (hop : k = .call { callee := .value (.func f), args, argTypes := ats }) (ha : args.toList.map (ev ε) = vs.map some) (hcall : CallsL Δ P main f vs.toArray nf s L Post)
   (hr : Region.ready .any ops ls = [i] := by kernel_rfl) (hr' : Region.ready .any ops (ls.setIfInBounds i true) = [] := by kernel_rfl) (hle : (ls.setIfInBounds i true).getD e true = true := by first | rfl | decide) (hw : wantedE ops N ε g = some true := by rfl) (hd : dstOk N d = true := by rfl)
   (h : ∀ s' v L', Post s' v L' → Q s' .normal (putE d v ε) L') : LastE Δ P main fn N ops Q nf L0 e (fuel + 1) ls s ε L := by
 intro a hf hD w hO;have e' : args.map a.eval = vs.toArray := by
   apply Array.ext';simp only [Array.toList_map];have : ∀ (l : List Operand) (vs : List Value), l.map (ev ε) = vs.map some → l.map a.eval = vs := by
     intro l
     induction l with
     | nil => intro vs h; cases vs <;> simp_all
     | cons x l ih =>
       intro vs h;cases vs with
       | nil => simp at h
       | cons v vs =>
         simp only [List.map_cons, List.cons.injEq] at h ⊢;exact ⟨hf.ev h.1, ih vs h.2⟩
   exact this _ _ ha
 refine gR hr (by simp) fun j hj => ?_;obtain rfl : j = i := by simpa using hj
 have hc := hcall w hO;rw [← e'] at hc;refine .inr ⟨_, f, args, ats, _, ho, hf.wanted hw, hop, hc, fun s' v w' ⟨L', hL, hp⟩ => ⟨⟨L', hL, fun h' => ?_⟩, k6 hr' ⟨L', hL, _, hf.put hd v, h s' v L' hp⟩ _⟩⟩;rw [hle] at h';cases h'
end
end Go.Lo
