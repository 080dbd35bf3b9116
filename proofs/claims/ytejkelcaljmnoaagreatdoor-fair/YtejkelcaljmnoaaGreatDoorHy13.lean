/-
  Part 13 of the proof.
  No condition but those that each statement names.
-/
import Derived.Test.YtejkelcaljmnoaaGreatDoorHy12
set_option maxRecDepth 100000
set_option maxHeartbeats 4000000
set_option linter.unusedVariables false
set_option linter.unusedSimpArgs false
set_option linter.unusedSectionVars false
namespace Go.Proofs.YtejkelcaljmnoaaGreatDoor
open Go.Conc Go.Hx Go.Lo
def nvP (ws : List Wd) (σ : Nat → Nat) (x : PS) : Nat := if x.st ≠ 1 ∨ ran ws x.id = true then 0 else σ x.id + 1
def sweep (ws : List Wd) (xs : List PS) (σ : Nat → Nat) : Nat → Nat := xs.foldl (fun σ x => put σ x.id (nvP ws σ x)) σ
theorem ge (ws : List Wd) : ∀ (xs : List PS) (σ : Nat → Nat) (j : Nat), (∀ x ∈ xs, x.id ≠ j) → sweep ws xs σ j = σ j
 | [], _, _, _ => rfl
 | y :: xs, σ, j, h => by
   have h1 := ge ws xs (put σ y.id (nvP ws σ y)) j fun x hx => h x (List.mem_cons_of_mem _ hx);have h2 := h y List.mem_cons_self;show sweep ws xs (put σ y.id (nvP ws σ y)) j = _;rw [h1]; unfold put; rw [if_neg fun e => h2 e.symm]
theorem kQ (ws : List Wd) : ∀ (xs : List PS) (σ : Nat → Nat), (xs.map PS.id).Nodup → ∀ x ∈ xs, sweep ws xs σ x.id = nvP ws σ x
 | [], _, _, _, h => by cases h
 | y :: xs, σ, hn, x, h => by
   rw [List.map_cons, List.nodup_cons] at hn;show sweep ws xs (put σ y.id (nvP ws σ y)) x.id = _;rcases List.mem_cons.1 h with rfl | h1
   · rw [ge ws xs _ _ fun z hz e => hn.1 (by rw [← e]; exact List.mem_map.2 ⟨z, hz, rfl⟩)];unfold put; rw [if_pos rfl]
   · rw [kQ ws xs _ hn.2 x h1];have hne : x.id ≠ y.id := fun e => hn.1 (by rw [← e]; exact List.mem_map.2 ⟨x, h1, rfl⟩);unfold nvP;have : put σ y.id (if y.st ≠ 1 ∨ ran ws y.id = true then 0 else σ y.id + 1) x.id = σ x.id := by unfold put; rw [if_neg hne]
     rw [this]
theorem pY {ws : List Wd} {xs : List PS} {j : Nat} {x : PS} (h : xs[j]? = some x) (σ : Nat → Nat) : sweep ws (xs.take (j + 1)) σ = put (sweep ws (xs.take j) σ) x.id (nvP ws (sweep ws (xs.take j) σ) x) := by
 rw [List.take_add_one, h, Option.toList_some];simp [sweep, List.foldl_append]
theorem p6 {ws : List Wd} {xs : List PS} {j : Nat} {x : PS} (h : xs[j]? = some x) (hn : (xs.map PS.id).Nodup) (σ : Nat → Nat) : sweep ws (xs.take j) σ x.id = σ x.id := by
 refine ge ws _ σ _ fun y hy e => ?_;obtain ⟨i, hi⟩ := List.getElem?_of_mem hy;have hlt : i < j := by
   have := (List.getElem?_eq_some_iff.1 hi).1;rw [List.length_take] at this;omega
 rw [List.getElem?_take_of_lt hlt] at hi;have e1 : (xs.map PS.id)[i]? = some y.id := by simp [hi]
 have e2 : (xs.map PS.id)[j]? = some x.id := by simp [h]
 obtain ⟨l1, g1⟩ := List.getElem?_eq_some_iff.1 e1;obtain ⟨l2, g2⟩ := List.getElem?_eq_some_iff.1 e2;exact absurd (g1.trans (e.trans g2.symm)) (List.pairwise_iff_getElem.1 hn i j l1 l2 hlt)
def scs (σ : Nat → Nat) : Array Value := ((List.range 300).map fun i => Value.int .i64 (σ i : Nat)).toArray
theorem fE (σ : Nat → Nat) : (scs σ).size = 300 := by simp [scs]
theorem mM {σ : Nat → Nat} {i : Nat} (h : i < 300) : (scs σ)[i]? = some (.int .i64 (σ i : Nat)) := by
 unfold scs;rw [List.getElem?_toArray, List.getElem?_map, List.getElem?_range h]; rfl
theorem qY {σ : Nat → Nat} {i : Nat} (h : i < 300) (v : Nat) : (scs σ).setIfInBounds i (.int .i64 (v : Nat)) = scs (put σ i v) := by
 apply Array.ext_getElem?;intro j;rw [Array.getElem?_setIfInBounds, fE];by_cases hj : j < 300
 · rw [mM hj, mM hj];unfold put;by_cases e : i = j
   · subst e; simp [h]
   · rw [if_neg e, if_neg fun e2 => e e2.symm]
 · rw [Array.getElem?_eq_none (by rw [fE]; omega), Array.getElem?_eq_none (by rw [fE]; omega)];rw [if_neg (by omega)]
theorem xF {α : Type} (f : Nat → α) (i : Nat) (a b : α) : put (put f i a) i b = put f i b := by
 funext j; unfold put; by_cases e : j = i <;> simp [e]
theorem AQ : zeroAt Tryz.prog 63 = some (.agg (scs fun _ => 0)) := by kernel_rfl
theorem vF {T : St} (h : TI id T) : ((T.ps.map (·.2)).map PS.id).Nodup := by
 have e : (T.ps.map (·.2)).map PS.id = T.ps.map (·.1) := by
   rw [List.map_map];apply List.map_congr_left;intro q hq;exact (h.m.x.nm q hq).symm
 rw [e]; exact h.m.i.g.pn
theorem Ab.snd' {S T : St} (h : Ab S T) : S.ps.map (·.2) = T.ps.map (·.2) := by
 obtain ⟨N, _, rfl⟩ := h.ex;simp [St.map, Function.comp_def]
theorem zq : ∃ k, ∀ {Fin : Value → World → Prop} {W : World} {O : Nat} (a b c d : Int) (l : List Int) (v5 : Value) (L : Frag) (eb : Nat → Nat × Nat), I64 a → I64 b → I64 c → I64 d → Byt l → oki l.length = false → Fun L → Ers eb L →
   CallsL (F := FZ Tryz.prog Fin) (fun s => dom0 (Shs s.2) W O) Tryz.prog true 9 [.int .i64 a, .int .i64 b, .int .i64 c, .int .i64 d, strv l, v5].toArray k (1, []) L (fun s' v L' => s'.1 = 0 ∧ v = .bool true) := by
 obtain ⟨n1, gn⟩ := qJ;obtain ⟨n2, gc⟩ := kE;obtain ⟨n3, gk⟩ := vt;apply Exists.intro;intro Fin W O a b c d l v5 L eb ha hb hc hd hl hoi hF hE;have hN : ∀ (s : Nat × List Nat) (o : Obj), (dom0 (Shs s.2) W O).New o := fun _ _ => trivial;have hok := mJ a b c d;co_applyP aB 131 Tryz.func9 Tryz.ntmps9;co_applyP ai;co_applyP oy rfl aj;co_applyP aa;co_applyP ai;co_applyP oc rfl rfl rfl (gn 0 [] L eb hF hE);rintro _ _ _ ⟨N0, rfl, rfl, hE0⟩;co_applyP oy rfl aj;co_applyP aa;co_applyP ai;co_applyP oy rfl ah;co_applyP oy rfl ah;co_applyP oy rfl ah;co_applyP oy rfl ah;rename_i L0;co_applyP ocm rfl rfl rfl (gc L0 a b c d hN hE0.f ha hb hc hd);rintro _ _ _ ⟨rfl, rfl, hE1⟩;rename_i L1;co_applyP bI rfl (dL (z := .agg #[.int .i64 0, .int .i64 0, .int .i64 0, .int .i64 0]) (hN _ _));intro xr L2 hA;co_applyP oeN rfl (fun hnd => eY (hs := fq) (vs := [.int .i64 (cfgf a b c 0), .int .i64 (cfgf a b c 1), .int .i64 (cfgf a b c 2), .int .i64 (cfgb d)]) (hnd := hnd) (hm := hA.self) (hi := Nat.le_refl _));rintro _ L3 ⟨rfl, hU⟩;co_applyP aa;co_applyP ai;co_applyP oy rfl (a5 (ht := jb) (hs := fq) (hm := hU.self) (hi := by show 0 + 4 ≤ 4; decide));co_applyP oy rfl ah;co_applyP oc rfl rfl rfl (gk L3 (cfgf a b c) (cfgb d) l hN hU.fn hl hok hoi);rintro _ _ _ ⟨rfl, rfl, hE4⟩;co_applyP oy rfl aj;co_applyP aa;co_applyP ar (n₂ := 0);co_applyP ai;co_applyP oy rfl ah;co_applyP oy rfl (gu (hu := Tryz.underlying35));co_applyP oy rfl ah;co_applyP ou rfl;co_applyP ou rfl;co_applyP oy rfl aN;co_applyP aa;co_applyP aS rfl;co_applyP ar;have hoi' : ¬ (0 < l.length ∧ l.length % 4 = 0 ∧ l.length ≤ 1024) := by simpa [oki] using hoi
 co_applyP jO ([(12, .bool true)]);co_applyP ay;co_applyP oy rfl ah;co_applyP oy rfl ah
 · by_cases h0 : l.length = 0
   · have e0 : (((l.length : Nat) : Int) == 0) = true := by simp [h0]
     co_applyP oy rfl (ah);co_applyP oy rfl (mL);co_applyP oy rfl (aA);rw [e0];co_applyP oy rfl (ah);co_applyP ou rfl;co_applyP ou rfl;co_applyP ou rfl;co_applyP ou rfl;co_applyP oy rfl (aN);co_applyP oy rfl (ah);co_applyP ou rfl;co_applyP ou rfl;co_applyP ou rfl;co_applyP oy rfl (aN);co_applyP oy rfl aN;co_applyP oy rfl aj;co_applyP aa;change _ = _ ∧ _ = _ ∧ kn _ _;exact ⟨rfl, rfl, rfl⟩
   · have e0 : (((l.length : Nat) : Int) == 0) = false := by rw [beq_eq_false_iff_ne]; omega
     co_applyP oy rfl (ah);co_applyP oy rfl (mL);co_applyP oy rfl (aA);rw [e0];co_applyP oy rfl (ah);co_applyP oy rfl (ah);co_applyP oy rfl (mL);co_applyP oy rfl (gX);rw [show Int.tmod ((l.length : Nat) : Int) 4 = ((l.length % 4 : Nat) : Int) by rw [Int.tmod_eq_emod_of_nonneg (by omega)]; rfl];co_applyP oy rfl (dZ);by_cases h4 : l.length % 4 = 0
     · have e4 : (((l.length % 4 : Nat) : Int) != 0) = false := by simp [h4]
       have e5 : decide ((1024 : Int) < ((l.length : Nat) : Int)) = true := by simp; omega
       rw [e4];co_applyP oy rfl (aN);co_applyP oy rfl (ah);co_applyP oy rfl (ah);co_applyP oy rfl (mL);co_applyP oy rfl (dK);rw [e5];co_applyP oy rfl (aN);co_applyP oy rfl aN;co_applyP oy rfl aj;co_applyP aa;change _ = _ ∧ _ = _ ∧ kn _ _;exact ⟨rfl, rfl, rfl⟩
     · have e4 : (((l.length % 4 : Nat) : Int) != 0) = true := by rw [bne_iff_ne]; omega
       rw [e4];co_applyP oy rfl (aN);co_applyP oy rfl (ah);co_applyP ou rfl;co_applyP ou rfl;co_applyP ou rfl;co_applyP oy rfl (aN);co_applyP oy rfl aN;co_applyP oy rfl aj;co_applyP aa;change _ = _ ∧ _ = _ ∧ kn _ _;exact ⟨rfl, rfl, rfl⟩
 co_applyP aI;change ∃ v, resE .. = some v ∧ _;exact ⟨_, rfl, rfl, rfl⟩
theorem zr : ∃ k, ∀ {Fin : Value → World → Prop} {W : World} {O : Nat} (a b c d : Int) (l : List Int) (ti : Int) (L : Frag) (eb : Nat → Nat × Nat), I64 a → I64 b → I64 c → I64 d → Byt l → oki l.length = true → I64 ti → Fun L → Ers eb L →
   CallsL (F := FZ Tryz.prog Fin) (fun s => dom0 (Shs s.2) W O) Tryz.prog true 9 [.int .i64 a, .int .i64 b, .int .i64 c, .int .i64 d, strv l, .int .i64 ti].toArray k (cnt (pickN ti 280) (St.fresh (cfgf a b c) (cfgb d) l 1) + 1, []) L (fun s' v L' => s'.1 = 0 ∧ v = .bool true) := by
 obtain ⟨n1, gn⟩ := qJ;obtain ⟨n2, gc⟩ := kE;obtain ⟨n3, gk⟩ := ox;obtain ⟨n4, gpick⟩ := vr;obtain ⟨n5, gr⟩ := ye;obtain ⟨n6, gp⟩ := qH;apply Exists.intro;intro Fin W O a b c d l ti L eb ha hb hc hd hl hoi hti hF hE;have hN : ∀ (s : Nat × List Nat) (o : Obj), (dom0 (Shs s.2) W O).New o := fun _ _ => trivial;have hok := mJ a b c d;co_applyP aB 131 Tryz.func9 Tryz.ntmps9;co_applyP ai;co_applyP oy rfl aj;co_applyP aa;co_applyP ai;co_applyP oc rfl rfl rfl (gn (cnt (pickN ti 280) (St.fresh (cfgf a b c) (cfgb d) l 1)) [] L eb hF hE);rintro _ _ _ ⟨N0, rfl, rfl, hE0⟩;co_applyP oy rfl aj;co_applyP aa;co_applyP ai;co_applyP oy rfl ah;co_applyP oy rfl ah;co_applyP oy rfl ah;co_applyP oy rfl ah;rename_i L0;co_applyP ocm rfl rfl rfl (gc L0 a b c d hN hE0.f ha hb hc hd);rintro _ _ _ ⟨rfl, rfl, hE1⟩;rename_i L1;co_applyP bI rfl (dL (z := .agg #[.int .i64 0, .int .i64 0, .int .i64 0, .int .i64 0]) (hN _ _));intro xr L2 hA;co_applyP oeN rfl (fun hnd => eY (hs := fq) (vs := [.int .i64 (cfgf a b c 0), .int .i64 (cfgf a b c 1), .int .i64 (cfgf a b c 2), .int .i64 (cfgb d)]) (hnd := hnd) (hm := hA.self) (hi := Nat.le_refl _));rintro _ L3 ⟨rfl, hU⟩;co_applyP aa;co_applyP ai;have hX3 : ∀ t ∈ L, t ∈ L3 := fun t h => hU.ne _ (hA.sub _ (hE1.s _ (hE0.s _ h))) (hA.new _ (hE1.s _ (hE0.s _ h)));have hEL : Ers eb L3 := hE.mono hX3;co_applyP oy rfl (a5 (ht := jb) (hs := fq) (hm := hU.self) (hi := by show 0 + 4 ≤ 4; decide));co_applyP oy rfl ah;co_applyP oc rfl rfl rfl (gk L3 (cfgf a b c) (cfgb d) l hN hU.fn hl hok hoi);rintro _ _ _ ⟨rfl, K, A0, b0, rfl, hR0⟩;co_applyP oy rfl aj;co_applyP aa;co_applyP ar;co_applyP ar;rename_i L4;have hAb0 := oA (b := b0) hok hoi hl;obtain ⟨t1, t2, t3⟩ := pX hok hoi hl;have hT0 : (St.fresh (cfgf a b c) (cfgb d) l 1).now = 0 := rfl;have hTb : (St.fresh (cfgf a b c) (cfgb d) l 1).bo = cfgb d := rfl;have hTs : (St.fresh (cfgf a b c) (cfgb d) l 1).sl = cfgf a b c := rfl;have hn6 : pickN ti 280 < 280 := cN ti (by decide);have hpd := cN d (n := 60) (by decide);have hpa := cN a (n := 10) (by decide);have hf0 : cfgf a b c 0 = ((1 + pickN a 10 : Nat) : Int) := rfl;have hfb : cfgb d = ((1 + pickN d 60 : Nat) : Int) := rfl;have x3 : At L4 xr 3 (.int .i64 (cfgb d)) := ⟨true, _, _, _, hR0.fr _ hU.self, rfl⟩;have x0 : At L4 xr 0 (.int .i64 (cfgf a b c 0)) := ⟨true, _, _, _, hR0.fr _ hU.self, rfl⟩;have hmo : most (St.fresh (cfgf a b c) (cfgb d) l 1) = 1 + pickN d 60 + 8 * (1 + pickN a 10) := by
   unfold most;rw [hTb, hTs, hf0, hfb]; rfl
 have e8 : IntKind.i64.wrap (8 * cfgf a b c 0) = 8 * cfgf a b c 0 := by rw [hf0]; simp [IntKind.wrap_i64]; omega
 have em : IntKind.i64.wrap (cfgb d + 8 * cfgf a b c 0) = ((most (St.fresh (cfgf a b c) (cfgb d) l 1) : Nat) : Int) := by rw [hmo, hf0, hfb]; simp [IntKind.wrap_i64]; omega
 have hml : most (St.fresh (cfgf a b c) (cfgb d) l 1) ≤ 140 := by rw [hmo]; omega
 generalize St.fresh (cfgf a b c) (cfgb d) l 1 = T at hAb0 t1 t2 t3 hT0 hTb hTs em hml;clear hmo;generalize hmT : most T = mo at em hml;generalize hpn : pickN ti 280 = n at hn6;co_applyP ay;co_applyP oy rfl ah;co_applyP oy rfl (gu (hu := Tryz.underlying35));co_applyP oy rfl ah;co_applyP oy rfl (ah);co_applyP oy rfl (bY);co_applyP oy rfl aN;co_applyP aa;co_applyP ak rfl;co_applyP aC;co_applyP ai;co_applyP oy rfl (av (hf := eZ));co_applyP oy rfl (aG (ht := aY) (hv := x3));co_applyP oy rfl (av (hf := ma));co_applyP oy rfl (aW Tryz.underlying24 cG);co_applyP oy rfl (aG (ht := aY) (hv := x0));co_applyP oy rfl xJ;co_applyP oy rfl a8;co_applyP oy rfl aj;co_applyP aa;co_applyP ai;rw [e8, em];co_applyP bI rfl (dL (z := .agg (scs fun _ => 0)) (hN _ _) AQ);intro sb L5 hAs;co_applyP aa;co_applyP ar;co_applyP ai;co_applyP oy rfl aj;co_applyP aa;co_applyP aJ;have hsL : ∀ t ∈ L3, t.1 ≠ sb := fun t ht => hAs.new _ (hR0.fr _ ht);co_applyP bF (fun k s' ε' L' => ∃ t sl A' S' T' σ, k + t = 280 ∧ t ≤ n ∧ s' = (cnt (n - t) T', sl) ∧ TI id T' ∧ UI T' ∧ FI T' σ ∧ T'.now = t ∧ most T' = mo ∧ Ab S' T' ∧ Rep K A' S' L3 L' ∧ (sb, true, Obj.cells (scs σ) 63) ∈ L' ∧ kn ε' [(5, .int .i64 ti), (15, ptr K), (16, .int .i64 (mo : Nat)), (17, ptr sb), (18, .int .i64 (t : Nat))]) 280
 · exact ⟨0, _, A0, _, T, fun _ => 0, rfl, Nat.zero_le _, rfl, t1, t2, t3, hT0, hmT, hAb0, hR0.add hAs, hAs.self, rfl⟩
 rintro c0 s' ε' L6 ⟨t, sl, A1, S1, T1, σ, hct, htn, rfl, hTI, hUI, hFI, hnow, hmo1, hAb1, hR1, hsb, he⟩;co_applyP a0 he;have et : IntKind.i64.wrap ((t : Int) + 1) = ((t + 1 : Nat) : Int) := by simp [IntKind.wrap_i64]; omega
 have hnowS : S1.now < 1152921504606846976 := by have := hAb1.now; omega
 co_applyP ar;co_applyP ai;co_applyP oy rfl ah;co_applyP oy rfl ah;co_applyP oc rfl rfl rfl (gpick L6 ti 280 hti (by decide));rintro _ _ _ ⟨rfl, rfl, rfl⟩;rw [hpn];co_applyP oy rfl ci;co_applyP aa;co_applyP bi rfl;intro hlt
 · have hlt' : t < n := by simpa using hlt
   have ent : n - t = (n - (t + 1)) + 1 := by omega
   co_applyP aC;co_applyP bL (T1.isOver = true);intro hov
   · have ec : cnt (n - t) T1 = 0 + 1 := by rw [ent]; show (if T1.isOver then 1 else _) = _; rw [if_pos hov]
     rw [ec];co_applyP ar (n₂ := 0);co_applyP aJ;co_applyP ai;co_applyP oy rfl ah;co_applyP oc rfl rfl rfl (gr 0 sl K A1 S1 T1 L3 L6 eb 1 hR1 hEL hAb1 (by decide) hnowS);rintro _ _ _ ⟨N1, told, A2, S2, rfl, rfl, hAb2, hR2, hH⟩;rename_i L7;have eev : St.evs 1 T1 = ([] : List Wd).map Wd.v := by show (if T1.isOver then [] else _) = _; rw [if_pos hov]; rfl
     rw [eev] at hH;obtain ⟨at2, rfl, hat2⟩ := jl hH;obtain ⟨tb, tc, htv, _⟩ := qK hat2;rw [htv];co_applyP oy rfl ah;co_applyP oy rfl bB;co_applyP oy rfl bB;co_applyP oy rfl aj;co_applyP oy rfl aj;co_applyP aa;co_applyP ar;co_applyP ai;co_applyP oy rfl ah;co_applyP oy rfl dZ;co_applyP aa;co_applyP ak rfl;co_applyP aC;co_applyP ar (n₂ := 0);co_applyP ai;co_applyP oy rfl ah;co_applyP oy rfl (bt (hu := U38));co_applyP oy rfl aA;co_applyP aa;co_applyP aS rfl;co_applyP ai;co_applyP oy rfl aj;co_applyP aa;co_applyP aI;change ∃ v, resE .. = some v ∧ _;exact ⟨_, rfl, rfl, rfl⟩
   intro hov;have ec : cnt (n - t) T1 = cnt (n - (t + 1)) T1.next + 1 := by rw [ent]; show (if T1.isOver then 1 else _) = _; rw [if_neg hov]
   rw [ec];have hRF := hR1.with hsb (by decide);co_applyP ar;co_applyP aJ;co_applyP ai;co_applyP oy rfl ah;co_applyP oc rfl rfl rfl (gr (cnt (n - (t + 1)) T1.next) sl K A1 S1 T1 _ L6 eb 1 hRF (hEL.mono fun _ h => List.mem_cons_of_mem _ h) hAb1 (by decide) hnowS);rintro _ _ _ ⟨N1, told, A2, S2, rfl, rfl, hAb2, hRF2, hH⟩;rename_i L7;have hR2 := hRF2.less fun t h => List.mem_cons_of_mem _ h;have hsb2 := hRF2.fr _ List.mem_cons_self;have er : St.runs 1 T1 = T1.next := by show (if T1.isOver then T1 else _) = _; rw [if_neg hov]; rfl
   rw [er] at hAb2;obtain ⟨ws, hws, hwl⟩ := iD 1 T1;have hws1 : T1.tickE = ws.map Wd.v := by
     have : St.evs 1 T1 = T1.tickE ++ [] := by show (if T1.isOver then [] else _) = _; rw [if_neg hov]; rfl
     rw [← hws, this, List.append_nil]
   rw [hws] at hH;obtain ⟨at2, rfl, hat2⟩ := jl hH;obtain ⟨tb, tc, htv, htw⟩ := qK hat2;rw [htv];have hsx := hAb2.snd';generalize hxs : S2.ps.map (·.2) = xs at hsx;obtain ⟨hTI', hUI', hFI', hlt2, hne⟩ := sW (σ' := sweep ws xs σ) hTI hUI hFI hws1 (fun q hq => by
     have hnd := vF (hTI.tick (c := T1.last + 1) (fun q hq e => by
       have h2 := hTI.m.lead.x.nm q hq;have h3 := (hTI.m.lead.x.idr q hq).2;rw [cA] at h3;have h4 : q.1 = q.2.id := h2;omega) rfl)
     rw [hsx];exact kQ ws _ σ hnd q.2 (List.mem_map.2 ⟨q, hq, rfl⟩)) (fun j hj => ge ws _ σ j fun x hx => by
     rw [hsx] at hx;obtain ⟨q, hq, rfl⟩ := List.mem_map.1 hx;exact hj q hq)
   have hnd := vF hTI';rw [← hsx] at hnd;have hval : ∀ x ∈ xs, nvP ws σ x < mo ∧ σ x.id ≤ mo ∧ 1 ≤ x.id ∧ x.id < 300 := fun x hx => by
     have hx2 := hx;rw [hsx] at hx2;obtain ⟨q, hq, rfl⟩ := List.mem_map.1 hx2;obtain ⟨h1, h2⟩ := hlt2 q hq;rw [kQ ws xs σ hnd q.2 hx] at h1;have h3 := hTI'.m.x.idr q hq;have h4 := hTI'.ls;have h5 : T1.next.now = T1.now + 1 := by show (T1.tickU (T1.last + 1)).now + 1 = _; rw [gb]
     exact ⟨by rw [← hmo1]; exact h1, by rw [← hmo1]; exact h2, h3.1, by omega⟩
   obtain ⟨w0, hw0⟩ : ∃ w, ws[0]? = some w := by
     cases ws with
     | nil => exact absurd rfl hne
     | cons w _ => exact ⟨w, rfl⟩
   have hran : ∀ id : Nat, ran ws id = decide (w0.2.1 = 1 ∧ w0.2.2.1 = (id : Int)) := fun id => by
     cases ws with
     | nil => exact absurd rfl hne
     | cons w _ =>
       obtain rfl : w = w0 := by simpa using hw0
       rfl
   have elen : (((ws.length : Nat) : Int) == 0) = false := by
     rw [beq_eq_false_iff_ne];have : 0 < ws.length := List.length_pos_iff.2 hne;omega
   co_applyP oy rfl ah;co_applyP oy rfl bB;co_applyP oy rfl bB;co_applyP oy rfl aj;co_applyP oy rfl aj;co_applyP aa;co_applyP ar;co_applyP ai;co_applyP oy rfl ah;co_applyP oy rfl dZ;co_applyP aa;co_applyP ak rfl;co_applyP aC;co_applyP ar;co_applyP ai;co_applyP oy rfl ah;co_applyP oy rfl (bt (hu := U38));co_applyP oy rfl aA;co_applyP aa;change wpE ..;rw [elen];co_applyP ak rfl;co_applyP aC;co_applyP ai;co_applyP oy rfl ah;co_applyP oc rfl rfl rfl (gp K A2 S2 L3 L7 hN hR2);rintro _ _ _ ⟨rfl, ap, rfl, hap, hapn, hEp⟩;rename_i L8;obtain ⟨Nm, hTIS, _⟩ := hAb2.ex;have hpos : 0 < S2.ps.length := by
     obtain ⟨q, hq, _⟩ := hTIS.m.x.p1;exact List.length_pos_of_mem hq
   have h8 := hR2.p8;obtain ⟨pg, hpg⟩ := gO hap (by rw [fZ]; omega);have hpv : rowv ap 15 S2.ps.length = .slice (some ⟨pg, 0, none⟩) S2.ps.length (S2.ps.length + ap.junk.length / 15) := by unfold rowv; rw [hpg]
   have hpm := hap.mem hpg;rw [hpv];have hxl : xs.length = S2.ps.length := by rw [← hxs]; simp
   have hpsb : pg ≠ sb := fun e => hapn _ hsb2 (by rw [hpg, e]);have htw8 := htw.mono hEp.s;have hR8 := hR2.ext hEp;co_applyP oy rfl aj;co_applyP aa;co_applyP ai;co_applyP oy rfl aj;co_applyP aa;co_applyP aJ;co_applyP bF (fun k s' ε' L'' => s' = (cnt (n - (t + 1)) T1.next, N1 :: sl) ∧ ∃ j, k + j = 8 ∧ j ≤ S2.ps.length ∧ Rep K A2 S2 L3 L'' ∧ WL L'' tb ws ∧ (pg, true, Obj.cells (heads S2.ps ++ ap.junk).toArray 49) ∈ L'' ∧ (sb, true, Obj.cells (scs (sweep ws (xs.take j) σ)) 63) ∈ L'' ∧ kn ε' [(5, .int .i64 ti), (15, ptr K), (16, .int .i64 (mo : Nat)), (17, ptr sb), (18, .int .i64 (t : Nat)), (19, .slice tb ws.length tc), (21, .slice (some ⟨pg, 0, none⟩) S2.ps.length (S2.ps.length + ap.junk.length / 15)), (22, .int .i64 (j : Nat))]) 8
   · exact ⟨rfl, 0, rfl, Nat.zero_le _, hR8, htw8, hpm, hEp.s _ hsb2, rfl⟩
   rintro c1 s' ε' L9 ⟨rfl, j, hcj, hj, hR9, hw9, hp9, hs9, hej⟩;co_applyP a0 hej;have ej : IntKind.i64.wrap ((j : Int) + 1) = ((j + 1 : Nat) : Int) := by simp [IntKind.wrap_i64]; omega
   co_applyP ar;co_applyP ai;co_applyP oy rfl ah;co_applyP oy rfl ah;co_applyP oy rfl (bt (hu := U42));co_applyP oy rfl ci;co_applyP aa;co_applyP bi rfl;intro hlt3
   · have hlt3' : j < S2.ps.length := by simpa using hlt3
     obtain ⟨q, hq⟩ : ∃ q, S2.ps[j]? = some q := ⟨_, List.getElem?_eq_getElem hlt3'⟩;have hxj : xs[j]? = some q.2 := by rw [← hxs, List.getElem?_map, hq]; rfl
     obtain ⟨v1, v2, v3, v4⟩ := hval q.2 (List.mem_of_getElem? hxj);have hstk := p6 (ws := ws) hxj hnd σ;have hsn := pY (ws := ws) hxj σ;have hnv : nvP ws (sweep ws (xs.take j) σ) q.2 = nvP ws σ q.2 := by unfold nvP; rw [hstk]
     rw [hnv] at hsn;generalize hσ : sweep ws (xs.take j) σ = σj at hs9 hstk hsn;have u0 : At L9 pg (j * 15) (.int .i64 (q.2.id : Nat)) := qQ (j := 0) hp9 hq (by decide) rfl;have b1 : decide (((q.2.id : Nat) : Int) < 1) = false := by simp; omega
     have b2 : decide ((300 : Int) ≤ ((q.2.id : Nat) : Int)) = false := by simp; omega
     have s1 : At L9 sb q.2.id (.int .i64 (σj q.2.id : Nat)) := ⟨true, _, _, _, hs9, mM v4⟩;have ew : IntKind.i64.wrap (((σj q.2.id : Nat) : Int) + 1) = ((σj q.2.id + 1 : Nat) : Int) := by rw [hstk]; simp [IntKind.wrap_i64]; omega
     co_applyP aC;co_applyP ar;co_applyP aJ;co_applyP ai;co_applyP oy rfl ah;co_applyP oy rfl ah;co_applyP oy rfl (bu U42 lh);co_applyP oy rfl (av (hf := dg));co_applyP oy rfl (aG (ht := aY) (hv := u0));co_applyP oy rfl aj;co_applyP aa;co_applyP ar;co_applyP ai;co_applyP oy rfl ah;co_applyP oy rfl ci;co_applyP oy rfl ah;rw [b1];co_applyP oy rfl (ah);co_applyP oy rfl (d8);co_applyP oy rfl aN;co_applyP aa;change wpE ..;rw [b2];co_applyP ak rfl;co_applyP aC;co_applyP ai;co_applyP oy rfl ah;co_applyP oy rfl (aW Tryz.underlying63 cG);co_applyP oy rfl (aG (ht := aY) (hv := s1));co_applyP oy rfl a8;co_applyP oy rfl (aW Tryz.underlying63 cG);rw [ew];co_applyP osm rfl (hs := cG) (hm := hs9) (hi := by rw [fE]; exact v4);intro L10 hU10;rw [qY v4] at hU10;have hp10 := hU10.ne _ hp9 hpsb;have u2 : At L10 pg (j * 15 + 2) (.int .i64 (q.2.st : Nat)) := qQ (j := 2) hp10 hq (by decide) rfl;have hR10 := hR9.turnB hs9 (by decide) hsL hU10.fn hU10.ne;have hw10 := hw9.turn hR9.fn hs9 (by decide) hU10.ne;obtain ⟨g1, k1, rfl, m1, z1, x1⟩ := hw10 0 w0 hw0;have wat : ∀ i, i < 4 → k1[i]? = (Wd.c w0)[i]? := fun i hi => by
       have h1 := congrArg (fun a : Array Value => a[i]?) x1;simp only [List.getElem?_toArray] at h1;rw [← h1, Array.getElem?_extract];simp only [Nat.zero_mul, Nat.zero_add];rw [if_pos (by omega)]
     have w1 : At L10 g1 1 (.int .i64 w0.2.1) := ⟨true, _, _, _, m1, by rw [wat 1 (by omega)]; rfl⟩;have w2 : At L10 g1 2 (.int .i64 w0.2.2.1) := ⟨true, _, _, _, m1, by rw [wat 2 (by omega)]; rfl⟩;have hwn : 0 < ws.length := List.length_pos_iff.2 hne;co_applyP aa;co_applyP dP (fun s'' ε'' L'' => s'' = (cnt (n - (t + 1)) T1.next, N1 :: sl) ∧ Rep K A2 S2 L3 L'' ∧ WL L'' (some ⟨g1, 0, none⟩) ws ∧ (pg, true, Obj.cells (heads S2.ps ++ ap.junk).toArray 49) ∈ L'' ∧ (sb, true, Obj.cells (scs (put σj q.2.id (nvP ws σ q.2))) 63) ∈ L'' ∧ kn ε'' [(5, .int .i64 ti), (15, ptr K), (16, .int .i64 (mo : Nat)), (17, ptr sb), (18, .int .i64 (t : Nat)), (19, .slice (some ⟨g1, 0, none⟩) ws.length tc), (21, .slice (some ⟨pg, 0, none⟩) S2.ps.length (S2.ps.length + ap.junk.length / 15)), (22, .int .i64 (j : Nat)), (23, .int .i64 (q.2.id : Nat))]);co_applyP ar;co_applyP jO ([(123, .bool (decide (q.2.st ≠ 1 ∨ ran ws q.2.id = true))), (5, .int .i64 ti), (15, ptr K), (16, .int .i64 (mo : Nat)), (17, ptr sb), (18, .int .i64 (t : Nat)), (19, .slice (some ⟨g1, 0, none⟩) ws.length tc), (21, .slice (some ⟨pg, 0, none⟩) S2.ps.length (S2.ps.length + ap.junk.length / 15)), (22, .int .i64 (j : Nat)), (23, .int .i64 (q.2.id : Nat))]);co_applyP ay;co_applyP oy rfl ah;co_applyP oy rfl ah;co_applyP oy rfl (bu U42 lh);co_applyP oy rfl (av (hf := cv))
     · skip
       co_applyP oy rfl (aG (ht := aY) (hv := u2));co_applyP oy rfl dZ;co_applyP oy rfl ah;by_cases hst : q.2.st = 1
       · have f1 : (((q.2.st : Nat) : Int) != 1) = false := by rw [hst]; rfl
         rw [f1];co_applyP oy rfl (ah);co_applyP oy rfl ((bu U38 ft));co_applyP oy rfl ((av (hf := mb)));co_applyP oy rfl (aG (ht := aY) (hv := w1));co_applyP oy rfl (aA);by_cases hk : w0.2.1 = 1
         · have f2 : (w0.2.1 == 1) = true := by simp [hk]
           rw [f2];co_applyP oy rfl (ah);co_applyP oy rfl (ah);co_applyP oy rfl ((bu U38 ft));co_applyP oy rfl ((av (hf := vZ)));co_applyP oy rfl (aG (ht := aY) (hv := w2));co_applyP oy rfl (ah);co_applyP oy rfl (aA);co_applyP oy rfl (aN);co_applyP oy rfl aN;co_applyP aa;change _ = _ ∧ _ = _ ∧ kn _ _;refine ⟨rfl, rfl, ?_⟩;have f3 : (w0.2.2.1 == ((q.2.id : Nat) : Int)) = decide (q.2.st ≠ 1 ∨ ran ws q.2.id = true) := by rw [hran, Bool.eq_iff_iff]; simp [hst, hk]
           rw [← f3]; rfl
         · have f2 : (w0.2.1 == 1) = false := by simp [hk]
           rw [f2];co_applyP oy rfl (ah);co_applyP ou rfl;co_applyP ou rfl;co_applyP ou rfl;co_applyP ou rfl;co_applyP ou rfl;co_applyP ou rfl;co_applyP oy rfl (aN);co_applyP oy rfl aN;co_applyP aa;change _ = _ ∧ _ = _ ∧ kn _ _;refine ⟨rfl, rfl, ?_⟩;have f3 : false = decide (q.2.st ≠ 1 ∨ ran ws q.2.id = true) := by rw [hran]; symm; simp [hst, hk]
           rw [← f3]; rfl
       · have f1 : (((q.2.st : Nat) : Int) != 1) = true := by rw [bne_iff_ne]; omega
         rw [f1];co_applyP ou rfl;co_applyP ou rfl;co_applyP ou rfl;co_applyP ou rfl;co_applyP ou rfl;co_applyP ou rfl;co_applyP on rfl;co_applyP on rfl;co_applyP on rfl;co_applyP on rfl;co_applyP on rfl;co_applyP on rfl;co_applyP ou rfl;co_applyP oy rfl aN;co_applyP aa;change _ = _ ∧ _ = _ ∧ kn _ _;refine ⟨rfl, rfl, ?_⟩;have f3 : true = decide (q.2.st ≠ 1 ∨ ran ws q.2.id = true) := by symm; simp [hst]
         rw [← f3]; rfl
     co_applyP bi rfl;intro h123
     · have hz : nvP ws σ q.2 = 0 := by unfold nvP; rw [if_pos (by simpa using h123)]
       co_applyP ay;co_applyP oy rfl ah;co_applyP oy rfl (aW Tryz.underlying63 cG);co_applyP osm rfl (hs := cG) (hm := hU10.self) (hi := by rw [fE]; exact v4);intro L11 hU11;have e0 : (scs (put σj q.2.id (σj q.2.id + 1))).setIfInBounds q.2.id (.int .i64 0) = scs (put σj q.2.id 0) := by
         have := qY (σ := put σj q.2.id (σj q.2.id + 1)) v4 0;rw [xF] at this;exact this
       rw [e0] at hU11;rw [hz];co_applyP aa;change _ = _ ∧ _ ∧ _ ∧ _ ∧ _ ∧ kn _ _;exact ⟨rfl, hR10.turnB hU10.self (by decide) hsL hU11.fn hU11.ne, hw10.turn hR10.fn hU10.self (by decide) hU11.ne, hU11.ne _ hp10 hpsb, hU11.self, rfl⟩
     intro h123;have hz : nvP ws σ q.2 = σj q.2.id + 1 := by unfold nvP; rw [if_neg (by simpa using h123), hstk]
     rw [hz];co_applyP aC;change _ = _ ∧ _ ∧ _ ∧ _ ∧ _ ∧ kn _ _;exact ⟨rfl, hR10, hw10, hp10, hU10.self, rfl⟩;rintro s'' ε'' L12 ⟨rfl, hR12, hw12, hp12, hs12, he12⟩;co_applyP a0 he12;have s2 : At L12 sb q.2.id (.int .i64 (nvP ws σ q.2 : Nat)) := ⟨true, _, _, _, hs12, by rw [mM v4]; unfold put; rw [if_pos rfl]⟩;have f0 : decide (((mo : Nat) : Int) ≤ ((nvP ws σ q.2 : Nat) : Int)) = false := by simp; omega
     co_applyP ai;co_applyP oy rfl ah;co_applyP oy rfl (aW Tryz.underlying63 cG);co_applyP oy rfl (aG (ht := aY) (hv := s2));co_applyP oy rfl ah;co_applyP oy rfl d8;co_applyP aa;change wpE ..;rw [f0];co_applyP ak rfl;co_applyP aC;co_applyP ay;co_applyP oy rfl ah;co_applyP oy rfl a8;co_applyP oy rfl aj;co_applyP aa;change ∃ k', k' < _ ∧ _;exact ⟨c1 - 1, by omega, rfl, j + 1, by omega, by omega, hR12, hw12, hp12, by rw [hsn]; exact hs12, by rw [← ej]; rfl⟩
   intro hlt3;have hjeq : j = S2.ps.length := by simp at hlt3; omega
   subst hjeq;rw [← hxl, List.take_length] at hs9;co_applyP bN;co_applyP ay;co_applyP oy rfl ah;co_applyP oy rfl a8;co_applyP oy rfl aj;co_applyP aa;change ∃ k', k' < _ ∧ _;exact ⟨c0 - 1, by omega, t + 1, N1 :: sl, A2, S2, T1.next, sweep ws xs σ, by omega, by omega, rfl, hTI', hUI', hFI', by show (T1.tickU (T1.last + 1)).now + 1 = _; rw [gb, hnow], by rw [(lM T1).1]; exact hmo1, hAb2, hR9, hs9, by rw [← et]; rfl⟩
 intro hlt;have htn' : n - t = 0 := by simp at hlt; omega
 rw [htn'];co_applyP bN;co_applyP ai;co_applyP oy rfl aj;co_applyP aa;co_applyP aI;change ∃ v, resE .. = some v ∧ _;exact ⟨_, rfl, rfl, rfl⟩
end Go.Proofs.YtejkelcaljmnoaaGreatDoor
