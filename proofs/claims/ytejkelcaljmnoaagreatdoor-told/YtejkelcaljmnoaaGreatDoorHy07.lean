/-
  Part 7 of the proof.
  No condition but those that each statement names.
-/
import Derived.Test.YtejkelcaljmnoaaGreatDoorHy06
import Derived.Test.YtejkelcaljmnoaaGreatDoorHy05
import Derived.Test.YtejkelcaljmnoaaGreatDoorHy02
import Derived.Laws.StructEq
set_option maxRecDepth 100000
set_option linter.unusedVariables false
set_option linter.unusedSimpArgs false
set_option linter.unusedSectionVars false
namespace Go.Proofs.YtejkelcaljmnoaaGreatDoor
open Go.Conc Go.Hx Go.Lo
theorem dE (S : St) (b : Nat) (x y : PS) : (S.setP b x).setP b y = S.setP b y := by
 unfold St.setP;simp only [List.map_map];congr 1;apply List.map_congr_left;intro q _;simp only [Function.comp]
 split <;> simp_all
theorem ja {S : St} {b c : Nat} {x : PS} (h : ∃ y, (c, y) ∈ S.ps) : ∃ y, (c, y) ∈ (S.setP b x).ps := by
 obtain ⟨y, hy⟩ := h;simp only [St.setP, List.mem_map];by_cases e : c = b
 · exact ⟨x, (c, y), hy, by simp [e]⟩
 · exact ⟨y, (c, y), hy, by simp [e]⟩
theorem jU : ∃ n, ∀ {σ : Type} {F : Fam σ} {Δ : ∀ s, Dom (F.R s) (F.D s)} {main : Bool} {s : σ} (K : Nat) (A : Lay) (S : St) (Fr L : Frag) (b : Nat) (x : PS), (∀ cs, (Δ s).New (.cells cs 93)) → Rep K A S Fr L → (b, x) ∈ S.ps → x.lv < 3 → (S.rows x.lv).length ≤ 8 → (∀ e ∈ S.wt, slot e.1 ≠ x.lv + 1) →
   CallsL Δ Tryz.prog main 75 [ptr K, ptr b].toArray n s L (fun s' v L' => s = s' ∧ v = .tuple #[] ∧ ∃ A', LRel A A' ∧ Rep K A' ((S.setP b { x with st := 1, used := 0 }).setRow x.lv (S.rows x.lv ++ [b])) Fr L') := by
 obtain ⟨n1, g1⟩ := oS;apply Exists.intro;intro σ F Δ main s K A S Fr L b x hN hR hb hlv h8 hw;co_applyP aB 17 Tryz.func75 Tryz.ntmps75;co_applyP ae;co_applyP aa;co_applyP oy rfl aj;co_applyP oy rfl aL;co_applyP oy rfl (av (hf := aD));co_applyP oy rfl (av (hf := cA));co_applyP osm rfl (hs := dm) (hm := hR.p _ hb) (hi := by first | decide | (rw [bg]; omega) | (rw [bC]; omega));intro L1 hU;have hR1 := hR.setP (x' := { x with st := 1 }) hb hU;co_applyP ah;change wpE ..;co_applyP ae;co_applyP aa;co_applyP oy rfl aj;co_applyP oy rfl aL;co_applyP oy rfl (av (hf := aD));co_applyP oy rfl (av (hf := fN));co_applyP osm rfl (hs := dm) (hm := hR1.p _ (au hb)) (hi := by first | decide | (rw [bg]; omega) | (rw [bC]; omega));intro L2 hU2;have hR2 := hR1.setP (x' := { x with st := 1, used := 0 }) (au hb) hU2;rw [dE] at hR2;co_applyP ah;change wpE ..;co_applyP aa;co_applyP oy rfl aj;co_applyP oy rfl aL;co_applyP oy rfl (av (hf := dn));co_applyP oy rfl aj;co_applyP oc rfl rfl rfl (g1 K A _ Fr L2 b _ hN hR2 (au hb) hlv h8 hw);rintro _ _ _ ⟨rfl, rfl, A', hr, hR3⟩;co_applyP ah;change ∃ v, resE .. = some v ∧ _;exact ⟨_, rfl, rfl, rfl, A', hr, hR3⟩
theorem jV : ∃ n, ∀ {σ : Type} {F : Fam σ} {Δ : ∀ s, Dom (F.R s) (F.D s)} {main : Bool} {s : σ} (K : Nat) (A : Lay) (S : St) (Fr L : Frag) (b : Nat) (x : PS) (st : Nat), Rep K A S Fr L → (b, x) ∈ S.ps → x.lv < 3 → (S.rows x.lv).length ≤ 8 → (∀ c ∈ S.rows x.lv, ∃ y, (c, y) ∈ S.ps) → (∀ e ∈ S.wt, slot e.1 ≠ x.lv + 1) →
   CallsL Δ Tryz.prog main 107 [ptr K, ptr b, .int .i64 st].toArray n s L (fun s' v L' => s = s' ∧ v = .tuple #[] ∧ ∃ A', LRel A A' ∧ Rep K A' ((S.setP b { x with st := st }).setRow x.lv ((S.rows x.lv).erase b)) Fr L') := by
 obtain ⟨n1, g1⟩ := lY;apply Exists.intro;intro σ F Δ main s K A S Fr L b x st hR hb hlv h8 hm hw;co_applyP aB 16 Tryz.func107 Tryz.ntmps107;co_applyP ae;co_applyP aa;co_applyP oy rfl aj;co_applyP oy rfl aL;co_applyP oy rfl (av (hf := dn));co_applyP oy rfl aj;co_applyP oc rfl rfl rfl (g1 K A S Fr L b x hR hb hlv h8 hm hw);rintro _ _ _ ⟨rfl, rfl, A', hr, hR1⟩;co_applyP ah;change wpE ..;co_applyP aa;co_applyP oy rfl aj;co_applyP oy rfl aj;co_applyP oy rfl aL;co_applyP oy rfl (av (hf := aD));co_applyP oy rfl (av (hf := cA));co_applyP osm rfl (hs := dm) (hm := hR1.p _ hb) (hi := by first | decide | (rw [bg]; omega) | (rw [bC]; omega));intro L2 hU2;have hR2 := hR1.setP (x' := { x with st := st }) hb hU2;co_applyP ah;change ∃ v, resE .. = some v ∧ _;exact ⟨_, rfl, rfl, rfl, A', hr, hR2⟩
def St.turn (S : St) (b : Nat) (x : PS) : St :=
 if (x.used : Int) < S.sl x.lv then S
 else
   let lv := min (x.lv + 1) 2
   let S1 := (S.setRow x.lv ((S.rows x.lv).erase b)).setP b { x with lv := lv, used := 0 }
   S1.setRow lv (S1.rows lv ++ [b])
theorem zP (k : KS) {l : Nat} (hl : l < 3) : (kcells k)[l]? = some (.int .i64 (k.sl l)) := by
 rcases l with _ | _ | _ | l
 · rfl
 · rfl
 · rfl
 · omega
theorem ye : ∃ n, ∀ {σ : Type} {F : Fam σ} {Δ : ∀ s, Dom (F.R s) (F.D s)} {main : Bool} {s : σ} (K : Nat) (A : Lay) (S : St) (Fr L : Frag) (b : Nat) (x : PS), (∀ cs, (Δ s).New (.cells cs 93)) → Rep K A S Fr L → (b, x) ∈ S.ps → x.lv < 3 → (∀ l, l < 3 → (S.rows l).length ≤ 8) → (∀ c ∈ S.rows x.lv, ∃ y, (c, y) ∈ S.ps) → (∀ e ∈ S.wt, ∀ l, l < 3 → slot e.1 ≠ l + 1) →
   CallsL Δ Tryz.prog main 86 [ptr K, ptr b].toArray n s L (fun s' v L' => s = s' ∧ v = .tuple #[] ∧ ∃ A', LRel A A' ∧ Rep K A' (S.turn b x) Fr L') := by
 obtain ⟨n1, g1⟩ := lY;obtain ⟨n2, g2⟩ := oS;apply Exists.intro;intro σ F Δ main s K A S Fr L b x hN hR hb hlv h8 hm hw;have hx5 : At L b 5 (.int .i64 (x.lv : Int)) := hR.pat hb (i := 5) rfl;have hx6 : At L b 6 (.int .i64 (x.used : Int)) := hR.pat hb (i := 6) rfl;have hsl : At L K x.lv (.int .i64 (S.sl x.lv)) := hR.kat (zP _ hlv);co_applyP aB 46 Tryz.func86 Tryz.ntmps86;co_applyP ae;co_applyP ae;co_applyP bj aZ;co_applyP tr (i := 0) rfl aj pI;co_applyP tr (i := 1) rfl aL pI;co_applyP tr (i := 2) rfl (av (hf := aD)) pI;co_applyP tr (i := 3) rfl (av (hf := fN)) pI;co_applyP tr (i := 4) rfl (aC (ht := aV)) pI;co_applyP tr (i := 5) rfl aj pI;co_applyP tr (i := 6) rfl aj pI;co_applyP tr (i := 7) rfl aL pI;co_applyP tr (i := 8) rfl (av (hf := aD)) pI;co_applyP tr (i := 9) rfl (av (hf := dS)) pI;co_applyP tr (i := 10) rfl (aC (ht := aV)) pI;co_applyP tr (i := 11) rfl aL pI;co_applyP tr (i := 12) rfl (av (hf := fw)) pI;co_applyP tr (i := 13) rfl (av (hf := pL)) pI;co_applyP tr (i := 14) rfl (a0 Tryz.underlying24 dm) pI;co_applyP tr (i := 15) rfl (aC (ht := aV)) pI;co_applyP tr (i := 16) rfl bX pI;co_applyP td (by kernel_rfl);change wpE ..;co_applyP bl rfl;intro hc;co_applyP aJ;change ∃ v, resE .. = some v ∧ _
 · refine ⟨_, rfl, rfl, rfl, A, LRel.refl A, ?_⟩;have : (x.used : Int) < S.sl x.lv := by simpa using hc
   unfold St.turn; rw [if_pos this]; exact hR
 intro hc;have hnl : ¬ (x.used : Int) < S.sl x.lv := by simpa using hc
 have emin : (if (2 : Int) < IntKind.i64.wrap ((x.lv : Int) + 1) then (2 : Int) else IntKind.i64.wrap ((x.lv : Int) + 1)) = ((min (x.lv + 1) 2 : Nat) : Int) := by
   have : IntKind.i64.wrap ((x.lv : Int) + 1) = (x.lv : Int) + 1 := by simp [IntKind.wrap_i64]; omega
   rw [this]; split <;> omega
 co_applyP aA;change wpE ..;co_applyP ae;co_applyP aa;co_applyP oy rfl aj;co_applyP oy rfl aL;co_applyP oy rfl (av (hf := dn));co_applyP oy rfl aj;co_applyP oc rfl rfl rfl (g1 K A S Fr L b x hR hb hlv (h8 _ hlv) hm (fun e he => hw e he _ hlv));rintro _ _ _ ⟨rfl, rfl, A1, hr1, hR1⟩;have hx5' := hR1.pat hb (i := 5) rfl;have hx5'' : At _ b 5 (.int .i64 (x.lv : Int)) := hx5';clear hx5' hx5 hx6 hsl;co_applyP ah;change wpE ..;co_applyP ae;co_applyP aa;co_applyP oy rfl aj;co_applyP oy rfl aj;co_applyP oy rfl aL;co_applyP oy rfl (av (hf := aD));co_applyP oy rfl (av (hf := dS));co_applyP oy rfl (aC (ht := aV));co_applyP oy rfl a7;co_applyP oy rfl zp;co_applyP oy rfl aL;co_applyP oy rfl (av (hf := aD));co_applyP oy rfl (av (hf := dS));rw [emin];co_applyP osm rfl (hs := dm) (hm := hR1.p _ hb) (hi := by first | decide | (rw [bg]; omega) | (rw [bC]; omega));intro L1 hU;have hR2 := hR1.setP (x' := { x with lv := min (x.lv + 1) 2 }) hb hU;co_applyP ah;change wpE ..;co_applyP ae;co_applyP aa;co_applyP oy rfl aj;co_applyP oy rfl aL;co_applyP oy rfl (av (hf := aD));co_applyP oy rfl (av (hf := fN));co_applyP osm rfl (hs := dm) (hm := hR2.p _ (au hb)) (hi := by first | decide | (rw [bg]; omega) | (rw [bC]; omega));intro L2 hU2;have hR3 := hR2.setP (x' := { x with lv := min (x.lv + 1) 2, used := 0 }) (au hb) hU2;rw [dE] at hR3;have hmin : min (x.lv + 1) 2 < 3 := by omega
 co_applyP ah;change wpE ..;co_applyP aa;co_applyP oy rfl aj;co_applyP oy rfl aL;co_applyP oy rfl (av (hf := dn));co_applyP oy rfl aj;co_applyP oc rfl rfl rfl (g2 K A1 _ Fr L2 b _ hN hR3 (au hb) hmin (by show (put S.rows x.lv ((S.rows x.lv).erase b) (min (x.lv + 1) 2)).length ≤ 8; unfold put; split; exact Nat.le_trans (List.length_erase_le) (h8 _ hlv); exact h8 _ hmin) (fun e he => hw e he _ hmin));rintro _ _ _ ⟨rfl, rfl, A3, hr3, hR4⟩;co_applyP ah;change ∃ v, resE .. = some v ∧ _;refine ⟨_, rfl, rfl, rfl, A3, hr1.trans hr3, ?_⟩;unfold St.turn; rw [if_neg hnl]; exact hR4
theorem iN : ∀ {l m : List Nat}, l.Nodup → (∀ x ∈ l, x ∈ m) → l.length ≤ m.length
 | [], _, _, _ => by simp
 | x :: l, m, hn, hs => by
   have hx := hs x List.mem_cons_self;have h1 := iN (l := l) (m := m.erase x) (List.nodup_cons.1 hn).2 fun y hy => (List.mem_erase_of_ne fun e => (List.nodup_cons.1 hn).1 (by rw [← e]; exact hy)).2 (hs y (List.mem_cons_of_mem _ hy));have h2 := List.length_erase_of_mem hx;have h3 := List.length_pos_of_mem hx;simp only [List.length_cons];omega
def St.get (S : St) (b : Nat) : Option PS := (S.ps.find? fun q => q.1 == b).map (·.2)
structure Good (S : St) : Prop where
 pn : (S.ps.map (·.1)).Nodup
 p8 : S.ps.length ≤ 8
 lv : ∀ q ∈ S.ps, q.2.lv < 3
 rn : ∀ l, l < 3 → (S.rows l).Nodup
 rm : ∀ l, l < 3 → ∀ c ∈ S.rows l, ∃ y, (c, y) ∈ S.ps ∧ y.lv = l ∧ y.st = 1
 rr : ∀ q ∈ S.ps, q.2.st = 1 → q.1 ∈ S.rows q.2.lv
section
variable {S : St}
theorem bt {b : Nat} {x : PS} (hn : (S.ps.map (·.1)).Nodup) (h : (b, x) ∈ S.ps) : S.get b = some x := by
 unfold St.get;cases hf : S.ps.find? fun q => q.1 == b with
 | none =>
   have := List.find?_eq_none.1 hf (b, x) h;simp at this
 | some q =>
   have h1 := List.mem_of_find?_eq_some hf;have h2 := List.find?_some hf;obtain ⟨c, y⟩ := q;have e : c = b := by simpa using h2
   subst e;simp [bp hn h1 h]
theorem bk {b : Nat} {x : PS} (h : S.get b = some x) : (b, x) ∈ S.ps := by
 unfold St.get at h;obtain ⟨q, hq, rfl⟩ := Option.map_eq_some_iff.1 h;have h2 := List.find?_some hq;have e : q.1 = b := by simpa using h2
 subst e;exact List.mem_of_find?_eq_some hq
theorem Good.r8 (h : Good S) {l : Nat} (hl : l < 3) : (S.rows l).length ≤ 8 := by
 have := iN (m := S.ps.map (·.1)) (h.rn l hl) fun c hc => by
   obtain ⟨y, hy, _⟩ := h.rm l hl c hc;exact List.mem_map.2 ⟨_, hy, rfl⟩
 have h8 := h.p8;simp at this;omega
theorem Good.ex (h : Good S) {l : Nat} (hl : l < 3) : ∀ c ∈ S.rows l, ∃ y, (c, y) ∈ S.ps := fun c hc => by
 obtain ⟨y, hy, _⟩ := h.rm l hl c hc;exact ⟨y, hy⟩
theorem cI (k : Nat × Nat) {l : Nat} (hl : l < 3) : slot k ≠ l + 1 := by unfold slot; omega
def St.wake1 (S : St) (b : Nat) (x : PS) : St := (S.setP b { x with st := 1, used := 0 }).setRow x.lv (S.rows x.lv ++ [b])
theorem Good.wake1 (h : Good S) {b : Nat} {x : PS} (hb : (b, x) ∈ S.ps) (hs : x.st ≠ 1) : Good (S.wake1 b x) := by
 have hlv := h.lv _ hb;have hnr : ∀ l, l < 3 → b ∉ S.rows l := fun l hl hm => by
   obtain ⟨y, hy, _, h1⟩ := h.rm l hl b hm;rw [bp h.pn hb hy] at hs;exact hs h1
 have rows : ∀ l, (S.wake1 b x).rows l = if l = x.lv then S.rows x.lv ++ [b] else S.rows l := fun l => rfl;refine ⟨by unfold St.wake1 St.setRow; rw [aX]; exact h.pn, by unfold St.wake1 St.setRow; rw [eP]; exact h.p8, fun q hq => ?_, fun l hl => ?_, fun l hl c hc => ?_, fun q hq h1 => ?_⟩
 · rcases a5 hq with rfl | ⟨h1, _⟩
   · exact hlv
   · exact h.lv q h1
 · rw [rows]
   split
   · rename_i e;refine List.nodup_append.2 ⟨h.rn _ hlv, by simp, fun a ha c hc => ?_⟩;simp at hc;subst hc;exact fun e => hnr _ hlv (e ▸ ha)
   · exact h.rn l hl
 · rw [rows] at hc;have old : ∀ l', l' < 3 → c ∈ S.rows l' → ∃ y, (c, y) ∈ (S.setP b { x with st := 1, used := 0 }).ps ∧ y.lv = l' ∧ y.st = 1 := fun l' hl' hc' => by
     obtain ⟨y, hy, h1, h2⟩ := h.rm l' hl' c hc';refine ⟨y, ?_, h1, h2⟩;simp only [St.setP, List.mem_map];refine ⟨(c, y), hy, ?_⟩;rw [if_neg];rintro rfl;exact hnr l' hl' hc'
   split at hc
   · rename_i e;subst e;rcases List.mem_append.1 hc with h1 | h1
     · exact old _ hl h1
     · simp at h1;subst h1;exact ⟨_, au hb, rfl, rfl⟩
   · exact old l hl hc
 · rw [rows];rcases a5 hq with rfl | ⟨h2, h3⟩
   · simp
   · have := h.rr q h2 h1
     split
     · rename_i e; rw [e] at this; exact List.mem_append_left _ this
     · exact this
end
def St.wakes (S : St) : List Nat → St
 | [] => S
 | b :: bs => St.wakes (match S.get b with
   | some x => if x.st = 3 ∧ x.til = S.now then S.wake1 b x else S
   | none => S) bs
theorem lZ (S : St) (l m : List Nat) : S.wakes (l ++ m) = (S.wakes l).wakes m := by
 induction l generalizing S with
 | nil => rfl
 | cons b l ih => simp only [List.cons_append, St.wakes]; exact ih _
structure WRel (S S' : St) : Prop where
 f : S'.ps.map (·.1) = S.ps.map (·.1)
 now : S'.now = S.now
theorem WRel.refl (S : St) : WRel S S := ⟨rfl, rfl⟩
theorem le (S : St) (b : Nat) (x : PS) : WRel S (S.wake1 b x) := ⟨aX S b _, rfl⟩
theorem fx : ∃ n, ∀ {σ : Type} {F : Fam σ} {Δ : ∀ s, Dom (F.R s) (F.D s)} {main : Bool} {s : σ} (K : Nat) (A : Lay) (S : St) (Fr L : Frag), (∀ cs, (Δ s).New (.cells cs 93)) → Rep K A S Fr L → Good S →
   CallsL Δ Tryz.prog main 80 [ptr K].toArray n s L (fun s' v L' => s = s' ∧ v = .tuple #[] ∧ Good (S.wakes (S.ps.map (·.1))) ∧ WRel S (S.wakes (S.ps.map (·.1))) ∧ ∃ A', LRel A A' ∧ Rep K A' (S.wakes (S.ps.map (·.1))) Fr L') := by
 obtain ⟨n1, g1⟩ := jU;apply Exists.intro;intro σ F Δ main s K A S Fr L hN hR hG;obtain ⟨base, cap, hv, hat0⟩ := bA hR.pa;simp only [List.length_map] at hv;have h5 : At L K 5 (.slice base S.ps.length cap) := by rw [← hv]; exact hR.kat rfl
 co_applyP aB 34 Tryz.func80 Tryz.ntmps80;co_applyP ae;co_applyP aa;co_applyP oy rfl aj;co_applyP oy rfl aL;co_applyP oy rfl (av (hf := bO));co_applyP oy rfl (aC (ht := cZ));co_applyP oy rfl (bz (hu := Tryz.underlying91));co_applyP oy rfl aj;co_applyP ah;change wpE ..;co_applyP aI;co_applyP bG (fun k s' ε' L' => s' = s ∧ ∃ l1 l2 A', S.ps = l1 ++ l2 ∧ LRel A A' ∧ Rep K A' (S.wakes (l1.map (·.1))) Fr L' ∧ Good (S.wakes (l1.map (·.1))) ∧ WRel S (S.wakes (l1.map (·.1))) ∧ k + l1.length = 8 ∧ kn ε' [(9, .int .i64 l1.length), (8, .int .i64 S.ps.length), (7, .slice base S.ps.length cap), (0, ptr K)]) 8
 · exact ⟨rfl, [], S.ps, A, rfl, LRel.refl A, hR, hG, WRel.refl S, rfl, rfl⟩
 rintro k s' ε' L' ⟨rfl, l1, l2, A', hl, hr, hR', hG', hW', hk, he⟩;co_applyP a6 he;have hlen := congrArg List.length hl;simp only [List.length_append] at hlen;have h8 := hR.p8;co_applyP ae;co_applyP aa;co_applyP oy rfl bX;co_applyP ah;change wpE ..;co_applyP ae;co_applyP bl rfl;intro hc
 · cases l2 with
   | nil => simp at hc hlen; omega
   | cons q l2 =>
     have hat : ∃ b, base = some ⟨b, 0, none⟩ ∧ At L' b l1.length (ptr q.1) := by
       obtain ⟨b, hb1, hb2, _⟩ := hat0 l1.length (ptr q.1) (by rw [hl]; simp);have hpa := hR'.pa;obtain ⟨base', cap', _, hat'⟩ := bA hpa;have e1 : (S.wakes (l1.map (·.1))).ps.map (fun q => ptr q.1) = S.ps.map fun q => ptr q.1 := by
         have := congrArg (List.map ptr) hW'.f;rw [List.map_map, List.map_map] at this;exact this
       obtain ⟨b', hb1', _, hv'⟩ := hat' l1.length (ptr q.1) (by rw [e1, hl]; simp);rw [hr.a 0 (.inl rfl), hb1] at hb1';obtain rfl : b = b' := by simpa using hb1'
       exact ⟨b, hb2, hv'⟩
     obtain ⟨ab, rfl, hav⟩ := hat;simp at hlen;have hmem : q.1 ∈ (S.wakes (l1.map (·.1))).ps.map (·.1) := by rw [hW'.f, hl]; simp
     obtain ⟨⟨b, x⟩, hbx, hbq⟩ := List.mem_map.1 hmem;have hbq' : b = q.1 := hbq;subst hbq';have hx2 : At L' q.1 2 (.int .i64 (x.st : Int)) := hR'.pat hbx (i := 2) rfl;have hx91 : At L' q.1 91 (.int .i64 x.til) := hR'.pat hbx (i := 91) rfl;have hk16 : At L' K 16 (.int .i64 ((S.wakes (l1.map (·.1))).now : Int)) := hR'.kat rfl;have hget := bt hG'.pn hbx;co_applyP aA;change wpE ..;co_applyP ae;co_applyP aI;co_applyP ae;co_applyP aa;co_applyP oy rfl (bv Tryz.underlying91 bI);co_applyP oy rfl (aC (ht := c9));co_applyP oy rfl ak;co_applyP ah;change wpE ..;co_applyP ae;co_applyP ft ([(29, .bool (decide (x.st = 3 ∧ x.til = (S.wakes (l1.map (·.1))).now))), (3, ptr q.1), (9, .int .i64 l1.length), (8, .int .i64 S.ps.length), (7, .slice (some ⟨ab, 0, none⟩) S.ps.length cap), (0, ptr K)]);co_applyP bj aZ;co_applyP tr (i := 0) rfl aj pI;co_applyP tr (i := 1) rfl aL pI;co_applyP tr (i := 2) rfl (av (hf := aD)) pI;co_applyP tr (i := 3) rfl (av (hf := cA)) pI;co_applyP tr (i := 4) rfl (aC (ht := aV)) pI;co_applyP tr (i := 5) rfl ay pI;co_applyP tr (i := 6) rfl aj pI
     · by_cases h3 : x.st = 3
       · have e3 : ((x.st : Int) == 3) = true := by simp [h3]
         rw [e3];co_applyP tr (i := 7) rfl (aj) pI;co_applyP tr (i := 8) rfl (aL) pI;co_applyP tr (i := 9) rfl ((av (hf := pO))) pI;co_applyP tr (i := 10) rfl ((aC (ht := aV))) pI;co_applyP tr (i := 11) rfl (aj) pI;co_applyP tr (i := 12) rfl (aL) pI;co_applyP tr (i := 13) rfl ((av (hf := bZ))) pI;co_applyP tr (i := 14) rfl ((aC (ht := aV))) pI;co_applyP tr (i := 15) rfl (ay) pI;co_applyP tr (i := 16) rfl aN pI;co_applyP td (by kernel_rfl);change _ = _ ∧ _ = _ ∧ kn _ _;refine ⟨rfl, rfl, ?_⟩;have e4 : (x.til == ((S.wakes (l1.map (·.1))).now : Int)) = decide (x.st = 3 ∧ x.til = (S.wakes (l1.map (·.1))).now) := by rw [Bool.eq_iff_iff]; simp [h3]
         rw [← e4]; rfl
       · have e3 : ((x.st : Int) == 3) = false := by simp; omega
         rw [e3];co_applyP tu (i := 7) rfl pI;co_applyP tu (i := 8) rfl pI;co_applyP tu (i := 9) rfl pI;co_applyP tu (i := 10) rfl pI;co_applyP tu (i := 11) rfl pI;co_applyP tu (i := 12) rfl pI;co_applyP tu (i := 13) rfl pI;co_applyP tu (i := 14) rfl pI;co_applyP tu (i := 15) rfl pI;co_applyP tr (i := 16) rfl aN pI;co_applyP td (by kernel_rfl);change _ = _ ∧ _ = _ ∧ kn _ _;refine ⟨rfl, rfl, ?_⟩;have e4 : false = decide (x.st = 3 ∧ x.til = (S.wakes (l1.map (·.1))).now) := by simp [h3]
         rw [← e4]; rfl
     have hnext : S.wakes ((l1 ++ [q]).map (·.1)) = if x.st = 3 ∧ x.til = (S.wakes (l1.map (·.1))).now then (S.wakes (l1.map (·.1))).wake1 q.1 x else S.wakes (l1.map (·.1)) := by
       rw [List.map_append, lZ];show St.wakes (match (S.wakes (l1.map (·.1))).get q.1 with | some x => _ | none => _) [] = _;rw [hget]; rfl
     have elen : IntKind.i64.wrap ((l1.length : Int) + 1) = ((l1 ++ [q]).length : Int) := by simp [IntKind.wrap_i64]; omega
     co_applyP bl rfl;intro hw;co_applyP aa;co_applyP oy rfl aj;co_applyP oy rfl aj;co_applyP oc rfl rfl rfl (g1 K A' _ Fr L' q.1 x hN hR' hbx (hG'.lv _ hbx) (hG'.r8 (hG'.lv _ hbx)) (fun e _ => cI _ (hG'.lv _ hbx)));rintro _ _ _ ⟨rfl, rfl, A2, hr2, hR2⟩;co_applyP ah;change wpE ..;co_applyP aa;co_applyP oy rfl a7;co_applyP oy rfl aj;co_applyP ah;change ∃ k', k' < _ ∧ _;have hw' : x.st = 3 ∧ x.til = (S.wakes (l1.map (·.1))).now := by simpa using hw
     rw [if_pos hw'] at hnext;refine ⟨k - 1, by omega, rfl, l1 ++ [q], l2, A2, by simp [hl], hr.trans hr2, ?_, ?_, ?_, by simp; omega, ?_⟩
     · rw [hnext]; exact hR2
     · rw [hnext]; exact hG'.wake1 hbx (by omega)
     · rw [hnext]; exact ⟨(le _ _ _).f.trans hW'.f, (le _ _ _).now.trans hW'.now⟩
     · rw [← elen]; rfl
     intro hw;co_applyP aA;change wpE ..;co_applyP aa;co_applyP oy rfl a7;co_applyP oy rfl aj;co_applyP ah;change ∃ k', k' < _ ∧ _;have hw' : ¬ (x.st = 3 ∧ x.til = (S.wakes (l1.map (·.1))).now) := by simpa using hw
     rw [if_neg hw'] at hnext;refine ⟨k - 1, by omega, rfl, l1 ++ [q], l2, A', by simp [hl], hr, ?_, ?_, ?_, by simp; omega, ?_⟩
     · rw [hnext]; exact hR'
     · rw [hnext]; exact hG'
     · rw [hnext]; exact hW'
     · rw [← elen]; rfl
 intro hc;co_applyP bL;change ∃ v, resE .. = some v ∧ _;cases l2 with
 | nil =>
   have e : l1 = S.ps := by rw [hl]; simp
   subst e;exact ⟨_, rfl, rfl, rfl, hG', hW', A', hr, hR'⟩
 | cons q l2 => simp at hc hlen; omega
theorem pX {α : Type} (A : List α) (n : Nat) (f : Nat → α) (C : List α) {i : Nat} (hi : i < n) (v : α) : (A ++ ((List.range n).map f ++ C)).set (A.length + i) v = A ++ ((List.range n).map (put f i v) ++ C) := by
 rw [List.set_append_right _ _ (Nat.le_add_right _ _), Nat.add_sub_cancel_left, List.set_append_left _ _ (by simpa using hi)];congr 2;apply List.ext_getElem
 · simp
 · intro j h1 h2;simp only [List.getElem_set, List.getElem_map, List.getElem_range, put]
   split
   · rename_i e; simp [e]
   · rename_i e; simp [Ne.symm e]
theorem pY {α : Type} (A : List α) (n : Nat) (f : Nat → α) (C : List α) {i : Nat} (hi : i < n) : (A ++ ((List.range n).map f ++ C))[A.length + i]? = some (f i) := by
 rw [List.getElem?_append_right (Nat.le_add_right _ _), Nat.add_sub_cancel_left, List.getElem?_append_left (by simpa using hi)];simp [hi]
section
variable (x : PS)
def pHead : List Value := [.int .i64 x.id, .int .i64 x.par, .int .i64 x.st, .int .i64 x.stat, .int .i64 x.at_, .int .i64 x.lv, .int .i64 x.used]
def pFiles : List Value := (List.range 6).flatMap (fun i => [.int .i64 (x.f i).1, .int .i64 (x.f i).2]) ++ [.int .i64 x.til]
theorem jW : pcells x = (pHead x ++ ((List.range 8).map (fun i => Value.int .u16 (x.r i)) ++ ((List.range 64).map (fun i => Value.int .u8 (x.m i)) ++ pFiles x))).toArray := rfl
theorem jX : pcells x = ((pHead x ++ (List.range 8).map (fun i => Value.int .u16 (x.r i))) ++ ((List.range 64).map (fun i => Value.int .u8 (x.m i)) ++ pFiles x)).toArray := by rw [jW, List.append_assoc]
theorem bh {i : Nat} (hi : i < 8) : (pcells x)[7 + i]? = some (.int .u16 (x.r i)) := by
 rw [jW, List.getElem?_toArray];exact pY (pHead x) 8 _ _ hi
theorem tH {i : Nat} (hi : i < 64) : (pcells x)[15 + i]? = some (.int .u8 (x.m i)) := by
 rw [jX, List.getElem?_toArray];exact pY (pHead x ++ (List.range 8).map (fun i => Value.int .u16 (x.r i))) 64 _ _ hi
theorem dF {i : Nat} (hi : i < 8) (v : Int) : (pcells x).setIfInBounds (7 + i) (.int .u16 v) = pcells { x with r := put x.r i v } := by
 rw [jW, List.setIfInBounds_toArray];have h := pX (pHead x) 8 (fun i => Value.int .u16 (x.r i)) ((List.range 64).map (fun i => Value.int .u8 (x.m i)) ++ pFiles x) hi (.int .u16 v);have e : put (fun i => Value.int .u16 (x.r i)) i (.int .u16 v) = fun j => Value.int .u16 (put x.r i v j) := by funext j; unfold put; split <;> rfl
 rw [e] at h;exact congrArg List.toArray h
theorem tI {i : Nat} (hi : i < 64) (v : Int) : (pcells x).setIfInBounds (15 + i) (.int .u8 v) = pcells { x with m := put x.m i v } := by
 rw [jX, List.setIfInBounds_toArray];have h := pX (pHead x ++ (List.range 8).map (fun i => Value.int .u16 (x.r i))) 64 (fun i => Value.int .u8 (x.m i)) (pFiles x) hi (.int .u8 v);have e : put (fun i => Value.int .u8 (x.m i)) i (.int .u8 v) = fun j => Value.int .u8 (put x.m i v j) := by funext j; unfold put; split <;> rfl
 rw [e] at h;rw [jX];exact congrArg List.toArray h
end
structure WF (x : PS) : Prop where
 r : ∀ i, i < 8 → 0 ≤ x.r i ∧ x.r i < 65536
 m : ∀ i, i < 64 → 0 ≤ x.m i ∧ x.m i < 256
theorem cL (n : Int) : IntKind.u16.wrap n = n % 65536 := by simp [IntKind.wrap, IntKind.bits, IntKind.signed]
theorem l0 (n : Int) : IntKind.u8.wrap n = n % 256 := by simp [IntKind.wrap, IntKind.bits, IntKind.signed]
def PS.do (x : PS) (op a b c : Int) : Except Nat PS :=
 let ra := (a % 8).toNat
 let rb := (b % 8).toNat
 let k := (b + 256 * c) % 65536
 let y := { x with at_ := x.at_ + 1 }
 if op = 1 then .ok { y with r := put x.r ra k }
 else if op = 2 then .ok { y with r := put x.r ra (x.r rb) }
 else if op = 3 then .ok { y with r := put x.r ra ((x.r ra + x.r rb) % 65536) }
 else if op = 4 then .ok { y with r := put x.r ra ((x.r ra - x.r rb) % 65536) }
 else if op = 5 then .ok { y with at_ := if x.r ra = 0 then k.toNat else x.at_ + 1 }
 else if op = 6 then .ok { y with at_ := k.toNat }
 else if op = 7 then if x.r rb + c < 64 then .ok { y with r := put x.r ra (x.m (x.r rb + c).toNat) } else .error 10
 else if op = 8 then if x.r rb + c < 64 then .ok { y with m := put x.m (x.r rb + c).toNat (x.r ra % 256) } else .error 10
 else .error 1
abbrev insnv (op a b c : Int) : Value := .agg #[.int .u8 op, .int .u8 a, .int .u8 b, .int .u8 c]
theorem k_s : ∃ n, ∀ {σ : Type} {F : Fam σ} {Δ : ∀ s, Dom (F.R s) (F.D s)} {main : Bool} {s : σ} (L : Frag) (op a b c : Int), (∀ cs, (Δ s).New (.cells cs 158)) → 0 ≤ b ∧ b < 256 → 0 ≤ c ∧ c < 256 →
   CallsL Δ Tryz.prog main 113 [insnv op a b c].toArray n s L (fun s' v L' => s = s' ∧ v = .int .u16 ((b + 256 * c) % 65536) ∧ Fun L' ∧ ∀ t ∈ L, t ∈ L') := by
 apply Exists.intro;intro σ F Δ main s L op a b c hN hb hc;co_applyP aB 11 Tryz.func113 Tryz.ntmps113;co_applyP gV;intro hF;co_applyP ae;co_applyP aa;co_applyP oe rfl (bV (hN _));rintro _ _ ⟨nb, hnb, rfl, rfl⟩;co_applyP oy rfl ak;co_applyP ah;change wpE ..;co_applyP ae;co_applyP aa;co_applyP oy rfl (av (hf := m9));co_applyP oy rfl (aC (ht := fu));co_applyP oy rfl (cg (hs := Tryz.underlying5) (ht := Tryz.underlying32));co_applyP oy rfl (av (hf := jS));co_applyP oy rfl (aC (ht := fu));co_applyP oy rfl (cg (hs := Tryz.underlying5) (ht := Tryz.underlying32));co_applyP oy rfl zm;co_applyP oy rfl a7;co_applyP oy rfl ak;co_applyP ah;change wpE ..;co_applyP aJ;change ∃ v, resE .. = some v ∧ _;have hA := dk (o := .cells #[.int .u8 op, .int .u8 a, .int .u8 b, .int .u8 c] 158) hF hnb;refine ⟨_, rfl, rfl, ?_, hA.fn, hA.sub⟩;simp only [cL];congr 1; omega
theorem vK : ∃ n, ∀ {σ : Type} {F : Fam σ} {Δ : ∀ s, Dom (F.R s) (F.D s)} {main : Bool} {s : σ} (L : Frag) (p : Value) (b c : Int) (e10 : Value), 0 ≤ b ∧ b < 65536 → 0 ≤ c ∧ c < 256 → At L 10 0 e10 →
   CallsL Δ Tryz.prog main 114 [p, .int .u16 b, .int .u8 c].toArray n s L (fun s' v L' => s = s' ∧ L = L' ∧ v = .tuple #[.int .i64 (if b + c < 64 then b + c else 0), if b + c < 64 then .nilIface else e10]) := by
 apply Exists.intro;intro σ F Δ main s L p b c e10 hb hc h10;have w1 : IntKind.i64.wrap b = b := by simp [IntKind.wrap_i64]; omega
 have w2 : IntKind.i64.wrap c = c := by simp [IntKind.wrap_i64]; omega
 have w3 : IntKind.i64.wrap (b + c) = b + c := by simp [IntKind.wrap_i64]; omega
 co_applyP aB 18 Tryz.func114 Tryz.ntmps114;co_applyP ae;co_applyP aa;co_applyP oy rfl ak;co_applyP oy rfl ak;co_applyP ah;change wpE ..;co_applyP ae;co_applyP aa;co_applyP oy rfl aj;co_applyP oy rfl (cg (hs := Tryz.underlying32) (ht := Tryz.underlying3));co_applyP oy rfl aj;co_applyP oy rfl (cg (hs := Tryz.underlying5) (ht := Tryz.underlying3));co_applyP oy rfl a7;co_applyP oy rfl ak;co_applyP ah;change wpE ..;co_applyP ae;co_applyP ae;co_applyP aa;co_applyP oy rfl aj;co_applyP oy rfl d9;co_applyP ah;change wpE ..;simp only [w1, w2, w3];co_applyP bl rfl;intro hc;co_applyP ae;co_applyP bj aZ;co_applyP tr (i := 0) rfl (aC (ht := b4)) pI;co_applyP tr (i := 1) rfl ak pI;co_applyP tr (i := 2) rfl ak pI;co_applyP td (by kernel_rfl);change wpE ..;co_applyP aJ;change ∃ v, resE .. = some v ∧ _
 · refine ⟨_, rfl, rfl, rfl, ?_⟩;have : ¬ b + c < 64 := by simp at hc; omega
   rw [if_neg this, if_neg this]
 intro hc;co_applyP aA;change wpE ..;co_applyP ae;co_applyP aa;co_applyP oy rfl aj;co_applyP oy rfl ak;co_applyP oy rfl ak;co_applyP ah;change wpE ..;co_applyP aJ;change ∃ v, resE .. = some v ∧ _;refine ⟨_, rfl, rfl, rfl, ?_⟩;have : b + c < 64 := by simp at hc; omega
 rw [if_pos this, if_pos this]
theorem lf {S : St} {b : Nat} {x : PS} (hn : (S.ps.map (·.1)).Nodup) (h : (b, x) ∈ S.ps) : S.setP b x = S := by
 have : (S.ps.map fun q => if q.1 = b then (b, x) else q) = S.ps := by
   conv => rhs; rw [← List.map_id S.ps]
   apply List.map_congr_left;rintro ⟨c, y⟩ hq;by_cases e : c = b
   · subst e; simp [bp hn h hq]
   · simp [e]
 unfold St.setP; rw [this]
structure Errs (e0 e1 e10 : Value) (L : Frag) : Prop where
 h0 : At L 0 0 e0
 h1 : At L 1 0 e1
 h10 : At L 10 0 e10
def errv (e0 e1 e10 : Value) : Nat → Value
 | 0 => e0
 | 1 => e1
 | _ => e10
set_option maxHeartbeats 1000000 in
theorem AL : ∃ n, ∀ {σ : Type} {F : Fam σ} {Δ : ∀ s, Dom (F.R s) (F.D s)} {main : Bool} {s : σ} (K : Nat) (A : Lay) (S : St) (Fr L : Frag) (b : Nat) (x : PS) (op ia ib ic : Int) (e0 e1 e10 : Value), (∀ cs, (Δ s).New (.cells cs 158)) → Rep K A S Fr L → (b, x) ∈ S.ps → WF x → x.at_ < 256 → 0 ≤ ia ∧ ia < 256 → 0 ≤ ib ∧ ib < 256 → 0 ≤ ic ∧ ic < 256 → (∀ i ∈ [0, 1, 10], ∃ fl cs ty fr, (i, fl, Obj.cells cs ty fr) ∈ Fr ∧ cs[0]? = some (errv e0 e1 e10 i)) → (∃ t w, e10 = .iface t w) →
   CallsL Δ Tryz.prog main 96 [ptr b, insnv op ia ib ic].toArray n s L (fun s' v L' => s = s' ∧ match x.do op ia ib ic with
     | .ok x' => v = .nilIface ∧ Rep K A (S.setP b x') Fr L'
     | .error e => v = errv e0 e1 e10 e ∧ Rep K A S Fr L') := by
 obtain ⟨n1, g1⟩ := k_s;obtain ⟨n2, g2⟩ := vK;apply Exists.intro;intro σ F Δ main s K A S Fr L b x op ia ib ic e0 e1 e10 hN hR hb hx hat ha hib hic hg hi10;have gl : ∀ (L : Frag), Rep K A S Fr L → ∀ i ∈ [0, 1, 10], At L i 0 (errv e0 e1 e10 i) := fun L h i hi => by
   obtain ⟨fl, cs, ty, fr, h1, h2⟩ := hg i hi;exact ⟨fl, cs, ty, fr, h.fr _ h1, h2⟩
 obtain ⟨ra, hra⟩ : ∃ ra, ra = (ia % 8).toNat := ⟨_, rfl⟩;obtain ⟨rb, hrb⟩ : ∃ rb, rb = (ib % 8).toNat := ⟨_, rfl⟩;have hra8 : ra < 8 := by omega
 have hrb8 : rb < 8 := by omega
 have ea : (IntKind.i64.wrap ia).tmod 8 = (ra : Int) := by
   have : IntKind.i64.wrap ia = ia := by simp [IntKind.wrap_i64]; omega
   rw [this, Int.tmod_eq_emod_of_nonneg (by omega)]; omega
 have eb : (IntKind.i64.wrap ib).tmod 8 = (rb : Int) := by
   have : IntKind.i64.wrap ib = ib := by simp [IntKind.wrap_i64]; omega
   rw [this, Int.tmod_eq_emod_of_nonneg (by omega)]; omega
 have en : IntKind.i64.wrap ((x.at_ : Int) + 1) = ((x.at_ + 1 : Nat) : Int) := by simp [IntKind.wrap_i64]; omega
 have wra := hx.r ra hra8;have wrb := hx.r rb hrb8;co_applyP aB 130 Tryz.func96 Tryz.ntmps96;co_applyP ae;co_applyP aa;co_applyP bN rfl (bV (hN _));intro nb L1 hA;have hR1 := hR.add hA;have hbm := hA.self;have hb0 : ∀ i v, (#[Value.int .u8 op, .int .u8 ia, .int .u8 ib, .int .u8 ic])[i]? = some v → At L1 nb i v := fun i v h => ⟨true, _, _, _, hbm, h⟩;have hc0 := hb0 0 _ rfl;have hc1 := hb0 1 _ rfl;have hc2 := hb0 2 _ rfl;have hc3 := hb0 3 _ rfl;have hb1 : At L1 b (7 + ((IntKind.i64.wrap ib).tmod 8).toNat) (.int .u16 (x.r rb)) := by
   rw [eb]; exact hR1.pat hb (bh x hrb8)
 have hb4 : At L1 b 4 (.int .i64 (x.at_ : Int)) := hR1.pat hb (i := 4) rfl;co_applyP oy rfl ak;co_applyP ah;change wpE ..;co_applyP ae;co_applyP bj aZ;co_applyP tr (i := 0) rfl aj pI;co_applyP tr (i := 1) rfl (av (hf := jR)) pI;co_applyP tr (i := 2) rfl (aC (ht := fu)) pI;co_applyP tr (i := 3) rfl (cg (hs := Tryz.underlying5) (ht := Tryz.underlying3)) pI;co_applyP tr (i := 4) rfl gT pI;co_applyP tr (i := 5) rfl aL pI;co_applyP tr (i := 6) rfl (av (hf := aD)) pI;co_applyP tr (i := 7) rfl (av (hf := aY)) pI;co_applyP tr (i := 8) rfl (a0 Tryz.underlying47 a9) pI;co_applyP tr (i := 9) rfl ak pI;co_applyP td (by kernel_rfl);change wpE ..;co_applyP ae;co_applyP bj aZ;co_applyP tr (i := 0) rfl aj pI;co_applyP tr (i := 1) rfl (av (hf := m9)) pI;co_applyP tr (i := 2) rfl (aC (ht := fu)) pI;co_applyP tr (i := 3) rfl (cg (hs := Tryz.underlying5) (ht := Tryz.underlying3)) pI;co_applyP tr (i := 4) rfl gT pI;co_applyP tr (i := 5) rfl aL pI;co_applyP tr (i := 6) rfl (av (hf := aD)) pI;co_applyP tr (i := 7) rfl (av (hf := aY)) pI;co_applyP tr (i := 8) rfl (a0 Tryz.underlying47 a9) pI;co_applyP tr (i := 9) rfl (aC (ht := cp)) pI;co_applyP tr (i := 10) rfl ak pI;co_applyP td (by kernel_rfl);change wpE ..;co_applyP ae;co_applyP aa;co_applyP oy rfl aj;co_applyP oy rfl aL;co_applyP oy rfl (av (hf := aD));co_applyP oy rfl (av (hf := cB));co_applyP oy rfl (aC (ht := aV));co_applyP oy rfl a7;co_applyP oy rfl ak;co_applyP ah;change wpE ..;co_applyP a6 (ε' := [(0, ptr b), (3, ptr nb), (5, .pointer (some ⟨b, 7 + ra, none⟩)), (6, .int .u16 (x.r rb)), (7, .int .i64 ((x.at_ + 1 : Nat) : Int))]) (by rw [← en]; unfold kn; simp only [ea, eb, Int.toNat_natCast]; rfl);clear hb1 hb4;have har : At L1 b (7 + ra) (.int .u16 (x.r ra)) := hR1.pat hb (bh x hra8);have ek : IntKind.i64.wrap ((ib + 256 * ic) % 65536) = ((((ib + 256 * ic) % 65536).toNat : Nat) : Int) := by simp [IntKind.wrap_i64]; omega
 have hself : S.setP b x = S := lf hR.pn hb;co_applyP dR (fun s' ε' L' => s = s' ∧ ∃ (y : PS) (nx : Nat), Rep K A (S.setP b y) Fr L' ∧ kn ε' [(0, ptr b), (7, .int .i64 (nx : Int))] ∧ x.do op ia ib ic = .ok { y with at_ := nx });co_applyP ae;co_applyP aa;co_applyP oy rfl (av (hf := gZ));co_applyP oy rfl (aC (ht := fu));co_applyP ah;change wpE ..;co_applyP aI;co_applyP ae;co_applyP aa;co_applyP oy rfl ay;co_applyP oy rfl ak;co_applyP ah;change wpE ..;co_applyP bl rfl;intro c1;co_applyP aa;co_applyP oy rfl aj
 · have h1 : op = 1 := by simpa using c1
   co_applyP oy rfl (a8 (ht := gC) (hs := cV) (hm := hbm) (hi := Nat.le_refl _));co_applyP oc rfl rfl rfl (g1 L1 op ia ib ic hN hib hic);rintro _ _ _ ⟨rfl, rfl, hF2, hs2⟩;have hR2 := hR1.of hF2 hs2;co_applyP oy rfl aL;co_applyP osm rfl (hs := a9) (hm := hR2.p _ hb) (hi := by first | decide | (rw [bg]; omega) | (rw [bC]; omega));intro L2 hU2;rw [dF x hra8] at hU2;have hRr := hR2.setP (x' := { x with r := put x.r ra ((ib + 256 * ic) % 65536) }) hb hU2;co_applyP ah;change _ = _ ∧ ∃ (y : PS) (nx : Nat), _;exact ⟨rfl, { x with r := put x.r ra ((ib + 256 * ic) % 65536) }, x.at_ + 1, hRr, rfl, by unfold PS.do; simp [h1, hra, hrb]⟩
 intro c1;co_applyP ae;co_applyP aa;co_applyP oy rfl ay;co_applyP oy rfl ak;co_applyP ah;change wpE ..;have n1 : ¬ op = 1 := by simpa using c1
 co_applyP bl rfl;intro c2;co_applyP aa;co_applyP oy rfl aj;co_applyP oy rfl aj;co_applyP oy rfl aL
 · have h2 : op = 2 := by simpa using c2
   co_applyP osm rfl (hs := a9) (hm := hR1.p _ hb) (hi := by first | decide | (rw [bg]; omega) | (rw [bC]; omega));intro L2 hU2;rw [dF x hra8] at hU2;have hRr := hR1.setP (x' := { x with r := put x.r ra (x.r rb) }) hb hU2;co_applyP ah;change _ = _ ∧ ∃ (y : PS) (nx : Nat), _;exact ⟨rfl, { x with r := put x.r ra (x.r rb) }, x.at_ + 1, hRr, rfl, by unfold PS.do; simp [h2, hra, hrb]⟩
 intro c2;co_applyP ae;co_applyP aa;co_applyP oy rfl ay;co_applyP oy rfl ak;co_applyP ah;change wpE ..;have n2 : ¬ op = 2 := by simpa using c2
 co_applyP bl rfl;intro c3;co_applyP aa;co_applyP oy rfl aj;co_applyP oy rfl aL;co_applyP oy rfl (aC (ht := cp));co_applyP oy rfl aj;co_applyP oy rfl a7;co_applyP oy rfl aL
 · have h3 : op = 3 := by simpa using c3
   co_applyP osm rfl (hs := a9) (hm := hR1.p _ hb) (hi := by first | decide | (rw [bg]; omega) | (rw [bC]; omega));intro L2 hU2;rw [cL, dF x hra8] at hU2;have hRr := hR1.setP (x' := { x with r := put x.r ra ((x.r ra + x.r rb) % 65536) }) hb hU2;co_applyP ah;change _ = _ ∧ ∃ (y : PS) (nx : Nat), _;exact ⟨rfl, { x with r := put x.r ra ((x.r ra + x.r rb) % 65536) }, x.at_ + 1, hRr, rfl, by unfold PS.do; simp [h3, hra, hrb]⟩
 intro c3;co_applyP ae;co_applyP aa;co_applyP oy rfl ay;co_applyP oy rfl ak;co_applyP ah;change wpE ..;have n3 : ¬ op = 3 := by simpa using c3
 co_applyP bl rfl;intro c4;co_applyP aa;co_applyP oy rfl aj;co_applyP oy rfl aL;co_applyP oy rfl (aC (ht := cp));co_applyP oy rfl aj;co_applyP oy rfl pJ;co_applyP oy rfl aL
 · have h4 : op = 4 := by simpa using c4
   co_applyP osm rfl (hs := a9) (hm := hR1.p _ hb) (hi := by first | decide | (rw [bg]; omega) | (rw [bC]; omega));intro L2 hU2;rw [cL, dF x hra8] at hU2;have hRr := hR1.setP (x' := { x with r := put x.r ra ((x.r ra - x.r rb) % 65536) }) hb hU2;co_applyP ah;change _ = _ ∧ ∃ (y : PS) (nx : Nat), _;exact ⟨rfl, { x with r := put x.r ra ((x.r ra - x.r rb) % 65536) }, x.at_ + 1, hRr, rfl, by unfold PS.do; simp [h4, hra, hrb]⟩
 intro c4;co_applyP ae;co_applyP aa;co_applyP oy rfl ay;co_applyP oy rfl ak;co_applyP ah;change wpE ..;have n4 : ¬ op = 4 := by simpa using c4
 co_applyP bl rfl;intro c5;co_applyP ae;co_applyP aa;co_applyP oy rfl aj;co_applyP oy rfl aL;co_applyP oy rfl (aC (ht := cp));co_applyP oy rfl ay;co_applyP ah;change wpE ..
 · have h5 : op = 5 := by simpa using c5
   co_applyP bl rfl;intro cz;co_applyP aa;co_applyP oy rfl (a8 (ht := gC) (hs := cV) (hm := hbm) (hi := Nat.le_refl _));co_applyP oc rfl rfl rfl (g1 L1 op ia ib ic hN hib hic);rintro _ _ _ ⟨rfl, rfl, hF2, hs2⟩;have hR2 := hR1.of hF2 hs2;co_applyP oy rfl (cg (hs := Tryz.underlying32) (ht := Tryz.underlying3));co_applyP oy rfl ak;co_applyP ah;change _ = _ ∧ ∃ (y : PS) (nx : Nat), _;rw [ek];exact ⟨rfl, x, ((ib + 256 * ic) % 65536).toNat, by rw [hself]; exact hR2, rfl, by unfold PS.do; simp [h5, hra, hrb, show x.r (ia % 8).toNat = 0 from by rw [← hra]; simpa using cz]⟩;intro cz;co_applyP aA;change _ = _ ∧ ∃ (y : PS) (nx : Nat), _;exact ⟨rfl, x, x.at_ + 1, by rw [hself]; exact hR1, rfl, by unfold PS.do; simp [h5, hra, hrb, show ¬ x.r (ia % 8).toNat = 0 from by rw [← hra]; simpa using cz]⟩
 intro c5;co_applyP ae;co_applyP aa;co_applyP oy rfl ay;co_applyP oy rfl ak;co_applyP ah;change wpE ..;have n5 : ¬ op = 5 := by simpa using c5
 co_applyP bl rfl;intro c6;co_applyP aa
 · have h6 : op = 6 := by simpa using c6
   co_applyP oy rfl (a8 (ht := gC) (hs := cV) (hm := hbm) (hi := Nat.le_refl _));co_applyP oc rfl rfl rfl (g1 L1 op ia ib ic hN hib hic);rintro _ _ _ ⟨rfl, rfl, hF2, hs2⟩;have hR2 := hR1.of hF2 hs2;co_applyP oy rfl (cg (hs := Tryz.underlying32) (ht := Tryz.underlying3));co_applyP oy rfl ak;co_applyP ah;change _ = _ ∧ ∃ (y : PS) (nx : Nat), _;rw [ek];exact ⟨rfl, x, ((ib + 256 * ic) % 65536).toNat, by rw [hself]; exact hR2, rfl, by unfold PS.do; simp [h6, hra, hrb]⟩
 intro c6;co_applyP ae;co_applyP aa;co_applyP oy rfl ay;co_applyP oy rfl ak;co_applyP ah;change wpE ..;have n6 : ¬ op = 6 := by simpa using c6
 co_applyP bl rfl;intro c7;co_applyP ae;co_applyP aa;co_applyP oy rfl aj;co_applyP oy rfl aj;co_applyP oy rfl (av (hf := jS));co_applyP oy rfl (aC (ht := fu))
 · have h7 : op = 7 := by simpa using c7
   co_applyP oc rfl rfl rfl (g2 L1 (ptr b) (x.r rb) ic e10 wrb hic (gl L1 hR1 10 (by simp)));rintro _ _ _ ⟨rfl, rfl, rfl⟩;co_applyP oy rfl aj;co_applyP oy rfl bM;co_applyP oy rfl bM;co_applyP oy rfl ak;co_applyP oy rfl ak;co_applyP ah;change wpE ..;co_applyP ae;co_applyP ae;co_applyP aa;co_applyP oy rfl aj;co_applyP oy rfl (dx (v := if x.r rb + ic < 64 then .nilIface else e10) (c := decide (x.r rb + ic < 64)) (hv := by by_cases hm : x.r rb + ic < 64; exact .inl ⟨by rw [if_pos hm], by simp [hm]⟩; obtain ⟨t, w, e⟩ := hi10; exact .inr ⟨t, w, by rw [if_neg hm, e], by simp [hm]⟩) (hu := Tryz.underlying168));co_applyP ah;change wpE ..;co_applyP bl rfl;intro cm;co_applyP ae;co_applyP aa;co_applyP oy rfl aj;co_applyP oy rfl ak;co_applyP ah;change wpE ..;co_applyP aJ;change ∃ v, resE .. = some v ∧ _;have hm : ¬ x.r rb + ic < 64 := by simpa using cm
   refine ⟨_, rfl, rfl, ?_⟩;have hdo : x.do op ia ib ic = .error 10 := by unfold PS.do; simp [h7, hra, hrb, show ¬ x.r (ib % 8).toNat + ic < 64 from by rw [← hrb]; exact hm]
   rw [hdo];refine ⟨?_, hR1⟩;show (if x.r rb + ic < 64 then Value.nilIface else e10) = e10;rw [if_neg hm];intro cm;have hm : x.r rb + ic < 64 := by simpa using cm
   have hm' : x.r (ib % 8).toNat + ic < 64 := by rw [← hrb]; exact hm
   simp only [if_pos hm];have hmm : At L1 b (15 + (x.r rb + ic).toNat) (.int .u8 (x.m (x.r rb + ic).toNat)) := hR1.pat hb (tH x (by omega));have hmw := hx.m (x.r rb + ic).toNat (by omega);have e16 : IntKind.u16.wrap (x.m (x.r rb + ic).toNat) = x.m (x.r rb + ic).toNat := by rw [cL]; omega
   co_applyP aA;change wpE ..;co_applyP aa;co_applyP oy rfl aj;co_applyP oy rfl aj;co_applyP oy rfl aj;co_applyP oy rfl aL;co_applyP oy rfl (av (hf := fO));co_applyP oy rfl (a0 Tryz.underlying94 ee);co_applyP oy rfl (aC (ht := fu));co_applyP oy rfl (cg (hs := Tryz.underlying5) (ht := Tryz.underlying32));co_applyP oy rfl aL;rw [e16];co_applyP osm rfl (hs := a9) (hm := hR1.p _ hb) (hi := by first | decide | (rw [bg]; omega) | (rw [bC]; omega));intro L2 hU2;rw [dF x hra8] at hU2;have hRr := hR1.setP (x' := { x with r := put x.r ra (x.m (x.r rb + ic).toNat) }) hb hU2;co_applyP ah;change _ = _ ∧ ∃ (y : PS) (nx : Nat), _;exact ⟨rfl, { x with r := put x.r ra (x.m (x.r rb + ic).toNat) }, x.at_ + 1, hRr, rfl, by unfold PS.do; simp [h7, hra, hrb, hm']⟩
 intro c7;co_applyP ae;co_applyP aa;co_applyP oy rfl ay;co_applyP oy rfl ak;co_applyP ah;change wpE ..;have n7 : ¬ op = 7 := by simpa using c7
 co_applyP bl rfl;intro c8;co_applyP ae;co_applyP aa;co_applyP oy rfl aj;co_applyP oy rfl aj;co_applyP oy rfl (av (hf := jS));co_applyP oy rfl (aC (ht := fu))
 · have h8 : op = 8 := by simpa using c8
   co_applyP oc rfl rfl rfl (g2 L1 (ptr b) (x.r rb) ic e10 wrb hic (gl L1 hR1 10 (by simp)));rintro _ _ _ ⟨rfl, rfl, rfl⟩;co_applyP oy rfl aj;co_applyP oy rfl bM;co_applyP oy rfl bM;co_applyP oy rfl ak;co_applyP oy rfl ak;co_applyP ah;change wpE ..;co_applyP ae;co_applyP ae;co_applyP aa;co_applyP oy rfl aj;co_applyP oy rfl (dx (v := if x.r rb + ic < 64 then .nilIface else e10) (c := decide (x.r rb + ic < 64)) (hv := by by_cases hm : x.r rb + ic < 64; exact .inl ⟨by rw [if_pos hm], by simp [hm]⟩; obtain ⟨t, w, e⟩ := hi10; exact .inr ⟨t, w, by rw [if_neg hm, e], by simp [hm]⟩) (hu := Tryz.underlying168));co_applyP ah;change wpE ..;co_applyP bl rfl;intro cm;co_applyP ae;co_applyP aa;co_applyP oy rfl aj;co_applyP oy rfl ak;co_applyP ah;change wpE ..;co_applyP aJ;change ∃ v, resE .. = some v ∧ _;have hm : ¬ x.r rb + ic < 64 := by simpa using cm
   refine ⟨_, rfl, rfl, ?_⟩;have hdo : x.do op ia ib ic = .error 10 := by unfold PS.do; simp [h8, hra, hrb, show ¬ x.r (ib % 8).toNat + ic < 64 from by rw [← hrb]; exact hm]
   rw [hdo];refine ⟨?_, hR1⟩;show (if x.r rb + ic < 64 then Value.nilIface else e10) = e10;rw [if_neg hm];intro cm;have hm : x.r rb + ic < 64 := by simpa using cm
   have hm' : x.r (ib % 8).toNat + ic < 64 := by rw [← hrb]; exact hm
   simp only [if_pos hm];co_applyP aA;change wpE ..;co_applyP bm [] 9 (nf := 0) aZ;co_applyP tr (i := 0) rfl aj (ai (by simp));co_applyP tr (i := 1) rfl aj (ai (by simp));co_applyP tr (i := 2) rfl aj (ai (by simp));co_applyP tr (i := 3) rfl aL (ai (by simp));co_applyP t0 (i := 4) rfl (aC (ht := cp)) (ai (by simp));co_applyP tr (i := 5) rfl (cg (hs := Tryz.underlying32) (ht := Tryz.underlying5)) (ai (by simp));co_applyP tr (i := 6) rfl aL (ai (by simp));co_applyP tr (i := 7) rfl (av (hf := fO)) (ai (by simp));co_applyP tr (i := 8) rfl (a0 Tryz.underlying94 ee) (ai (by simp));co_applyP ba;intro hnd;co_applyP te (i := 9) rfl (fb (hnd := hnd) (hm := hR1.p _ hb) (hi := by rw [bg]; omega) (hs := ee));rintro _ _ ⟨rfl, hU2⟩;refine ⟨aE (by simp), ?_⟩;rw [l0, tI x (by omega)] at hU2;have hRr := hR1.setP (x' := { x with m := put x.m (x.r rb + ic).toNat (x.r ra % 256) }) hb hU2;co_applyP td (by kernel_rfl);change _ = _ ∧ ∃ (y : PS) (nx : Nat), _;exact ⟨rfl, { x with m := put x.m (x.r rb + ic).toNat (x.r ra % 256) }, x.at_ + 1, hRr, rfl, by unfold PS.do; simp [h8, hra, hrb, hm']⟩
 intro c8;have n8 : ¬ op = 8 := by simpa using c8
 have h1g := gl L1 hR1 1 (by simp);co_applyP ae;co_applyP aa;co_applyP oy rfl (aC (ht := b4));co_applyP oy rfl ak;co_applyP ah;change wpE ..;co_applyP aJ;change ∃ v, resE .. = some v ∧ _;refine ⟨_, rfl, rfl, ?_⟩;have hdo : x.do op ia ib ic = .error 1 := by unfold PS.do; simp [n1, n2, n3, n4, n5, n6, n7, n8]
 rw [hdo];exact ⟨rfl, hR1⟩;rintro s' ε' L' ⟨rfl, y, nx, hRy, hk, hdo⟩;co_applyP a6 hk;co_applyP ae;co_applyP aa;co_applyP oy rfl aj;co_applyP oy rfl aj;co_applyP oy rfl aL;co_applyP oy rfl (av (hf := aD));co_applyP oy rfl (av (hf := cB));co_applyP osm rfl (hs := dm) (hm := hRy.p _ (au hb)) (hi := by first | decide | (rw [bg]; omega) | (rw [bC]; omega));intro L3 hU3;have hR3 := hRy.setP (x' := { y with at_ := nx }) (au hb) hU3;rw [dE] at hR3;co_applyP ah;change wpE ..;co_applyP ae;co_applyP aa;co_applyP oy rfl ak;co_applyP ah;change wpE ..;co_applyP aJ;change ∃ v, resE .. = some v ∧ _;refine ⟨_, rfl, rfl, ?_⟩;rw [hdo];exact ⟨rfl, hR3⟩
theorem yf (k : Int) (e : Nat × Nat) : evR Tryz.prog (Instr.build 210 [(0, .int .i64 k), (1, .iface 255 (ptq e))].toArray) [] = some (.agg #[.int .i64 k, .iface 255 (ptq e)], []) := by kernel_rfl
abbrev erv (eb : Nat → Nat × Nat) (i : Nat) : Value := .iface 255 (ptq (eb i))
structure NewE {R : World → World → Prop} {D : World → World → Array Event → Prop} (Δ : Dom R D) : Prop where
 a : ∀ cs, Δ.New (.cells cs 180)
 b : ∀ cs, Δ.New (.cells cs 182)
 c : ∀ cs, Δ.New (.cells cs 196)
 d : ∀ cs, Δ.New (.cells cs 210)
theorem oT : ∃ n, ∀ {σ : Type} {F : Fam σ} {Δ : ∀ s, Dom (F.R s) (F.D s)} {main : Bool} {s : σ} (L : Frag) (eb : Nat → Nat × Nat) (b : Nat) (e : Nat × Nat), NewE (Δ s) → Ers eb L →
   CallsL Δ Tryz.prog main 93 [ptr b, .iface 255 (ptq e)].toArray n s L (fun s' v L' => s = s' ∧ v = .bool false ∧ Fun L' ∧ ∀ t ∈ L, t ∈ L') := by
 obtain ⟨n1, g1⟩ := AH;apply Exists.intro;intro σ F Δ main s L eb b e hN hE;have hi182 : ∀ ms : Array (String × TypeId), TypeDesc.pointer 180 ≠ .interface ms := fun _ => by simp
 co_applyP aB 17 Tryz.func93 Tryz.ntmps93;co_applyP ae;co_applyP aa;co_applyP oy rfl ak;co_applyP ah;change wpE ..;co_applyP ae;co_applyP aa;co_applyP bN rfl (dQ (z := .pointer none) (hN.a _));intro t L1 hA;co_applyP ah;change wpE ..;co_applyP ae (n₂ := 0);co_applyP ae;co_applyP aa;co_applyP oy rfl aj;co_applyP oy rfl (gU hi182 (ht := Tryz.underlying182));co_applyP oc rfl rfl rfl (g1 L1 e t hN.c hN.b (hE.mono hA.sub).t);rintro _ _ _ ⟨rfl, rfl, hF, hs⟩;co_applyP oy rfl bY;co_applyP ah;change wpE ..;co_applyP aW rfl;co_applyP ae;co_applyP aa;co_applyP oy rfl ak;co_applyP ah;change wpE ..;co_applyP aJ;change ∃ v, resE .. = some v ∧ _;exact ⟨_, rfl, rfl, rfl, hF, fun x hx => hs _ (hA.sub _ hx)⟩
theorem jY : ∃ n, ∀ {σ : Type} {F : Fam σ} {Δ : ∀ s, Dom (F.R s) (F.D s)} {main : Bool} {s : σ} (K : Nat) (A : Lay) (S : St) (Fr L : Frag) (eb : Nat → Nat × Nat) (b : Nat) (x : PS) (r i : Nat), NewE (Δ s) → Rep K A S Fr L → Ers eb Fr → (b, x) ∈ S.ps → At L r 1 (erv eb i) → i < 11 → i ≠ 2 →
   CallsL Δ Tryz.prog main 93 [ptr b, .iface 180 (ptr r)].toArray n s L (fun s' v L' => s = s' ∧ v = .bool true ∧ Rep K A (S.setP b { x with r := put x.r 0 (ansOf i) }) Fr L') := by
 obtain ⟨n1, g1⟩ := AI;obtain ⟨n2, g2⟩ := tC;apply Exists.intro;intro σ F Δ main s K A S Fr L eb b x r i hN hR hE hb hr hi hi2;have hi182 : ∀ ms : Array (String × TypeId), TypeDesc.pointer 180 ≠ .interface ms := fun _ => by simp
 co_applyP aB 17 Tryz.func93 Tryz.ntmps93;co_applyP ae;co_applyP aa;co_applyP oy rfl ak;co_applyP ah;change wpE ..;co_applyP ae;co_applyP aa;co_applyP bN rfl (dQ (z := .pointer none) (hN.a _));intro t L1 hA;co_applyP ah;change wpE ..;co_applyP ae;co_applyP ae;co_applyP aa;co_applyP oy rfl aj;co_applyP oy rfl (gU hi182 (ht := Tryz.underlying182));co_applyP oc rfl rfl rfl (g1 L1 r t (.pointer none) hN.c hN.b ((hE.mono hR.fr).mono hA.sub).t hN.a hA.self);rintro _ _ _ ⟨rfl, rfl, L2, hF, hs, hU⟩;co_applyP oy rfl bY;co_applyP ah;change wpE ..;rename_i L3;have hs3 : ∀ x ∈ L, x ∈ L3 := fun x hx => hU.ne _ (hs _ (hA.sub _ hx)) (hA.new _ hx);have hR3 := hR.of hU.fn hs3;have hE3 := hE.mono hR3.fr;have hr3 := js hr hs3;have ht3 : At L3 t 0 (ptr r) := ⟨true, _, _, _, hU.self, rfl⟩;co_applyP aq rfl;co_applyP aA;change wpE ..;co_applyP ae;co_applyP bm [] 2 aZ;co_applyP tr (i := 0) rfl aj (ai (by simp));co_applyP t0 (i := 1) rfl (aC (ht := x7)) (ai (by simp));co_applyP tr (i := 3) rfl aL (ai (by simp));co_applyP tr (i := 4) rfl (av (hf := aD)) (ai (by simp));co_applyP tr (i := 5) rfl (av (hf := aY)) (ai (by simp));co_applyP tc (i := 2) rfl rfl rfl (g2 L3 eb r i hE3 hi hi2 hr3);rintro _ _ _ ⟨rfl, rfl, rfl⟩;refine ⟨aE (by simp), ?_⟩;co_applyP to (i := 6) rfl ((a0 Tryz.underlying47 a9)) (aE (by simp));co_applyP ba;intro hnd;co_applyP te (i := 7) rfl (fb (hnd := hnd) (hm := hR3.p _ hb) (hi := by rw [bg]; omega) (hs := a9));rintro _ _ ⟨rfl, hU4⟩;refine ⟨aE (by simp), ?_⟩;co_applyP td (by kernel_rfl);change wpE ..;co_applyP ae;co_applyP aa;co_applyP oy rfl ak;co_applyP ah;change wpE ..;co_applyP aJ;change ∃ v, resE .. = some v ∧ _;refine ⟨_, rfl, rfl, rfl, ?_⟩;have h7 : (pcells x).setIfInBounds (7 + 0) (.int .u16 (ansOf i)) = pcells { x with r := put x.r 0 (ansOf i) } := dF x (by omega) _;exact hR3.setP hb (x' := { x with r := put x.r 0 (ansOf i) }) (h7 ▸ hU4)
theorem tJ : ∃ n, ∀ {σ : Type} {F : Fam σ} {Δ : ∀ s, Dom (F.R s) (F.D s)} {main : Bool} {s : σ} (L : Frag) (k : Int),
   CallsL Δ Tryz.prog main 111 [.int .i64 k, .nilIface].toArray n s L (fun s' v L' => s = s' ∧ L = L' ∧ v = .nilIface) := by
 apply Exists.intro;intro σ F Δ main s L k;co_applyP aB 12 Tryz.func111 Tryz.ntmps111;co_applyP ae;co_applyP aa;co_applyP oy rfl ak;co_applyP ah;change wpE ..;co_applyP ae (n₂ := 0);co_applyP ae;co_applyP aa;co_applyP oy rfl aj;co_applyP oy rfl (dx (v := .nilIface) (c := true) (hv := .inl ⟨rfl, rfl⟩) (hu := Tryz.underlying168));co_applyP ah;change wpE ..;co_applyP aW rfl;co_applyP ae;co_applyP aa;co_applyP oy rfl ak;co_applyP ah;change wpE ..;co_applyP aJ;change ∃ v, resE .. = some v ∧ _;exact ⟨_, rfl, rfl, rfl, rfl⟩
theorem np : ∃ n, ∀ {σ : Type} {F : Fam σ} {Δ : ∀ s, Dom (F.R s) (F.D s)} {main : Bool} {s : σ} (L : Frag) (k : Int) (e : Nat × Nat), (∀ cs, (Δ s).New (.cells cs 210)) →
   CallsL Δ Tryz.prog main 111 [.int .i64 k, .iface 255 (ptq e)].toArray n s L (fun s' v L' => s = s' ∧ ∃ r, v = .iface 180 (ptr r) ∧ Add L r (.cells #[.int .i64 k, .iface 255 (ptq e)] 210) L') := by
 apply Exists.intro;intro σ F Δ main s L k e hN;have hi180 : ∀ ms : Array (String × TypeId), TypeDesc.pointer 210 ≠ .interface ms := fun _ => by simp
 co_applyP aB 12 Tryz.func111 Tryz.ntmps111;co_applyP ae;co_applyP aa;co_applyP oy rfl ak;co_applyP ah;change wpE ..;co_applyP ae;co_applyP ae;co_applyP aa;co_applyP oy rfl aj;co_applyP oy rfl (dx (v := .iface 255 (ptq e)) (c := false) (hv := .inr ⟨_, _, rfl, rfl⟩) (hu := Tryz.underlying168));co_applyP ah;change wpE ..;co_applyP aq rfl;co_applyP aA;change wpE ..;co_applyP ae;co_applyP aa;co_applyP oy rfl aj;co_applyP oy rfl aj;co_applyP oy rfl (bq (yf k e));co_applyP bN rfl (bV (hN _));intro r L1 hA;co_applyP oy rfl (gU hi180 (ht := Tryz.underlying180));co_applyP oy rfl ak;co_applyP ah;change wpE ..;co_applyP aJ;change ∃ v, resE .. = some v ∧ _;exact ⟨_, rfl, rfl, r, rfl, hA⟩
end Go.Proofs.YtejkelcaljmnoaaGreatDoor
namespace Go.Hx
open Go.Conc
theorem l8 {P : Program} {main : Bool} {b : Frame} {a : Act} {cs : List Frame} {w : World} {fn : Func} {todo : List Item} {c : Frame} {v : Value} (hn : b.kind = .normal) (hd : a.defers = []) (hf : P.funcs[b.fn]? = some fn)
   (hr : (results fn a.tmps).run P w = .ok v w) : ∃ es, stepG P main (G { b.at a todo with mode := .returning } (c :: cs)) w = .go (G (c.finish v) cs) w es ∧ ∀ e ∈ es, e ∈ (results fn a.tmps).events P w #[] :=
 ⟨_, by simp [G, stepG, unwind, doReturn, Frame.at, hn, hd, hf, hr, GStep.after]; rfl, fun _ he => mem_seen he⟩
def bodyPostM (P : Program) (R : World → World → Prop) (D : World → World → Array Event → Prop) (fn : Func) (Post : Value → World → Prop) : Exit → Act → World → Prop
 | .normal, a, w | .ret, a, w => a.defers = [] ∧ ∃ v, (∀ w₁, R w w₁ → (results fn a.tmps).run P w₁ = .ok v w₁ ∧ ∀ es : Array Event, (∀ e ∈ es, e ∈ (results fn a.tmps).events P w₁ #[]) → D w₁ w₁ es) ∧ Post v w
 | _, _, _ => False
def CallsM (P : Program) (main : Bool) (R : World → World → Prop) (D : World → World → Array Event → Prop) (f : FuncId) (args : Array Value) (n : Nat) (w : World) (Post : Value → World → Prop) : Prop :=
 ∃ fn c, P.funcs[f]? = some fn ∧ (fn.name == "runtime.NumGoroutine") = false ∧ fn.body = some c ∧
   c.wpC P main R D f n (bodyPostM P R D fn Post) { tmps := args ++ Array.replicate (fn.ntmps - args.size) undef, defers := [] } w
end Go.Hx
namespace Go.Lo
open Go.Conc Go.Hx
def bodyLM {σ : Type} (P : Program) (g : Func) (Post : σ → Value → Frag → Prop) : σ → Exit → Act → Frag → Prop
 | s, .normal, a, L | s, .ret, a, L => a.defers = [] ∧ ∃ v, wpQ P (results g a.tmps) (· = v) L ∧ Post s v L
 | _, _, _, _ => False
def CallsM {σ : Type} {F : Fam σ} (Δ : ∀ s, Dom (F.R s) (F.D s)) (P : Program) (main : Bool) (f : FuncId) (args : Array Value) (n : Nat) (s : σ) (L : Frag) (Post : σ → Value → Frag → Prop) : Prop :=
 ∃ g c, P.funcs[f]? = some g ∧ (g.name == "runtime.NumGoroutine") = false ∧ g.body = some c ∧ wpL Δ P main f c n s (bodyLM P g Post) { tmps := args ++ Array.replicate (g.ntmps - args.size) undef, defers := [] } L
section
variable {σ : Type} {F : Fam σ} {Δ : ∀ s, Dom (F.R s) (F.D s)} {P : Program} {main : Bool} {fn : FuncId} {s : σ} {a : Act} {L : Frag}
theorem oU {Q : σ → Exit → Act → Frag → Prop} {ops : Array Oper} {i : Nat} {rest : List Nat} {o : Oper} {f : FuncId} {args : Array Operand} {ats : Array TypeId} {nf n : Nat} {Post : σ → Value → Frag → Prop}
   (ho : ops[i]? = some o) (hw : Region.wanted o (yielded ops a.tmps) = true) (hop : o.op = .call { callee := .value (.func f), args, argTypes := ats }) (hcall : CallsM Δ P main f (args.map a.eval) nf s L Post) (hnext : ∀ s' v L', Post s' v L' → OpsL Δ P main fn ops rest n s' Q (a.put o.dst v) L') : OpsL Δ P main fn ops (i :: rest) (n + nf + 3) s Q a L := by
 intro w hO b k cs m hb hk hc;obtain ⟨g, c, hf, hname, hbody, hwp⟩ := hcall;have hfin : ∀ v, (b.at a (.inRegion ops (i :: rest) :: k)).finish v = b.at (a.put o.dst v) (.inRegion ops rest :: k) := fun v => by rw [Frame.finish_at, ho]; rfl
 have hleave : ∀ (s' : σ) (a' : Act) (w' : World) (todo : List Item), (∃ L', (Δ s').Own L' w' ∧ a'.defers = [] ∧ ∃ v, wpQ P (results g a'.tmps) (· = v) L' ∧ Post s' v L') →
     Goes P main (F.R s') (F.D s') (F.Stop s') (m + n + 1) (G { (base f).at a' todo with mode := .returning } (b.at a (.inRegion ops (i :: rest) :: k) :: cs)) w' := by
   rintro s' a' w' todo ⟨L', hL, hd, v, hr, hp⟩;refine Goes.step rfl fun w₁ h₁ => ?_;obtain ⟨q1, q2⟩ := lO (Δ s') ((Δ s').rely hL h₁) hr;obtain ⟨es, hes, hm⟩ := l8 (main := main) (cs := cs) (todo := todo) (c := b.at a (.inRegion ops (i :: rest) :: k)) (b := base f) rfl hd hf q1;rw [hes, hfin];exact ⟨(Δ s').dd ((Δ s').gr w₁) fun e he => q2 e (hm e he), (hnext s' v L' hp w' hL b k cs m hb hk hc).rely (F.terms s').trans h₁⟩
 have hbodyG : Goes P main (F.R s) (F.D s) (F.Stop s) (m + n + 2 + nf) (G ((base f).at { tmps := args.map a.eval ++ Array.replicate (g.ntmps - (args.map a.eval).size) undef, defers := [] } [.code c]) (b.at a (.inRegion ops (i :: rest) :: k) :: cs)) w := by
   refine hwp w hO (base f) [] _ (m + n + 2) rfl (by simp [base]) fun s' e a' w' q => ?_;obtain ⟨L', hL, q⟩ := q;cases e with
   | normal => exact Goes.step rfl fun w₁ h₁ => by rw [stepG_end]; exact ⟨(F.terms s').idle _, (hleave s' a' w' [] ⟨L', hL, q⟩).rely (F.terms s').trans h₁⟩
   | ret => exact fun todo => (hleave s' a' w' todo ⟨L', hL, q⟩).more
   | exit id => exact q.elim
   | goto l => exact q.elim
   | panic ch => exact q.elim
   | outgrown => exact q.elim
 have e : m + (n + nf + 3) = (m + n + 2 + nf) + 1 := by omega
 rw [e];exact Goes.step rfl fun w₁ h₁ => goes_call ho hw hk hop hf hname hbody ⟨(F.terms s).idle _, hbodyG.rely (F.terms s).trans h₁⟩
end
def resM (P : Program) (g : Func) (ε : Env) (L : Frag) (v : Value) : Prop := ∃ t ty b i n fl cs e, g.results.toList = [.cell t ty] ∧ look ε t = some (.pointer (some ⟨b, i, none⟩)) ∧ aggAt P ty = some true ∧ sizeAt P ty = some n ∧ (b, fl, Obj.cells cs e) ∈ L ∧ i + n ≤ cs.size ∧ v = .agg (cs.extract i (i + n))
def bodyM {σ : Type} (P : Program) (g : Func) (Post : σ → Value → Frag → Prop) : σ → Exit → Env → Frag → Prop
 | s, .normal, ε, L | s, .ret, ε, L => ∃ v, resM P g ε L v ∧ Post s v L
 | _, _, _, _ => False
section
variable {σ : Type} {F : Fam σ} {Δ : ∀ s, Dom (F.R s) (F.D s)} {P : Program} {main : Bool} {fn : FuncId} {N : Nat} {Q : σ → Exit → Env → Frag → Prop} {s : σ} {ε : Env} {L : Frag}
theorem vL {g : Func} {a : Act} {v : Value} (hf : Fits N ε a) (h : resM P g ε L v) : wpQ P (results g a.tmps) (· = v) L := by
 obtain ⟨t, ty, b, i, n, fl, cs, e, h1, h2, h3, h4, h5, h6, rfl⟩ := h;have h1' : g.results = #[.cell t ty] := Array.ext' h1;have e1 := (hf.at_ _ _ h2).2;have e0 : results g a.tmps = (asAddr (a.tmps.getD t undef) >>= fun x => loadVar ty x) := by simp [results, h1']
 rw [e0, e1, ax];show wpQ P (loadVar ty ⟨b, i, none⟩) _ L;unfold loadVar;rw [ax, fJ h3];simp only [if_true];rw [ax, cK h4, ax];exact eI h5 h6 rfl
theorem l9 (N : Nat) {f : FuncId} {g : Func} {c : Code} {vs : List Value} {n : Nat} {Post : σ → Value → Frag → Prop} (hf : P.funcs[f]? = some g) (hN : g.ntmps = N)  (hname : (g.name == "runtime.NumGoroutine") = false := by rfl) (hb : g.body = some c := by rfl) (hl : Nat.ble vs.length N = true := by rfl) (h : wpE Δ P main f N c n s (bodyM P g Post) (args vs) L) : CallsM Δ P main f vs.toArray n s L Post := by
 have hl := Nat.le_of_ble_eq_true hl;subst hN;refine ⟨g, c, hf, hname, hb, de (h _ ⟨by simp; omega, rfl, fun t v ht => ?_⟩) fun s' e a' L' ⟨ε', hf, q⟩ => ?_⟩
 · obtain ⟨_, h2⟩ := fL vs 0 t v ht;have hlt := (List.getElem?_eq_some_iff.1 h2).1;simp only [Nat.sub_zero] at h2 hlt;refine ⟨by omega, ?_⟩;simp only [Array.getD_eq_getD_getElem?, Array.getElem?_append, List.size_toArray, hlt, if_true, List.getElem?_toArray, h2, Option.getD_some]
 · cases e <;> first | exact ⟨hf.df, q.choose, vL hf q.choose_spec.1, q.choose_spec.2⟩ | exact q
theorem ocm {ops : Array Oper} {i : Nat} {rest : List Nat} {d : Option Tmp} {k : Op} {ot : TypeId} {ps : String} {af : Array Edge} {g : Option (Nat × Bool)} {f : FuncId} {args : Array Operand} {ats : Array TypeId} {vs : List Value} {nf n : Nat} {Post : σ → Value → Frag → Prop}
   (ho : ops[i]? = some ⟨d, k, ot, ps, af, g⟩) (hop : k = .call { callee := .value (.func f), args, argTypes := ats }) (ha : args.toList.map (ev ε) = vs.map some) (hcall : CallsM Δ P main f vs.toArray nf s L Post)
    (hw : wantedE ops N ε g = some true := by rfl) (hd : dstOk N d = true := by rfl) (h : ∀ s' v L', Post s' v L' → OpsE Δ P main fn N ops rest n s' Q (putE d v ε) L') : OpsE Δ P main fn N ops (i :: rest) (n + nf + 3) s Q ε L := by
 intro a hfa;have e1 : args.map a.eval = vs.toArray := by apply Array.ext'; simpa using dY hfa _ _ ha
 subst hop;exact oU ho (hfa.wanted hw) rfl (by rw [e1]; exact hcall) fun s' v L' hp => h s' v L' hp _ (hfa.put hd v)
end
end Go.Lo
namespace Go.Proofs.YtejkelcaljmnoaaGreatDoor
open Go.Conc Go.Hx Go.Lo
theorem oV (x : PS) {i : Nat} (hi : i < 6) : (pcells x).extract (79 + 2 * i) (79 + 2 * i + 2) = #[.int .i64 (x.f i).1, .int .i64 (x.f i).2] := by
 have : i = 0 ∨ i = 1 ∨ i = 2 ∨ i = 3 ∨ i = 4 ∨ i = 5 := by omega
 rcases this with rfl | rfl | rfl | rfl | rfl | rfl <;> rfl
theorem oW (x : PS) {i : Nat} (hi : i < 6) (k : Nat × Nat) : puts (pcells x) (79 + 2 * i) [.int .i64 k.1, .int .i64 k.2] = pcells { x with f := put x.f i k } := by
 have : i = 0 ∨ i = 1 ∨ i = 2 ∨ i = 3 ∨ i = 4 ∨ i = 5 := by omega
 rcases this with rfl | rfl | rfl | rfl | rfl | rfl <;> rfl
def PS.file (x : PS) (n : Int) : Nat × Nat := if n < 6 then x.f n.toNat else (0, 0)
theorem tK : evR Tryz.prog (Instr.build 96 ([] : List (Nat × Value)).toArray) [] = some (keyv (0, 0), []) := by kernel_rfl
theorem jZ : ∃ n, ∀ {σ : Type} {F : Fam σ} {Δ : ∀ s, Dom (F.R s) (F.D s)} {main : Bool} {s : σ} (K : Nat) (A : Lay) (S : St) (Fr L : Frag) (b : Nat) (x : PS) (k : Int), (∀ cs, (Δ s).New (.cells cs 96)) → Rep K A S Fr L → (b, x) ∈ S.ps → 0 ≤ k ∧ k < 65536 →
   CallsM Δ Tryz.prog main 106 [ptr b, .int .u16 k].toArray n s L (fun s' v L' => s = s' ∧ v = keyv (x.file k) ∧ Fun L' ∧ ∀ t ∈ L, t ∈ L') := by
 apply Exists.intro;intro σ F Δ main s K A S Fr L b x k hN hR hb hk;have hw : IntKind.i64.wrap k = k := by simp [IntKind.wrap_i64]; omega
 co_applyP l9 15 Tryz.func106 Tryz.ntmps106;co_applyP ae;co_applyP aa;co_applyP bN rfl (dQ (z := keyv (0, 0)) (hN _));intro nb L1 hA;have hR1 := hR.add hA;co_applyP ah;change wpE ..;co_applyP ae;co_applyP ae;co_applyP aa;co_applyP oy rfl aj;co_applyP oy rfl (cg (hs := Tryz.underlying32) (ht := Tryz.underlying3));co_applyP oy rfl d9;co_applyP ah;change wpE ..;simp only [hw];co_applyP bl rfl;intro hc;co_applyP ae;co_applyP aa
 · have h6 : ¬ k < 6 := by simpa using hc
   co_applyP oy rfl (bq tK);co_applyP oeN rfl (fun hnd => fj (hs := bi) (vs := [.int .i64 (0 : Nat), .int .i64 (0 : Nat)]) (hnd := hnd) (hm := hA.self) (hi := Nat.le_refl _));rintro _ L2 ⟨rfl, hU⟩;co_applyP ah;change wpE ..;co_applyP aJ;change ∃ v, resM _ _ _ _ v ∧ _;refine ⟨_, ⟨_, _, nb, 0, 2, true, _, _, rfl, rfl, bJ, bi, hU.self, Nat.le_refl _, rfl⟩, rfl, by simp [PS.file, h6]; rfl, hU.fn, fun t ht => hU.ne _ (hA.sub _ ht) (hA.new _ ht)⟩
 intro hc;have h6 : k < 6 := by simpa using hc
 co_applyP aA;change wpE ..;co_applyP ae;co_applyP aa;co_applyP oy rfl aj;co_applyP oy rfl aj;co_applyP oy rfl aL;co_applyP oy rfl (av (hf := dT));co_applyP oy rfl (a0 Tryz.underlying97 bi);co_applyP oy rfl (a8 (ht := bJ) (hs := bi) (hm := hR1.p _ hb) (hi := by rw [bg]; omega));co_applyP oeN rfl (fun hnd => fj (hs := bi) (vs := [.int .i64 (x.f k.toNat).1, .int .i64 (x.f k.toNat).2]) (hy := by rw [show 0 + 79 + k.toNat * 2 = 79 + 2 * k.toNat by omega, oV x (by omega)]; rfl) (hnd := hnd) (hm := hA.self) (hi := Nat.le_refl _));rintro _ L2 ⟨rfl, hU⟩;co_applyP ah;change wpE ..;co_applyP aJ;change ∃ v, resM _ _ _ _ v ∧ _;refine ⟨_, ⟨_, _, nb, 0, 2, true, _, _, rfl, rfl, bJ, bi, hU.self, Nat.le_refl _, rfl⟩, rfl, by simp [PS.file, h6]; rfl, hU.fn, fun t ht => hU.ne _ (hA.sub _ ht) (hA.new _ ht)⟩
end Go.Proofs.YtejkelcaljmnoaaGreatDoor
namespace Go.Lo
open Go.Conc Go.Hx
section
variable {P : Program} {New : Obj → Prop} {L : Frag}
theorem gE {d : Nat} {t : TypeId} {xs ys : Array Value} {fs : Array Field} {K : Bool → Prop} (ht : P.underlying t = some (.struct fs)) (hp : P.stoodInHeld t = false) (h : wpQ P (Op.eqFields d xs ys fs.toList) K L) : wpQ P (Op.equalIn (d + 1) t (.agg xs) (.agg ys)) K L := by
 rw [Op.equalIn.eq_def];rw [ax, aM ht];simp only;rw [ax];show wpQ P (if P.stoodInHeld t = true then _ else _) K L;rw [hp];simp only [Bool.false_eq_true, if_false];rw [← Array.forIn_toList];generalize fs.toList = l at h ⊢;clear ht
 induction l with
 | nil => exact h
 | cons f l ih =>
   simp only [Op.eqFields] at h;simp only [List.forIn_cons, ax]
   split
   · rename_i hn;rw [if_pos hn] at h;simp only [ax] at h ⊢;refine cP ?_ (fun _ h => h) _ h;intro a h;refine cP ?_ (fun _ h => h) _ h;intro b h;refine cP ?_ (fun _ h => h) _ h;intro r h;cases r with
     | false => exact h
     | true =>
       have := ih h;simpa [ax, bS] using this
   · rename_i hn;rw [if_neg hn] at h;have := ih h;simpa [ax, bS] using this
theorem fi {d : Nat} {t : TypeId} {k k' : IntKind} {a b : Int} {K : Bool → Prop} (h : P.underlying t = some (.int k')) (hK : K (a == b)) : wpQ P (Op.equalIn (d + 1) t (.int k a) (.int k b)) K L := by
 rw [Op.equalIn.eq_def, ax, aM h];simpa [bS] using hK
abbrev kv (k : Nat × Nat) : Value := .agg #[.int .i64 k.1, .int .i64 k.2]
structure FldAt (P : Program) (f : Field) (off : Nat) : Prop where
 n : f.name ≠ "_"
 o : f.offset = off
 a : aggAt P f.type = some false
 u : ∃ k, P.underlying f.type = some (.int k)
structure Key2 (P : Program) (t : TypeId) : Prop where
 ex : ∃ f0 f1, P.underlying t = some (.struct #[f0, f1]) ∧ FldAt P f0 0 ∧ FldAt P f1 1
 hp : P.stoodInHeld t = false
 ck : ∀ e a b, evR P (Instr.checkKey e 10000 t (.agg #[.int .i64 a, .int .i64 b])) [] = some ((), [])
theorem lg {t : TypeId} (H : Key2 P t) {k k' : Nat × Nat} {K : Bool → Prop} (hK : K (decide (k = k'))) : wpQ P (Op.equal t (kv k) (kv k')) K L := by
 obtain ⟨f0, f1, hu, h0, h1⟩ := H.ex;obtain ⟨k0, u0⟩ := h0.u;obtain ⟨k1, u1⟩ := h1.u;rw [cX];refine gE hu H.hp ?_;simp only [Op.eqFields, if_pos h0.n, if_pos h1.n, ax];refine eN h0.a (v := .int .i64 k.1) (by rw [h0.o]; rfl) ?_;refine eN h0.a (v := .int .i64 k'.1) (by rw [h0.o]; rfl) ?_;refine fi (d := 9998) u0 ?_;by_cases e0 : k.1 = k'.1
 · simp only [e0, beq_self_eq_true, Bool.not_true, Bool.false_eq_true, if_false, ax];refine eN h1.a (v := .int .i64 k.2) (by rw [h1.o]; rfl) ?_;refine eN h1.a (v := .int .i64 k'.2) (by rw [h1.o]; rfl) ?_;refine fi (d := 9998) u1 ?_;by_cases e1 : k.2 = k'.2
   · have e : k = k' := Prod.ext e0 e1;simpa [e, bS] using hK
   · have e : ¬ k = k' := fun e => e1 (by rw [e]);have e2 : ((k.2 : Int) == (k'.2 : Int)) = false := by simp; omega
     rw [e2];simpa [e, bS] using hK
 · have e : ¬ k = k' := fun e => e0 (by rw [e]);have e2 : ((k.1 : Int) == (k'.1 : Int)) = false := by simp; omega
   rw [e2];simpa [e, bS] using hK
abbrev Ents := List ((Nat × Nat) × Value × Nat)
def ent (e : (Nat × Nat) × Value × Nat) : MapEntry := ⟨kv e.1, e.2.1, e.2.2⟩
def mapO (l : Ents) (clock : Nat) : Obj := .map (l.map ent).toArray clock
def lk (k : Nat × Nat) : Ents → Nat → Option (Nat × Value)
 | [], _ => none
 | e :: l, i => if k = e.1 then some (i, e.2.1) else lk k l (i + 1)
theorem j0 {t : TypeId} (H : Key2 P t) {k : Nat × Nat} {K : Option (Nat × Value) → Prop} : ∀ (l : Ents) (i : Nat), K (lk k l i) → wpQ P (Instr.findAsking t (kv k) (l.map ent) i) K L := by
 intro l
 induction l with
 | nil => exact fun i h => h
 | cons e l ih =>
   intro i h;simp only [List.map_cons, Instr.findAsking, ax];refine lg H ?_;simp only [lk] at h;by_cases e1 : k = e.1
   · rw [if_pos e1] at h;simp only [decide_eq_true e1, if_true];exact h
   · rw [if_neg e1] at h;simp only [decide_eq_false e1, Bool.false_eq_true, if_false];exact ih _ h
theorem dO {t : TypeId} (H : Key2 P t) {k : Nat × Nat} {K : Option (Nat × Value) → Prop} (l : Ents) (h : K (lk k l 0)) : wpQ P (Instr.findKey t (kv k) (l.map ent)) K L := by
 obtain ⟨f0, f1, hu, h0, h1⟩ := H.ex;unfold Instr.findKey;rw [ax, aM hu];cases l with
 | nil => exact h
 | cons e l => exact j0 H (e :: l) 0 h
def upk (k : Nat × Nat) (v : Value) (l : Ents) (clock : Nat) : Obj := match lk k l 0 with
 | some (i, _) => mapO (l.modify i fun e => (k, v, e.2.2)) clock
 | none => mapO (l ++ [(k, v, clock)]) (clock + 1)
def dlk (k : Nat × Nat) (l : Ents) : Ents := match lk k l 0 with
 | some (i, _) => l.eraseIdx i
 | none => l
theorem tL {k : Nat × Nat} : ∀ {l : Ents} {j i : Nat} {v : Value}, lk k l j = some (i, v) → ∃ e, j ≤ i ∧ l[i - j]? = some e ∧ e.1 = k ∧ e.2.1 = v
 | [], _, _, _, h => by cases h
 | e :: l, j, i, v, h => by
   simp only [lk] at h
   split at h
   · rename_i e1;simp only [Option.some.injEq, Prod.mk.injEq] at h;obtain ⟨rfl, rfl⟩ := h;exact ⟨e, Nat.le_refl _, by simp, e1.symm, rfl⟩
   · obtain ⟨e', h1, h2, h3⟩ := tL h;refine ⟨e', by omega, ?_, h3⟩;rw [show i - j = (i - (j + 1)) + 1 by omega];simpa using h2
end
section
variable {P : Program} {New : Obj → Prop} {N : Nat} {ε : Env} {L : Frag} {d : Option Tmp} {ty : TypeId} {ps : String} {af : Array Edge} {g : Option (Nat × Bool)}
theorem nq {x ix : Operand} {t kt et : TypeId} {r clock : Nat} {k : Nat × Nat} {l : Ents} {z : Value} {fl : Bool} (H : Key2 P kt) (hu : P.underlying t = some (.map kt et)) (hz : zeroAt P et = some z) (hm : (r, fl, mapO l clock) ∈ L) (hx : ev ε x = some (.map (some r)) := by rfl) (hi : ev ε ix = some (kv k) := by rfl) :
   EY P N ε L ⟨d, .lookup t x ix false, ty, ps, af, g⟩ (match lk k l 0 with | some (_, v) => v | none => z) := fun a ha => by
 refine cG (fun _ => rfl) fun K hK => ?_;rw [ha.ev hx, ha.ev hi];unfold Instr.lookup;rw [ax, aM hu];simp only [ax];refine oE hm rfl ?_;simp only [mapO];rw [ax, bS, ax];refine bd (H.ck _ _ _) ?_;rw [ax];refine dO H l ?_;cases hl : lk k l 0 with
 | some p =>
   rw [hl] at hK;exact hK
 | none =>
   rw [hl] at hK;simp only [ax, ge hz];exact hK
theorem AM {x ix y : Operand} {t kt et : TypeId} {r clock : Nat} {k : Nat × Nat} {v : Value} {l : Ents} (hnd : (L.map (·.1)).Nodup) (H : Key2 P kt) (hu : P.underlying t = some (.map kt et)) (hm : (r, true, mapO l clock) ∈ L) (hx : ev ε x = some (.map (some r)) := by rfl) (hi : ev ε ix = some (kv k) := by rfl) (hy : ev ε y = some v := by rfl) :
   EO P New N ε L ⟨d, .mapUpdate t x ix y, ty, ps, af, g⟩ (fun r' L'' => r' = undef ∧ Upd L r (upk k v l clock) L'') := by
 intro a ha;obtain ⟨n, hn⟩ := List.getElem?_of_mem hm;show wpS P New (Instr.mapUpdate t (a.eval x) (a.eval ix) (a.eval y) >>= fun _ => pure Next.skip) _ L;rw [ha.ev hx, ha.ev hi, ha.ev hy, ar];unfold Instr.mapUpdate;rw [ar, aT hu];simp only [ar];refine d8 hm rfl ?_;simp only [mapO, ar];refine bH (K := (· = ())) (fun _ _ => ?_) _ (bd (H.ck _ _ _) rfl);refine bH (K := (· = lk k l 0)) (fun _ e => ?_) _ (dO H l rfl);subst e;cases hl : lk k l 0 with
 | some p =>
   obtain ⟨i, w⟩ := p;obtain ⟨e, _, h2, h3, _⟩ := tL hl;simp only [Nat.sub_zero] at h2;have hkey : ((((l.map ent).toArray[i]?).map (·.key)).getD (kv k)) = kv k := by simp [h2, ent, h3]
   simp only [ar, hkey];have hs : Instr.keyThatStays (kv k) (kv k) = pure (kv k) := by
     unfold Instr.keyThatStays;have : Instr.sameBits 10000 (kv k) (kv k) = true := by simp [Instr.sameBits]
     rw [this]; rfl
   rw [hs, br];refine cU hn rfl rfl ⟨trivial, ?_⟩;have he : (l.map ent).toArray.modify i (fun e => { e with key := kv k, val := v }) = ((l.modify i fun e => (k, v, e.2.2)).map ent).toArray := by
     apply Array.ext';simp only [Array.toList_modify];apply List.ext_getElem?;intro j;simp only [List.getElem?_modify, List.getElem?_map];cases l[j]? with
     | none => rfl
     | some e => simp only [Option.map_some]; split <;> rfl
   rw [he];have hu : upk k v l clock = mapO (l.modify i fun e => (k, v, e.2.2)) clock := by unfold upk; rw [hl]
   rw [hu];exact cH hnd hn
 | none =>
   refine cU hn rfl rfl ⟨trivial, ?_⟩;have he : (l.map ent).toArray.push ⟨kv k, v, clock⟩ = ((l ++ [(k, v, clock)]).map ent).toArray := by apply Array.ext'; simp [ent]
   rw [he];have hu : upk k v l clock = mapO (l ++ [(k, v, clock)]) (clock + 1) := by unfold upk; rw [hl]
   rw [hu];exact cH hnd hn
theorem xu {x ix : Operand} {ats : Array TypeId} {t kt et : TypeId} {r clock : Nat} {k : Nat × Nat} {l : Ents} (hnd : (L.map (·.1)).Nodup) (H : Key2 P kt) (hu : P.underlying t = some (.map kt et)) (hm : (r, true, mapO l clock) ∈ L) (hx : ev ε x = some (.map (some r)) := by rfl) (hi : ev ε ix = some (kv k) := by rfl) (ha' : ats[0]? = some t := by rfl) :
   EO P New N ε L ⟨d, .call ⟨.builtin .delete, #[x, ix], ats⟩, ty, ps, af, g⟩ (fun r' L'' => r' = .tuple #[] ∧ Upd L r (mapO (dlk k l) clock) L'') := by
 intro a ha;obtain ⟨n, hn⟩ := List.getElem?_of_mem hm;refine cx (s := Builtin.delete_ ats ty #[.map (some r), kv k]) (fun _ => by simp [builtin, ha.ev hx, ha.ev hi]) ?_;unfold Builtin.delete_;simp only [ha', List.getElem?_toArray, List.getElem?_cons_zero, List.getElem?_cons_succ];rw [ar, aT hu];simp only [ar];refine d8 hm rfl ?_;simp only [mapO, ar];refine bH (K := (· = ())) (fun _ _ => ?_) _ (bd (H.ck _ _ _) rfl);refine bH (K := (· = lk k l 0)) (fun _ e => ?_) _ (dO H l rfl);subst e;cases hl : lk k l 0 with
 | some p =>
   obtain ⟨i, w⟩ := p;obtain ⟨e, _, h2, h3, _⟩ := tL hl;simp only [Nat.sub_zero] at h2;simp only [ar];refine cU hn rfl rfl ?_;refine ⟨by first | rfl | trivial, ?_⟩;have hlt := (List.getElem?_eq_some_iff.1 h2).1;have he : (l.map ent).toArray.eraseIdxIfInBounds i = ((dlk k l).map ent).toArray := by
     unfold dlk; rw [hl];apply Array.ext';simp [Array.eraseIdxIfInBounds, hlt, List.eraseIdx_eq_take_drop_succ]
   rw [he];exact cH hnd hn
 | none =>
   simp only [ar];refine cU hn rfl rfl ?_;refine ⟨by first | rfl | trivial, ?_⟩;have he : dlk k l = l := by unfold dlk; rw [hl]
   rw [he];exact cH hnd hn
end
end Go.Lo
namespace Go.Proofs.YtejkelcaljmnoaaGreatDoor
open Go.Conc Go.Hx Go.Lo
structure Ext (L L' : Frag) : Prop where
 f : Fun L'
 s : ∀ t ∈ L, t ∈ L'
theorem Ext.trans {L L' L'' : Frag} (h : Ext L L') (k : Ext L' L'') : Ext L L'' := ⟨k.f, fun t ht => k.s t (h.s t ht)⟩
theorem Ext.at {L L' : Frag} (h : Ext L L') {b i : Nat} {v : Value} (ha : At L b i v) : At L' b i v := js ha h.s
theorem Rep.ext {K : Nat} {A : Lay} {S : St} {F L L' : Frag} (h : Rep K A S F L) (e : Ext L L') : Rep K A S F L' := h.of e.f e.s
def idxF (test : Nat → Bool) (xs : List Nat) : Int := match xs.findIdx? test with
 | some i => i
 | none => -1
theorem eC (nf : Nat) : ∃ n, ∀ {σ : Type} {F : Fam σ} {Δ : ∀ s, Dom (F.R s) (F.D s)} {main : Bool} {s : σ} (L0 : Frag) (f : FuncId) (gf : Func) (c1 c2 : List Value) (xs : List Nat) (test : Nat → Bool) (base : Option Addr) (cap : Nat),
   (∀ i v, (xs.map ptr)[i]? = some v → ∃ b, base = some ⟨b, 0, none⟩ ∧ At L0 b i v) → xs.length ≤ 8 → Tryz.prog.funcs[f]? = some gf → (gf.name == "runtime.NumGoroutine") = false → gf.body.isNone = false →
   (∀ c ∈ xs, ∀ L, Ext L0 L → CallsL Δ Tryz.prog main f (c1 ++ [ptr c] ++ c2).toArray nf s L (fun s' v L' => s = s' ∧ v = .bool (test c) ∧ Ext L L')) →
   CallsL Δ Tryz.prog main 146 [.slice base xs.length cap, .func (.func f) c1.toArray c2.toArray].toArray n s L0 (fun s' v L' => s = s' ∧ v = .int .i64 (idxF test xs) ∧ Ext L0 L') := by
 apply Exists.intro;intro σ F Δ main s L0 f gf c1 c2 xs test base cap hat h8 hf hname hb hc;co_applyP aB 19 Tryz.func146 Tryz.ntmps146;co_applyP gV;intro hF0;co_applyP ae;co_applyP aa;co_applyP oy rfl ak;co_applyP ah;change wpE ..;co_applyP ae;co_applyP ae;co_applyP aa;co_applyP oy rfl aj;co_applyP oy rfl (bz (hu := Tryz.underlying91));co_applyP oy rfl aj;co_applyP ah;change wpE ..;co_applyP aI;co_applyP bG (fun k s' ε' L' => s' = s ∧ Ext L0 L' ∧ ∃ l1 l2, xs = l1 ++ l2 ∧ (∀ q ∈ l1, test q = false) ∧ k + l1.length = 8 ∧ kn ε' [(8, .int .i64 l1.length), (7, .int .i64 xs.length), (0, .slice base xs.length cap), (1, .func (.func f) c1.toArray c2.toArray)]) 8
 · exact ⟨rfl, ⟨hF0, fun _ h => h⟩, [], xs, rfl, by simp, rfl, rfl⟩
 rintro k s' ε' L' ⟨rfl, hE, l1, l2, hl, hn, hk, he⟩;co_applyP a6 he;have hlen := congrArg List.length hl;simp only [List.length_append] at hlen;co_applyP ae;co_applyP aa;co_applyP oy rfl bX;co_applyP ah;change wpE ..;co_applyP ae;co_applyP bl rfl;intro hlt
 · cases l2 with
   | nil => simp at hlt hlen; omega
   | cons q l2 =>
     simp at hlen;obtain ⟨b, rfl, hav⟩ := hat l1.length (ptr q) (by rw [hl]; simp);have hav' := hE.at hav;co_applyP aA;change wpE ..;co_applyP ae;co_applyP aI;co_applyP ae;co_applyP aa;co_applyP oy rfl aj;co_applyP oy rfl ak;co_applyP ah;change wpE ..;co_applyP ae;co_applyP aa;co_applyP oy rfl aj;co_applyP oy rfl aj;co_applyP oy rfl aj;co_applyP oy rfl (bv Tryz.underlying91 bI);co_applyP oy rfl (aC (ht := c9));co_applyP ov rfl (vs := [ptr q]) (hf := hf) (hname := hname) (hb := hb) (hcall := hc q (by rw [hl]; simp) L' hE);rintro _ _ _ ⟨rfl, rfl, hE2⟩;co_applyP ah;change wpE ..;co_applyP bl rfl;intro ht;co_applyP ae;co_applyP aa;co_applyP oy rfl aj;co_applyP oy rfl ak;co_applyP ah;change wpE ..;co_applyP aJ;change ∃ v, resE .. = some v ∧ _
     · have e1 : idxF test xs = l1.length := by
         unfold idxF;have : xs.findIdx? test = some l1.length := by
           rw [hl, List.findIdx?_append, List.findIdx?_eq_none_iff.2 (fun x hx => by simpa using hn x hx)];have ht' : test q = true := by simpa using ht
           simp [List.findIdx?_cons, ht']
         rw [this]
       refine ⟨_, rfl, rfl, by rw [e1], hE.trans hE2⟩
     intro ht;co_applyP aA;change wpE ..;co_applyP aa;co_applyP oy rfl a7;co_applyP oy rfl aj;co_applyP ah;change ∃ k', k' < _ ∧ _;have elen : IntKind.i64.wrap ((l1.length : Int) + 1) = ((l1 ++ [q]).length : Int) := by simp [IntKind.wrap_i64]; omega
     refine ⟨k - 1, by omega, rfl, hE.trans hE2, l1 ++ [q], l2, by simp [hl], ?_, by simp; omega, ?_⟩
     · intro x hx;rcases List.mem_append.1 hx with h | h
       · exact hn x h
       · simp at h; subst h; simpa using ht
     · rw [← elen]; rfl
 intro hlt;co_applyP bL;change wpE ..;co_applyP ae;co_applyP aa;co_applyP oy rfl ak;co_applyP ah;change wpE ..;co_applyP aJ;change ∃ v, resE .. = some v ∧ _;cases l2 with
 | nil =>
   have e : l1 = xs := by rw [hl]; simp
   subst e;have e1 : idxF test l1 = -1 := by
     unfold idxF;rw [List.findIdx?_eq_none_iff.2 (fun x hx => by simpa using hn x hx)]
   exact ⟨_, rfl, rfl, by rw [e1], hE⟩
 | cons q l2 => simp at hlt hlen; omega
structure ExtQ (Q : Nat) (L L' : Frag) : Prop where
 f : Fun L'
 s : ∀ t ∈ L, t.1 ≠ Q → t ∈ L'
theorem Ext.q {Q : Nat} {L L' : Frag} (h : Ext L L') : ExtQ Q L L' := ⟨h.f, fun t ht _ => h.s t ht⟩
theorem ExtQ.trans {Q : Nat} {L L' L'' : Frag} (h : ExtQ Q L L') (k : ExtQ Q L' L'') : ExtQ Q L L'' := ⟨k.f, fun t ht hn => k.s t (h.s t ht hn) hn⟩
theorem _root_.Go.Lo.Upd.q {Q : Nat} {L L' : Frag} {o : Obj} (h : Upd L Q o L') : ExtQ Q L L' := ⟨h.fn, fun t ht hn => h.ne t ht hn⟩
theorem yh (A M B C : List Value) (q : Value) : (A ++ M ++ q :: B ++ C).toArray[A.length + M.length]? = some q := by
 rw [List.getElem?_toArray];have : A ++ M ++ q :: B ++ C = (A ++ M) ++ (q :: (B ++ C)) := by simp
 rw [this, List.getElem?_append_right (by simp)];simp
theorem yi (A M B C : List Value) (m q : Value) : (A ++ (m :: M) ++ q :: B ++ C).toArray.setIfInBounds A.length q = ((A ++ [q]) ++ (M ++ [q]) ++ B ++ C).toArray := by
 rw [List.setIfInBounds_toArray];have : A ++ (m :: M) ++ q :: B ++ C = A ++ (m :: (M ++ q :: (B ++ C))) := by simp
 rw [this, List.set_append_right _ _ (Nat.le_refl _)];simp
theorem yj (A M C : List Value) (z : Value) : puts (A ++ M ++ ([] : List Value) ++ C).toArray A.length (List.replicate M.length z) = (A ++ (List.replicate M.length z ++ C)).toArray := by
 rw [b6 _ _ _ (by simp)];congr 1;simp [List.take_append_of_le_length, List.drop_append]
theorem ma (nf : Nat) : ∃ n, ∀ {σ : Type} {F : Fam σ} {Δ : ∀ s, Dom (F.R s) (F.D s)} {main : Bool} {s : σ} (L0 : Frag) (f : FuncId) (gf : Func) (c1 c2 : List Value) (xs : List Nat) (test : Nat → Bool) (Q : Nat) (junk : List Value),
   (Q, true, Obj.cells (xs.map ptr ++ junk).toArray 93) ∈ L0 → xs.length ≤ 8 → Tryz.prog.funcs[f]? = some gf → (gf.name == "runtime.NumGoroutine") = false → gf.body.isNone = false →
   (∀ c ∈ xs, ∀ L, ExtQ Q L0 L → CallsL Δ Tryz.prog main f (c1 ++ [ptr c] ++ c2).toArray nf s L (fun s' v L' => s = s' ∧ v = .bool (test c) ∧ Ext L L')) →
   CallsL Δ Tryz.prog main 124 [.slice (some ⟨Q, 0, none⟩) xs.length (xs.length + junk.length), .func (.func f) c1.toArray c2.toArray].toArray n s L0 (fun s' v L' => s = s' ∧ ∃ jk, v = .slice (some ⟨Q, 0, none⟩) (xs.filter fun c => !test c).length (xs.length + junk.length) ∧ ExtQ Q L0 L' ∧ (Q, true, Obj.cells ((xs.filter fun c => !test c).map ptr ++ jk).toArray 93) ∈ L' ∧ (xs.filter fun c => !test c).length + jk.length = xs.length + junk.length) := by
 obtain ⟨n1, g1⟩ := eC nf;apply Exists.intro;intro σ F Δ main s L0 f gf c1 c2 xs test Q junk hQ h8 hf hname hb hc;co_applyP aB 42 Tryz.func124 Tryz.ntmps124;co_applyP ae;co_applyP aa;co_applyP oy rfl ak;co_applyP ah;change wpE ..;co_applyP ae;co_applyP aa;co_applyP oy rfl aj;co_applyP oy rfl aj;co_applyP oc rfl rfl rfl (g1 L0 f gf c1 c2 xs test (some ⟨Q, 0, none⟩) (xs.length + junk.length) (fun i v hv => ⟨Q, rfl, true, _, _, _, hQ, by rw [List.getElem?_toArray, List.getElem?_append_left (List.getElem?_eq_some_iff.1 hv).1]; exact hv⟩) h8 hf hname hb (fun c hcx L hE => hc c hcx L hE.q));rintro _ _ _ ⟨rfl, rfl, hE1⟩;rename_i L1;co_applyP oy rfl ak;co_applyP ah;change wpE ..;co_applyP ae;co_applyP ae;co_applyP aa;co_applyP oy rfl aj;co_applyP oy rfl ay;co_applyP ah;change wpE ..;co_applyP bl rfl;intro hi
 · have hnone : xs.findIdx? test = none := by
     cases h : xs.findIdx? test with
     | none => rfl
     | some i => unfold idxF at hi; rw [h] at hi; simp at hi
   have hall := List.findIdx?_eq_none_iff.1 hnone;have hys : (xs.filter fun c => !test c) = xs := List.filter_eq_self.2 fun c hcx => by simpa using hall c hcx
   co_applyP ae;co_applyP aa;co_applyP oy rfl aj;co_applyP oy rfl ak;co_applyP ah;change wpE ..;co_applyP aJ;change ∃ v, resE .. = some v ∧ _;exact ⟨_, rfl, rfl, junk, by rw [hys], hE1.q, by rw [hys]; exact hE1.s _ hQ, by rw [hys]⟩
 intro hi;obtain ⟨i, hsome⟩ : ∃ i, xs.findIdx? test = some i := by
   cases h : xs.findIdx? test with
   | none => unfold idxF at hi; rw [h] at hi; simp at hi
   | some i => exact ⟨i, rfl⟩
 have hidx : idxF test xs = i := by unfold idxF; rw [hsome]
 obtain ⟨hil, hti, hbef⟩ := List.findIdx?_eq_some_iff_getElem.1 hsome;have ei : IntKind.i64.wrap ((i : Int) + 1) = ((i + 1 : Nat) : Int) := by simp [IntKind.wrap_i64]; omega
 rw [hidx];co_applyP aA;change wpE ..;co_applyP ae;co_applyP ae;co_applyP aa;co_applyP oy rfl aj;co_applyP oy rfl a7;co_applyP oy rfl ak;co_applyP ah;change wpE ..;co_applyP aI;rw [ei];have hfi : ((xs.take (i + 1)).filter fun c => !test c) = xs.take i := by
   rw [List.take_add_one, List.filter_append];have h1 : ((xs.take i).filter fun c => !test c) = xs.take i := List.filter_eq_self.2 fun c hcx => by
     obtain ⟨j, hj⟩ := List.getElem?_of_mem hcx;rw [List.getElem?_take] at hj
     split at hj
     · rename_i hlt;obtain ⟨hl, he⟩ := List.getElem?_eq_some_iff.1 hj;have := hbef j hlt;rw [he] at this;simpa using this
     · cases hj
   rw [h1];have h2 : xs[i]?.toList.filter (fun c => !test c) = [] := by simp [hil, hti]
   rw [h2]; simp
 co_applyP bG (fun k s' ε' L' => s' = s ∧ ExtQ Q L0 L' ∧ ∃ l1 l2 mid, xs = l1 ++ l2 ∧ mid.length + (l1.filter fun c => !test c).length = l1.length ∧ 0 < mid.length ∧ l2.length ≤ k ∧ (Q, true, Obj.cells ((l1.filter fun c => !test c).map ptr ++ mid ++ l2.map ptr ++ junk).toArray 93) ∈ L' ∧ kn ε' [(6, .int .i64 l1.length), (5, .int .i64 (l1.filter fun c => !test c).length), (0, .slice (some ⟨Q, 0, none⟩) xs.length (xs.length + junk.length)), (1, .func (.func f) c1.toArray c2.toArray)]) 8
 · refine ⟨rfl, hE1.q, xs.take (i + 1), xs.drop (i + 1), [ptr xs[i]], by simp, by rw [hfi]; simp; omega, by simp, by simp; omega, ?_, ?_⟩
   · rw [hfi];have e0 : (xs.take i).map ptr ++ [ptr xs[i]] ++ (xs.drop (i + 1)).map ptr = xs.map ptr := by
       rw [← List.map_singleton (f := ptr), ← List.map_append, ← List.map_append];congr 1;simp
     rw [e0];exact hE1.s _ hQ
   · have e1 : (xs.take (i + 1)).length = i + 1 := by simp; omega
     have e2 : (xs.take i).length = i := by simp; omega
     rw [hfi, e1, e2]; rfl
 rintro k s' ε' L' ⟨rfl, hE, l1, l2, mid, hl, hm, hm0, hk, hQ', he⟩;co_applyP a6 he;have hlen := congrArg List.length hl;simp only [List.length_append] at hlen;co_applyP ae;co_applyP ae;co_applyP aa;co_applyP oy rfl aj;co_applyP oy rfl aj;co_applyP oy rfl (bz (hu := Tryz.underlying91));co_applyP oy rfl bX;co_applyP ah;change wpE ..;co_applyP bl rfl;intro hlt
 · cases l2 with
   | nil => simp at hlt hlen; omega
   | cons q l2 =>
     simp at hlen hk;obtain ⟨m, M, rfl⟩ : ∃ m M, mid = m :: M := by
       cases mid with
       | nil => simp at hm0
       | cons m M => exact ⟨m, M, rfl⟩
     simp only [List.length_cons] at hm;have hav : At L' Q l1.length (ptr q) := by
       refine ⟨true, _, _, _, hQ', ?_⟩;have := yh ((l1.filter fun c => !test c).map ptr) (m :: M) (l2.map ptr) junk (ptr q);rw [show ((l1.filter fun c => !test c).map ptr).length + (m :: M).length = l1.length by rw [List.length_map, List.length_cons]; omega] at this;exact this
     have elen : IntKind.i64.wrap ((l1.length : Int) + 1) = ((l1 ++ [q]).length : Int) := by simp [IntKind.wrap_i64]; omega
     co_applyP aA;change wpE ..;co_applyP ae;co_applyP aI;co_applyP ae;co_applyP aa;co_applyP oy rfl aj;co_applyP oy rfl aj;co_applyP oy rfl (bv Tryz.underlying91 bI);co_applyP oy rfl (aC (ht := c9));co_applyP oy rfl ak;co_applyP ah;change wpE ..;co_applyP ae;co_applyP aa;co_applyP oy rfl aj;co_applyP oy rfl aj;co_applyP ov rfl (vs := [ptr q]) (hf := hf) (hname := hname) (hb := hb) (hcall := hc q (by rw [hl]; simp) L' hE);rintro _ _ _ ⟨rfl, rfl, hE2⟩;co_applyP oy rfl bY;co_applyP ah;change wpE ..;have hQ2 := hE2.s _ hQ';co_applyP bl rfl;intro ht;co_applyP ae;co_applyP aa;co_applyP oy rfl aj;co_applyP oy rfl aj;co_applyP oy rfl aj;co_applyP oy rfl (bv Tryz.underlying91 bI)
     · have ht' : test q = false := by simpa using ht
       co_applyP oeN rfl (fun hnd => fb (hs := bI) (hnd := hnd) (hm := hQ2) (hi := by simp));rintro _ L3 ⟨rfl, hU⟩;co_applyP ah;change wpE ..;co_applyP aa;co_applyP oy rfl aj;co_applyP oy rfl a7;co_applyP oy rfl ak;co_applyP ah;change wpE ..;co_applyP aa;co_applyP oy rfl aj;co_applyP oy rfl a7;co_applyP oy rfl ak;co_applyP ah;change ∃ k', k' < _ ∧ _;have hfl : ((l1 ++ [q]).filter fun c => !test c) = (l1.filter fun c => !test c) ++ [q] := by simp [ht']
       have elen2 : IntKind.i64.wrap (((l1.filter fun c => !test c).length : Int) + 1) = (((l1 ++ [q]).filter fun c => !test c).length : Int) := by rw [hfl]; simp [IntKind.wrap_i64]; omega
       refine ⟨k - 1, by omega, rfl, (hE.trans hE2.q).trans hU.q, l1 ++ [q], l2, M ++ [ptr q], by simp [hl], by rw [hfl]; simp; omega, by simp, by omega, ?_, ?_⟩
       · have e1 := yi ((l1.filter fun c => !test c).map ptr) M (l2.map ptr) junk m (ptr q);rw [List.length_map] at e1;have := hU.self;rw [hfl, List.map_append];exact (e1 ▸ this)
       · rw [← elen, ← elen2]; rfl
     intro ht;co_applyP aA;change wpE ..;co_applyP aa;co_applyP oy rfl aj;co_applyP oy rfl a7;co_applyP oy rfl ak;co_applyP ah;change ∃ k', k' < _ ∧ _;have ht' : test q = true := by simpa using ht
     have hfl : ((l1 ++ [q]).filter fun c => !test c) = (l1.filter fun c => !test c) := by simp [ht']
     refine ⟨k - 1, by omega, rfl, hE.trans hE2.q, l1 ++ [q], l2, (m :: M) ++ [ptr q], by simp [hl], by rw [hfl]; simp; omega, by simp, by omega, ?_, ?_⟩
     · rw [hfl];have e0 : (l1.filter fun c => !test c).map ptr ++ ((m :: M) ++ [ptr q]) ++ l2.map ptr ++ junk = (l1.filter fun c => !test c).map ptr ++ (m :: M) ++ (q :: l2).map ptr ++ junk := by simp
       rw [e0]; exact hQ2
     · rw [← elen, hfl]; rfl
 intro hlt;cases l2 with
 | cons q l2 => simp at hlt hlen; omega
 | nil =>
 have e : l1 = xs := by rw [hl]; simp
 subst e;co_applyP bL;change wpE ..;co_applyP ae;co_applyP aa;co_applyP oy rfl aj;co_applyP oy rfl aj;co_applyP oy rfl (sZ Tryz.underlying91 bI);have ecut : cutAt 0 (((l1.filter fun c => !test c).length : Nat) : Int).toNat (l1.length + junk.length) 1 = (l1.filter fun c => !test c).length := by unfold cutAt; split <;> omega
 have ecut0 : cutAt 0 0 (l1.length + junk.length) 1 = 0 := by unfold cutAt; split <;> omega
 have en : l1.length - (((l1.filter fun c => !test c).length : Nat) : Int).toNat = mid.length := by omega
 rw [ecut, en];co_applyP oeN rfl (fun hnd => s8 (hnd := hnd) (hu := Tryz.underlying91) (hz0 := hY) (hzp := rfl) (hm := hQ') (ho := by simp));rintro _ L3 ⟨rfl, hU⟩;co_applyP ah;change wpE ..;co_applyP ae;co_applyP aa;co_applyP oy rfl aj;co_applyP oy rfl aj;co_applyP oy rfl (sY Tryz.underlying91 bI);co_applyP oy rfl ak;co_applyP ah;change wpE ..;co_applyP aJ;change ∃ v, resE .. = some v ∧ _;have e1 := yj ((l1.filter fun c => !test c).map ptr) mid junk (.pointer none);rw [List.length_map] at e1;refine ⟨_, rfl, rfl, List.replicate mid.length (.pointer none) ++ junk, by rw [ecut0]; rfl, hE.trans hU.q, ?_, by simp; omega⟩;have := hU.self;exact (e1 ▸ this)
end Go.Proofs.YtejkelcaljmnoaaGreatDoor
