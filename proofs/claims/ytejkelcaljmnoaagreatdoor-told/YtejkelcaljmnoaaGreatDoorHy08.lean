/-
  Part 8 of the proof.
  No condition but those that each statement names.
-/
import Derived.Test.YtejkelcaljmnoaaGreatDoorHy07
set_option maxRecDepth 100000
set_option linter.unusedVariables false
set_option linter.unusedSimpArgs false
set_option linter.unusedSectionVars false
namespace Go.Proofs.YtejkelcaljmnoaaGreatDoor
open Go.Conc Go.Hx Go.Lo
abbrev Wt := List ((Nat × Nat) × List Nat)
def entsOf (A : Lay) (l : Wt) (bs : List Nat) : Ents := (l.zip bs).map fun e => (e.1.1, slv (A.a (slot e.1.1)) e.1.2.length, e.2)
theorem ct (A : Lay) (S : St) : wobj A S = mapO (entsOf A S.wt A.born) A.clock := by
 unfold wobj mapO entsOf;rw [List.map_map]; rfl
theorem ci (A : Lay) {l1 l2 : Wt} {b1 b2 : List Nat} (h : l1.length = b1.length) : entsOf A (l1 ++ l2) (b1 ++ b2) = entsOf A l1 b1 ++ entsOf A l2 b2 := by
 unfold entsOf; rw [List.zip_append h, List.map_append]
theorem dG (A : Lay) {l : Wt} {b : List Nat} (h : l.length = b.length) : (entsOf A l b).length = l.length := by
 unfold entsOf; simp [h]
theorem ju {k : Nat × Nat} : ∀ {l m : Ents} {i : Nat}, (∀ e ∈ l, e.1 ≠ k) → lk k (l ++ m) i = lk k m (i + l.length)
 | [], m, i, _ => rfl
 | e :: l, m, i, h => by
   have h1 := h e List.mem_cons_self;simp only [List.cons_append, lk, if_neg (Ne.symm h1), List.length_cons];rw [ju fun e he => h e (List.mem_cons_of_mem _ he)];congr 1; omega
theorem ig {k : Nat × Nat} {l : Ents} {i : Nat} (h : ∀ e ∈ l, e.1 ≠ k) : lk k l i = none := by
 have := ju (m := []) (i := i) h;rw [List.append_nil] at this;rw [this]; rfl
theorem dH {A : Lay} {l : Wt} {bs : List Nat} {k : Nat × Nat} (h : ∀ e ∈ l, e.1 ≠ k) : ∀ e ∈ entsOf A l bs, e.1 ≠ k := by
 intro e he;unfold entsOf at he;obtain ⟨p, hp, rfl⟩ := List.mem_map.1 he;exact h _ (List.of_mem_zip hp).1
theorem dU {A A' : Lay} {l : Wt} {bs : List Nat} (h : ∀ e ∈ l, A'.a (slot e.1) = A.a (slot e.1)) : entsOf A' l bs = entsOf A l bs := by
 unfold entsOf;apply List.map_congr_left;intro e he;rw [h _ (List.of_mem_zip he).1]
def okKey (k : Nat × Nat) : Prop := k.2 < 10
theorem j1 {k k' : Nat × Nat} (h : okKey k) (h' : okKey k') (e : slot k = slot k') : k = k' := by
 unfold slot at e; unfold okKey at h h';exact Prod.ext (by omega) (by omega)
def Lay.setW (A : Lay) (k : Nat × Nat) (a' : Sl) (born : List Nat) (clock : Nat) : Lay := { A with a := put A.a (slot k) a', born := born, clock := clock }
def St.setW (S : St) (wt : Wt) : St := { S with wt := wt }
structure WLay (A A' : Lay) : Prop where
 a : ∀ i, i < 100 → A'.a i = A.a i
 y : A'.y = A.y
 w : A'.wt = A.wt
 g : A'.g = A.g ∧ A'.gcap = A.gcap ∧ A'.gc = A.gc
theorem WLay.refl (A : Lay) : WLay A A := ⟨fun _ _ => rfl, rfl, rfl, ⟨rfl, rfl, rfl⟩⟩
theorem WLay.set (A : Lay) (k : Nat × Nat) (a' : Sl) (born : List Nat) (clock : Nat) : WLay A (A.setW k a' born clock) := ⟨fun i hi => by simp [Lay.setW, put]; intro e; unfold slot at e; omega, rfl, rfl, ⟨rfl, rfl, rfl⟩⟩
section
variable {K : Nat} {A : Lay} {S : St} {F L L' : Frag}
theorem Rep.setWait (h : Rep K A S F L) {k : Nat × Nat} {a' : Sl} {wt' : Wt} {born' : List Nat} {clock' : Nat} (hf : Fun L') (hs : ∀ t ∈ L, t.1 ≠ A.wt → (A.a (slot k)).b ≠ some t.1 → t ∈ L') (hw : (A.wt, true, mapO (entsOf (A.setW k a' born' clock') wt' born') clock') ∈ L') (hl : born'.length = wt'.length) (hbn : born'.Nodup) (hbc : ∀ x ∈ born', x < clock')
   (ha : ∀ e ∈ wt', (e.1 = k ∧ slOk a' (e.2.map ptr) 93 L') ∨ (e ∈ S.wt ∧ slot e.1 ≠ slot k)) (hal : ∀ b, a'.b = some b → ∃ xs, (b, true, Obj.cells xs 93) ∈ L')
   (hd : ∀ b, a'.b = some b → (A.a (slot k)).b = some b ∨ ((∀ i, (A.a i).b ≠ some b) ∧ ∀ t ∈ F, t.1 ≠ b)) : Rep K (A.setW k a' born' clock') (S.setW wt') F L' := by
 have ty : ∀ {b : Nat} {fl : Bool} {o : Obj}, (b, fl, o) ∈ L → (∀ c, o ≠ Obj.cells c 93) → (A.a (slot k)).b ≠ some b := fun hm ho hb => by
   obtain ⟨xs, hx⟩ := h.al _ _ hb;exact ho _ (h.fn _ _ _ _ _ hm hx).2
 have arr : ∀ (a : Sl) (xs : List Value) (e : TypeId), (∀ b, a.b = some b → (A.a (slot k)).b ≠ some b) → slOk a xs e L → slOk a xs e L' := fun a xs e hne ha => by
   refine ha.mono fun c hc o ho => hs _ ho ?_ (hne c hc);exact h.fn.ne (ha.mem hc) h.w (by simp [wobj])
 have hdn : ∀ i, i ≠ slot k → ∀ b, (A.a i).b = some b → (A.a (slot k)).b ≠ some b := fun i hi b hb e => h.d i (slot k) hi (by rw [hb]; simp) (by rw [hb, e]);have pA : ∀ i, i ≠ slot k → (A.setW k a' born' clock').a i = A.a i := fun i hi => by simp [Lay.setW, put, hi]
 have pS : (A.setW k a' born' clock').a (slot k) = a' := by simp [Lay.setW, put]
 have low : ∀ i, i < 100 → i ≠ slot k := fun i hi e => by unfold slot at e; omega
 have ek : kcells (kst (A.setW k a' born' clock') (S.setW wt')) = kcells (kst A S) := by
   unfold kcells kst;simp only [pA 0 (low 0 (by omega)), pA (0 + 1) (low _ (by omega)), pA (1 + 1) (low _ (by omega)), pA (2 + 1) (low _ (by omega))];rfl
 exact { h with
   fn := hf
   k := by unfold kb; rw [ek]; exact hs _ h.k (h.fn.ne h.k h.w (by simp [wobj])) (ty h.k fun c => aF (by decide))
   g := hs _ h.g (h.fn.ne h.g h.w (by simp [wobj])) (ty h.g fun c => aF (by decide))
   p := fun q hq => hs _ (h.p q hq) (h.fn.ne (h.p q hq) h.w (by simp [wobj])) (ty (h.p q hq) fun c => aF (by decide))
   pa := by rw [pA 0 (low 0 (by omega))]; exact arr _ _ _ (hdn 0 (low 0 (by omega))) h.pa
   rw := fun l hl => by rw [pA _ (low _ (by omega))]; exact arr _ _ _ (hdn _ (low _ (by omega))) (h.rw l hl)
   ya := fun i hi => arr _ _ _ (fun b hb => ty ((h.ya i hi).mem hb) fun c => aF (by decide)) (h.ya i hi)
   w := by rw [ct]; exact hw
   wl := hl
   bn := hbn
   bc := hbc
   wa := fun e he => by
     rcases ha e he with ⟨h1, h2⟩ | ⟨h1, h2⟩
     · rw [h1, pS]; exact h2
     · rw [pA _ h2]; exact arr _ _ _ (hdn _ h2) (h.wa e h1)
   al := fun i c hc => by
     by_cases ei : i = slot k
     · subst ei; rw [pS] at hc; exact hal c hc
     · rw [pA i ei] at hc;obtain ⟨xs, hx⟩ := h.al i c hc;exact ⟨xs, hs _ hx (h.fn.ne hx h.w (by simp [wobj])) (hdn i ei c hc)⟩
   yl := fun i c hc => by
     obtain ⟨xs, hx⟩ := h.yl i c hc;exact ⟨xs, hs _ hx (h.fn.ne hx h.w (by simp [wobj])) (ty hx fun c => aF (by decide))⟩
   d := fun i j hij hi => by
     by_cases ei : i = slot k
     · subst ei;rw [pA j (Ne.symm hij), pS];rw [pS] at hi;intro e;cases hb : a'.b with
       | none => exact hi hb
       | some b =>
         rcases hd b hb with h1 | h1
         · exact h.d (slot k) j hij (by rw [h1]; simp) (by rw [h1, ← e, hb])
         · exact h1.1 j (by rw [← e, hb])
     · rw [pA i ei];rw [pA i ei] at hi;by_cases ej : j = slot k
       · subst ej;rw [pS];intro e;cases hb : a'.b with
         | none => rw [hb] at e; exact hi e
         | some b =>
           rcases hd b hb with h1 | h1
           · exact h.d i (slot k) ei hi (by rw [h1, e, hb])
           · exact h1.1 i (by rw [e, hb])
       · rw [pA j ej]; exact h.d i j hij hi
   fr := fun t ht => hs _ (h.fr t ht) (h.fd t ht).2.2.2.2 ((h.fd t ht).2.2.1 _)
   fd := fun t ht => by
     refine ⟨(h.fd t ht).1, (h.fd t ht).2.1, fun i => ?_, (h.fd t ht).2.2.2⟩;by_cases ei : i = slot k
     · subst ei;rw [pS];intro e;rcases hd _ e with h1 | h1
       · exact (h.fd t ht).2.2.1 _ h1
       · exact h1.2 t ht rfl
     · rw [pA i ei]; exact (h.fd t ht).2.2.1 i }
end
structure WGood (S : St) : Prop where
 kn : (S.wt.map (·.1)).Nodup
 kk : ∀ e ∈ S.wt, okKey e.1
 rl : ∀ e ∈ S.wt, e.2.length ≤ 8
 ne : ∀ e ∈ S.wt, e.2 ≠ []
 rm : ∀ e ∈ S.wt, ∀ c ∈ e.2, ∃ y, (c, y) ∈ S.ps
def departW (b : Nat) (k : Nat × Nat) (l : Wt) : Wt := l.filterMap fun e => if e.1 = k then (if (e.2.filter fun c => !decide (c = b)).length = 0 then none else some (k, e.2.filter fun c => !decide (c = b))) else some e
def St.depart (S : St) (b : Nat) (k : Nat × Nat) : St := S.setW (departW b k S.wt)
theorem dV {b : Nat} {k : Nat × Nat} {l : Wt} (h : ∀ e ∈ l, e.1 ≠ k) : departW b k l = l := by
 unfold departW
 induction l with
 | nil => rfl
 | cons e l ih =>
   rw [List.filterMap_cons_some (by rw [if_neg (h e List.mem_cons_self)])];rw [ih fun e he => h e (List.mem_cons_of_mem _ he)]
theorem j2 {b : Nat} {k : Nat × Nat} {l1 l2 : Wt} {xs : List Nat} (h1 : ∀ e ∈ l1, e.1 ≠ k) (h2 : ∀ e ∈ l2, e.1 ≠ k) : departW b k (l1 ++ (k, xs) :: l2) = l1 ++ ((if (xs.filter fun c => !decide (c = b)).length = 0 then [] else [(k, xs.filter fun c => !decide (c = b))]) ++ l2) := by
 have e1 := dV (b := b) h1;have e2 := dV (b := b) h2;unfold departW at *;rw [List.filterMap_append, e1, List.filterMap_cons, if_pos rfl]
 split
 · rename_i h; split at h
   · rw [if_pos ‹_›, e2]; rfl
   · cases h
 · rename_i h; split at h
   · cases h
   · rw [if_neg ‹_›, e2]; simp at h; rw [← h]; rfl
theorem cu {l : Wt} {k : Nat × Nat} (hn : (l.map (·.1)).Nodup) (h : k ∈ l.map (·.1)) : ∃ l1 xs l2, l = l1 ++ (k, xs) :: l2 ∧ (∀ e ∈ l1, e.1 ≠ k) ∧ ∀ e ∈ l2, e.1 ≠ k := by
 obtain ⟨⟨k', xs⟩, he, rfl⟩ := List.mem_map.1 h;obtain ⟨l1, l2, rfl⟩ := List.append_of_mem he;rw [List.map_append, List.map_cons] at hn;obtain ⟨h1, h2, h3⟩ := List.nodup_append.1 hn;refine ⟨l1, xs, l2, rfl, fun e he e1 => ?_, fun e he e1 => ?_⟩
 · exact h3 e.1 (List.mem_map.2 ⟨e, he, rfl⟩) k' (by simp) e1
 · exact (List.nodup_cons.1 h2).1 (List.mem_map.2 ⟨e, he, e1⟩)
theorem j3 {α : Type} (f : α → α) (e : α) (Y : List α) : ∀ (X : List α), (X ++ e :: Y).modify X.length f = X ++ f e :: Y
 | [] => by simp
 | x :: X => by simp [j3 f e Y X]
theorem ey : Key2 Tryz.prog 96 := by
 refine ⟨⟨_, _, Tryz.underlying96, ⟨by decide, rfl, aV, _, Tryz.underlying3⟩, ⟨by decide, rfl, aV, _, Tryz.underlying3⟩⟩, by kernel_rfl, fun e a b => by kernel_rfl⟩
theorem ii : zeroAt Tryz.prog 91 = some (.slice none 0 0) := by kernel_rfl
theorem upd_same {L L' : Frag} {b : Nat} {o : Obj} (hF : Fun L) (h : (b, true, o) ∈ L) (u : Upd L b o L') : Ext L L' := ⟨u.fn, fun t ht => by
 by_cases e : t.1 = b
 · obtain ⟨b', fl, o'⟩ := t;have e' : b' = b := e;subst e';obtain ⟨rfl, rfl⟩ := hF _ _ _ _ _ ht h;exact u.self
 · exact u.ne t ht e⟩
theorem jh : ∃ n, ∀ {σ : Type} {F : Fam σ} {Δ : ∀ s, Dom (F.R s) (F.D s)} {main : Bool} {s : σ} (L : Frag) (c b x : Nat) (cs cs' : Array Value) (ty ty' : TypeId), At L x 0 (ptr b) → (c, true, Obj.cells cs ty) ∈ L → (b, true, Obj.cells cs' ty') ∈ L →
   CallsL Δ Tryz.prog main 125 [ptr c, ptr x].toArray n s L (fun s' v L' => s = s' ∧ v = .bool (decide (c = b)) ∧ Ext L L') := by
 apply Exists.intro;intro σ F Δ main s L c b x cs cs' ty ty' hx hc hb;co_applyP aB 7 Tryz.func125 Tryz.ntmps125;co_applyP gV;intro hF;co_applyP ae;co_applyP aa;co_applyP oy rfl ak;co_applyP ah;change wpE ..;co_applyP ae;co_applyP aa;co_applyP oy rfl aj;co_applyP oy rfl (aC (ht := c9));co_applyP oy rfl (xf hc hb (hu := Tryz.underlying93) (hs := xh));co_applyP oy rfl ak;co_applyP ah;change wpE ..;co_applyP aJ;change ∃ v, resE .. = some v ∧ _;exact ⟨_, rfl, rfl, by simp, hF, fun _ h => h⟩
theorem mb : ∃ n, ∀ {σ : Type} {F : Fam σ} {Δ : ∀ s, Dom (F.R s) (F.D s)} {main : Bool} {s : σ} (L0 : Frag) (f : FuncId) (gf : Func) (c1 c2 : List Value), Tryz.prog.funcs[f]? = some gf → (gf.name == "runtime.NumGoroutine") = false → gf.body.isNone = false →
   CallsL Δ Tryz.prog main 124 [.slice none 0 0, .func (.func f) c1.toArray c2.toArray].toArray n s L0 (fun s' v L' => s = s' ∧ v = .slice none 0 0 ∧ Ext L0 L') := by
 obtain ⟨n1, g1⟩ := eC 0;apply Exists.intro;intro σ F Δ main s L0 f gf c1 c2 hf hname hb;co_applyP aB 42 Tryz.func124 Tryz.ntmps124;co_applyP ae;co_applyP aa;co_applyP oy rfl ak;co_applyP ah;change wpE ..;co_applyP ae;co_applyP aa;co_applyP oy rfl aj;co_applyP oy rfl aj;co_applyP oc rfl rfl rfl (g1 L0 f gf c1 c2 [] (fun _ => false) none 0 (fun i v hv => by simp at hv) (by simp) hf hname hb (fun c hcx => by simp at hcx));rintro _ _ _ ⟨rfl, rfl, hE1⟩;co_applyP oy rfl ak;co_applyP ah;change wpE ..;co_applyP ae (n₂ := 0);co_applyP ae;co_applyP aa;co_applyP oy rfl aj;co_applyP oy rfl ay;co_applyP ah;change wpE ..;co_applyP aW rfl;co_applyP ae;co_applyP aa;co_applyP oy rfl aj;co_applyP oy rfl ak;co_applyP ah;change wpE ..;co_applyP aJ;change ∃ v, resE .. = some v ∧ _;exact ⟨_, rfl, rfl, rfl, hE1⟩
theorem tM : ∃ n, ∀ {σ : Type} {F : Fam σ} {Δ : ∀ s, Dom (F.R s) (F.D s)} {main : Bool} {s : σ} (K : Nat) (A : Lay) (S : St) (Fr L : Frag) (b : Nat) (k : Nat × Nat), (∀ cs, (Δ s).New (.cells cs 93)) → (∀ cs, (Δ s).New (.cells cs 96)) → Rep K A S Fr L → (∀ e ∈ S.wt, e.1 ≠ k) →
   CallsL Δ Tryz.prog main 105 [ptr K, ptr b, keyv k].toArray n s L (fun s' v L' => s = s' ∧ v = .tuple #[] ∧ Rep K A S Fr L') := by
 obtain ⟨n1, g1⟩ := mb;apply Exists.intro;intro σ F Δ main s K A S Fr L b k hN hN2 hR hk;co_applyP aB 29 Tryz.func105 Tryz.ntmps105;co_applyP ae;co_applyP aa;co_applyP bN rfl (bV (hN _));intro xb L1 hA1;co_applyP bN rfl (bV (hN2 _));intro xk L2 hA2;have hR2 := (hR.add hA1).add hA2;have hkx : At L2 K 15 (.map (some A.wt)) := hR2.kat rfl;have hw2 := hR2.w;rw [ct] at hw2;have hkey := dH (A := A) (bs := A.born) hk;co_applyP ah;change wpE ..;co_applyP ae;co_applyP bm [] 7 aZ;co_applyP tr (i := 0) rfl aj (ai (by simp));co_applyP tr (i := 1) rfl aL (ai (by simp));co_applyP tr (i := 2) rfl (av (hf := cr)) (ai (by simp));co_applyP t0 (i := 3) rfl (aC (ht := dD)) (ai (by simp));co_applyP tr (i := 6) rfl lS (ai (by simp));co_applyP t0 (i := 4) rfl (a8 (ht := bJ) (hs := bi) (hm := hA2.self) (hi := Nat.le_refl _)) (ai (by simp));co_applyP t0 (i := 5) rfl (nq (k := k) ey Tryz.underlying110 ii hw2) (ai (by simp));rw [ig hkey];co_applyP tc (i := 7) rfl rfl rfl (g1 L2 125 _ [] [ptr xb] Tryz.func125 rfl rfl);rintro _ _ _ ⟨rfl, rfl, hE⟩;refine ⟨aE (by simp), ?_⟩;rename_i L3;have hR3 := hR2.ext hE;have hkx3 := hE.at hkx;have hw3 := hE.s _ hw2;have hk3 := hE.s _ hA2.self;co_applyP to (i := 8) rfl (ak) (aE (by simp));co_applyP td (by kernel_rfl);change wpE ..;co_applyP ae (n₂ := 0);co_applyP ae;co_applyP aa;co_applyP oy rfl aj;co_applyP oy rfl (bz (hu := Tryz.underlying91));co_applyP oy rfl ay;co_applyP ah;change wpE ..;co_applyP aW rfl;co_applyP ae;co_applyP bm [] 5 (nf := 0) aZ;co_applyP tr (i := 0) rfl aj (ai (by simp));co_applyP tr (i := 1) rfl aL (ai (by simp));co_applyP tr (i := 2) rfl (av (hf := cr)) (ai (by simp));co_applyP t0 (i := 3) rfl (aC (ht := dD)) (ai (by simp));co_applyP t0 (i := 4) rfl (a8 (ht := bJ) (hs := bi) (hm := hk3) (hi := Nat.le_refl _)) (ai (by simp));co_applyP ba;intro hnd;co_applyP te (i := 5) rfl (xu (k := k) hnd ey Tryz.underlying110 hw3);rintro _ _ ⟨rfl, hU⟩;refine ⟨aE (by simp), ?_⟩;co_applyP td (by kernel_rfl);change wpE ..;co_applyP aJ;change ∃ v, resE .. = some v ∧ _;have hd : dlk k (entsOf A S.wt A.born) = entsOf A S.wt A.born := by unfold dlk; rw [ig hkey]
 rw [hd] at hU;exact ⟨_, rfl, rfl, rfl, hR3.ext (upd_same hR3.fn hw3 hU)⟩
theorem tN : ∃ n, ∀ {σ : Type} {F : Fam σ} {Δ : ∀ s, Dom (F.R s) (F.D s)} {main : Bool} {s : σ} (K : Nat) (A : Lay) (S : St) (Fr L : Frag) (b : Nat) (x : PS) (k : Nat × Nat) (l1 l2 : Wt) (xs : List Nat), (∀ cs, (Δ s).New (.cells cs 93)) → (∀ cs, (Δ s).New (.cells cs 96)) → Rep K A S Fr L → WGood S → (b, x) ∈ S.ps → S.wt = l1 ++ (k, xs) :: l2 → (∀ e ∈ l1, e.1 ≠ k) → (∀ e ∈ l2, e.1 ≠ k) →
   CallsL Δ Tryz.prog main 105 [ptr K, ptr b, keyv k].toArray n s L (fun s' v L' => s = s' ∧ v = .tuple #[] ∧ ∃ A', WLay A A' ∧ Rep K A' (S.depart b k) Fr L') := by
 obtain ⟨n0, g0⟩ := jh;obtain ⟨n1, g1⟩ := ma n0;apply Exists.intro;intro σ F Δ main s K A S Fr L b x k l1 l2 xs hN hN2 hR hW hb hwt hl1 hl2;have hin : (k, xs) ∈ S.wt := by rw [hwt]; simp
 have hkk : okKey k := hW.kk _ hin;have hslot : ∀ e ∈ S.wt, e.1 ≠ k → slot e.1 ≠ slot k := fun e he hne h => hne (j1 (hW.kk e he) hkk h);obtain ⟨b1, c0, b2, hborn, hbl⟩ : ∃ b1 c0 b2, A.born = b1 ++ c0 :: b2 ∧ l1.length = b1.length := by
   have hl := hR.wl;rw [hwt] at hl;simp at hl;refine ⟨A.born.take l1.length, A.born[l1.length]'(by omega), A.born.drop (l1.length + 1), by simp, by simp; omega⟩
 have hbl2 : l2.length = b2.length := by
   have hl := hR.wl;rw [hwt, hborn] at hl;simp at hl;omega
 have hents : entsOf A S.wt A.born = entsOf A l1 b1 ++ (k, slv (A.a (slot k)) xs.length, c0) :: entsOf A l2 b2 := by
   rw [hwt, hborn, ci A hbl]; rfl
 have hlk : lk k (entsOf A S.wt A.born) 0 = some (l1.length, slv (A.a (slot k)) xs.length) := by
   rw [hents, ju (dH hl1), dG A hbl];simp [lk]
 obtain ⟨Q, hQ⟩ : ∃ Q, (A.a (slot k)).b = some Q := by
   cases h : (A.a (slot k)).b with
   | some Q => exact ⟨Q, rfl⟩
   | none =>
     have := hR.wa _ hin;unfold slOk at this;rw [h] at this;have h2 := hW.ne _ hin;simp at this;exact absurd this.1 h2
 have hslv : slv (A.a (slot k)) xs.length = .slice (some ⟨Q, 0, none⟩) xs.length (xs.length + (A.a (slot k)).junk.length) := by unfold slv; rw [hQ]
 rw [hslv] at hlk;co_applyP aB 29 Tryz.func105 Tryz.ntmps105;co_applyP ae;co_applyP aa;co_applyP bN rfl (bV (hN _));intro xb L1 hA1;co_applyP bN rfl (bV (hN2 _));intro xk L2 hA2;have hR2 := (hR.add hA1).add hA2;have hkx : At L2 K 15 (.map (some A.wt)) := hR2.kat rfl;have hw2 := hR2.w;rw [ct] at hw2;have hQ2 := (hR2.wa _ hin).mem hQ;have hxb : (xb, true, Obj.cells #[ptr b] 93) ∈ L2 := hA2.sub _ hA1.self;have hQ1 : (Q, true, Obj.cells (xs.map ptr ++ (A.a (slot k)).junk).toArray 93) ∈ L1 := ((hR.add hA1).wa _ hin).mem hQ;have hxQ : xb ≠ Q := fun e => hA1.new _ ((hR.wa _ hin).mem hQ) e.symm;have hkQ : xk ≠ Q := fun e => hA2.new _ hQ1 e.symm;have pne : ∀ c y, (c, y) ∈ S.ps → c ≠ Q := fun c y hc => hR2.fn.ne (hR2.p _ hc) hQ2 (aF (by decide));have hKQ : K ≠ Q := hR2.fn.ne hR2.k hQ2 (aF (by decide));have hwQ : A.wt ≠ Q := hR2.fn.ne hw2 hQ2 (by simp [mapO]);co_applyP ah;change wpE ..;co_applyP ae;co_applyP bm [] 7 aZ;co_applyP tr (i := 0) rfl aj (ai (by simp));co_applyP tr (i := 1) rfl aL (ai (by simp));co_applyP tr (i := 2) rfl (av (hf := cr)) (ai (by simp));co_applyP t0 (i := 3) rfl (aC (ht := dD)) (ai (by simp));co_applyP tr (i := 6) rfl lS (ai (by simp));co_applyP t0 (i := 4) rfl (a8 (ht := bJ) (hs := bi) (hm := hA2.self) (hi := Nat.le_refl _)) (ai (by simp));co_applyP t0 (i := 5) rfl (nq (k := k) ey Tryz.underlying110 ii hw2) (ai (by simp));rw [hlk];co_applyP tc (i := 7) rfl rfl rfl (g1 L2 125 _ [] [ptr xb] xs (fun c => decide (c = b)) Q (A.a (slot k)).junk hQ2 (hW.rl _ hin) Tryz.func125 rfl rfl (fun c hc L hE => by obtain ⟨y, hy⟩ := hW.rm _ hin c hc; exact g0 L c b xb _ _ _ _ ⟨true, _, _, _, hE.s _ hxb hxQ, rfl⟩ (hE.s _ (hR2.p _ hy) (pne _ _ hy)) (hE.s _ (hR2.p _ hb) (pne _ _ hb))));rintro _ _ _ ⟨rfl, jk, rfl, hE, hQ3, hjk⟩;refine ⟨aE (by simp), ?_⟩;rename_i L3;have hk3 := hE.s _ hA2.self hkQ;have hw3 := hE.s _ hw2 hwQ;have hkx3 : At L3 K 15 (.map (some A.wt)) := ⟨true, _, _, _, hE.s _ hR2.k hKQ, rfl⟩;have hdep : S.depart b k = S.setW (l1 ++ ((if (xs.filter fun c => !decide (c = b)).length = 0 then [] else [(k, xs.filter fun c => !decide (c = b))]) ++ l2)) := by unfold St.depart; rw [hwt, j2 hl1 hl2]
 have hAs : ∀ (a' : Sl) (bo : List Nat) (cl : Nat) (l : Wt) (bs : List Nat), (∀ e ∈ l, e ∈ S.wt ∧ e.1 ≠ k) → entsOf (A.setW k a' bo cl) l bs = entsOf A l bs := fun a' bo cl l bs h => dU fun e he => by
   have := hslot e (h e he).1 (h e he).2;simp [Lay.setW, put, this]
 have hi1 : ∀ e ∈ l1, e ∈ S.wt ∧ e.1 ≠ k := fun e he => ⟨by rw [hwt]; simp [he], hl1 e he⟩;have hi2 : ∀ e ∈ l2, e ∈ S.wt ∧ e.1 ≠ k := fun e he => ⟨by rw [hwt]; simp [he], hl2 e he⟩;co_applyP to (i := 8) rfl (ak) (aE (by simp));co_applyP td (by kernel_rfl);change wpE ..;co_applyP ae;co_applyP ae;co_applyP aa;co_applyP oy rfl aj;co_applyP oy rfl (bz (hu := Tryz.underlying91));co_applyP oy rfl ay;co_applyP ah;change wpE ..;co_applyP bl rfl;intro hc;co_applyP ae
 · have hz : (xs.filter fun c => !decide (c = b)).length = 0 := by simpa using hc
   co_applyP bm [] 5 (nf := 0) aZ;co_applyP tr (i := 0) rfl aj (ai (by simp));co_applyP tr (i := 1) rfl aL (ai (by simp));co_applyP tr (i := 2) rfl (av (hf := cr)) (ai (by simp));co_applyP t0 (i := 3) rfl (aC (ht := dD)) (ai (by simp));co_applyP t0 (i := 4) rfl (a8 (ht := bJ) (hs := bi) (hm := hk3) (hi := Nat.le_refl _)) (ai (by simp));co_applyP ba;intro hnd;co_applyP te (i := 5) rfl (xu (k := k) hnd ey Tryz.underlying110 hw3);rintro _ _ ⟨rfl, hU⟩;refine ⟨aE (by simp), ?_⟩;co_applyP td (by kernel_rfl);change wpE ..;co_applyP aJ;change ∃ v, resE .. = some v ∧ _;have hd : dlk k (entsOf A S.wt A.born) = entsOf A (l1 ++ l2) (b1 ++ b2) := by
     unfold dlk; rw [hlk, hents, ci A hbl];simp only;rw [List.eraseIdx_append_of_length_le (by rw [dG A hbl]; omega), dG A hbl];simp
   rw [hd] at hU;refine ⟨_, rfl, rfl, rfl, A.setW k ⟨none, []⟩ (b1 ++ b2) A.clock, WLay.set A k _ _ _, ?_⟩;rw [hdep, if_pos hz, List.nil_append];have hbs : (b1 ++ b2).Sublist A.born := by rw [hborn]; exact List.Sublist.append (List.Sublist.refl _) (List.sublist_cons_self _ _)
   refine hR2.setWait hU.fn (fun t ht h1 h2 => hU.ne _ (hE.s _ ht (fun e => h2 (by rw [hQ, e]))) h1) ?_ (by simp; omega) (hR.bn.sublist hbs) (fun x hx => hR.bc x (hbs.subset hx)) ?_ (fun b hb => by cases hb) (fun b hb => by cases hb)
   · rw [hAs _ _ _ _ _ (fun e he => (List.mem_append.1 he).elim (hi1 e) (hi2 e))];exact hU.self
   · intro e he;have := (List.mem_append.1 he).elim (hi1 e) (hi2 e);exact .inr ⟨this.1, hslot e this.1 this.2⟩
 intro hc;co_applyP aA;change wpE ..;have hz : ¬ (xs.filter fun c => !decide (c = b)).length = 0 := by simpa using hc
 co_applyP bm [] 6 (nf := 0) aZ;co_applyP tr (i := 0) rfl aj (ai (by simp));co_applyP tr (i := 1) rfl aL (ai (by simp));co_applyP tr (i := 2) rfl (av (hf := cr)) (ai (by simp));co_applyP t0 (i := 3) rfl (aC (ht := dD)) (ai (by simp));co_applyP tr (i := 5) rfl aj (ai (by simp));co_applyP t0 (i := 4) rfl (a8 (ht := bJ) (hs := bi) (hm := hk3) (hi := Nat.le_refl _)) (ai (by simp));co_applyP ba;intro hnd;co_applyP te (i := 6) rfl (AM (k := k) hnd ey Tryz.underlying110 hw3);rintro _ _ ⟨rfl, hU⟩;refine ⟨aE (by simp), ?_⟩;co_applyP td (by kernel_rfl);change ∃ v, resE .. = some v ∧ _;have hnew : upk k (.slice (some ⟨Q, 0, none⟩) (xs.filter fun c => !decide (c = b)).length (xs.length + (A.a (slot k)).junk.length)) (entsOf A S.wt A.born) A.clock = mapO (entsOf (A.setW k ⟨some Q, jk⟩ A.born A.clock) (l1 ++ (k, xs.filter fun c => !decide (c = b)) :: l2) A.born) A.clock := by
   unfold upk; rw [hlk, hents, hborn, ci _ hbl];simp only;congr 1;rw [← dG A hbl, j3, hAs _ _ _ _ _ hi1];congr 1;show _ = (k, slv ((A.setW k ⟨some Q, jk⟩ (b1 ++ c0 :: b2) A.clock).a (slot k)) _, c0) :: entsOf (A.setW k ⟨some Q, jk⟩ (b1 ++ c0 :: b2) A.clock) l2 b2;rw [hAs _ _ _ _ _ hi2];have e1 : (A.setW k ⟨some Q, jk⟩ (b1 ++ c0 :: b2) A.clock).a (slot k) = ⟨some Q, jk⟩ := by simp [Lay.setW, put]
   rw [e1];unfold slv;simp only;rw [hjk]
 rw [hnew] at hU;refine ⟨_, rfl, rfl, rfl, A.setW k ⟨some Q, jk⟩ A.born A.clock, WLay.set A k _ _ _, ?_⟩;rw [hdep, if_neg hz, List.singleton_append];refine hR2.setWait hU.fn (fun t ht h1 h2 => hU.ne _ (hE.s _ ht (fun e => h2 (by rw [hQ, e]))) h1) hU.self (by rw [hR.wl, hwt]; simp) hR.bn hR.bc ?_ (fun b hb => ?_) (fun b hb => .inl (by rw [hQ]; exact hb))
 · intro e he;rcases List.mem_append.1 he with h | h
   · exact .inr ⟨(hi1 e h).1, hslot e (hi1 e h).1 (hi1 e h).2⟩
   · rcases List.mem_cons.1 h with rfl | h
     · exact .inl ⟨rfl, hU.ne _ hQ3 (Ne.symm hwQ)⟩
     · exact .inr ⟨(hi2 e h).1, hslot e (hi2 e h).1 (hi2 e h).2⟩
 · obtain rfl : Q = b := by simpa using hb
   exact ⟨_, hU.ne _ hQ3 (Ne.symm hwQ)⟩
end Go.Proofs.YtejkelcaljmnoaaGreatDoor
namespace Go.Lo
open Go.Conc Go.Hx
section
variable {P : Program} {New : Obj → Prop} {N : Nat} {ε : Env} {L : Frag} {d : Option Tmp} {ty : TypeId} {ps : String} {af : Array Edge} {g : Option (Nat × Bool)}
theorem zQ {t : TypeId} {x : Operand} {w v : Value} (hv : evR P (Instr.sliceAt t w none none none) [] = some (v, [])) (hx : ev ε x = some w := by rfl) : EY P N ε L ⟨d, .slice t x none none none, ty, ps, af, g⟩ v := fun a ha => by
 refine cG (fun _ => rfl) fun K hK => ?_;show wpQ P (Instr.sliceAt t (a.eval x) none none none) K L;rw [ha.ev hx];exact bd hv hK
theorem xv {t u : TypeId} {x y : Operand} {k k' : Nat × Nat} (H : Key2 P t) (hg : ∀ x y, evR P (eqGuard .eql t x y (kv k) (kv k')) [] = some ((), [])) (hx : ev ε x = some (kv k) := by rfl) (hy : ev ε y = some (kv k') := by rfl) : EY P N ε L ⟨d, .binOp .eql t x y u, ty, ps, af, g⟩ (.bool (decide (k = k'))) := fun a ha => by
 refine cG (fun _ => rfl) fun K hQ => ?_;rw [ha.ev hx, ha.ev hy, ax];refine bd (hg _ _) ?_;show wpQ P (do pure (.bool (← Op.equal t (kv k) (kv k')))) K L;rw [ax];exact lg H hQ
end
end Go.Lo
namespace Go.Proofs.YtejkelcaljmnoaaGreatDoor
open Go.Conc Go.Hx Go.Lo
theorem xw (k k' : Nat × Nat) (x y : Operand) : evR Tryz.prog (eqGuard .eql 96 x y (kv k) (kv k')) [] = some ((), []) := by kernel_rfl
theorem AN (b : Nat) : evR Tryz.prog (Instr.sliceAt 97 (.pointer (some ⟨b, 79, none⟩)) none none none) [] = some (.slice (some ⟨b, 79, none⟩) 6 6, []) := by kernel_rfl
def PS.idxE (x : PS) (k : Nat × Nat) : Int := match (List.range 6).findIdx? fun i => decide (k = x.f i) with
 | some i => i
 | none => -1
def PS.has (x : PS) (k : Nat × Nat) : Bool := (List.range 6).any fun i => decide (k = x.f i)
theorem tO (x : PS) (k : Nat × Nat) : decide (0 ≤ x.idxE k) = x.has k := by
 unfold PS.idxE PS.has;cases h : (List.range 6).findIdx? fun i => decide (k = x.f i) with
 | none =>
   have := List.findIdx?_eq_none_iff.1 h;rw [List.any_eq_false.2 fun i hi => by simpa using this i hi];rfl
 | some i =>
   obtain ⟨h1, h2, _⟩ := List.findIdx?_eq_some_iff_getElem.1 h;rw [List.any_eq_true.2 ⟨_, List.getElem_mem h1, h2⟩];simp
theorem tP : ∃ n, ∀ {σ : Type} {F : Fam σ} {Δ : ∀ s, Dom (F.R s) (F.D s)} {main : Bool} {s : σ} (L : Frag) (b : Nat) (x : PS) (k : Nat × Nat), (∀ cs, (Δ s).New (.cells cs 96)) → pb b x ∈ L →
   CallsL Δ Tryz.prog main 173 [.slice (some ⟨b, 79, none⟩) 6 6, keyv k].toArray n s L (fun s' v L' => s = s' ∧ v = .int .i64 (x.idxE k) ∧ Ext L L') := by
 apply Exists.intro;intro σ F Δ main s L b x k hN hb;co_applyP aB 19 Tryz.func173 Tryz.ntmps173;co_applyP ae;co_applyP aa;co_applyP bN rfl (bV (hN _));intro xk L1 hA;have hb1 := hA.sub _ hb;co_applyP oy rfl ak;co_applyP ah;change wpE ..;co_applyP ae;co_applyP ae;co_applyP aa;co_applyP oy rfl aj;co_applyP oy rfl (bz (hu := Tryz.underlying250));co_applyP oy rfl aj;co_applyP ah;change wpE ..;co_applyP aI;co_applyP bG (fun c s' ε' L' => s' = s ∧ L' = L1 ∧ ∃ i, i ≤ 6 ∧ (∀ j, j < i → k ≠ x.f j) ∧ c + i = 6 ∧ kn ε' [(8, .int .i64 (i : Nat)), (7, .int .i64 6), (0, .slice (some ⟨b, 79, none⟩) 6 6), (3, ptr xk)]) 6
 · exact ⟨rfl, rfl, 0, by omega, fun j hj => by omega, rfl, rfl⟩
 rintro c s' ε' L' ⟨rfl, rfl, i, hi, hn, hc, he⟩;co_applyP a6 he;co_applyP ae;co_applyP aa;co_applyP oy rfl bX;co_applyP ah;change wpE ..;co_applyP ae;co_applyP bl rfl;intro hlt
 · have hi6 : i < 6 := by simp at hlt; omega
   have ei : IntKind.i64.wrap ((i : Int) + 1) = ((i + 1 : Nat) : Int) := by simp [IntKind.wrap_i64]; omega
   have eo : 79 + i * 2 = 79 + 2 * i := by omega
   co_applyP aA;change wpE ..;co_applyP ae;co_applyP aI;co_applyP ae;co_applyP aa;co_applyP oy rfl aj;co_applyP oy rfl ak;co_applyP ah;change wpE ..;co_applyP ae;co_applyP bj aZ;co_applyP tr (i := 0) rfl (a8 (ht := bJ) (hs := bi) (hm := hA.self) (hi := Nat.le_refl _)) pI;co_applyP tr (i := 1) rfl aj pI;co_applyP tr (i := 2) rfl aj pI;co_applyP tr (i := 3) rfl (bv Tryz.underlying250 bi) pI;co_applyP tr (i := 4) rfl (a8 (ht := bJ) (hs := bi) (hm := hb1) (hi := by rw [bg]; omega)) pI;rw [eo, oV x hi6];co_applyP tr (i := 5) rfl (xv (k := k) (k' := x.f i) ey (xw k (x.f i))) pI;co_applyP td (by kernel_rfl);change wpE ..;co_applyP bl rfl;intro ht;co_applyP ae;co_applyP aa;co_applyP oy rfl aj;co_applyP oy rfl ak;co_applyP ah;change wpE ..;co_applyP aJ;change ∃ v, resE .. = some v ∧ _
   · have ht' : k = x.f i := by simpa using ht
     have e1 : x.idxE k = i := by
       unfold PS.idxE;have : ((List.range 6).findIdx? fun i => decide (k = x.f i)) = some i := by
         rw [List.findIdx?_eq_some_iff_getElem];refine ⟨by simpa using hi6, by simpa using ht', fun j hj => by simpa using hn j hj⟩
       rw [this]
     exact ⟨_, rfl, rfl, by rw [e1], hA.fn, hA.sub⟩
   intro ht;co_applyP aA;change wpE ..;co_applyP aa;co_applyP oy rfl a7;co_applyP oy rfl aj;co_applyP ah;change ∃ k', k' < _ ∧ _;have ht' : ¬ k = x.f i := by simpa using ht
   refine ⟨c - 1, by omega, rfl, rfl, i + 1, by omega, fun j hj => ?_, by omega, by rw [← ei]; rfl⟩;by_cases e : j = i
   · rw [e]; exact ht'
   · exact hn j (by omega)
 intro hlt;co_applyP bL;change wpE ..;co_applyP ae;co_applyP aa;co_applyP oy rfl ak;co_applyP ah;change wpE ..;co_applyP aJ;change ∃ v, resE .. = some v ∧ _;have hi6 : i = 6 := by simp at hlt; omega
 subst hi6;have e1 : x.idxE k = -1 := by
   unfold PS.idxE;rw [List.findIdx?_eq_none_iff.2 fun j hj => by simpa using hn j (by simpa using hj)]
 exact ⟨_, rfl, rfl, by rw [e1], hA.fn, hA.sub⟩
theorem nr : ∃ n, ∀ {σ : Type} {F : Fam σ} {Δ : ∀ s, Dom (F.R s) (F.D s)} {main : Bool} {s : σ} (L : Frag) (b : Nat) (x : PS) (k : Nat × Nat), (∀ cs, (Δ s).New (.cells cs 96)) → pb b x ∈ L →
   CallsL Δ Tryz.prog main 168 [.slice (some ⟨b, 79, none⟩) 6 6, keyv k].toArray n s L (fun s' v L' => s = s' ∧ v = .bool (x.has k) ∧ Ext L L') := by
 obtain ⟨n1, g1⟩ := tP;apply Exists.intro;intro σ F Δ main s L b x k hN hb;co_applyP aB 9 Tryz.func168 Tryz.ntmps168;co_applyP ae;co_applyP aa;co_applyP bN rfl (bV (hN _));intro xk L1 hA;co_applyP oy rfl ak;co_applyP ah;change wpE ..;co_applyP ae;co_applyP aa;co_applyP oy rfl aj;co_applyP oy rfl (a8 (ht := bJ) (hs := bi) (hm := hA.self) (hi := Nat.le_refl _));co_applyP oc rfl rfl rfl (g1 L1 b x k hN (hA.sub _ hb));rintro _ _ _ ⟨rfl, rfl, hE⟩;co_applyP oy rfl d9;co_applyP oy rfl ak;co_applyP ah;change wpE ..;co_applyP aJ;change ∃ v, resE .. = some v ∧ _;exact ⟨_, rfl, rfl, by rw [← tO], Ext.trans ⟨hA.fn, hA.sub⟩ hE⟩
theorem kT : ∃ n, ∀ {σ : Type} {F : Fam σ} {Δ : ∀ s, Dom (F.R s) (F.D s)} {main : Bool} {s : σ} (L : Frag) (b xk : Nat) (x : PS) (k : Nat × Nat), (∀ cs, (Δ s).New (.cells cs 96)) → pb b x ∈ L → (xk, true, Obj.cells (keyv k).cells 96) ∈ L →
   CallsL Δ Tryz.prog main 167 [ptr b, ptr xk].toArray n s L (fun s' v L' => s = s' ∧ v = .bool (x.has k) ∧ Ext L L') := by
 obtain ⟨n1, g1⟩ := nr;apply Exists.intro;intro σ F Δ main s L b xk x k hN hb hk;co_applyP aB 10 Tryz.func167 Tryz.ntmps167;co_applyP ae;co_applyP aa;co_applyP oy rfl ak;co_applyP ah;change wpE ..;co_applyP ae;co_applyP bm [] 5 aZ;co_applyP tr (i := 0) rfl aj (ai (by simp));co_applyP tr (i := 1) rfl aL (ai (by simp));co_applyP tr (i := 2) rfl (av (hf := dT)) (ai (by simp));co_applyP tr (i := 3) rfl (zQ (AN b)) (ai (by simp));co_applyP t0 (i := 4) rfl (a8 (ht := bJ) (hs := bi) (hm := hk) (hi := Nat.le_refl _)) (ai (by simp));co_applyP tc (i := 5) rfl rfl rfl (g1 L b x k hN hb);rintro _ _ _ ⟨rfl, rfl, hE⟩;refine ⟨aE (by simp), ?_⟩;co_applyP to (i := 6) rfl (ak) (aE (by simp));co_applyP td (by kernel_rfl);change wpE ..;co_applyP aJ;change ∃ v, resE .. = some v ∧ _;exact ⟨_, rfl, rfl, rfl, hE⟩
theorem tQ (test : Nat → Bool) (xs : List Nat) : decide (0 ≤ idxF test xs) = xs.any test := by
 unfold idxF;cases h : xs.findIdx? test with
 | none =>
   have := List.findIdx?_eq_none_iff.1 h;rw [List.any_eq_false.2 fun i hi => by simpa using this i hi];rfl
 | some i =>
   obtain ⟨h1, h2, _⟩ := List.findIdx?_eq_some_iff_getElem.1 h;rw [List.any_eq_true.2 ⟨_, List.getElem_mem h1, h2⟩];simp
theorem dp (nf : Nat) : ∃ n, ∀ {σ : Type} {F : Fam σ} {Δ : ∀ s, Dom (F.R s) (F.D s)} {main : Bool} {s : σ} (L0 : Frag) (f : FuncId) (gf : Func) (c1 c2 : List Value) (xs : List Nat) (test : Nat → Bool) (base : Option Addr) (cap : Nat),
   (∀ i v, (xs.map ptr)[i]? = some v → ∃ b, base = some ⟨b, 0, none⟩ ∧ At L0 b i v) → xs.length ≤ 8 → Tryz.prog.funcs[f]? = some gf → (gf.name == "runtime.NumGoroutine") = false → gf.body.isNone = false →
   (∀ c ∈ xs, ∀ L, Ext L0 L → CallsL Δ Tryz.prog main f (c1 ++ [ptr c] ++ c2).toArray nf s L (fun s' v L' => s = s' ∧ v = .bool (test c) ∧ Ext L L')) →
   CallsL Δ Tryz.prog main 149 [.slice base xs.length cap, .func (.func f) c1.toArray c2.toArray].toArray n s L0 (fun s' v L' => s = s' ∧ v = .bool (xs.any test) ∧ Ext L0 L') := by
 obtain ⟨n1, g1⟩ := eC nf;apply Exists.intro;intro σ F Δ main s L0 f gf c1 c2 xs test base cap hat h8 hf hname hb hc;co_applyP aB 9 Tryz.func149 Tryz.ntmps149;co_applyP ae;co_applyP aa;co_applyP oy rfl ak;co_applyP ah;change wpE ..;co_applyP ae;co_applyP aa;co_applyP oy rfl aj;co_applyP oy rfl aj;co_applyP oc rfl rfl rfl (g1 L0 f gf c1 c2 xs test base cap hat h8 hf hname hb hc);rintro _ _ _ ⟨rfl, rfl, hE⟩;co_applyP oy rfl d9;co_applyP oy rfl ak;co_applyP ah;change wpE ..;co_applyP aJ;change ∃ v, resE .. = some v ∧ _;exact ⟨_, rfl, rfl, by rw [← tQ], hE⟩
def St.isOpen (S : St) (k : Nat × Nat) : Bool := S.ps.any fun q => q.2.has k
def St.testB (S : St) (p : PS → Bool) (c : Nat) : Bool := match S.get c with
 | some y => p y
 | none => false
theorem fP {S : St} (hn : (S.ps.map (·.1)).Nodup) (p : PS → Bool) : (S.ps.map (·.1)).any (S.testB p) = S.ps.any fun q => p q.2 := by
 rw [List.any_map];rw [Bool.eq_iff_iff, List.any_eq_true, List.any_eq_true];constructor
 · rintro ⟨q, hq, h⟩;refine ⟨q, hq, ?_⟩;simpa [Function.comp, St.testB, bt hn (b := q.1) (x := q.2) hq] using h
 · rintro ⟨q, hq, h⟩;refine ⟨q, hq, ?_⟩;simpa [Function.comp, St.testB, bt hn (b := q.1) (x := q.2) hq] using h
theorem ij : ∃ n, ∀ {σ : Type} {F : Fam σ} {Δ : ∀ s, Dom (F.R s) (F.D s)} {main : Bool} {s : σ} (K : Nat) (A : Lay) (S : St) (Fr L : Frag) (k : Nat × Nat), (∀ cs, (Δ s).New (.cells cs 96)) → Rep K A S Fr L →
   CallsL Δ Tryz.prog main 161 [ptr K, keyv k].toArray n s L (fun s' v L' => s = s' ∧ v = .bool (S.isOpen k) ∧ Ext L L') := by
 obtain ⟨n0, g0⟩ := kT;obtain ⟨n1, g1⟩ := dp n0;apply Exists.intro;intro σ F Δ main s K A S Fr L k hN hR;co_applyP aB 11 Tryz.func161 Tryz.ntmps161;co_applyP ae;co_applyP aa;co_applyP bN rfl (bV (hN _));intro xk L1 hA;have hR1 := hR.add hA;obtain ⟨base, cap, hv, hat0⟩ := bA hR1.pa;simp only [List.length_map] at hv;have h5 : At L1 K 5 (.slice base (S.ps.map (·.1)).length cap) := by rw [List.length_map, ← hv]; exact hR1.kat rfl
 co_applyP oy rfl ak;co_applyP ah;change wpE ..;co_applyP ae;co_applyP aa;co_applyP oy rfl aj;co_applyP oy rfl aL;co_applyP oy rfl (av (hf := bO));co_applyP oy rfl (aC (ht := cZ));co_applyP oy rfl lS;have hcl : ∀ c ∈ S.ps.map (·.1), ∀ L, Ext L1 L → CallsL Δ Tryz.prog main 167 ([] ++ [ptr c] ++ [ptr xk]).toArray n0 s L (fun s' v L' => s = s' ∧ v = .bool (S.testB (fun y => y.has k) c) ∧ Ext L L') := by
   intro c hc L hE;obtain ⟨q, hq, rfl⟩ := List.mem_map.1 hc;have e : S.testB (fun y => y.has k) q.1 = q.2.has k := by simp [St.testB, bt hR1.pn (b := q.1) (x := q.2) hq]
   rw [e];exact g0 L q.1 xk q.2 k hN (hE.s _ (hR1.p _ hq)) (hE.s _ hA.self)
 co_applyP oc rfl rfl rfl (g1 L1 167 _ [] [ptr xk] (S.ps.map (·.1)) (S.testB fun y => y.has k) base cap (fun i v hv => by obtain ⟨b, _, h2, h3⟩ := hat0 i v (by simpa using hv); exact ⟨b, h2, h3⟩) (by simpa using hR1.p8) Tryz.func167 rfl rfl hcl);rintro _ _ _ ⟨rfl, rfl, hE⟩;co_applyP oy rfl ak;co_applyP ah;change wpE ..;co_applyP aJ;change ∃ v, resE .. = some v ∧ _;exact ⟨_, rfl, rfl, by rw [fP hR1.pn]; rfl, Ext.trans ⟨hA.fn, hA.sub⟩ hE⟩
theorem j4 : ∃ n, ∀ {σ : Type} {F : Fam σ} {Δ : ∀ s, Dom (F.R s) (F.D s)} {main : Bool} {s : σ} (K : Nat) (A : Lay) (S : St) (Fr L : Frag) (b : Nat) (x : PS) (k : Nat × Nat), (∀ cs, (Δ s).New (.cells cs 93)) → (∀ cs, (Δ s).New (.cells cs 96)) → Rep K A S Fr L → WGood S → (b, x) ∈ S.ps →
   CallsL Δ Tryz.prog main 105 [ptr K, ptr b, keyv k].toArray n s L (fun s' v L' => s = s' ∧ v = .tuple #[] ∧ ∃ A', WLay A A' ∧ Rep K A' (S.depart b k) Fr L') := by
 obtain ⟨n0, g0⟩ := tM;obtain ⟨n1, g1⟩ := tN;refine ⟨n0 + n1, fun {σ F Δ main s} K A S Fr L b x k hN hN2 hR hW hb => aS (∀ e ∈ S.wt, e.1 ≠ k) (fun h => ?_) fun h => ?_⟩
 · refine aU (g0 K A S Fr L b k hN hN2 hR h) fun s' v L' ⟨h1, h2, h3⟩ => ⟨h1, h2, A, WLay.refl A, ?_⟩;have e : S.depart b k = S := by unfold St.depart; rw [dV h]; rfl
   rw [e]; exact h3
 · have hk : k ∈ S.wt.map (·.1) := by
     refine Decidable.byContradiction fun hn => h fun e he e1 => hn (List.mem_map.2 ⟨e, he, e1⟩)
   obtain ⟨l1, xs, l2, h1, h2, h3⟩ := cu hW.kn hk;exact g1 K A S Fr L b x k l1 l2 xs hN hN2 hR hW hb h1 h2 h3
theorem dq (a b : Int) : evR Tryz.prog (Instr.build 96 [(0, .int .i64 a), (1, .int .i64 b)].toArray) [] = some (.agg #[.int .i64 a, .int .i64 b], []) := by kernel_rfl
def otherE (k : Nat × Nat) : Nat × Nat := if k.2 = 4 then (k.1, 5) else (k.1, 4)
theorem mf : ∃ n, ∀ {σ : Type} {F : Fam σ} {Δ : ∀ s, Dom (F.R s) (F.D s)} {main : Bool} {s : σ} (L : Frag) (k : Nat × Nat), (∀ cs, (Δ s).New (.cells cs 96)) →
   CallsM Δ Tryz.prog main 171 [keyv k].toArray n s L (fun s' v L' => s = s' ∧ v = keyv (otherE k) ∧ Ext L L') := by
 apply Exists.intro;intro σ F Δ main s L k hN;co_applyP l9 12 Tryz.func171 Tryz.ntmps171;co_applyP ae;co_applyP aa;co_applyP bN rfl (bV (hN _));intro xk L1 hA1;co_applyP bN rfl (dQ (z := keyv (0, 0)) (hN _));intro xr L2 hA2;have hk2 := hA2.sub _ hA1.self;have h0 : At L2 xk 0 (.int .i64 (k.1 : Nat)) := ⟨true, _, _, _, hk2, rfl⟩;have h1 : At L2 xk 1 (.int .i64 (k.2 : Nat)) := ⟨true, _, _, _, hk2, rfl⟩;co_applyP ah;change wpE ..;co_applyP ae;co_applyP ae;co_applyP aa;co_applyP oy rfl (av (hf := gY));co_applyP oy rfl (aC (ht := aV));co_applyP oy rfl ay;co_applyP ah;change wpE ..;co_applyP bl rfl;intro hc;co_applyP ae;co_applyP aa;co_applyP oy rfl (av (hf := dJ));co_applyP oy rfl (aC (ht := aV))
 · have h4 : k.2 = 4 := by have : (k.2 : Int) = 4 := by simpa using hc
                           omega
   co_applyP oy rfl (bq (dq _ _));co_applyP oeN rfl (fun hnd => fj (hs := bi) (vs := [.int .i64 (k.1 : Nat), .int .i64 5]) (hnd := hnd) (hm := hA2.self) (hi := Nat.le_refl _));rintro _ L3 ⟨rfl, hU⟩;co_applyP ah;change wpE ..;co_applyP aJ;change ∃ v, resM _ _ _ _ v ∧ _;refine ⟨_, ⟨_, _, xr, 0, 2, true, _, _, rfl, rfl, bJ, bi, hU.self, Nat.le_refl _, rfl⟩, rfl, by simp [otherE, h4]; rfl, hU.fn, fun t ht => hU.ne _ (hA2.sub _ (hA1.sub _ ht)) (hA2.new _ (hA1.sub _ ht))⟩
 intro hc;co_applyP aA;change wpE ..;co_applyP ae;co_applyP aa;co_applyP oy rfl (av (hf := dJ));co_applyP oy rfl (aC (ht := aV))
 have h4 : ¬ k.2 = 4 := by have : ¬ (k.2 : Int) = 4 := by simpa using hc
                           omega
 co_applyP oy rfl (bq (dq _ _));co_applyP oeN rfl (fun hnd => fj (hs := bi) (vs := [.int .i64 (k.1 : Nat), .int .i64 4]) (hnd := hnd) (hm := hA2.self) (hi := Nat.le_refl _));rintro _ L3 ⟨rfl, hU⟩;co_applyP ah;change wpE ..;co_applyP aJ;change ∃ v, resM _ _ _ _ v ∧ _;refine ⟨_, ⟨_, _, xr, 0, 2, true, _, _, rfl, rfl, bJ, bi, hU.self, Nat.le_refl _, rfl⟩, rfl, by simp [otherE, h4]; rfl, hU.fn, fun t ht => hU.ne _ (hA2.sub _ (hA1.sub _ ht)) (hA2.new _ (hA1.sub _ ht))⟩
def St.canBeDone (S : St) (x : PS) (k : Nat × Nat) : Bool := if S.isOpen (otherE k) then (if k.2 = 4 then decide (0 < (S.by_ k.1).length) else decide (((S.by_ k.1).length : Int) + x.r 2 ≤ 8)) else true
theorem p6 (k : KS) {i : Nat} (hi : i < 5) : (kcells k)[10 + i]? = some (k.by_ i) := by
 rcases i with _ | _ | _ | _ | _ | i
 · rfl
 · rfl
 · rfl
 · rfl
 · rfl
 · omega
theorem fy : ∃ n, ∀ {σ : Type} {F : Fam σ} {Δ : ∀ s, Dom (F.R s) (F.D s)} {main : Bool} {s : σ} (K : Nat) (A : Lay) (S : St) (Fr L : Frag) (b : Nat) (x : PS) (k : Nat × Nat), (∀ cs, (Δ s).New (.cells cs 96)) → Rep K A S Fr L → (b, x) ∈ S.ps → WF x → k.1 < 5 → (S.by_ k.1).length ≤ 8 →
   CallsL Δ Tryz.prog main 165 [ptr K, ptr b, keyv k].toArray n s L (fun s' v L' => s = s' ∧ v = .bool (S.canBeDone x k) ∧ Ext L L') := by
 obtain ⟨n0, g0⟩ := mf;obtain ⟨n1, g1⟩ := ij;apply Exists.intro;intro σ F Δ main s K A S Fr L b x k hN hR hb hx hk5 h8;obtain ⟨base, cap, hv, _⟩ : ∃ base cap, slv (A.y k.1) (S.by_ k.1).length = .slice base (S.by_ k.1).length cap ∧ True := by
   obtain ⟨base, cap, h, _⟩ := bA (hR.ya k.1 hk5);simp only [List.length_map] at h;exact ⟨base, cap, h, trivial⟩
 have wx := hx.r 2 (by omega);co_applyP aB 38 Tryz.func165 Tryz.ntmps165;co_applyP ae;co_applyP aa;co_applyP bN rfl (bV (hN _));intro xk L1 hA1;have hR1 := hR.add hA1;have h0 : At L1 xk 0 (.int .i64 (k.1 : Nat)) := ⟨true, _, _, _, hA1.self, rfl⟩;have hky : At L1 K (10 + k.1) (.slice base (S.by_ k.1).length cap) := by rw [← hv]; exact hR1.kat (p6 _ hk5)
 have hE1 : Ext L L1 := ⟨hA1.fn, hA1.sub⟩;co_applyP oy rfl ak;co_applyP ah;change wpE ..;co_applyP ae;co_applyP bj aZ;co_applyP tr (i := 0) rfl aj pI;co_applyP tr (i := 1) rfl (av (hf := dJ)) pI;co_applyP tr (i := 2) rfl (aC (ht := aV)) pI;co_applyP tr (i := 3) rfl aL pI;co_applyP tr (i := 4) rfl (av (hf := ep)) pI;co_applyP tr (i := 5) rfl (a0 Tryz.underlying113 gm) pI;co_applyP tr (i := 6) rfl (aC (ht := pM)) pI;co_applyP tr (i := 7) rfl (bz (hu := Tryz.underlying44)) pI;co_applyP tr (i := 8) rfl ak pI;co_applyP td (by kernel_rfl);change wpE ..;co_applyP aI;co_applyP ae;co_applyP aa;co_applyP oy rfl aj;co_applyP oy rfl (a8 (ht := bJ) (hs := bi) (hm := hA1.self) (hi := Nat.le_refl _));co_applyP ocm rfl rfl rfl (g0 L1 k hN);rintro _ _ _ ⟨rfl, rfl, hE2⟩;rename_i L2;co_applyP oc rfl rfl rfl (g1 K A S Fr L2 (otherE k) hN (hR1.ext hE2));rintro _ _ _ ⟨rfl, rfl, hE3⟩;co_applyP oy rfl bY;co_applyP oy rfl ak;co_applyP ah;change wpE ..;rename_i L3;have hR3 := (hR1.ext hE2).ext hE3;have h1 : At L3 xk 1 (.int .i64 (k.2 : Nat)) := ⟨true, _, _, _, hE3.s _ (hE2.s _ hA1.self), rfl⟩;have h2 : At L3 b 9 (.int .u16 (x.r 2)) := hR3.pat hb (bh x (i := 2) (by omega));have w2 : IntKind.i64.wrap (x.r 2) = x.r 2 := by simp [IntKind.wrap_i64]; omega
 have w3 : IntKind.i64.wrap (((S.by_ k.1).length : Int) + x.r 2) = ((S.by_ k.1).length : Int) + x.r 2 := by simp [IntKind.wrap_i64]; omega
 co_applyP bl rfl;intro ho;co_applyP ae;co_applyP aa;co_applyP oy rfl ak;co_applyP ah;change wpE ..;co_applyP aJ;change ∃ v, resE .. = some v ∧ _
 · have ho' : S.isOpen (otherE k) = false := by simpa using ho
   exact ⟨_, rfl, rfl, by simp [St.canBeDone, ho'], hE1.trans (hE2.trans hE3)⟩
 intro ho;co_applyP ae;co_applyP aa;co_applyP oy rfl (av (hf := gY));co_applyP oy rfl (aC (ht := aV));co_applyP oy rfl ay;co_applyP oy rfl ak;co_applyP ah;change wpE ..;have ho' : S.isOpen (otherE k) = true := by simpa using ho
 co_applyP bl rfl;intro hc;co_applyP ae;co_applyP aa;co_applyP oy rfl aj;co_applyP oy rfl dj;co_applyP oy rfl ak;co_applyP ah;change wpE ..;co_applyP aJ;change ∃ v, resE .. = some v ∧ _
 · have h4 : k.2 = 4 := by have : (k.2 : Int) = 4 := by simpa using hc
                           omega
   exact ⟨_, rfl, rfl, by simp [St.canBeDone, ho', h4], hE1.trans (hE2.trans hE3)⟩
 intro hc;co_applyP ae;co_applyP aa;co_applyP oy rfl aj;co_applyP oy rfl aj;co_applyP oy rfl aL;co_applyP oy rfl (av (hf := aD));co_applyP oy rfl (av (hf := aY));co_applyP oy rfl (a0 Tryz.underlying47 a9);co_applyP oy rfl (aC (ht := cp));co_applyP oy rfl (cg (hs := Tryz.underlying32) (ht := Tryz.underlying3));co_applyP oy rfl a7;co_applyP oy rfl k9;co_applyP oy rfl ak;co_applyP ah;change wpE ..;co_applyP aJ;change ∃ v, resE .. = some v ∧ _
 have h4 : ¬ k.2 = 4 := by have : ¬ (k.2 : Int) = 4 := by simpa using hc
                           omega
 exact ⟨_, rfl, rfl, by rw [w2, w3]; simp [St.canBeDone, ho', h4], hE1.trans (hE2.trans hE3)⟩
theorem yk (a b : Nat) : ((a : Int) == (b : Int)) = decide (a = b) := by rw [Bool.eq_iff_iff]; simp; omega
theorem dr : ∃ n, ∀ {σ : Type} {F : Fam σ} {Δ : ∀ s, Dom (F.R s) (F.D s)} {main : Bool} {s : σ} (L : Frag) (p c : Nat) (x y : PS), pb p x ∈ L → pb c y ∈ L →
   CallsL Δ Tryz.prog main 128 [ptr p, ptr c].toArray n s L (fun s' v L' => s = s' ∧ L = L' ∧ v = .bool (decide (y.par = x.id))) := by
 apply Exists.intro;intro σ F Δ main s L p c x y hp hc;have h1 : At L c 1 (.int .i64 y.par) := ⟨true, _, _, _, hc, rfl⟩;have h2 : At L p 0 (.int .i64 x.id) := ⟨true, _, _, _, hp, rfl⟩;co_applyP aB 16 Tryz.func128 Tryz.ntmps128;co_applyP ae;co_applyP aa;co_applyP oy rfl ak;co_applyP ah;change wpE ..;co_applyP ae;co_applyP bj aZ;co_applyP tr (i := 0) rfl aj pI;co_applyP tr (i := 1) rfl aL pI;co_applyP tr (i := 2) rfl (av (hf := aD)) pI;co_applyP tr (i := 3) rfl (av (hf := jo)) pI;co_applyP tr (i := 4) rfl (aC (ht := aV)) pI;co_applyP tr (i := 5) rfl aj pI;co_applyP tr (i := 6) rfl aL pI;co_applyP tr (i := 7) rfl (av (hf := aD)) pI;co_applyP tr (i := 8) rfl (av (hf := cn)) pI;co_applyP tr (i := 9) rfl (aC (ht := aV)) pI;co_applyP tr (i := 10) rfl ay pI;co_applyP tr (i := 11) rfl ak pI;co_applyP td (by kernel_rfl);change wpE ..;co_applyP aJ;change ∃ v, resE .. = some v ∧ _;exact ⟨_, rfl, rfl, rfl, by rw [yk]⟩
theorem iO : ∃ n, ∀ {σ : Type} {F : Fam σ} {Δ : ∀ s, Dom (F.R s) (F.D s)} {main : Bool} {s : σ} (L : Frag) (p c xb : Nat) (x y : PS), pb p x ∈ L → pb c y ∈ L → At L xb 0 (ptr p) →
   CallsL Δ Tryz.prog main 148 [ptr c, ptr xb].toArray n s L (fun s' v L' => s = s' ∧ v = .bool (decide (y.par = x.id ∧ y.st = 6)) ∧ Ext L L') := by
 obtain ⟨n1, g1⟩ := dr;apply Exists.intro;intro σ F Δ main s L p c xb x y hp hc hb;have h1 : At L c 2 (.int .i64 y.st) := ⟨true, _, _, _, hc, rfl⟩;co_applyP aB 15 Tryz.func148 Tryz.ntmps148;co_applyP gV;intro hF;co_applyP ae;co_applyP aa;co_applyP oy rfl ak;co_applyP ah;change wpE ..;co_applyP ae;co_applyP aa;co_applyP oy rfl (aC (ht := c9));co_applyP oy rfl aj;co_applyP oc rfl rfl rfl (g1 L p c x y hp hc);rintro _ _ _ ⟨rfl, rfl, rfl⟩;co_applyP oy rfl aj;co_applyP pT (y.par = x.id);intro hpar
 · rw [decide_eq_true hpar];co_applyP oy rfl (aj);co_applyP oy rfl (aL);co_applyP oy rfl ((av (hf := aD)));co_applyP oy rfl ((av (hf := cA)));co_applyP oy rfl ((aC (ht := aV)));co_applyP oy rfl (ay);co_applyP oy rfl aN;co_applyP oy rfl ak;co_applyP ah;change wpE ..;co_applyP aJ;change ∃ v, resE .. = some v ∧ _;refine ⟨_, rfl, rfl, ?_, hF, fun _ h => h⟩;have e : ((y.st : Int) == 6) = decide (y.par = x.id ∧ y.st = 6) := by rw [Bool.eq_iff_iff]; simp [hpar]; omega
   rw [← e]; rfl
 intro hpar;rw [decide_eq_false hpar];co_applyP ou rfl;co_applyP ou rfl;co_applyP ou rfl;co_applyP ou rfl;co_applyP ou rfl;co_applyP ou rfl;co_applyP oy rfl aN;co_applyP oy rfl ak;co_applyP ah;change wpE ..;co_applyP aJ;change ∃ v, resE .. = some v ∧ _;refine ⟨_, rfl, rfl, ?_, hF, fun _ h => h⟩;have e : false = decide (y.par = x.id ∧ y.st = 6) := by simp [hpar]
 rw [← e]; rfl
def St.orphs (S : St) (id : Nat) : List Nat → St
 | [] => S
 | b :: bs => St.orphs (match S.get b with
   | some y => if y.par = id then S.setP b { y with par := 1 } else S
   | none => S) id bs
theorem mg (S : St) (id : Nat) (l m : List Nat) : S.orphs id (l ++ m) = (S.orphs id l).orphs id m := by
 induction l generalizing S with
 | nil => rfl
 | cons b l ih => simp only [List.cons_append, St.orphs]; exact ih _
structure ORel (S S' : St) : Prop where
 f : S'.ps.map (·.1) = S.ps.map (·.1)
 v : ∀ b y, (b, y) ∈ S.ps → ∃ z, (b, z) ∈ S'.ps ∧ { z with par := y.par } = y
 r : S'.rows = S.rows ∧ S'.by_ = S.by_ ∧ S'.wt = S.wt ∧ S'.now = S.now ∧ S'.last = S.last
theorem ORel.refl (S : St) : ORel S S := ⟨rfl, fun b y h => ⟨y, h, rfl⟩, rfl, rfl, rfl, rfl, rfl⟩
theorem ORel.step {S S' : St} (h : ORel S S') (hn : (S'.ps.map (·.1)).Nodup) {b : Nat} {y : PS} (hb : (b, y) ∈ S'.ps) : ORel S (S'.setP b { y with par := 1 }) := by
 refine ⟨by rw [aX]; exact h.f, fun c w hc => ?_, h.r⟩;obtain ⟨z, hz, he⟩ := h.v c w hc;by_cases e : c = b
 · subst e;obtain rfl := bp hn hb hz;exact ⟨_, au hz, by simpa using he⟩
 · exact ⟨z, by simp only [St.setP, List.mem_map]; exact ⟨(c, z), hz, by simp [e]⟩, he⟩
theorem tR : ∃ n, ∀ {σ : Type} {F : Fam σ} {Δ : ∀ s, Dom (F.R s) (F.D s)} {main : Bool} {s : σ} (K : Nat) (A : Lay) (S : St) (Fr L : Frag) (b : Nat) (x : PS), Rep K A S Fr L → (b, x) ∈ S.ps →
   CallsL Δ Tryz.prog main 109 [ptr K, ptr b].toArray n s L (fun s' v L' => s = s' ∧ v = .tuple #[] ∧ ORel S (S.orphs x.id (S.ps.map (·.1))) ∧ Rep K A (S.orphs x.id (S.ps.map (·.1))) Fr L') := by
 obtain ⟨n1, g1⟩ := dr;apply Exists.intro;intro σ F Δ main s K A S Fr L b x hR hb;obtain ⟨base, cap, hv, hat0⟩ := bA hR.pa;simp only [List.length_map] at hv;have h5 : At L K 5 (.slice base S.ps.length cap) := by rw [← hv]; exact hR.kat rfl
 co_applyP aB 23 Tryz.func109 Tryz.ntmps109;co_applyP ae;co_applyP aa;co_applyP oy rfl aj;co_applyP oy rfl aL;co_applyP oy rfl (av (hf := bO));co_applyP oy rfl (aC (ht := cZ));co_applyP oy rfl (bz (hu := Tryz.underlying91));co_applyP oy rfl aj;co_applyP ah;change wpE ..;co_applyP aI;co_applyP bG (fun k s' ε' L' => s' = s ∧ ∃ l1 l2, S.ps = l1 ++ l2 ∧ Rep K A (S.orphs x.id (l1.map (·.1))) Fr L' ∧ ORel S (S.orphs x.id (l1.map (·.1))) ∧ k + l1.length = 8 ∧ kn ε' [(11, .int .i64 l1.length), (10, .int .i64 S.ps.length), (9, .slice base S.ps.length cap), (1, ptr b), (0, ptr K)]) 8
 · exact ⟨rfl, [], S.ps, rfl, hR, ORel.refl S, rfl, rfl⟩
 rintro k s' ε' L' ⟨rfl, l1, l2, hl, hR', hO, hk, he⟩;co_applyP a6 he;have hlen := congrArg List.length hl;simp only [List.length_append] at hlen;have h8 := hR.p8;co_applyP ae;co_applyP aa;co_applyP oy rfl bX;co_applyP ah;change wpE ..;co_applyP ae;co_applyP bl rfl;intro hlt
 · cases l2 with
   | nil => simp at hlt hlen; omega
   | cons q l2 =>
     have hat : ∃ ab, base = some ⟨ab, 0, none⟩ ∧ At L' ab l1.length (ptr q.1) := by
       obtain ⟨ab, hb1, hb2, _⟩ := hat0 l1.length (ptr q.1) (by rw [hl]; simp);obtain ⟨base', cap', _, hat'⟩ := bA hR'.pa;have e1 : (S.orphs x.id (l1.map (·.1))).ps.map (fun q => ptr q.1) = S.ps.map fun q => ptr q.1 := by
         have := congrArg (List.map ptr) hO.f;rw [List.map_map, List.map_map] at this;exact this
       obtain ⟨b', hb1', _, hv'⟩ := hat' l1.length (ptr q.1) (by rw [e1, hl]; simp);rw [hb1] at hb1';obtain rfl : ab = b' := by simpa using hb1'
       exact ⟨ab, hb2, hv'⟩
     obtain ⟨ab, rfl, hav⟩ := hat;simp at hlen;obtain ⟨z, hz, hze⟩ := hO.v q.1 q.2 (by rw [hl]; simp);obtain ⟨w, hw, hwe⟩ := hO.v b x hb;have hwid : w.id = x.id := by have := congrArg PS.id hwe; exact this
     have hget := bt hR'.pn hz;have elen : IntKind.i64.wrap ((l1.length : Int) + 1) = ((l1 ++ [q]).length : Int) := by simp [IntKind.wrap_i64]; omega
     have hnext : S.orphs x.id ((l1 ++ [q]).map (·.1)) = if z.par = x.id then (S.orphs x.id (l1.map (·.1))).setP q.1 { z with par := 1 } else S.orphs x.id (l1.map (·.1)) := by
       rw [List.map_append, mg];show St.orphs (match (S.orphs x.id (l1.map (·.1))).get q.1 with | some y => _ | none => _) x.id [] = _;rw [hget]; rfl
     co_applyP aA;change wpE ..;co_applyP ae;co_applyP aI;co_applyP ae;co_applyP aa;co_applyP oy rfl (bv Tryz.underlying91 bI);co_applyP oy rfl (aC (ht := c9));co_applyP oy rfl ak;co_applyP ah;change wpE ..;co_applyP ae;co_applyP aa;co_applyP oy rfl aj;co_applyP oy rfl aj;co_applyP oc rfl rfl rfl (g1 L' b q.1 w z (hR'.p _ hw) (hR'.p _ hz));rintro _ _ _ ⟨rfl, rfl, rfl⟩;co_applyP ah;change wpE ..;co_applyP bl rfl;intro hc;co_applyP aa;co_applyP oy rfl aj;co_applyP oy rfl aL;co_applyP oy rfl (av (hf := aD));co_applyP oy rfl (av (hf := jo))
     · have hp : z.par = x.id := by rw [← hwid]; simpa using hc
       co_applyP osm rfl (hs := dm) (hm := hR'.p _ hz) (hi := by first | decide | (rw [bg]; omega) | (rw [bC]; omega));intro L2 hU;have hR2 := hR'.setP hz (x' := { z with par := 1 }) hU;co_applyP ah;change wpE ..;co_applyP aa;co_applyP oy rfl a7;co_applyP oy rfl aj;co_applyP ah;change ∃ k', k' < _ ∧ _;rw [if_pos hp] at hnext;exact ⟨k - 1, by omega, rfl, l1 ++ [q], l2, by simp [hl], by rw [hnext]; exact hR2, by rw [hnext]; exact hO.step hR'.pn hz, by simp; omega, by rw [← elen]; rfl⟩
     intro hc;co_applyP aA;change wpE ..;co_applyP aa;co_applyP oy rfl a7;co_applyP oy rfl aj;co_applyP ah;change ∃ k', k' < _ ∧ _;have hp : ¬ z.par = x.id := by rw [← hwid]; simpa using hc
     rw [if_neg hp] at hnext;exact ⟨k - 1, by omega, rfl, l1 ++ [q], l2, by simp [hl], by rw [hnext]; exact hR', by rw [hnext]; exact hO, by simp; omega, by rw [← elen]; rfl⟩
 intro hlt;co_applyP bL;change ∃ v, resE .. = some v ∧ _;cases l2 with
 | nil =>
   have e : l1 = S.ps := by rw [hl]; simp
   subst e;exact ⟨_, rfl, rfl, rfl, hO, hR'⟩
 | cons q l2 => simp at hlt hlen; omega
def St.setPs (S : St) (ps : List (Nat × PS)) : St := { S with ps := ps }
section
variable {K : Nat} {A : Lay} {S : St} {F L L' : Frag}
theorem Rep.setPs (h : Rep K A S F L) {a' : Sl} {ps' : List (Nat × PS)} {ls : Nat} (hf : Fun L') (hk : kb K (kst (A.setA 0 a') { S.setPs ps' with last := ls }) ∈ L') (hs : ∀ t ∈ L, t.1 ≠ K → (A.a 0).b ≠ some t.1 → t ∈ L') (ha : slOk a' (ps'.map fun q => ptr q.1) 93 L')
   (hp : ∀ q ∈ ps', pb q.1 q.2 ∈ L') (hpn : (ps'.map (·.1)).Nodup) (hp8 : ps'.length ≤ 8) (hpF : ∀ t ∈ F, ∀ q ∈ ps', t.1 ≠ q.1)
   (hd : ∀ b, a'.b = some b → (A.a 0).b = some b ∨ ((∀ i, (A.a i).b ≠ some b) ∧ ∀ t ∈ F, t.1 ≠ b)) : Rep K (A.setA 0 a') { S.setPs ps' with last := ls } F L' := by
 have hal : ∀ b, (A.a 0).b = some b → (b, true, Obj.cells ((S.ps.map fun q => ptr q.1) ++ (A.a 0).junk).toArray 93) ∈ L := fun b hb => h.pa.mem hb;have ty : ∀ {b : Nat} {fl : Bool} {o : Obj}, (b, fl, o) ∈ L → (∀ c, o ≠ Obj.cells c 93) → (A.a 0).b ≠ some b := fun hm ho hb => ho _ (h.fn _ _ _ _ _ hm (hal _ hb)).2;have arr : ∀ (a : Sl) (xs : List Value) (e : TypeId), e ≠ 115 → (∀ b, a.b = some b → (A.a 0).b ≠ some b) → slOk a xs e L → slOk a xs e L' := fun a xs e he hne ha => by
   refine ha.mono fun c hc o ho => hs _ ho ?_ (hne c hc);exact h.fn.ne (ha.mem hc) h.k (aF he)
 have hdn : ∀ i, i ≠ 0 → ∀ b, (A.a i).b = some b → (A.a 0).b ≠ some b := fun i hi b hb e => h.d i 0 hi (by rw [hb]; simp) (by rw [hb, e]);have pA : ∀ i, i ≠ 0 → (A.setA 0 a').a i = A.a i := fun i hi => by simp [Lay.setA, put, hi]
 have p0 : (A.setA 0 a').a 0 = a' := by simp [Lay.setA, put]
 exact { h with
   fn := hf
   k := hk
   g := hs _ h.g (h.fn.ne h.g h.k (aF (by decide))) (ty h.g fun c => aF (by decide))
   p := hp
   pn := hpn
   p8 := hp8
   pa := by rw [p0]; exact ha
   rw := fun l hl => by rw [pA _ (by omega)]; exact arr _ _ _ (by decide) (hdn _ (by omega)) (h.rw l hl)
   ya := fun i hi => arr _ _ _ (by decide) (fun b hb => ty ((h.ya i hi).mem hb) fun c => aF (by decide)) (h.ya i hi)
   w := by
     have : wobj (A.setA 0 a') { S.setPs ps' with last := ls } = wobj A S := by
       rw [ct, ct];show mapO (entsOf (A.setA 0 a') S.wt A.born) A.clock = _;rw [dU fun e _ => pA _ (by unfold slot; omega)]
     rw [this];exact hs _ h.w (h.fn.ne h.w h.k (by simp [wobj])) (ty h.w fun c => by simp [wobj])
   wa := fun e he => by rw [pA _ (by unfold slot; omega)]; exact arr _ _ _ (by decide) (hdn _ (by unfold slot; omega)) (h.wa e he)
   al := fun i c hc => by
     by_cases ei : i = 0
     · subst ei;rw [p0] at hc;exact ⟨_, ha.mem hc⟩
     · rw [pA i ei] at hc;obtain ⟨xs, hx⟩ := h.al i c hc;exact ⟨xs, hs _ hx (h.fn.ne hx h.k (aF (by decide))) (hdn i ei c hc)⟩
   yl := fun i c hc => by
     obtain ⟨xs, hx⟩ := h.yl i c hc;exact ⟨xs, hs _ hx (h.fn.ne hx h.k (aF (by decide))) (ty hx fun c => aF (by decide))⟩
   d := fun i j hij hi => by
     by_cases ei : i = 0
     · subst ei;rw [pA j (Ne.symm hij), p0];rw [p0] at hi;intro e;cases hb : a'.b with
       | none => exact hi hb
       | some b =>
         rcases hd b hb with h1 | h1
         · exact h.d 0 j hij (by rw [h1]; simp) (by rw [h1, ← e, hb])
         · exact h1.1 j (by rw [← e, hb])
     · rw [pA i ei];rw [pA i ei] at hi;by_cases ej : j = 0
       · subst ej;rw [p0];intro e;cases hb : a'.b with
         | none => rw [hb] at e; exact hi e
         | some b =>
           rcases hd b hb with h1 | h1
           · exact h.d i 0 ei hi (by rw [h1, e, hb])
           · exact h1.1 i (by rw [e, hb])
       · rw [pA j ej]; exact h.d i j hij hi
   fr := fun t ht => hs _ (h.fr t ht) (h.fd t ht).1 ((h.fd t ht).2.2.1 _)
   fd := fun t ht => by
     refine ⟨(h.fd t ht).1, hpF t ht, fun i => ?_, (h.fd t ht).2.2.2⟩;by_cases ei : i = 0
     · subst ei;rw [p0];intro e;rcases hd _ e with h1 | h1
       · exact (h.fd t ht).2.2.1 _ h1
       · exact h1.2 t ht rfl
     · rw [pA i ei]; exact (h.fd t ht).2.2.1 i }
theorem Rep.beside (h : Rep K A S F L) {c : Nat} {y : PS} (hm : pb c y ∈ L) (hp : ∀ q ∈ S.ps, c ≠ q.1) : Rep K A S (pb c y :: F) L :=
 { h with
   fr := fun t ht => by
     rcases List.mem_cons.1 ht with rfl | ht
     · exact hm
     · exact h.fr t ht
   fd := fun t ht => by
     rcases List.mem_cons.1 ht with rfl | ht
     · refine ⟨h.fn.ne hm h.k (aF (by decide)), hp, fun i e => ?_, fun i e => ?_, h.fn.ne hm h.w (by simp [wobj])⟩
       · obtain ⟨xs, hx⟩ := h.al i _ e;exact aF (by decide) (h.fn _ _ _ _ _ hm hx).2
       · obtain ⟨xs, hx⟩ := h.yl i _ e;exact aF (by decide) (h.fn _ _ _ _ _ hm hx).2
     · exact h.fd t ht }
theorem j5 (k : KS) (v : Value) : (kcells k).setIfInBounds 5 v = kcells { k with procs := v } := rfl
theorem rj (A : Lay) (S : St) (a' : Sl) (ps' : List (Nat × PS)) : kcells (kst (A.setA 0 a') { S.setPs ps' with last := S.last }) = kcells { kst A S with procs := slv a' ps'.length } := by
 unfold kcells kst Lay.setA put St.setPs;simp
end
def isChildEnded (x : PS) (y : PS) : Bool := decide (y.par = x.id ∧ y.st = 6)
def St.childAt (S : St) (x : PS) : Option Nat := S.ps.findIdx? fun q => isChildEnded x q.2
def told (x y : PS) : PS := { x with r := put (put x.r 0 ((y.id : Int) % 65536)) 1 (y.stat % 65536) }
theorem oX {S : St} (hn : (S.ps.map (·.1)).Nodup) (p : PS → Bool) : (S.ps.map (·.1)).findIdx? (S.testB p) = S.ps.findIdx? fun q => p q.2 := by
 rw [List.findIdx?_map];have : ∀ q ∈ S.ps, (S.testB p ∘ (·.1)) q = p q.2 := fun q hq => by simp [St.testB, bt hn (b := q.1) (x := q.2) hq]
 generalize S.ps = l at this ⊢
 induction l with
 | nil => rfl
 | cons q l ih =>
   rw [List.findIdx?_cons, List.findIdx?_cons, this q List.mem_cons_self, ih fun q hq => this q (List.mem_cons_of_mem _ hq)]
theorem iP : ∃ n, ∀ {σ : Type} {F : Fam σ} {Δ : ∀ s, Dom (F.R s) (F.D s)} {main : Bool} {s : σ} (K : Nat) (A : Lay) (S : St) (Fr L : Frag) (b : Nat) (x : PS), (∀ cs, (Δ s).New (.cells cs 93)) → Rep K A S Fr L → (b, x) ∈ S.ps → x.st ≠ 6 →
   CallsL Δ Tryz.prog main 130 [ptr K, ptr b].toArray n s L (fun s' v L' => s = s' ∧ match S.childAt x with
     | none => v = .bool false ∧ Rep K A S Fr L'
     | some i => v = .bool true ∧ ∃ c y a', S.ps[i]? = some (c, y) ∧ Rep K (A.setA 0 a') ({ S.setPs (S.ps.eraseIdx i) with last := S.last }.setP b (told x y)) (pb c y :: Fr) L') := by
 obtain ⟨n0, g0⟩ := iO;obtain ⟨n1, g1⟩ := eC n0;obtain ⟨n2, g2⟩ := nk;apply Exists.intro;intro σ F Δ main s K A S Fr L b x hN hR hb hx6;co_applyP aB 55 Tryz.func130 Tryz.ntmps130;co_applyP ae;co_applyP aa;co_applyP bN rfl (bV (hN _));intro xb L1 hA1;have hR1 := hR.add hA1;have hxb : At L1 xb 0 (ptr b) := ⟨true, _, _, _, hA1.self, rfl⟩;obtain ⟨base, cap, hv, hat0⟩ := bA hR1.pa;simp only [List.length_map] at hv;have h5 : At L1 K 5 (.slice base (S.ps.map (·.1)).length cap) := by rw [List.length_map, ← hv]; exact hR1.kat rfl
 have hcl : ∀ c ∈ S.ps.map (·.1), ∀ L, Ext L1 L → CallsL Δ Tryz.prog main 148 ([] ++ [ptr c] ++ [ptr xb]).toArray n0 s L (fun s' v L' => s = s' ∧ v = .bool (S.testB (isChildEnded x) c) ∧ Ext L L') := by
   intro c hc L hE;obtain ⟨q, hq, rfl⟩ := List.mem_map.1 hc;have e : S.testB (isChildEnded x) q.1 = decide (q.2.par = x.id ∧ q.2.st = 6) := by simp [St.testB, bt hR1.pn (b := q.1) (x := q.2) hq, isChildEnded]
   rw [e];exact g0 L b q.1 xb x q.2 (hE.s _ (hR1.p _ hb)) (hE.s _ (hR1.p _ hq)) (hE.at hxb)
 co_applyP oy rfl ak;co_applyP ah;change wpE ..;co_applyP ae;co_applyP aa;co_applyP oy rfl aj;co_applyP oy rfl aL;co_applyP oy rfl (av (hf := bO));co_applyP oy rfl (aC (ht := cZ));co_applyP oy rfl lS;co_applyP oc rfl rfl rfl (g1 L1 148 _ [] [ptr xb] (S.ps.map (·.1)) (S.testB (isChildEnded x)) base cap (fun i v hv => by obtain ⟨b, _, h2, h3⟩ := hat0 i v (by simpa using hv); exact ⟨b, h2, h3⟩) (by simpa using hR1.p8) Tryz.func148 rfl rfl hcl);rintro _ _ _ ⟨rfl, rfl, hE⟩;co_applyP oy rfl ak;co_applyP ah;change wpE ..;co_applyP ae;co_applyP ae;co_applyP aa;co_applyP oy rfl aj;co_applyP oy rfl bX;co_applyP ah;change wpE ..;rename_i L2;have hR2 := hR1.ext hE;have hidx := oX hR.pn (isChildEnded x);co_applyP bl rfl;intro hc
 · have hnone : S.childAt x = none := by
     cases h : S.childAt x with
     | none => rfl
     | some i => unfold St.childAt at h; unfold idxF at hc; rw [hidx, h] at hc; simp at hc; omega
   co_applyP ae;co_applyP aa;co_applyP oy rfl ak;co_applyP ah;change wpE ..;co_applyP aJ;change ∃ v, resE .. = some v ∧ _;rw [hnone];exact ⟨_, rfl, rfl, rfl, hR2⟩
 intro hc;obtain ⟨i, hsome⟩ : ∃ i, S.childAt x = some i := by
   cases h : S.childAt x with
   | none => unfold St.childAt at h; unfold idxF at hc; rw [hidx, h] at hc; simp at hc
   | some i => exact ⟨i, rfl⟩
 have hi : idxF (S.testB (isChildEnded x)) (S.ps.map (·.1)) = i := by unfold idxF; unfold St.childAt at hsome; rw [hidx, hsome]
 obtain ⟨hil, hti, _⟩ := List.findIdx?_eq_some_iff_getElem.1 hsome;rw [hi, hsome];generalize hcy : S.ps[i] = cy at hti;obtain ⟨c, y⟩ := cy;have hcy' : S.ps[i]? = some (c, y) := by rw [List.getElem?_eq_getElem hil, hcy]
 have hcm : (c, y) ∈ S.ps := List.mem_of_getElem? hcy';obtain ⟨ab, hab, hbase, hav⟩ := hat0 i (ptr c) (by simp [hcy']);subst hbase;have hav2 := hE.at hav;have h52 := hE.at h5;rw [List.length_map] at h52;have h8 := hR.p8;have ei : IntKind.i64.wrap ((i : Int) + 1) = (i : Int) + 1 := by simp [IntKind.wrap_i64]; omega
 have hcap : cap = S.ps.length + (A.a 0).junk.length := by
   unfold slv at hv; rw [hab] at hv;simp only [Value.slice.injEq, true_and] at hv;exact hv.symm
 subst hcap;have hpa2 := hR2.pa.mem hab;have hKab : K ≠ ab := hR2.fn.ne hR2.k hpa2 (aF (by decide));have pab : ∀ q ∈ S.ps, q.1 ≠ ab := fun q hq => hR2.fn.ne (hR2.p _ hq) hpa2 (aF (by decide));have hxab : xb ≠ ab := fun e => hA1.new _ (hR.pa.mem hab) e.symm;have hxp : ∀ q ∈ S.ps, q.1 ≠ xb := fun q hq => hA1.new _ (hR.p _ hq);have hxK : K ≠ xb := hA1.new _ hR.k;have g2' := g2 (Δ := Δ) (main := main) (s := s) L2 ab (S.ps.map fun q => ptr q.1) (A.a 0).junk i (by simpa using hil) (by simp; omega) (by simp [plainV]) hpa2;rw [List.length_map] at g2';co_applyP aA;change wpE ..;co_applyP ae;co_applyP aa;co_applyP oy rfl aj;co_applyP oy rfl aL;co_applyP oy rfl (av (hf := bO));co_applyP oy rfl (aC (ht := cZ));co_applyP oy rfl aj;co_applyP oy rfl (bv Tryz.underlying91 bI);co_applyP oy rfl (aC (ht := c9));co_applyP oy rfl ak;co_applyP ah;change wpE ..;co_applyP ae;co_applyP aa;co_applyP oy rfl aj;co_applyP oy rfl aj;co_applyP oy rfl aL;co_applyP oy rfl (av (hf := bO));co_applyP oy rfl (aC (ht := cZ));co_applyP oy rfl aj;co_applyP oy rfl aj;co_applyP oy rfl a7;rw [ei];co_applyP oc rfl rfl rfl (g2');rintro _ _ _ ⟨rfl, rfl, hU3⟩;co_applyP oy rfl aL;co_applyP oy rfl (av (hf := bO));rename_i L3;have hK3 := hU3.ne _ hR2.k hKab;co_applyP oeN rfl (fun hnd => fb (hs := eg) (hnd := hnd) (hm := hK3) (hi := by rw [bC]; omega));rintro _ L4 ⟨rfl, hU4⟩;co_applyP ah;change wpE ..;co_applyP ae;have hlen' : (S.ps.eraseIdx i).length = S.ps.length - 1 := by rw [List.length_eraseIdx]; simp [hil]
 have hemap : (S.ps.eraseIdx i).map (fun q => ptr q.1) = (S.ps.map fun q => ptr q.1).eraseIdx i := by simp [List.eraseIdx_eq_take_drop_succ]
 have hesub : ∀ q ∈ S.ps.eraseIdx i, q ∈ S.ps := fun q hq => List.mem_of_mem_eraseIdx hq;have keep4 : ∀ t ∈ L2, t.1 ≠ K → t.1 ≠ ab → t ∈ L4 := fun t ht h1 h2 => hU4.ne _ (hU3.ne _ ht h2) h1;have hR4 : Rep K (A.setA 0 ⟨some ab, .pointer none :: (A.a 0).junk⟩) { S.setPs (S.ps.eraseIdx i) with last := S.last } Fr L4 := by
   refine hR2.setPs hU4.fn ?_ (fun t ht h1 h2 => keep4 t ht h1 fun e => h2 (by rw [hab, e])) ?_ (fun q hq => keep4 _ (hR2.p _ (hesub q hq)) (hR2.fn.ne (hR2.p _ (hesub q hq)) hR2.k (aF (by decide))) (pab _ (hesub q hq))) ?_ (by omega) (fun t ht q hq => (hR2.fd t ht).2.1 q (hesub q hq)) (fun b hb => .inl (by rw [hab]; exact hb))
   · have := hU4.self;rw [j5] at this;unfold kb;rw [rj];have e1 : slv ⟨some ab, .pointer none :: (A.a 0).junk⟩ (S.ps.eraseIdx i).length = .slice (some ⟨ab, 0, none⟩) (S.ps.length - 1) (S.ps.length + (A.a 0).junk.length) := by
       unfold slv; simp only [hlen', List.length_cons]; congr 1; omega
     rw [e1]; exact this
   · rw [hemap];exact hU4.ne _ hU3.self (Ne.symm hKab)
   · rw [show (S.ps.eraseIdx i).map (·.1) = (S.ps.map (·.1)).eraseIdx i by simp [List.eraseIdx_eq_take_drop_succ]];exact hR2.pn.sublist (List.eraseIdx_sublist _ _)
 have hcb : c ≠ b := fun e => by
   subst e;obtain rfl := bp hR.pn hcm hb;have : isChildEnded y y = true := hti;simp [isChildEnded] at this;exact hx6 this.2
 have hb4 : (b, x) ∈ S.ps.eraseIdx i := by
   obtain ⟨j, hj⟩ := List.getElem?_of_mem hb;have hji : j ≠ i := fun e => by subst e; rw [hj] at hcy'; simp at hcy'; exact hcb hcy'.1.symm
   rw [List.mem_eraseIdx_iff_getElem?];exact ⟨j, hji, hj⟩
 have hpc4 : pb c y ∈ L4 := keep4 _ (hR2.p _ hcm) (hR2.fn.ne (hR2.p _ hcm) hR2.k (aF (by decide))) (pab _ hcm);have hcn : ∀ q ∈ S.ps.eraseIdx i, c ≠ q.1 := fun q hq e => by
   obtain ⟨j, hji, hj⟩ := List.mem_eraseIdx_iff_getElem?.1 hq;have hq' := List.mem_of_getElem? hj;obtain ⟨qc, qy⟩ := q;have e' : c = qc := e;subst e';have e1 : (S.ps.map (·.1))[j]? = some c := by simp [hj]
   have e2 : (S.ps.map (·.1))[i]? = some c := by simp [hcy']
   obtain ⟨hj1, hj2⟩ := List.getElem?_eq_some_iff.1 e1;obtain ⟨hi1, hi2⟩ := List.getElem?_eq_some_iff.1 e2;rcases Nat.lt_or_gt_of_ne hji with g | g
   · exact absurd (hj2.trans hi2.symm) (List.pairwise_iff_getElem.1 hR.pn j i hj1 hi1 g)
   · exact absurd (hi2.trans hj2.symm) (List.pairwise_iff_getElem.1 hR.pn i j hi1 hj1 g)
 replace hR4 := hR4.beside hpc4 hcn;have hxb4 : (xb, true, Obj.cells #[ptr b] 93) ∈ L4 := keep4 _ (hE.s _ hA1.self) (Ne.symm hxK) hxab;have hx4 : At L4 xb 0 (ptr b) := ⟨true, _, _, _, hxb4, rfl⟩;have hc40 : At L4 c 0 (.int .i64 (y.id : Nat)) := ⟨true, _, _, _, hpc4, rfl⟩;have hc43 : At L4 c 3 (.int .i64 y.stat) := ⟨true, _, _, _, hpc4, rfl⟩;have hxbm : ∀ (L : Frag), (xb, true, Obj.cells #[ptr b] 93) ∈ L → ∀ t ∈ [(xb, true, Obj.cells #[ptr b] 93)], t ∈ L := fun L h t ht => by simp at ht; rw [ht]; exact h
 have hbx : b ≠ xb := hxp _ hb;co_applyP bm [(xb, true, Obj.cells #[ptr b] 93)] 18 (nf := 0) aZ;co_applyP t0 (i := 0) rfl (aC (ht := c9)) (ai (hxbm _ hxb4));co_applyP tr (i := 1) rfl (aC (ht := c9)) (ai (hxbm _ hxb4));co_applyP tr (i := 2) rfl aj (ai (hxbm _ hxb4));co_applyP tr (i := 3) rfl aL (ai (hxbm _ hxb4));co_applyP tr (i := 4) rfl (av (hf := aD)) (ai (hxbm _ hxb4));co_applyP tr (i := 5) rfl (av (hf := cn)) (ai (hxbm _ hxb4));co_applyP t0 (i := 6) rfl (aC (ht := aV)) (ai (hxbm _ hxb4));co_applyP tr (i := 7) rfl (cg (hs := Tryz.underlying3) (ht := Tryz.underlying32)) (ai (hxbm _ hxb4));co_applyP tr (i := 8) rfl aj (ai (hxbm _ hxb4));co_applyP tr (i := 9) rfl aL (ai (hxbm _ hxb4));co_applyP tr (i := 10) rfl (av (hf := aD)) (ai (hxbm _ hxb4));co_applyP tr (i := 11) rfl (av (hf := pN)) (ai (hxbm _ hxb4));co_applyP t0 (i := 12) rfl (aC (ht := aV)) (ai (hxbm _ hxb4));co_applyP tr (i := 13) rfl (cg (hs := Tryz.underlying3) (ht := Tryz.underlying32)) (ai (hxbm _ hxb4));co_applyP tr (i := 14) rfl aL (ai (hxbm _ hxb4));co_applyP tr (i := 15) rfl (av (hf := aD)) (ai (hxbm _ hxb4));co_applyP tr (i := 16) rfl (av (hf := aY)) (ai (hxbm _ hxb4));co_applyP tr (i := 17) rfl (a0 Tryz.underlying47 a9) (ai (hxbm _ hxb4));co_applyP tr (i := 19) rfl aL (ai (hxbm _ hxb4));co_applyP tr (i := 20) rfl (av (hf := aD)) (ai (hxbm _ hxb4));co_applyP tr (i := 21) rfl (av (hf := aY)) (ai (hxbm _ hxb4));co_applyP ba;intro hnd;co_applyP te (i := 18) rfl (fb (hnd := hnd) (hm := hR4.p _ hb4) (hi := by rw [bg]; omega) (hs := a9));rintro _ _ ⟨rfl, hU5⟩;refine ⟨aE (hxbm _ (hU5.ne _ hxb4 (Ne.symm hbx))), ?_⟩;rename_i L5;rw [cL] at hU5;have h7 : (pcells x).setIfInBounds (7 + 0) (.int .u16 ((y.id : Int) % 65536)) = pcells { x with r := put x.r 0 ((y.id : Int) % 65536) } := dF x (by omega) _;have hR5 := hR4.setP hb4 (x' := { x with r := put x.r 0 ((y.id : Int) % 65536) }) (h7 ▸ hU5);have hb5 : (b, { x with r := put x.r 0 ((y.id : Int) % 65536) }) ∈ ({ S.setPs (S.ps.eraseIdx i) with last := S.last }.setP b { x with r := put x.r 0 ((y.id : Int) % 65536) }).ps := au hb4;have hxb5 := hU5.ne _ hxb4 (Ne.symm hbx);co_applyP to (i := 22) rfl ((a0 Tryz.underlying47 a9)) (aE (hxbm _ hxb5));co_applyP ba;intro hnd';co_applyP te (i := 23) rfl (fb (hnd := hnd') (hm := hR5.p _ hb5) (hi := by rw [bg]; omega) (hs := a9));rintro _ _ ⟨rfl, hU6⟩;refine ⟨aE (hxbm _ (hU6.ne _ hxb5 (Ne.symm hbx))), ?_⟩;rw [cL] at hU6;co_applyP td (by kernel_rfl);change wpE ..;co_applyP ae;co_applyP aa;co_applyP oy rfl ak;co_applyP ah;change wpE ..;co_applyP aJ;change ∃ v, resE .. = some v ∧ _;have h8' : (pcells { x with r := put x.r 0 ((y.id : Int) % 65536) }).setIfInBounds (7 + 1) (.int .u16 (y.stat % 65536)) = pcells (told x y) := dF _ (by omega) _
 have hR6 := hR5.setP hb5 (x' := told x y) (h8' ▸ hU6);refine ⟨_, rfl, rfl, rfl, c, y, ⟨some ab, .pointer none :: (A.a 0).junk⟩, hcy', ?_⟩;have e6 : ({ S.setPs (S.ps.eraseIdx i) with last := S.last }.setP b { x with r := put x.r 0 ((y.id : Int) % 65536) }).setP b (told x y) = ({ S.setPs (S.ps.eraseIdx i) with last := S.last } : St).setP b (told x y) := by
   unfold St.setP;simp only [List.map_map];congr 1;apply List.map_congr_left;intro q _;simp only [Function.comp]
   split
   · simp
   · rename_i h; simp [h]
 rw [e6] at hR6;exact hR6
end Go.Proofs.YtejkelcaljmnoaaGreatDoor
namespace Go.Lo
open Go.Conc Go.Hx
section
variable {P : Program} {New : Obj → Prop} {N : Nat} {ε : Env} {L : Frag} {d : Option Tmp} {ty : TypeId} {ps : String} {af : Array Edge} {g : Option (Nat × Bool)}
theorem zR {t u e : TypeId} {x y : Operand} {base : Option Addr} {len cap : Nat} (hu : P.underlying t = some (.slice e)) (hx : ev ε x = some (.slice base len cap) := by rfl) (hy : ev ε y = some (.slice none 0 0) := by rfl) : EY P N ε L ⟨d, .binOp .eql t x y u, ty, ps, af, g⟩ (.bool base.isNone) := fun a ha => by
 refine cG (fun _ => rfl) fun K hQ => ?_;rw [ha.ev hx, ha.ev hy];show wpQ P (do pure (.bool (← Op.equal t (.slice base len cap) (.slice none 0 0)))) K L;rw [ax, cX, Op.equalIn.eq_def, ax, aM hu];cases base <;> exact hQ
theorem zS {t e : TypeId} {sz : Nat} (hN : New (.cells #[] e)) (hu : P.underlying t = some (.slice e)) (hs : sizeAt P e = some sz) :
   EO P New N ε L ⟨d, .buildSlice t 0 #[], ty, ps, af, g⟩ (fun r L'' => ∃ b, (∀ t ∈ L, t.1 ≠ b) ∧ r = .slice (some ⟨b, 0, none⟩) 0 0 ∧ L'' = (b, true, .cells #[] e) :: L) := by
 intro a ha;simp only [execOp, List.map_toArray, List.map_nil];rw [ar];unfold Instr.buildSlice newRow;rw [ar, aT hu];simp only [ar, bP hs, Nat.zero_mul];have e0 : Array.map (fun x => (#[] : Array Value)[x % (#[] : Array Value).size]!) (Array.range 0) = #[] := by simp
 simp only [gt_iff_lt, Nat.not_lt_zero, if_false, if_true, br, ar, e0];have h0 : Instr.fill (fun i => some (i * sz, sz)) (#[] : Array Value) [] = some #[] := by simp [Instr.fill]
 simp only [h0, ar];exact cf hN fun b hb => ⟨b, hb, rfl, rfl⟩
end
end Go.Lo
namespace Go.Proofs.YtejkelcaljmnoaaGreatDoor
open Go.Conc Go.Hx Go.Lo
theorem vM : ∃ n, ∀ {σ : Type} {F : Fam σ} {Δ : ∀ s, Dom (F.R s) (F.D s)} {main : Bool} {s : σ} (L : Frag) (Q : Nat) (xs junk : List Value), (∀ cs, (Δ s).New (.cells cs 93)) → (Q, true, Obj.cells (xs ++ junk).toArray 93) ∈ L → 0 < xs.length → xs.length ≤ 8 →
   CallsL Δ Tryz.prog main 129 [.slice (some ⟨Q, 0, none⟩) xs.length (xs.length + junk.length)].toArray n s L (fun s' v L' => s = s' ∧ ∃ b cap jk, v = .slice (some ⟨b, 0, none⟩) xs.length cap ∧ Ext L L' ∧ (∀ t ∈ L, t.1 ≠ b) ∧ (b, true, Obj.cells (xs ++ jk).toArray 93) ∈ L') := by
 apply Exists.intro;intro σ F Δ main s L Q xs junk hN hQ h0 h8;co_applyP aB 8 Tryz.func129 Tryz.ntmps129;co_applyP gV;intro hF;co_applyP ae;co_applyP aa;co_applyP oy rfl ak;co_applyP ah;change wpE ..;co_applyP ae;co_applyP ae;co_applyP aa;co_applyP oy rfl aj;co_applyP oy rfl (zR Tryz.underlying91);co_applyP ah;change wpE ..;co_applyP aq rfl;co_applyP aA;change wpE ..;co_applyP ae;co_applyP aa;co_applyP bN rfl (zS (hN _) Tryz.underlying91 bI);intro nb L1 hA;co_applyP oy rfl aj;have hQ1 := hA.sub _ hQ;have hw : Reads Tryz.prog L1 1 0 (.slice (some ⟨nb, 0, none⟩) 0 0) #[] := by
   have := b7 (P := Tryz.prog) (sz := 1) (n := 0) (len := 0) (cap := 0) (o := 0) hA.self (by simp);simpa using this
 have hr : Reads Tryz.prog L1 1 xs.length (.slice (some ⟨Q, 0, none⟩) xs.length (xs.length + junk.length)) xs.toArray := by
   have := b7 (P := Tryz.prog) (sz := 1) (n := xs.length) (len := xs.length) (cap := xs.length + junk.length) (o := 0) hQ1 (by simp);simpa using this
 co_applyP oeN rfl (fun hnd => la (by_ := 7) (hF := hA.fn) (hu := Tryz.underlying91) (hv := Tryz.underlying91) (hs := bI) (hb := oR) (hz0 := hY) (hw := hw) (hr := hr) (hc := by omega) (hbig := by omega) (hN := hN));rintro _ L2 ⟨b, cap, h1, h2, rfl, hA2⟩;co_applyP oy rfl ak;co_applyP ah;change wpE ..;co_applyP aJ;change ∃ v, resE .. = some v ∧ _;have e1 : #[] ++ xs.toArray ++ Builtin.zeroCells (Value.pointer none).cells (cap - (0 + xs.length)) = (xs ++ List.replicate (cap - (0 + xs.length)) (Value.pointer none)).toArray := by
   rw [eq rfl]; apply Array.ext'; simp
 rw [e1] at hA2;exact ⟨_, rfl, rfl, b, cap, _, by simp, ⟨hA2.fn, fun t ht => hA2.sub _ (hA.sub _ ht)⟩, fun t ht => hA2.new _ (hA.sub _ ht), hA2.self⟩
section
variable {S : St}
theorem Good.like (h : Good S) {b : Nat} {x x' : PS} (hb : (b, x) ∈ S.ps) (hs : x'.st = x.st) (hl : x'.lv = x.lv) : Good (S.setP b x') := by
 refine ⟨by rw [aX]; exact h.pn, by rw [eP]; exact h.p8, fun q hq => ?_, h.rn, fun l hl' c hc => ?_, fun q hq h1 => ?_⟩
 · rcases a5 hq with rfl | ⟨h1, _⟩
   · rw [hl]; exact h.lv _ hb
   · exact h.lv q h1
 · obtain ⟨y, hy, h1, h2⟩ := h.rm l hl' c hc;by_cases e : c = b
   · subst e;obtain rfl := bp h.pn hb hy;exact ⟨x', au hb, by rw [hl]; exact h1, by rw [hs]; exact h2⟩
   · exact ⟨y, by simp only [St.setP, List.mem_map]; exact ⟨(c, y), hy, by simp [e]⟩, h1, h2⟩
 · rcases a5 hq with rfl | ⟨h2, _⟩
   · have := h.rr _ hb (by rw [← hs]; exact h1);show b ∈ S.rows x'.lv;rw [hl]; exact this
   · exact h.rr q h2 h1
theorem Good.erase (h : Good S) {i c : Nat} {y : PS} (hi : S.ps[i]? = some (c, y)) (hy : y.st ≠ 1) {ls : Nat} : Good { S.setPs (S.ps.eraseIdx i) with last := ls } := by
 refine ⟨?_, ?_, fun q hq => h.lv q (List.mem_of_mem_eraseIdx hq), h.rn, fun l hl c' hc => ?_, fun q hq h1 => h.rr q (List.mem_of_mem_eraseIdx hq) h1⟩
 · show ((S.ps.eraseIdx i).map (·.1)).Nodup;rw [show (S.ps.eraseIdx i).map (·.1) = (S.ps.map (·.1)).eraseIdx i by simp [List.eraseIdx_eq_take_drop_succ]];exact h.pn.sublist (List.eraseIdx_sublist _ _)
 · show (S.ps.eraseIdx i).length ≤ 8;have := List.length_eraseIdx_le S.ps i;have := h.p8;omega
 · obtain ⟨z, hz, h1, h2⟩ := h.rm l hl c' hc;refine ⟨z, ?_, h1, h2⟩;show (c', z) ∈ S.ps.eraseIdx i;obtain ⟨j, hj⟩ := List.getElem?_of_mem hz;have hji : j ≠ i := fun e => by subst e; rw [hj] at hi; simp at hi; exact hy (by rw [← hi.2]; exact h2)
   rw [List.mem_eraseIdx_iff_getElem?];exact ⟨j, hji, hj⟩
end
def St.take (S : St) (b : Nat) (x : PS) (i : Nat) : St := match S.ps[i]? with
 | some q => ({ S.setPs (S.ps.eraseIdx i) with last := S.last } : St).setP b (told x q.2)
 | none => S
def St.parent1 (S : St) (b : Nat) : St := match S.get b with
 | some x => if x.st = 2 then (match S.childAt x with
   | some i => match S.ps[i]? with
     | some q => (S.take b x i).wake1 b (told x q.2)
     | none => S
   | none => S) else S
 | none => S
def St.parents (S : St) : List Nat → St
 | [] => S
 | b :: bs => (S.parent1 b).parents bs
theorem j6 (S : St) (l m : List Nat) : S.parents (l ++ m) = (S.parents l).parents m := by
 induction l generalizing S with
 | nil => rfl
 | cons b l ih => simp only [List.cons_append, St.parents]; exact ih _
theorem Rep.fresh {K : Nat} {A : Lay} {S : St} {F L L' : Frag} (h : Rep K A S F L) (e : Ext L L') {b : Nat} {o : Obj} (hn : ∀ t ∈ L, t.1 ≠ b) (hm : (b, true, o) ∈ L') : Rep K A S ((b, true, o) :: F) L' :=
 { h.ext e with
   fr := fun t ht => by
     rcases List.mem_cons.1 ht with rfl | ht
     · exact hm
     · exact e.s _ (h.fr t ht)
   fd := fun t ht => by
     rcases List.mem_cons.1 ht with rfl | ht
     · exact ⟨fun e => hn _ h.k e.symm, fun q hq e => hn _ (h.p q hq) e.symm, fun i e => let ⟨_, hx⟩ := h.al i _ e; hn _ hx rfl, fun i e => let ⟨_, hx⟩ := h.yl i _ e; hn _ hx rfl, fun e => hn _ h.w e.symm⟩
     · exact h.fd t ht }
end Go.Proofs.YtejkelcaljmnoaaGreatDoor
