/-
  Part 15 of the proof.
  No condition but those that each statement names.
-/
import Derived.Test.YtejkelcaljmnoaaGreatDoorHy14
import Derived.Test.YtejkelcaljmnoaaGreatDoorHy03
import Derived.Conc.FxGenDone
import Derived.Conc.FxGenLone
import Derived.Conc.SmallLaws
import Derived.Test.YtejkelcaljmnoaaGreatDoorHy05
set_option maxRecDepth 100000
set_option linter.unusedVariables false
set_option linter.unusedSimpArgs false
set_option linter.unusedSectionVars false
namespace Go.Proofs.YtejkelcaljmnoaaGreatDoor
open Go.Conc Go.Hx Go.Lo
abbrev Inj (ρ : Nat → Nat) : Prop := ∀ a b, ρ a = ρ b → a = b
def mapW (ρ : Nat → Nat) (l : Wt) : Wt := l.map fun e => (e.1, e.2.map ρ)
def St.map (ρ : Nat → Nat) (S : St) : St := { S with ps := S.ps.map fun q => (ρ q.1, q.2), rows := fun l => (S.rows l).map ρ, wt := mapW ρ S.wt }
section
variable {ρ : Nat → Nat} {S S' : St} {b : Nat} {x : PS} {k : Nat × Nat}
theorem jx (ρ : Nat → Nat) (S : St) : (S.map ρ).ps.map (·.1) = (S.ps.map (·.1)).map ρ := by
 simp [St.map, List.map_map, Function.comp]
theorem du (h : Inj ρ) (S : St) (b : Nat) : (S.map ρ).get (ρ b) = S.get b := by
 unfold St.get;show ((S.ps.map fun q => (ρ q.1, q.2)).find? fun q => q.1 == ρ b).map (·.2) = _;rw [List.find?_map];have e : ((fun q : Nat × PS => q.1 == ρ b) ∘ fun q : Nat × PS => (ρ q.1, q.2)) = fun q => q.1 == b := by
   funext q
   simp only [Function.comp];rw [Bool.eq_iff_iff];simp only [beq_iff_eq];exact ⟨fun e => h _ _ e, fun e => by rw [e]⟩
 rw [e, Option.map_map];cases S.ps.find? fun q => q.1 == b <;> rfl
theorem bu (h : Inj ρ) (S : St) (b : Nat) (x : PS) : (S.map ρ).setP (ρ b) x = (S.setP b x).map ρ := by
 unfold St.setP St.map;simp only [List.map_map];congr 1;apply List.map_congr_left;intro q _;simp only [Function.comp];by_cases e : q.1 = b
 · rw [if_pos e, if_pos (by rw [e])]
 · rw [if_neg e, if_neg (fun e' => e (h _ _ e'))]
theorem cM (S : St) (l : Nat) (xs : List Nat) : (S.map ρ).setRow l (xs.map ρ) = (S.setRow l xs).map ρ := by
 unfold St.setRow St.map;congr 1
 funext j
 by_cases e : j = l
 · simp [put, e]
 · simp [put, e]
theorem uD (T : St) (l b : Nat) : (T.map ρ).rows l ++ [ρ b] = (T.rows l ++ [b]).map ρ := by
 rw [List.map_append]; rfl
theorem nJ (S : St) (i : Nat) (ys : List Int) : (S.map ρ).setY i ys = (S.setY i ys).map ρ := rfl
theorem fT (h : Inj ρ) : ∀ (xs : List Nat) (b : Nat), (xs.map ρ).erase (ρ b) = (xs.erase b).map ρ
 | [], _ => rfl
 | a :: xs, b => by
   rw [List.map_cons, List.erase_cons, List.erase_cons];by_cases e : a = b
   · subst e; simp
   · have e' : ¬ ρ a = ρ b := fun e' => e (h _ _ e');simp only [beq_iff_eq, e, e', if_false, List.map_cons];rw [fT h xs b]
theorem fU (h : Inj ρ) (S : St) (b : Nat) (x : PS) : (S.map ρ).wake1 (ρ b) x = (S.wake1 b x).map ρ := by
 unfold St.wake1;rw [bu h, ← cM];congr 1;show (S.rows x.lv).map ρ ++ [ρ b] = _;simp
theorem fV (h : Inj ρ) (S : St) (b : Nat) (x : PS) (s : Nat) : (S.map ρ).stop1 (ρ b) x s = (S.stop1 b x s).map ρ := by
 unfold St.stop1;rw [bu h, ← cM];congr 1;exact fT h _ _
theorem nK (h : Inj ρ) (b : Nat) (k : Nat × Nat) (l : Wt) : departW (ρ b) k (mapW ρ l) = mapW ρ (departW b k l) := by
 have hf : ∀ xs : List Nat, (xs.map ρ).filter (fun c => !decide (c = ρ b)) = (xs.filter fun c => !decide (c = b)).map ρ := fun xs => by
   rw [List.filter_map];congr 1;apply List.filter_congr;intro c _;simp only [Function.comp];by_cases e : c = b
   · simp [e]
   · have e' : ¬ ρ c = ρ b := fun e' => e (h _ _ e');simp [e, e']
 unfold departW mapW
 induction l with
 | nil => rfl
 | cons e l ih =>
   rw [List.map_cons, List.filterMap_cons, List.filterMap_cons];simp only;by_cases hk : e.1 = k
   · simp only [hk, if_true, hf, List.length_map];by_cases h0 : (e.2.filter fun c => !decide (c = b)).length = 0
     · simp only [h0, if_true]; exact ih
     · simp only [h0, if_false, List.map_cons]; rw [ih]
   · simp only [hk, if_false, List.map_cons]; rw [ih]
theorem gJ (h : Inj ρ) (S : St) (b : Nat) (k : Nat × Nat) : (S.map ρ).depart (ρ b) k = (S.depart b k).map ρ := by
 unfold St.depart;show (S.map ρ).setW (departW (ρ b) k (mapW ρ S.wt)) = _;rw [nK h]; rfl
theorem ez (S : St) (k : Nat × Nat) : (S.map ρ).isOpen k = S.isOpen k := by
 unfold St.isOpen;show (S.ps.map fun q => (ρ q.1, q.2)).any (fun q => q.2.has k) = _;rw [List.any_map]; rfl
theorem wM (S : St) (x : PS) (k : Nat × Nat) : (S.map ρ).canBeDone x k = S.canBeDone x k := by
 unfold St.canBeDone; rw [ez]; rfl
theorem nL (S : St) (x : PS) (k : Nat × Nat) : (S.map ρ).carried x k = S.carried x k := by
 unfold St.carried; rw [ez]; rfl
theorem ly (h : Inj ρ) (S : St) (b : Nat) (x : PS) (k : Nat × Nat) : (S.map ρ).carry (ρ b) x k = (S.carry b x k).map ρ := by
 unfold St.carry;rw [ez]
 split
 · unfold St.readP;rw [bu h]; rfl
 · split
   · unfold St.writeP;show ((S.map ρ).setY k.1 _).setP (ρ b) x.gave = _;rw [nJ, bu h]; rfl
   · exact bu h S b _
theorem lz (S : St) (k : Nat × Nat) : (S.map ρ).rowAt k = (S.rowAt k).map ρ := by
 unfold St.rowAt;show (((mapW ρ S.wt).find? fun e => decide (e.1 = k)).map (·.2)).getD [] = _;unfold mapW;rw [List.find?_map];have e : ((fun e : (Nat × Nat) × List Nat => decide (e.1 = k)) ∘ fun e : (Nat × Nat) × List Nat => (e.1, e.2.map ρ)) = fun e => decide (e.1 = k) := rfl;rw [e];cases S.wt.find? fun e => decide (e.1 = k) <;> rfl
theorem rK (h : Inj ρ) (S : St) (k : Nat × Nat) : (S.map ρ).serve k = (S.serve k).map (St.map ρ) := by
 unfold St.serve;rw [lz];cases S.rowAt k with
 | nil => rfl
 | cons b l =>
   simp only [List.map_cons, du h];cases S.get b with
   | none => rfl
   | some x =>
     simp only [wM]
     split
     · simp only [Option.map_some];congr 1
       split
       · rw [gJ h, ly h]
       · rw [gJ h, ly h, nL, fU h]
     · rfl
theorem iU (h : Inj ρ) (p : Nat) : ∀ (n : Nat) (S : St), St.looks n (S.map ρ) p = (St.looks n S p).map ρ
 | 0, _ => rfl
 | n + 1, S => by
   simp only [St.looks, rK h];cases S.serve (p, 5) with
   | some S' => exact iU h p n S'
   | none =>
     simp only [Option.map_none];cases S.serve (p, 4) with
     | some S' => exact iU h p n S'
     | none => rfl
theorem nM (h : Inj ρ) (S : St) (p : Nat) : (S.map ρ).look p = (S.look p).map ρ := iU h p 16 S
theorem nN (h : Inj ρ) (S : St) (b n : Nat) : (S.map ρ).shut (ρ b) n = (S.shut b n).map ρ := by
 unfold St.shut;rw [du h];cases S.get b with
 | none => rfl
 | some x =>
   simp only;rw [bu h, nM h]
theorem iV (h : Inj ρ) (b : Nat) (f : Nat → Nat × Nat) : ∀ (ns : List Nat) (S : St), (S.map ρ).shuts (ρ b) f ns = (S.shuts b f ns).map ρ
 | [], _ => rfl
 | n :: ns, S => by
   show (if f n = (0, 0) then S.map ρ else (S.map ρ).shut (ρ b) n).shuts (ρ b) f ns = ((if f n = (0, 0) then S else S.shut b n).shuts b f ns).map ρ
   split
   · exact iV h b f ns S
   · rw [nN h]; exact iV h b f ns _
theorem fX (h : Inj ρ) (id : Nat) : ∀ (bs : List Nat) (S : St), (S.map ρ).orphs id (bs.map ρ) = (S.orphs id bs).map ρ
 | [], _ => rfl
 | b :: bs, S => by
   simp only [List.map_cons, St.orphs, du h];cases S.get b with
   | none => exact fX h id bs S
   | some y =>
     simp only
     split
     · rw [bu h]; exact fX h id bs _
     · exact fX h id bs S
theorem jd (S : St) (x : PS) : (S.map ρ).childAt x = S.childAt x := by
 unfold St.childAt;show (S.ps.map fun q => (ρ q.1, q.2)).findIdx? _ = _;rw [List.findIdx?_map]; rfl
theorem nO (S : St) (i : Nat) : (S.map ρ).ps[i]? = (S.ps[i]?).map fun q => (ρ q.1, q.2) := List.getElem?_map ..
theorem nP (h : Inj ρ) (S : St) (b : Nat) (x : PS) (i : Nat) : (S.map ρ).take (ρ b) x i = (S.take b x i).map ρ := by
 unfold St.take;rw [nO];cases S.ps[i]? with
 | none => rfl
 | some q =>
   simp only [Option.map_some];rw [← bu h];congr 1;have e : (S.map ρ).ps.eraseIdx i = (S.ps.eraseIdx i).map fun q => (ρ q.1, q.2) := (ie _ _ _).symm;rw [e]; rfl
theorem nQ (h : Inj ρ) (S : St) (b : Nat) : (S.map ρ).parent1 (ρ b) = (S.parent1 b).map ρ := by
 unfold St.parent1;rw [du h];cases S.get b with
 | none => rfl
 | some x =>
   simp only [jd]
   split
   · cases S.childAt x with
     | none => rfl
     | some i =>
       simp only [nO];cases S.ps[i]? with
       | none => rfl
       | some q =>
         simp only [Option.map_some];rw [nP h, fU h]
   · rfl
theorem je (h : Inj ρ) : ∀ (bs : List Nat) (S : St), (S.map ρ).parents (bs.map ρ) = (S.parents bs).map ρ
 | [], _ => rfl
 | b :: bs, S => by
   show ((S.map ρ).parent1 (ρ b)).parents (bs.map ρ) = _;rw [nQ h]; exact je h bs _
theorem mt (h : Inj ρ) (S : St) (b : Nat) (x : PS) (status : Int) : (S.map ρ).fin (ρ b) x status = (S.fin b x status).map ρ := by
 unfold St.fin;simp only;rw [gJ h, fV h, bu h, iV h, jx, fX h, jx, je h]
theorem iv (S : St) (id : Int) : (S.map ρ).find id = (S.find id).map fun q => (ρ q.1, q.2) := by
 unfold St.find;show (S.ps.map fun q => (ρ q.1, q.2)).find? _ = _;rw [List.find?_map]; rfl
theorem pe (h : Inj ρ) (S : St) (b : Nat) (v : Int) : (S.map ρ).r0 (ρ b) v = (S.r0 b v).map ρ := by
 unfold St.r0;rw [du h];cases S.get b with
 | none => rfl
 | some z => exact bu h S b _
theorem mu (S : St) (x : PS) : (S.map ρ).hasChild x = S.hasChild x := by
 unfold St.hasChild;show (S.ps.map fun q => (ρ q.1, q.2)).any _ = _;rw [List.any_map]; rfl
abbrev snd (ρ : Nat → Nat) (p : Option Nat × St) : Option Nat × St := (p.1, p.2.map ρ)
theorem lA (h : Inj ρ) (S : St) (b : Nat) (x : PS) : (S.map ρ).waitR (ρ b) x = snd ρ (S.waitR b x) := by
 unfold St.waitR;rw [mu, jd]
 split
 · cases S.childAt x with
   | none => simp only [snd]; rw [fV h]
   | some i => simp only [snd]; rw [nP h]
 · rfl
theorem pf (h : Inj ρ) (S : St) (b : Nat) (x : PS) : (S.map ρ).sleep1 (ρ b) x = (S.sleep1 b x).map ρ := by
 unfold St.sleep1
 split
 · exact bu h S b _
 · show ((S.map ρ).setP (ρ b) _).stop1 (ρ b) _ 3 = _;rw [bu h, fV h]; rfl
theorem pi (h : Inj ρ) (S : St) (b : Nat) (x : PS) : (S.map ρ).yield1 (ρ b) x = (S.yield1 b x).map ρ := by
 unfold St.yield1;simp only;have e1 : ((S.map ρ).setP (ρ b) (x.r0 0)).setRow x.lv (((S.map ρ).rows x.lv).erase (ρ b)) = ((S.setP b (x.r0 0)).setRow x.lv ((S.rows x.lv).erase b)).map ρ := by
   rw [bu h, ← cM];congr 1;exact fT h _ _
 rw [e1, uD, cM]
theorem pj (S : St) : (S.map ρ).unused = S.unused := by
 unfold St.unused;have e : (S.map ρ).shutAt = S.shutAt := by
   funext p
   unfold St.shutAt;rw [ez, ez]
 rw [e]
theorem lB (h : Inj ρ) (S : St) (b : Nat) (x : PS) : (S.map ρ).pipeR (ρ b) x = snd ρ (S.pipeR b x) := by
 unfold St.pipeR;rw [pj]
 split
 · rfl
 · split
   · simp only [snd]; rw [nJ, bu h]
   · rfl
theorem ky (h : Inj ρ) (S : St) (b : Nat) (x : PS) : (S.map ρ).closeR (ρ b) x = snd ρ (S.closeR b x) := by
 unfold St.closeR
 split
 · rfl
 · simp only [snd]; rw [nN h, pe h]
theorem rL (S : St) (b : Nat) (k : Nat × Nat) : (S.map ρ).joinW (ρ b) k = (S.joinW b k).map ρ := by
 unfold St.joinW;show (S.map ρ).setW (rowJoin (ρ b) k (mapW ρ S.wt)) = _;have e : rowJoin (ρ b) k (mapW ρ S.wt) = mapW ρ (rowJoin b k S.wt) := by
   have e0 : (∀ e ∈ mapW ρ S.wt, e.1 ≠ k) ↔ ∀ e ∈ S.wt, e.1 ≠ k := by
     unfold mapW;constructor
     · intro hh e he; exact hh (e.1, e.2.map ρ) (List.mem_map.2 ⟨e, he, rfl⟩)
     · intro hh e he;obtain ⟨e', he', rfl⟩ := List.mem_map.1 he;exact hh e' he'
   unfold rowJoin;by_cases hk : ∀ e ∈ S.wt, e.1 ≠ k
   · rw [if_pos hk, if_pos (e0.2 hk)]; unfold mapW; simp
   · rw [if_neg hk, if_neg (fun h => hk (e0.1 h))];unfold mapW;rw [List.map_map, List.map_map];apply List.map_congr_left;intro e _;simp only [Function.comp]
     split <;> simp
 rw [e]; rfl
theorem iw (h : Inj ρ) (S : St) (b : Nat) (x : PS) (use most : Nat) : (S.map ρ).askR (ρ b) x use most = snd ρ (S.askR b x use most) := by
 unfold St.askR;cases x.checkUse use most with
 | some i => rfl
 | none =>
   simp only;rw [rL, nM h, lz, du h];have e : (ρ b ∈ (((S.joinW b (x.file (x.r 0))).look (x.file (x.r 0)).1).rowAt (x.file (x.r 0))).map ρ) ↔ b ∈ ((S.joinW b (x.file (x.r 0))).look (x.file (x.r 0)).1).rowAt (x.file (x.r 0)) := by
     rw [List.mem_map];constructor
     · rintro ⟨c, hc, e⟩; have e' := h _ _ e; rw [e'] at hc; exact hc
     · intro hb; exact ⟨b, hb, rfl⟩
   by_cases hb : b ∈ ((S.joinW b (x.file (x.r 0))).look (x.file (x.r 0)).1).rowAt (x.file (x.r 0))
   · simp only [if_pos hb, if_pos (e.2 hb)];cases ((S.joinW b (x.file (x.r 0))).look (x.file (x.r 0)).1).get b with
     | none => rfl
     | some z => simp only [snd]; rw [fV h]
   · simp only [if_neg hb, if_neg (fun hh => hb (e.1 hh))]
theorem rM (S : St) (c : Nat) (y : PS) : (S.map ρ).taken (ρ c) y = (S.taken c y).map ρ := by
 unfold St.taken;have e : (S.map ρ).ps ++ [(ρ c, { y with id := (S.map ρ).last + 1 })] = (S.ps ++ [(c, { y with id := S.last + 1 })]).map fun (q : Nat × PS) => (ρ q.1, q.2) := by
   rw [List.map_append]; rfl
 rw [e]; rfl
theorem rN (h : Inj ρ) (S : St) (b : Nat) (x : PS) (c : Nat) : (S.map ρ).forkS (ρ b) x (ρ c) = (S.forkS b x c).map ρ := by
 unfold St.forkS St.adopt;rw [rM];show (((S.taken c (x.copy.r0 0)).map ρ).wake1 (ρ c) _).setP (ρ b) _ = _;rw [fU h, bu h]; rfl
theorem pk (S : St) (b : Nat) (x : PS) (m : Int) : (S.map ρ).grantE (ρ b) x m = S.grantE b x m := by
 unfold St.grantE;rw [iv];cases S.find (x.r 0) <;> rfl
theorem pl (h : Inj ρ) (S : St) (b : Nat) (x : PS) (m : Int) : (S.map ρ).grantV (ρ b) x m = S.grantV b x m := by
 unfold St.grantV;rw [iv, lA h, lB h, ky h, iw h, iw h];have e : (S.map ρ).ps.length = S.ps.length := by simp [St.map]
 rw [e];cases S.find (x.r 0) <;> rfl
theorem po (h : Inj ρ) (S : St) (b : Nat) (x : PS) (m : Int) (c : Nat) : (S.map ρ).grantS (ρ b) x m (ρ c) = (S.grantS b x m c).map ρ := by
 have e : (S.map ρ).ps.length = S.ps.length := by simp [St.map]
 unfold St.grantS;rw [iv, lA h, lB h, ky h, iw h, iw h, e, mt h, rN h, pf h, pi h, bu h, bu h];by_cases e0 : m = 0
 · rw [if_pos e0, if_pos e0]
 rw [if_neg e0, if_neg e0];by_cases e1 : m = 1
 · rw [if_pos e1, if_pos e1]; split <;> rfl
 rw [if_neg e1, if_neg e1];by_cases e2 : m = 2
 · rw [if_pos e2, if_pos e2]
 rw [if_neg e2, if_neg e2];by_cases e3 : m = 3
 · rw [if_pos e3, if_pos e3];cases S.find (x.r 0) with
   | none => rfl
   | some q =>
     simp only [Option.map_some]
     split
     · rfl
     · rw [mt h, pe h]
 rw [if_neg e3, if_neg e3];by_cases e4 : m = 4
 · rw [if_pos e4, if_pos e4]
 rw [if_neg e4, if_neg e4];by_cases e5 : m = 5
 · rw [if_pos e5, if_pos e5]
 rw [if_neg e5, if_neg e5];by_cases e6 : m = 6
 · rw [if_pos e6, if_pos e6]
 rw [if_neg e6, if_neg e6];by_cases e7 : m = 7
 · rw [if_pos e7, if_pos e7]
 rw [if_neg e7, if_neg e7];by_cases e8 : m = 8
 · rw [if_pos e8, if_pos e8]
 rw [if_neg e8, if_neg e8];by_cases e9 : m = 9
 · rw [if_pos e9, if_pos e9]
 rw [if_neg e9, if_neg e9];by_cases e10 : m = 10
 · rw [if_pos e10, if_pos e10]
 rw [if_neg e10, if_neg e10];by_cases e11 : m = 11
 · rw [if_pos e11, if_pos e11]
 rw [if_neg e11, if_neg e11]
theorem uE (h : Inj ρ) (S : St) (b : Nat) (x : PS) : (S.map ρ).runE (ρ b) x = S.runE b x := by
 unfold St.runE;rw [bu h, pk];rfl
theorem uF (h : Inj ρ) (S : St) (b : Nat) (x : PS) (c : Nat) : (S.map ρ).runS (ρ b) x (ρ c) = (S.runS b x c).map ρ := by
 unfold St.runS;rw [bu h, mt h]
 show (if S.pn ≤ x.at_ then _ else if S.pg x.at_ 0 = 9 then (match ((S.setP b x.next).map ρ).grantV (ρ b) x.next (S.pg x.at_ 1) with
   | some i => (((S.setP b x.next).map ρ).grantS (ρ b) x.next (S.pg x.at_ 1) (ρ c)).r0 (ρ b) (ansOf i)
   | none => ((S.setP b x.next).map ρ).grantS (ρ b) x.next (S.pg x.at_ 1) (ρ c)) else match S.doR x with
   | .ok x' => (S.map ρ).setP (ρ b) x'
   | .error _ => (S.fin b x 65281).map ρ) = _
 rw [pl h, po h]
 split
 · rfl
 · split
   · cases (S.setP b x.next).grantV b x.next (S.pg x.at_ 1) with
     | none => rfl
     | some i => simp only; rw [pe h]
   · cases S.doR x with
     | ok x' => exact bu h S b _
     | error e => rfl
theorem uG (h : Inj ρ) (S : St) (b : Nat) (x : PS) : (S.map ρ).turn (ρ b) x = (S.turn b x).map ρ := by
 unfold St.turn;show (if (x.used : Int) < S.sl x.lv then _ else _) = _
 split
 · rfl
 · simp only;have e1 : ((S.map ρ).setRow x.lv (((S.map ρ).rows x.lv).erase (ρ b))).setP (ρ b) { x with lv := min (x.lv + 1) 2, used := 0 } = ((S.setRow x.lv ((S.rows x.lv).erase b)).setP b { x with lv := min (x.lv + 1) 2, used := 0 }).map ρ := by
     rw [← bu h, ← cM];congr 2;exact fT h _ _
   rw [e1, ← cM];congr 1;simp [St.map]
theorem rO (h : Inj ρ) (S : St) (b : Nat) : (S.map ρ).after (ρ b) = (S.after b).map ρ := by
 unfold St.after;rw [du h];cases S.get b with
 | none => rfl
 | some z =>
   simp only;rw [bu h, uG h]
   split <;> rfl
theorem fY (h : Inj ρ) : ∀ (bs : List Nat) (S : St), (S.map ρ).wakes (bs.map ρ) = (S.wakes bs).map ρ
 | [], _ => rfl
 | b :: bs, S => by
   simp only [List.map_cons, St.wakes, du h];cases S.get b with
   | none => exact fY h bs S
   | some x =>
     simp only;by_cases e : x.st = 3 ∧ x.til = S.now
     · rw [if_pos e, if_pos (show x.st = 3 ∧ x.til = (S.map ρ).now from e), fU h]; exact fY h bs _
     · rw [if_neg e, if_neg (show ¬ (x.st = 3 ∧ x.til = (S.map ρ).now) from e)]; exact fY h bs S
theorem fZ (h : Inj ρ) : ∀ (bs : List Nat) (S : St), (S.map ρ).lifts (bs.map ρ) = (S.lifts bs).map ρ
 | [], _ => rfl
 | b :: bs, S => by
   simp only [List.map_cons, St.lifts, du h];cases S.get b with
   | none => exact fZ h bs S
   | some x =>
     simp only
     split
     · rw [bu h]; exact fZ h bs _
     · exact fZ h bs S
theorem kz (S : St) : ∀ n, (S.map ρ).raises n = (S.raises n).map ρ
 | 0 => rfl
 | n + 1 => by
   show ((S.map ρ).raises n).raise1 (n + 1) = ((S.raises n).raise1 (n + 1)).map ρ;rw [kz S n];unfold St.raise1;have e1 : ((S.raises n).map ρ).rows 0 ++ ((S.raises n).map ρ).rows (n + 1) = ((S.raises n).rows 0 ++ (S.raises n).rows (n + 1)).map ρ := by simp [St.map]
   rw [e1, cM, ← cM _ (n + 1) []]; rfl
theorem rP (h : Inj ρ) (S : St) : (S.map ρ).boost = S.boost.map ρ := by
 unfold St.boost;by_cases e : S.boosts
 · rw [if_pos e, if_pos (show (S.map ρ).boosts from e), jx, fZ h, kz]
 · rw [if_neg e, if_neg (show ¬ (S.map ρ).boosts from e)]
theorem nR (h : Inj ρ) (S : St) : (S.map ρ).lead = S.lead.map ρ := by
 unfold St.lead St.wake;rw [jx, fY h, rP h]
theorem lC (S : St) : (S.map ρ).first = S.first.map ρ := by
 unfold St.first
 show ((S.rows 0).map ρ ++ ((S.rows 1).map ρ ++ (S.rows 2).map ρ)).head? = _;rw [← List.map_append, ← List.map_append, List.head?_map]
end
def St.tickE (S : St) : List Value := match S.lead.first with
 | none => [evt S.lead.now 2 0 0]
 | some b => match S.lead.get b with
   | some x => evt S.lead.now 1 x.id x.at_ :: S.lead.runE b x
   | none => []
def St.tickU (S : St) (c : Nat) : St := match S.lead.first with
 | none => S.lead
 | some b => match S.lead.get b with
   | some x => (S.lead.runS b x c).after b
   | none => S.lead
def St.next (T : St) : St := (T.tickU (T.last + 1)).later
def St.isOver (T : St) : Bool := match T.find 1 with
 | some q => decide (q.2.st = 6)
 | none => true
def St.evs : Nat → St → List Value
 | 0, _ => []
 | n + 1, T => if T.isOver then [] else T.tickE ++ St.evs n T.next
def St.runs : Nat → St → St
 | 0, T => T
 | n + 1, T => if T.isOver then T else St.runs n T.next
section
variable {ρ ρ' N : Nat → Nat} {S T : St} {b c : Nat} {x : PS}
theorem rQ (hI : Inv S) (r3 : ∀ l, 3 ≤ l → S.rows l = []) (e : ∀ q ∈ S.ps, ρ q.1 = ρ' q.1) : S.map ρ = S.map ρ' := by
 unfold St.map;have e1 : (S.ps.map fun q => (ρ q.1, q.2)) = S.ps.map fun q => (ρ' q.1, q.2) := by
   apply List.map_congr_left;intro q hq;rw [e q hq]
 have e2 : (fun l => (S.rows l).map ρ) = fun l => (S.rows l).map ρ' := by
   funext l
   by_cases hl : l < 3
   · apply List.map_congr_left;intro c hc;obtain ⟨y, hy, _⟩ := hI.g.rm l hl c hc;exact e _ hy
   · rw [r3 l (by omega)]; rfl
 have e3 : mapW ρ S.wt = mapW ρ' S.wt := by
   unfold mapW;apply List.map_congr_left;intro w hw;congr 1;apply List.map_congr_left;intro c hc;obtain ⟨y, hy, _⟩ := hI.rm w hw c hc;exact e _ hy
 rw [e1, e2, e3]
def St.nm (S : St) (c : Nat) (b : Nat) : Nat := match S.get b with
 | some x => x.id
 | none => if b = c then S.last + 1 else b + (S.last + 2)
theorem xE (hn : (S.ps.map (·.1)).Nodup) : ∀ q ∈ S.ps, S.nm c q.1 = q.2.id := fun q hq => by
 unfold St.nm;rw [bt (b := q.1) (x := q.2) hn hq]
theorem uH (hc : ∀ q ∈ S.ps, c ≠ q.1) : S.nm c c = S.last + 1 := by
 unfold St.nm;rw [ik fun q hq => Ne.symm (hc q hq)];simp
theorem yJ (h : XI N S) : Inj (S.nm c) := by
 intro a d e;unfold St.nm at e;cases ha : S.get a with
 | some x =>
   rw [ha] at e;have hx := bk ha;have h1 := (h.idr _ hx).2;simp only at h1 e;cases hd : S.get d with
   | some y =>
     rw [hd] at e;have hy := bk hd;have := h.idn _ hx _ hy e;exact congrArg Prod.fst this
   | none =>
     rw [hd] at e;simp only at e
     split at e <;> omega
 | none =>
   rw [ha] at e;simp only at e;cases hd : S.get d with
   | some y =>
     rw [hd] at e;have hy := bk hd;have h1 := (h.idr _ hy).2;simp only at h1 e
     split at e <;> omega
   | none =>
     rw [hd] at e;simp only at e
     split at e
     · split at e
       · omega
       · omega
     · split at e
       · omega
       · omega
theorem XI.rename (h : XI N S) (hρ : ∀ q ∈ S.ps, ρ q.1 = q.2.id) : XI ρ S := ⟨h.un, h.idn, h.idr, h.p1, h.p0, h.r3, hρ⟩
theorem TI.rename (h : TI N S) (hρ : ∀ q ∈ S.ps, ρ q.1 = q.2.id) : TI ρ S := ⟨⟨h.m.i, h.m.c, h.m.x.rename hρ⟩, h.p, h.bo, h.ls⟩
theorem rR (h : Inj ρ) (S : St) : (S.map ρ).tickE = S.tickE := by
 unfold St.tickE;rw [nR h, lC];cases S.lead.first with
 | none => rfl
 | some b =>
   simp only [Option.map_some, du h];cases S.lead.get b with
   | none => rfl
   | some x => simp only; rw [uE h]; rfl
theorem rS (h : Inj ρ) (S : St) (c : Nat) : (S.map ρ).tickU (ρ c) = (S.tickU c).map ρ := by
 unfold St.tickU;rw [nR h, lC];cases S.lead.first with
 | none => rfl
 | some b =>
   simp only [Option.map_some, du h];cases S.lead.get b with
   | none => rfl
   | some x => simp only; rw [uF h, rO h]
theorem kA (S : St) : (S.map ρ).isOver = S.isOver := by
 unfold St.isOver;rw [iv];cases S.find 1 <;> rfl
theorem kB (S : St) : S.lead.ps.map (·.1) = S.ps.map (·.1) := by
 have h1 : ∀ (bs : List Nat) (S : St), (S.wakes bs).ps.map (·.1) = S.ps.map (·.1) := by
   intro bs
   induction bs with
   | nil => intro S; rfl
   | cons b bs ih =>
     intro S;unfold St.wakes;rw [ih]
     split
     · split
       · exact aX S b _
       · rfl
     · rfl
 have h2 : ∀ (bs : List Nat) (S : St), (S.lifts bs).ps.map (·.1) = S.ps.map (·.1) := by
   intro bs
   induction bs with
   | nil => intro S; rfl
   | cons b bs ih =>
     intro S;unfold St.lifts;rw [ih]
     split
     · split
       · exact aX S b _
       · rfl
     · rfl
 unfold St.lead St.boost
 split
 · rw [(eV _ 2).1, h2]; exact h1 _ S
 · exact h1 _ S
theorem TI.tick (h : TI N S) (hc : ∀ q ∈ S.lead.ps, c ≠ q.1) (hN : N c = S.last + 1) : TI N (S.tickU c).later := by
 unfold St.tickU;cases hf : S.lead.first with
 | none => exact h.idle
 | some b =>
   simp only;obtain ⟨x, hx, _⟩ := eW h.m.lead.i.g hf;rw [bt h.m.lead.i.g.pn hx];exact h.ran hf hx hc hN
structure Ab (S T : St) : Prop where
 ex : ∃ N, TI N S ∧ T = S.map N
theorem Ab.tick (h : Ab S T) (hc : ∀ q ∈ S.lead.ps, c ≠ q.1) : T.tickE = S.tickE ∧ T.isOver = S.isOver ∧ Ab (S.tickU c).later T.next := by
 obtain ⟨N, hN, rfl⟩ := h.ex;have hcs : ∀ q ∈ S.ps, c ≠ q.1 := fun q hq e => by
   have : q.1 ∈ S.lead.ps.map (·.1) := by rw [kB]; exact List.mem_map.2 ⟨q, hq, rfl⟩
   obtain ⟨r, hr, e2⟩ := List.mem_map.1 this;exact hc r hr (by rw [e, ← e2])
 have hid := xE (c := c) hN.m.i.g.pn;have hT := hN.rename hid;have hinj := yJ (c := c) hN.m.x;have hnew := uH hcs;have e : S.map N = S.map (S.nm c) := rQ hN.m.i hN.m.x.r3 fun q hq => by rw [hid q hq, hN.m.x.nm q hq]
 rw [e];refine ⟨rR hinj S, kA S, ⟨S.nm c, hT.tick hc hnew, ?_⟩⟩;unfold St.next
 show ((S.map (S.nm c)).tickU (S.last + 1)).later = _;rw [← hnew, rS hinj]; rfl
theorem Ab.self (h : TI N S) : Ab S (S.map N) := ⟨N, h, rfl⟩
theorem Ab.find1 (h : Ab S T) : ∃ b x, S.find 1 = some (b, x) ∧ (T.isOver = true ↔ x.st = 6) := by
 obtain ⟨N, hN, rfl⟩ := h.ex;obtain ⟨q, hq, h1⟩ := hN.m.x.p1;cases hf : S.find 1 with
 | none =>
   unfold St.find at hf;have := List.find?_eq_none.1 hf q hq;simp at this;omega
 | some r =>
   refine ⟨r.1, r.2, rfl, ?_⟩;rw [kA];unfold St.isOver;rw [hf];simp
end
theorem yK : ∃ n, ∀ {p : Par} {Sh : Loc → Prop} {E Dn : Nat} {PostB : World → Prop} {Aft : Goroutine → World → Prop} {W : World} {O : Nat} {G0 : List (Nat × Obj)} {vs : List Value} (K : Nat) (A : Lay) (S : St) (N : Nat → Nat) (Fr L : Frag) (eb : Nat → Nat × Nat), (∀ s, NewT (domT Tryz.prog p Sh E Dn PostB Aft W O G0 s)) → Rep K A S Fr L → Ers eb Fr → TI N S → S.now < 2305843009213693952 →
   CallsL (domT Tryz.prog p Sh E Dn PostB Aft W O G0) Tryz.prog false 63 [ptr K, .chan (some E)].toArray n (S.tickE ++ vs) L (fun s' v L' => vs = s' ∧ v = .tuple #[] ∧ ∃ A' c, (∀ q ∈ S.lead.ps, c ≠ q.1) ∧ Rep K A' (S.tickU c) Fr L') := by
 obtain ⟨n0, g0⟩ := yG;obtain ⟨n1, g1⟩ := yH;refine ⟨n0 + n1, fun {p Sh E Dn PostB Aft W O G0 vs} K A S N Fr L eb hN hR hE hT hn => aS (S.lead.first = none) (fun hf => ?_) fun hf => ?_⟩
 · have e1 : S.tickE = [evt S.lead.now 2 0 0] := by unfold St.tickE; rw [hf]
   have e2 : ∀ c, S.tickU c = S.lead := fun c => by unfold St.tickU; rw [hf]
   rw [e1];refine aU (g0 K A S Fr L eb hN hR hE hT.m.i hT.bo hf) fun s' v L' ⟨h1, h2, A', h3⟩ => ⟨h1, h2, A', K, fun q hq => ?_, by rw [e2]; exact h3⟩;exact h3.fn.ne h3.k (h3.p q hq) (aF (by decide))
 · obtain ⟨b, hb⟩ : ∃ b, S.lead.first = some b := by
     cases h : S.lead.first with
     | none => exact absurd h hf
     | some b => exact ⟨b, rfl⟩
   obtain ⟨x, hx, hs⟩ := eW hT.m.lead.i.g hb;have e1 : S.tickE = evt S.lead.now 1 x.id x.at_ :: S.lead.runE b x := by unfold St.tickE; rw [hb]; simp only [bt hT.m.lead.i.g.pn hx]
   have e2 : ∀ c, S.tickU c = (S.lead.runS b x c).after b := fun c => by unfold St.tickU; rw [hb]; simp only [bt hT.m.lead.i.g.pn hx]
   rw [e1];have hres : ∀ c, (∀ q ∈ S.lead.ps, c ≠ q.1) → Inv (S.lead.runS b x c) ∧ ∀ z, (b, z) ∈ (S.lead.runS b x c).ps → z.used < 4611686018427387904 := fun c hc => by
     have hcs : ∀ q ∈ S.ps, c ≠ q.1 := fun q hq e => by
       have : q.1 ∈ S.lead.ps.map (·.1) := by rw [kB]; exact List.mem_map.2 ⟨q, hq, rfl⟩
       obtain ⟨r, hr, e2⟩ := List.mem_map.1 this;exact hc r hr (by rw [e, ← e2])
     have hT2 := hT.rename (xE (c := c) hT.m.i.g.pn);have hm := hT2.m.lead.runS hT2.coded_lead hx hs hc (by rw [dI]; exact uH hcs);refine ⟨hm.i, fun z hz => ?_⟩;have := hm.x.un _ hz;rw [(jw S.lead b x c).1.now, (cv S).now] at this;simp only at this;omega
   exact aU (g1 K A S Fr L eb b x hN hR hE hT.m.i hT.bo hb (hT.running hn hb hx) hT.p.1 hT.p.2 hres) fun s' v L' ⟨h1, h2, A', c, h3, h4⟩ => ⟨h1, h2, A', c, h3, by rw [e2]; exact h4⟩
theorem uI (k : KS) (v : Nat) : (kcells k).setIfInBounds 16 (.int .i64 (v : Nat)) = kcells { k with now := (v : Nat) } := rfl
theorem yL : ∃ n, ∀ {p : Par} {Sh : Loc → Prop} {E Dn : Nat} {PostB : World → Prop} {Aft : Goroutine → World → Prop} {W : World} {O : Nat} {G0 : List (Nat × Obj)} {vs : List Value} (K : Nat) (A : Lay) (S T : St) (Fr L : Frag) (eb : Nat → Nat × Nat) (m : Nat), (∀ s, NewT (domT Tryz.prog p Sh E Dn PostB Aft W O G0 s)) → Rep K A S Fr L → Ers eb Fr → Ab S T → m ≤ 2000 → S.now < 1152921504606846976 →
   CallsL (domT Tryz.prog p Sh E Dn PostB Aft W O G0) Tryz.prog false 33 [ptr K, .int .i64 (m : Nat), .chan (some E)].toArray n (St.evs m T ++ vs) L (fun s' v L' => vs = s' ∧ v = .tuple #[] ∧ ∃ A' S', Ab S' (St.runs m T) ∧ Rep K A' S' Fr L') := by
 obtain ⟨n0, g0⟩ := yd;obtain ⟨n1, g1⟩ := yK;apply Exists.intro;intro p Sh E Dn PostB Aft W O G0 vs K A S T Fr L eb m hN hR hE hA hm hnow;co_applyP aB 22 Tryz.func33 Tryz.ntmps33;co_applyP ae;co_applyP aa;co_applyP oy rfl aj;co_applyP oy rfl aj;co_applyP ah;change wpE ..;co_applyP aI;co_applyP bG (fun c s' ε' L' => ∃ (i : Nat) (A' : Lay) (S' T' : St), i ≤ m ∧ c + i = 2000 ∧ s' = St.evs (m - i) T' ++ vs ∧ Ab S' T' ∧ St.runs (m - i) T' = St.runs m T ∧ S'.now ≤ S.now + i ∧ Rep K A' S' Fr L' ∧ kn ε' [(0, ptr K), (2, .chan (some E)), (6, .int .i64 (m : Nat)), (7, .int .i64 (i : Nat))]) 2000
 · exact ⟨0, A, S, T, by omega, rfl, rfl, hA, rfl, Nat.le_refl _, hR, rfl⟩
 rintro c s' ε' L' ⟨i, A', S', T', hi, hc, rfl, hA', hruns, hnw, hR', he⟩;co_applyP a6 he;have ei : IntKind.i64.wrap ((i : Int) + 1) = ((i + 1 : Nat) : Int) := by simp [IntKind.wrap_i64]; omega
 obtain ⟨b1, x1, hf1, hov⟩ := hA'.find1;co_applyP bK (T'.isOver = true);intro ho
 · skip
   co_applyP ae;co_applyP aa;co_applyP oy rfl bX;co_applyP ah;change wpE ..;co_applyP ae;co_applyP bl rfl;intro hlt
   · have hlt' : i < m := by simp at hlt; omega
     obtain ⟨j, hj⟩ : ∃ j, m - i = j + 1 := ⟨m - i - 1, by omega⟩;have e6 : ((x1.st : Int) == 6) = true := by simp; have := hov.1 ho; omega
     have ev0 : St.evs (m - i) T' = [] := by rw [hj]; unfold St.evs; rw [if_pos ho]
     have er0 : St.runs (m - i) T' = T' := by rw [hj]; unfold St.runs; rw [if_pos ho]
     rw [ev0];co_applyP aA;change wpE ..;co_applyP ae (n₂ := 0);co_applyP aI;co_applyP ae (n₂ := 0);co_applyP ae;co_applyP aa;co_applyP oy rfl aj;co_applyP oc rfl rfl rfl (g0 K A' S' Fr L' b1 x1 hR' hf1);rintro _ _ _ ⟨rfl, rfl, rfl⟩;co_applyP ah;change wpE ..;rw [e6];co_applyP aW rfl;co_applyP aJ;change ∃ v, resE .. = some v ∧ _;exact ⟨_, rfl, rfl, rfl, A', S', by rw [← hruns, er0]; exact hA', hR'⟩
   intro hlt;co_applyP bL;change ∃ v, resE .. = some v ∧ _;have him : i = m := by simp at hlt; omega
   subst him;simp only [Nat.sub_self] at hruns ⊢;exact ⟨_, rfl, rfl, rfl, A', S', by rw [← hruns]; exact hA', hR'⟩
 intro ho;co_applyP ae;co_applyP aa;co_applyP oy rfl bX;co_applyP ah;change wpE ..;co_applyP ae;co_applyP bl rfl;intro hlt
 · have hlt' : i < m := by simp at hlt; omega
   obtain ⟨j, hj⟩ : ∃ j, m - i = j + 1 := ⟨m - i - 1, by omega⟩;have e6 : ((x1.st : Int) == 6) = false := by simp; intro h; exact ho (hov.2 (by omega))
   obtain ⟨N, hTI, hTm⟩ := hA'.ex;have etE : T'.tickE = S'.tickE := (hA'.tick (c := K) (fun q hq => by
     have h1 : q.1 ∈ S'.ps.map (·.1) := by rw [← kB]; exact List.mem_map.2 ⟨q, hq, rfl⟩
     obtain ⟨r, hr, e2⟩ := List.mem_map.1 h1;rw [← e2];exact hR'.fn.ne hR'.k (hR'.p r hr) (aF (by decide)))).1
   have ev1 : St.evs (m - i) T' = S'.tickE ++ St.evs (m - (i + 1)) T'.next := by
     rw [hj];show (if T'.isOver then [] else T'.tickE ++ St.evs j T'.next) = _;rw [if_neg ho, etE, show m - (i + 1) = j by omega]
   have er1 : St.runs (m - i) T' = St.runs (m - (i + 1)) T'.next := by
     rw [hj];show (if T'.isOver then T' else St.runs j T'.next) = _;rw [if_neg ho, show m - (i + 1) = j by omega]
   rw [ev1, List.append_assoc];co_applyP aA;change wpE ..;co_applyP ae;co_applyP aI;co_applyP ae;co_applyP ae;co_applyP aa;co_applyP oy rfl aj;co_applyP oc rfl rfl rfl (g0 K A' S' Fr L' b1 x1 hR' hf1);rintro _ _ _ ⟨rfl, rfl, rfl⟩;co_applyP ah;change wpE ..;rw [e6];co_applyP aq rfl;co_applyP aA;change wpE ..;co_applyP ae;co_applyP aa;co_applyP oy rfl aj;co_applyP oy rfl aj;co_applyP oc rfl rfl rfl (g1 K A' S' N Fr L' eb hN hR' hE hTI (by omega));rintro _ _ _ ⟨rfl, rfl, A2, cc, hcc, hR2⟩;rename_i L2;have hnx := (hA'.tick hcc).2.2;have hnow2 : (S'.tickU cc).now = S'.now := by
     unfold St.tickU
     split
     · exact (cv S').now
     · split
       · rename_i bb _ xx _;rw [(ir _ _).now, (jw _ _ _ _).1.now]; exact (cv S').now
       · exact (cv S').now
   have hn2 : At L2 K 16 (.int .i64 ((S'.tickU cc).now : Nat)) := hR2.kat rfl;have wn : IntKind.i64.wrap (((S'.tickU cc).now : Int) + 1) = (((S'.tickU cc).now + 1 : Nat) : Int) := by rw [hnow2]; simp [IntKind.wrap_i64]; omega
   co_applyP ah;change wpE ..;co_applyP aa;co_applyP oy rfl aj;co_applyP oy rfl aL;co_applyP oy rfl (av (hf := bZ));co_applyP oy rfl (aC (ht := aV));co_applyP oy rfl a7;co_applyP oy rfl aL;co_applyP oy rfl (av (hf := bZ));rw [wn];co_applyP osm rfl (hs := dm) (hm := hR2.k) (hi := by first | decide | (rw [bg]; omega) | (rw [bC]; omega));intro L3 hU3;rw [uI] at hU3;have hR3 : Rep K A2 (S'.tickU cc).later Fr L3 := hR2.setK rfl rfl rfl rfl rfl rfl hU3;co_applyP ah;change wpE ..;co_applyP aa;co_applyP oy rfl a7;co_applyP oy rfl aj;co_applyP ah;change ∃ k', k' < _ ∧ _;refine ⟨c - 1, by omega, i + 1, A2, _, T'.next, by omega, by omega, rfl, hnx, by rw [← er1]; exact hruns, ?_, hR3, by rw [← ei]; rfl⟩;show (S'.tickU cc).now + 1 ≤ _;rw [hnow2];omega
 intro hlt;co_applyP bL;change ∃ v, resE .. = some v ∧ _;have him : i = m := by simp at hlt; omega
 subst him;simp only [Nat.sub_self] at hruns ⊢;exact ⟨_, rfl, rfl, rfl, A', S', by rw [← hruns]; exact hA', hR'⟩
end Go.Proofs.YtejkelcaljmnoaaGreatDoor
namespace Go.Proofs.YtejkelcaljmnoaaGreatDoor
open Go.Conc Go.RowKit Go.Hx Go.Lo Go.ConcX Go.Conc.Lib Go.ConcX.Gen
def call31 (Wg db kb tb eb : Nat) : Deferred := { target := .fn (.func 31) #[.pointer (some ⟨Wg, 0, none⟩), .pointer (some ⟨db, 0, none⟩), .pointer (some ⟨kb, 0, none⟩), .pointer (some ⟨tb, 0, none⟩), .pointer (some ⟨eb, 0, none⟩)], args := #[] }
noncomputable def bot : Frame := { (default : Frame) with fn := Tryz.prog.funcs.size, defers := [], mode := .panicking [goexitEntry] }
theorem rT (Wg db kb tb eb : Nat) (w : World) : ∃ c, Tryz.f31.body = some c ∧ stepG Tryz.prog false (born Tryz.prog (call31 Wg db kb tb eb)) w =
   .go (G ((baseD 31).at ⟨#[.pointer (some ⟨Wg, 0, none⟩), .pointer (some ⟨db, 0, none⟩), .pointer (some ⟨kb, 0, none⟩), .pointer (some ⟨tb, 0, none⟩), .pointer (some ⟨eb, 0, none⟩), undef, undef, undef, undef, undef], []⟩ [.code c]) [bot]) w #[] := by
 refine ⟨_, rfl, ?_⟩;simp [born, call31, stepG, unwind, callDeferred, invoke, callFunc, Tryz.func31, Tryz.f31, seen, GStep.after, G, Frame.enter, Frame.at, baseD, bot]
theorem rU (T : Array Value) : QuitsD Tryz.prog 2 0 (G { (baseD 31).at ⟨T, []⟩ [] with mode := .returning } [bot]) := by
 refine QuitsD.ctl (g' := G bot []) rfl (fun w => ?_) ?_
 · simp [G, stepG, unwind, doReturn, results, Frame.at, baseD, bot, Tryz.func31, Tryz.f31, seen, GStep.after, goexitEntry]
 refine QuitsD.ctl (g' := { G bot [] with status := .finished }) rfl (fun w => ?_) ⟨rfl, rfl⟩;simp [G, stepG, unwind, bot, goexitEntry, Frame.catches];rfl
section
variable {p : Par} {Sh : Loc → Prop} {E Dn : Nat} {Wg C Low kb db eb K O : Nat} {W : World} {ticks : Int} {Mine : Loc → Prop} [Shy Wg C] {L : Frag} {QL : Frag → Prop}
abbrev GW (Wg : Nat) : List (Nat × Obj) := [(Wg, .cells #[.int .u64 KK, .int .u32 0] 87)]
def PostW (p : Par) (Sh : Loc → Prop) (E Dn : Nat) (W : World) (O : Nat) (Wg C : Nat) (QL : Frag → Prop) (w : World) : Prop :=
 ∃ L, OwnW p Sh E Dn W O L w ∧ (∀ t ∈ L, t.1 ≠ C ∧ t.1 ≠ Wg) ∧ QL L
set_option maxHeartbeats 4000000 in
theorem yM (hW : Wg < Low) (hC : C < Low) (hCW : C ≠ Wg) (T : Array Value) (w : World) (h1 : WgAt 87 Wg w KK 0) (h2 : Full C [.int .i64 ticks] w) :
   AfterD Tryz.prog 87 Wg C Low [.int .i64 ticks] Mine (G { (baseD 31).at ⟨T, [dcall 32 #[.pointer (some ⟨Wg, 0, none⟩)]]⟩ [] with mode := .returning } [bot]) w := by
 refine ⟨h1, 24, Goes.step rfl fun w₁ h₁ => ?_⟩;rw [stepG_unwind_enter rfl Tryz.func32 (nm_done Tryz.link) rfl];refine ⟨dcs_none (by simp), ?_⟩
 walk_nrmf Tryz.f32
 have hA := @doneD _ Tryz.link Tryz.prog Tryz.wgLib Mine Wg C Low _ [.int .i64 ticks] hW hC hCW;simp only [body_done, doneFn, Option.getD_some] at hA;exact hA rfl (rU _) _ ⟨h₁.k (.inl h1), h2.of_block (h₁.low C hC hCW)⟩
omit [Shy Wg C] in
theorem iy {G : List (Nat × Obj)} {w : World} (hO : (domV p Sh E Dn W O G).Own L w) {t : Nat} {fl : Bool} {cs : Array Value} {ty : TypeId} (hm : (t, fl, Obj.cells cs ty) ∈ L) : (∀ {i : Nat} {v : Value}, cs[i]? = some v → w.cell? ⟨t, i, none⟩ = some v) ∧ ∀ i, EvB p Sh w ⟨.cell ⟨t, i, none⟩, false, false⟩ := by
 have h := (domV p Sh E Dn W O G).has hO hm;exact ⟨fun hv => by simp [World.cell?, h, hv], (domV p Sh E Dn W O G).evc hO hm⟩
set_option maxHeartbeats 4000000 in
theorem pq (hW : Wg < Low) (hC' : C < Low) (hCW : C ≠ Wg) (hWD : Wg ≠ Dn) (hCD : C ≠ Dn) (h0 : (kb, false, Obj.cells #[.pointer (some ⟨K, 0, none⟩)] 35) ∈ L) (h1 : (C, false, Obj.cells #[.int .i64 ticks] 3) ∈ L) (h2 : (eb, false, Obj.cells #[.chan (some E)] 76) ∈ L) (h3 : (db, false, Obj.cells #[.chan (some Dn)] 77) ∈ L)
   (k : Nat) (es : List Value) (hpass : ∀ w, (domV p Sh E Dn W O (GW Wg)).Own L w → CallsX (tellF Tryz.prog p Sh E Dn (PostW p Sh E Dn W O Wg C QL) (AfterD Tryz.prog 87 Wg C Low [.int .i64 ticks] Mine)) Tryz.prog false 33 #[.pointer (some ⟨K, 0, none⟩), .int .i64 ticks, .chan (some E)] k es w fun s' _ w' => s' = [] ∧ ∃ L', (domV p Sh E Dn W O (GW Wg)).Own L' w' ∧ (C, false, Obj.cells #[.int .i64 ticks] 3) ∈ L' ∧ QL (L'.filter fun t => !decide (t.1 = C)))
   (w : World) (hS : (domV p Sh E Dn W O (GW Wg)).Own L w) : Tells Tryz.prog p Sh E Dn (PostW p Sh E Dn W O Wg C QL) (AfterD Tryz.prog 87 Wg C Low [.int .i64 ticks] Mine) es (born Tryz.prog (call31 Wg db kb C eb)) w := by
 rw [eJ];co_apply Exists.intro;co_apply Goes.step rfl;intro w₁ h₁;replace hS := (domV p Sh E Dn W O (GW Wg)).rely hS h₁;clear h₁;obtain ⟨c, hc, hb⟩ := rT Wg db kb C eb w₁;rw [hb];refine ⟨(dZ p Sh E Dn).idle _, ?_⟩;simp only [Tryz.f31, Option.some.injEq] at hc;subst hc;clear hb;co_apply bB (dZ p Sh E Dn) rfl (fun _ => stepG_seq);co_apply bB (dZ p Sh E Dn) rfl (fun _ => stepG_region);simp only [List.size_toArray, List.length_cons, List.length_nil, Nat.reduceAdd, Nat.zero_add, List.range, List.range.loop];co_apply bB (dZ p Sh E Dn) rfl (fun _ => stepG_defer rfl rfl (by decide) rfl)
 walk_nrm
 co_apply bB (dZ p Sh E Dn) rfl (fun _ => stepG_region_end);co_apply bB (dZ p Sh E Dn) rfl (fun _ => stepG_seq);co_apply bB (dZ p Sh E Dn) rfl (fun _ => stepG_region);simp only [List.size_toArray, List.length_cons, List.length_nil, Nat.reduceAdd, Nat.zero_add, List.range, List.range.loop];co_apply Goes.step rfl;intro w₁ h₁;replace hS := (domV p Sh E Dn W O (GW Wg)).rely hS h₁;clear h₁;refine goes_oper_k rfl rfl (by decide) (fun K hK => ?_);have hr := iy hS h3;have hc := hr.1 (i := 0) rfl;go_simp;refine hK _ _ ⟨?_, ?_⟩
 · refine jl ?_
   co_evs (exact hr.2 _)
 clear hK K hc hr
 try walk_nrm
 co_apply bB (dZ p Sh E Dn) rfl (fun _ => iJ rfl rfl (by decide) rfl rfl)
 try walk_nrm
 co_apply bB (dZ p Sh E Dn) rfl (fun _ => stepG_region_end);co_apply jE (F := tellF Tryz.prog p Sh E Dn (PostW p Sh E Dn W O Wg C QL) (AfterD Tryz.prog 87 Wg C Low [.int .i64 ticks] Mine)) (s := es) (Q := fun s' e a' w' => e = .normal ∧ s' = [] ∧ (∃ T, a' = ⟨T, [dclose #[77] 0 Dn, dcall 32 #[.pointer (some ⟨Wg, 0, none⟩)]]⟩) ∧ ∃ L', (domV p Sh E Dn W O (GW Wg)).Own L' w' ∧ (C, false, Obj.cells #[.int .i64 ticks] 3) ∈ L' ∧ QL (L'.filter fun t => !decide (t.1 = C))) (b := baseD 31) (k := []) (cs := [bot]) (fn := 31) ?_ rfl (by decide) ?_
 · have hF := hS;clear hS;co_apply bf;simp only [List.size_toArray, List.length_cons, List.length_nil, Nat.reduceAdd, Nat.zero_add, List.range, List.range.loop];co_apply aH rfl (by rfl);intro _ hR K hK;replace hF := (domV p Sh E Dn W O (GW Wg)).rely hF hR;clear hR
   (have hr := iy hF h0; have hc := hr.1 (i := 0) rfl)
   go_simp
   try (unfold stored; go_simp)
   refine hK _ _ ⟨?_, ?_⟩
   · (refine jl ?_; co_evs (exact hr.2 _))
   clear hK K
   try walk_nrm
   clear hc hr;co_apply aH rfl (by rfl);intro _ hR K hK;replace hF := (domV p Sh E Dn W O (GW Wg)).rely hF hR;clear hR
   (have hr := iy hF h1; have hc := hr.1 (i := 0) rfl)
   go_simp
   try (unfold stored; go_simp)
   refine hK _ _ ⟨?_, ?_⟩
   · (refine jl ?_; co_evs (exact hr.2 _))
   clear hK K
   try walk_nrm
   clear hc hr;co_apply aH rfl (by rfl);intro _ hR K hK;replace hF := (domV p Sh E Dn W O (GW Wg)).rely hF hR;clear hR
   (have hr := iy hF h2; have hc := hr.1 (i := 0) rfl)
   go_simp
   try (unfold stored; go_simp)
   refine hK _ _ ⟨?_, ?_⟩
   · (refine jl ?_; co_evs (exact hr.2 _))
   clear hK K
   try walk_nrm
   clear hc hr;co_apply fI rfl (by rfl) rfl
   · walk_nrm
     exact hpass _ hF
   intro s' v w' hv;obtain ⟨rfl, hS⟩ := hv
   walk_nrm
   co_apply bw;exact ⟨rfl, rfl, ⟨_, rfl⟩, hS⟩
 · rintro s' e a' w' ⟨rfl, rfl, ⟨T, rfl⟩, L', hS, hC3, hQ⟩;show Goes Tryz.prog false (RB p E Dn) (DT p Sh E Dn) (AtOver Tryz.prog Dn (PostW p Sh E Dn W O Wg C QL) (AfterD Tryz.prog 87 Wg C Low [.int .i64 ticks] Mine)) _ (G ((baseD 31).at ⟨T, [dclose #[77] 0 Dn, dcall 32 #[.pointer (some ⟨Wg, 0, none⟩)]]⟩ []) [bot]) w';co_apply bB (n := 0) (dZ p Sh E Dn) rfl (fun _ => stepG_end);refine Goes.stop fun w₁ h₁ => ?_;replace hS := (domV p Sh E Dn W O (GW Wg)).rely hS h₁;have hwg := hS.2.h (Wg, _) (List.mem_cons_self);have hcc := (domV p Sh E Dn W O (GW Wg)).has hS hC3;refine ⟨rfl, rfl, ⟨L'.filter fun t => !decide (t.1 = C), (domW p Sh E Dn W O).sub hS.1 (fun t ht => (List.mem_filter.1 ht).1) ?_, fun t ht => ⟨by simpa using (List.mem_filter.1 ht).2, hS.2.l (Wg, _) (List.mem_cons_self) t (List.mem_filter.1 ht).1⟩, hQ⟩, _, rfl, fun hD => gO rfl hD (by kernel_rfl), ?_⟩
   · exact ((domW p Sh E Dn W O).nd hS.1).sublist (List.Sublist.map _ List.filter_sublist)
   refine yM hW hC' hCW T _ ?_ ?_
   · unfold WgAt;rw [b9 hWD];exact hwg
   · intro _;rw [b9 hCD];exact hcc
end
end Go.Proofs.YtejkelcaljmnoaaGreatDoor
namespace Go.Proofs.YtejkelcaljmnoaaGreatDoor
open Go.Conc Go.RowKit Go.Hx Go.ConcX Go.Conc.Lib Go.ConcX.Gen
theorem d0Z {w w₁ : World} {P : Program} {Fin : Value → World → Prop} {s : Nat × List Nat} {es : Array Event} (h : ∀ e ∈ es, EvP (Shs s.2) e) : (FZ P Fin).D s w w₁ es := h
theorem Aa (w : World) : (Instr.makeChan 76 (.int .i64 0)).run Tryz.prog w = .ok (.chan (some w.heap.size)) (w.alloc (.chan 0 #[] false 0 0 false)) ∧ ∀ es, (Instr.makeChan 76 (.int .i64 0)).events Tryz.prog w es = es := by
 obtain ⟨i, z, h1, _, _, h4, _⟩ := sC;exact ⟨by simpa using run_makeChan (P := Tryz.prog) (w := w) Tryz.underlying76 h1 .i64 0 (by omega) (by rw [h4]; omega), fun es => by simpa using events_makeChan (P := Tryz.prog) (w := w) Tryz.underlying76 h1 .i64 0 (by omega) (by rw [h4]; omega) es⟩
theorem Ac (w : World) : (Instr.makeChan 77 (.int .i64 0)).run Tryz.prog w = .ok (.chan (some w.heap.size)) (w.alloc (.chan 0 #[] false 0 0 false)) ∧ ∀ es, (Instr.makeChan 77 (.int .i64 0)).events Tryz.prog w es = es := by
 have h : (Tryz.prog.info? 78).map (·.bytes) = some 0 := by kernel_rfl
 obtain ⟨i, h1, h4⟩ := Option.map_eq_some_iff.1 h;exact ⟨by simpa using run_makeChan (P := Tryz.prog) (w := w) Tryz.underlying77 h1 .i64 0 (by omega) (by rw [h4]; omega), fun es => by simpa using events_makeChan (P := Tryz.prog) (w := w) Tryz.underlying77 h1 .i64 0 (by omega) (by rw [h4]; omega) es⟩
def RanZ (PostB : World → Prop) (N : Nat) (told : Value) (ws : List Wd) (w : World) : Prop := PostB w ∧ Hx.Told (pZ N) told ws.length (ws.flatMap Wd.c) w
set_option maxHeartbeats 8000000 in
theorem Ae : ∃ k, ∀ {Fin : Value → World → Prop} (nn : Nat) (s : List Nat) (K : Nat) (ticks : Int) (ht : 0 ≤ ticks ∧ ticks ≤ 2000) (ws : List Wd) (hws : ws.length < 10000) (W : World) (hE : Elder (Shs s) W.heap.size) (PostB : World → Prop)
   (hPb : ∀ w w₁, RB (pZ W.heap.size) (W.heap.size + 2) (W.heap.size + 4) w w₁ → PostB w → PostB w₁) (hPc : ∀ w w₁, Aside2 (W.heap.size + 1) (W.heap.size + 6) w w₁ → PostB w → PostB w₁) (hPn : ∀ w, PostB w → W.heap.size + 7 ≤ w.heap.size)
   (hT : ∀ [Shy (W.heap.size + 6) (W.heap.size + 1)] (w' : World), New W (boxZ W.heap.size K ticks KK) w' → Tells Tryz.prog (pZ W.heap.size) (ShR (Shs s) W.heap.size) (W.heap.size + 2) (W.heap.size + 4) PostB (AfterD Tryz.prog 87 (W.heap.size + 6) (W.heap.size + 1) (W.heap.size + 7) [.int .i64 ticks] Mine0) (ws.map Wd.v) (born Tryz.prog (started W.heap.size)) w'),
   CallsX (FZ Tryz.prog Fin) Tryz.prog true 19 #[.pointer (some ⟨K, 0, none⟩), .int .i64 ticks] k (nn + 1, s) W fun s' v w' => s' = (nn, W.heap.size :: s) ∧ ∃ told, v = .tuple #[told, .int .i64 0] ∧ RanZ PostB W.heap.size told ws w' := by
 co_apply Exists.intro;intro Fin nn s K ticks ht ws hws W hE PostB hPb hPc hPn hT;have hF : New W [] W := New.refl W;have c76 := fun w => (Aa w).1;have d76 := fun w => (Aa w).2;have c77 := fun w => (Ac w).1;have d77 := fun w => (Ac w).2;have b1 : ¬ ticks < 0 := by omega
 have b2 : ¬ 2000 < ticks := by omega
 have b3 : ¬ ticks > 2000 := by omega
 co_apply eH Tryz.func19 (by rfl) rfl;simp only [Tryz.ntmps19, List.size_toArray, List.length_cons, List.length_nil, Nat.reduceAdd, Nat.reduceSub, Array.replicate_succ, Array.replicate_zero, List.push_toArray, List.append_toArray, List.nil_append, List.cons_append];co_apply b5;co_apply bf;simp only [List.size_toArray, List.length_cons, List.length_nil, Nat.reduceAdd, Nat.zero_add, List.range, List.range.loop];co_apply aH rfl (by rfl);intro _ hR K hK;replace hF := (New.rely) hF hR;clear hR;have hs := hF.size;go_simp
 try (unfold stored; go_simp)
 refine hK _ _ ⟨?_, ?_⟩
 · (refine d0Z ?_; intro e he; have hm := mem_listed he; simp [go_sem, *] at hm)
 clear hK K
 try walk_nrm
 replace hF := hF.alloc (.cells #[.pointer (some ⟨K, 0, none⟩)] 35)
 try simp only [List.length_cons, List.length_nil, Nat.reduceAdd, Nat.add_zero, Nat.zero_add] at hs
 try simp only [List.nil_append, List.cons_append] at hF
 try simp only [hs]
 clear hs;co_apply aH rfl (by rfl);intro _ hR K hK;replace hF := (New.rely) hF hR;clear hR;have hs := hF.size;go_simp
 try (unfold stored; go_simp)
 refine hK _ _ ⟨?_, ?_⟩
 · (refine d0Z ?_; intro e he; have hm := mem_listed he; simp [go_sem, *] at hm)
 clear hK K
 try walk_nrm
 replace hF := hF.alloc (.cells #[.int .i64 ticks] 3)
 try simp only [List.length_cons, List.length_nil, Nat.reduceAdd, Nat.add_zero, Nat.zero_add] at hs
 try simp only [List.nil_append, List.cons_append] at hF
 try simp only [hs]
 clear hs;co_apply aH rfl (by rfl);intro _ hR K hK;replace hF := (New.rely) hF hR;clear hR
 skip
 go_simp
 try (unfold stored; go_simp)
 refine hK _ _ ⟨?_, ?_⟩
 · (rw [listed_nil (by simp [go_sem, *])]; exact d0Z (by simp))
 clear hK K
 try walk_nrm
 co_apply aH rfl (by rfl);intro _ hR K hK;replace hF := (New.rely) hF hR;clear hR
 skip
 go_simp
 try (unfold stored; go_simp)
 refine hK _ _ ⟨?_, ?_⟩
 · (rw [listed_nil (by simp [go_sem, *])]; exact d0Z (by simp))
 clear hK K
 try walk_nrm
 co_apply bw
 try simp only [ThenX]
 try co_then
 co_apply b5;co_apply b5;co_apply bf;simp only [List.size_toArray, List.length_cons, List.length_nil, Nat.reduceAdd, Nat.zero_add, List.range, List.range.loop];co_apply aH rfl (by rfl);intro _ hR K hK;replace hF := (New.rely) hF hR;clear hR;have hc := hF.cell (i := 1) rfl (j := 0) rfl;go_simp
 try (unfold stored; go_simp)
 refine hK _ _ ⟨?_, ?_⟩
 · (refine d0Z ?_; intro e he; have hm := mem_listed he; simp [go_sem, *] at hm; try (first | (subst hm; exact dM _ _ (hE.not (by omega) _)) | (rcases hm with rfl | rfl <;> exact dM _ _ (hE.not (by omega) _))))
 clear hK K
 try walk_nrm
 clear hc;co_apply aH rfl (by rfl);intro _ hR K hK;replace hF := (New.rely) hF hR;clear hR
 skip
 go_simp
 try (unfold stored; go_simp)
 refine hK _ _ ⟨?_, ?_⟩
 · (rw [listed_nil (by simp [go_sem, *])]; exact d0Z (by simp))
 clear hK K
 try walk_nrm
 co_apply aH rfl (by rfl);intro _ hR K hK;replace hF := (New.rely) hF hR;clear hR
 skip
 go_simp
 try (unfold stored; go_simp)
 refine hK _ _ ⟨?_, ?_⟩
 · (rw [listed_nil (by simp [go_sem, *])]; exact d0Z (by simp))
 clear hK K
 try walk_nrm
 co_apply aH rfl (by rfl);intro _ hR K hK;replace hF := (New.rely) hF hR;clear hR;have hc := hF.cell (i := 1) rfl (j := 0) rfl;go_simp
 try (unfold stored; go_simp)
 refine hK _ _ ⟨?_, ?_⟩
 · (refine d0Z ?_; intro e he; have hm := mem_listed he; simp [go_sem, *] at hm; try (first | (subst hm; exact dM _ _ (hE.not (by omega) _)) | (rcases hm with rfl | rfl <;> exact dM _ _ (hE.not (by omega) _))))
 clear hK K
 try walk_nrm
 clear hc;co_apply aH rfl (by rfl);intro _ hR K hK;replace hF := (New.rely) hF hR;clear hR
 skip
 go_simp
 try (unfold stored; go_simp)
 refine hK _ _ ⟨?_, ?_⟩
 · (rw [listed_nil (by simp [go_sem, *])]; exact d0Z (by simp))
 clear hK K
 try walk_nrm
 co_apply aH rfl (by rfl);intro _ hR K hK;replace hF := (New.rely) hF hR;clear hR
 skip
 go_simp
 try (unfold stored; go_simp)
 refine hK _ _ ⟨?_, ?_⟩
 · (rw [listed_nil (by simp [go_sem, *])]; exact d0Z (by simp))
 clear hK K
 try walk_nrm
 co_apply bw
 try simp only [ThenX]
 try co_then
 co_apply fp (t := false)
 focus (exact rfl)
 simp only [if_true, if_false, Bool.false_eq_true, reduceIte];co_apply iG;co_apply wpC_skip (iI (Shs s))
 try simp only [ThenX]
 try co_then
 co_apply b5;co_apply bf;simp only [List.size_toArray, List.length_cons, List.length_nil, Nat.reduceAdd, Nat.zero_add, List.range, List.range.loop];co_apply aH rfl (by rfl);intro _ hR K hK;replace hF := (New.rely) hF hR;clear hR;have hs := hF.size;go_simp
 try (unfold stored; go_simp)
 refine hK _ _ ⟨?_, ?_⟩
 · (refine d0Z ?_; intro e he; have hm := mem_listed he; simp [go_sem, *] at hm)
 clear hK K
 try walk_nrm
 replace hF := hF.alloc (.chan 0 #[] false 0 0 false)
 try simp only [List.length_cons, List.length_nil, Nat.reduceAdd, Nat.add_zero, Nat.zero_add] at hs
 try simp only [List.nil_append, List.cons_append] at hF
 try simp only [hs]
 clear hs;co_apply aH rfl (by rfl);intro _ hR K hK;replace hF := (New.rely) hF hR;clear hR;have hs := hF.size;go_simp
 try (unfold stored; go_simp)
 refine hK _ _ ⟨?_, ?_⟩
 · (refine d0Z ?_; intro e he; have hm := mem_listed he; simp [go_sem, *] at hm)
 clear hK K
 try walk_nrm
 replace hF := hF.alloc (.cells #[.chan none] 76)
 try simp only [List.length_cons, List.length_nil, Nat.reduceAdd, Nat.add_zero, Nat.zero_add] at hs
 try simp only [List.nil_append, List.cons_append] at hF
 try simp only [hs]
 clear hs;co_apply aH rfl (by rfl);intro _ hR K hK;replace hF := (New.rely) hF hR;clear hR;have hc := hF.cell (i := 3) rfl (j := 0) rfl; have hz := hF.thaw (i := 3) rfl 0;go_simp
 try (unfold stored; go_simp)
 refine hK _ _ ⟨?_, ?_⟩
 · (refine d0Z ?_; intro e he; have hm := mem_listed he; simp [go_sem, *] at hm; try (first | (subst hm; exact dM _ _ (hE.not (by omega) _)) | (rcases hm with rfl | rfl <;> exact dM _ _ (hE.not (by omega) _))))
 clear hK K
 try walk_nrm
 clear hc hz;replace hF := hF.set (i := 3) rfl 0 (.chan (some (W.heap.size + 2)));simp only [List.set_cons_zero, List.set_cons_succ, List.setIfInBounds_toArray] at hF;co_apply bw
 try simp only [ThenX]
 try co_then
 co_apply b5;co_apply bf;simp only [List.size_toArray, List.length_cons, List.length_nil, Nat.reduceAdd, Nat.zero_add, List.range, List.range.loop];co_apply aH rfl (by rfl);intro _ hR K hK;replace hF := (New.rely) hF hR;clear hR;have hs := hF.size;go_simp
 try (unfold stored; go_simp)
 refine hK _ _ ⟨?_, ?_⟩
 · (refine d0Z ?_; intro e he; have hm := mem_listed he; simp [go_sem, *] at hm)
 clear hK K
 try walk_nrm
 replace hF := hF.alloc (.chan 0 #[] false 0 0 false)
 try simp only [List.length_cons, List.length_nil, Nat.reduceAdd, Nat.add_zero, Nat.zero_add] at hs
 try simp only [List.nil_append, List.cons_append] at hF
 try simp only [hs]
 clear hs;co_apply aH rfl (by rfl);intro _ hR K hK;replace hF := (New.rely) hF hR;clear hR;have hs := hF.size;go_simp
 try (unfold stored; go_simp)
 refine hK _ _ ⟨?_, ?_⟩
 · (refine d0Z ?_; intro e he; have hm := mem_listed he; simp [go_sem, *] at hm)
 clear hK K
 try walk_nrm
 replace hF := hF.alloc (.cells #[.chan none] 77)
 try simp only [List.length_cons, List.length_nil, Nat.reduceAdd, Nat.add_zero, Nat.zero_add] at hs
 try simp only [List.nil_append, List.cons_append] at hF
 try simp only [hs]
 clear hs;co_apply aH rfl (by rfl);intro _ hR K hK;replace hF := (New.rely) hF hR;clear hR;have hc := hF.cell (i := 5) rfl (j := 0) rfl; have hz := hF.thaw (i := 5) rfl 0;go_simp
 try (unfold stored; go_simp)
 refine hK _ _ ⟨?_, ?_⟩
 · (refine d0Z ?_; intro e he; have hm := mem_listed he; simp [go_sem, *] at hm; try (first | (subst hm; exact dM _ _ (hE.not (by omega) _)) | (rcases hm with rfl | rfl <;> exact dM _ _ (hE.not (by omega) _))))
 clear hK K
 try walk_nrm
 clear hc hz;replace hF := hF.set (i := 5) rfl 0 (.chan (some (W.heap.size + 4)));simp only [List.set_cons_zero, List.set_cons_succ, List.setIfInBounds_toArray] at hF;co_apply bw
 try simp only [ThenX]
 try co_then
 co_apply b5;co_apply bf;simp only [List.size_toArray, List.length_cons, List.length_nil, Nat.reduceAdd, Nat.zero_add, List.range, List.range.loop];co_apply aH rfl (by rfl);intro _ hR K hK;replace hF := (New.rely) hF hR;clear hR;have hs := hF.size;go_simp
 try (unfold stored; go_simp)
 refine hK _ _ ⟨?_, ?_⟩
 · (refine d0Z ?_; intro e he; have hm := mem_listed he; simp [go_sem, *] at hm)
 clear hK K
 try walk_nrm
 replace hF := hF.alloc (.cells #[.int .u64 0, .int .u32 0] 87)
 try simp only [List.length_cons, List.length_nil, Nat.reduceAdd, Nat.add_zero, Nat.zero_add] at hs
 try simp only [List.nil_append, List.cons_append] at hF
 try simp only [hs]
 clear hs;co_apply bw
 try simp only [ThenX]
 try co_then
 clear b1 b2 b3 c76 d76 c77 d77;have hF' : New W (boxZ W.heap.size K ticks 0) _ := hF;clear hF;intro b k cs m hb hk hc;have hAt : ∀ w w₁, AtRel w w₁ → PostB w → PostB w₁ := fun w w₁ ⟨d, e⟩ h => by subst e; exact hPc w _ ⟨rfl, rfl, rfl, rfl, fun _ _ _ => rfl⟩ h
 have rely : ∀ {told : Value} {w w₁ : World}, RanZ PostB W.heap.size told ws w → AtRel w w₁ → RanZ PostB W.heap.size told ws w₁ := fun {told w w₁} h r => ⟨hAt w w₁ r h.1, by obtain ⟨d, rfl⟩ := r; exact h.2⟩;refine (show Goes Tryz.prog true AtRel (D0 (Shs s)) (StopZ Tryz.prog Fin (nn + 1) s) (m + 15) _ _ from Goes.mono (sK (PostB := PostB) (ws := ws) hb hk hE hws hPb hPc hPn hT ?_ _ hF') (by omega))
 · intro told w' hFJ;have hF : RanZ PostB W.heap.size told ws w' := hFJ;clear hFJ hF' hT;co_apply Exists.intro;co_apply bB (iI (Shs (W.heap.size :: s))) rfl (fun _ => stepG_region_end);co_apply jE (F := FZ Tryz.prog Fin) (s := (nn, W.heap.size :: s)) (m := m) ?_ hb hk hc;simp only [TR, tl10, tl9, tl8, tl7, tl6, Tryz.f19];co_apply b5;co_apply bf;simp only [List.size_toArray, List.length_cons, List.length_nil, Nat.reduceAdd, Nat.zero_add, List.range, List.range.loop];co_apply aH rfl (by rfl);intro _ hR K hK;replace hF := (rely) hF hR;clear hR
   skip
   go_simp
   try (unfold stored; go_simp)
   refine hK _ _ ⟨?_, ?_⟩
   · (rw [listed_nil (by simp [go_sem, *])]; exact d0Z (by simp))
   clear hK K
   try walk_nrm
   co_apply aH rfl (by rfl);intro _ hR K hK;replace hF := (rely) hF hR;clear hR
   skip
   go_simp
   try (unfold stored; go_simp)
   refine hK _ _ ⟨?_, ?_⟩
   · (rw [listed_nil (by simp [go_sem, *])]; exact d0Z (by simp))
   clear hK K
   try walk_nrm
   co_apply aH rfl (by rfl);intro _ hR K hK;replace hF := (rely) hF hR;clear hR
   skip
   go_simp
   try (unfold stored; go_simp)
   refine hK _ _ ⟨?_, ?_⟩
   · (rw [listed_nil (by simp [go_sem, *])]; exact d0Z (by simp))
   clear hK K
   try walk_nrm
   co_apply bw
   try simp only [ThenX]
   try co_then
   co_apply iG;co_apply wpC_ret (iI (Shs (W.heap.size :: s)));exact ⟨rfl, _, resultsC_tmp2 (t := 4) (u := 5) (by rfl) _, rfl, told, rfl, hF⟩
end Go.Proofs.YtejkelcaljmnoaaGreatDoor
namespace Go.Proofs.YtejkelcaljmnoaaGreatDoor
open Go.Conc Go.RowKit Go.Hx Go.Lo Go.ConcX Go.Conc.Lib Go.ConcX.Gen
section
variable {σ : Type} {F : Fam σ} {P : Program} {main : Bool} {f : FuncId} {args : Array Value} {n : Nat} {s : σ} {w : World} {Post Post' : σ → Value → World → Prop}
theorem fE (h : CallsX F P main f args n s w Post) (hp : ∀ s v w, Post s v w → Post' s v w) : CallsX F P main f args n s w Post' := by
 obtain ⟨g, c, hf, hname, hbody, hwp⟩ := h;refine ⟨g, c, hf, hname, hbody, fun b k cs m hb hk hc => hwp b k cs m hb hk fun s' e a' w' q => hc s' e a' w' ?_⟩;cases e with
 | normal => obtain ⟨h1, v, h2, h3⟩ := q; exact ⟨h1, v, h2, hp _ _ _ h3⟩
 | ret => obtain ⟨h1, v, h2, h3⟩ := q; exact ⟨h1, v, h2, hp _ _ _ h3⟩
 | _ => exact q
end
section
variable {K : Nat} {A : Lay} {S : St} {F L : Frag}
theorem Rep.boxes (h : Rep K A S F L) {bx : Frag} (hf : Fun (bx ++ L)) (hn : ∀ t ∈ bx, ∀ u ∈ L, u.1 ≠ t.1) : Rep K A S (bx ++ F) (bx ++ L) :=
 { h.of hf (fun t ht => List.mem_append_right _ ht) with
   fr := fun t ht => by
     rcases List.mem_append.1 ht with h1 | h1
     · exact List.mem_append_left _ h1
     · exact List.mem_append_right _ (h.fr t h1)
   fd := fun t ht => by
     rcases List.mem_append.1 ht with h1 | h1
     · exact ⟨fun e => hn t h1 _ h.k e.symm, fun q hq e => hn t h1 _ (h.p q hq) e.symm, fun i e => let ⟨_, hx⟩ := h.al i _ e; hn t h1 _ hx rfl, fun i e => let ⟨_, hx⟩ := h.yl i _ e; hn t h1 _ hx rfl, fun e => hn t h1 _ h.w e.symm⟩
     · exact h.fd t h1 }
theorem Rep.forget (h : Rep K A S F L) {c : Nat} {cs : Array Value} {fl : Bool} (hc : (c, fl, Obj.cells cs 3) ∈ F) {F' : Frag} (hF : ∀ t ∈ F', t ∈ F ∧ t.1 ≠ c) : Rep K A S F' (L.filter fun t => !decide (t.1 = c)) := by
 obtain ⟨d1, d2, d3, d4, d5⟩ := h.fd _ hc;have hcL := h.fr _ hc;have mem : ∀ t ∈ L, t.1 ≠ c → t ∈ L.filter fun t => !decide (t.1 = c) := fun t ht hne => List.mem_filter.2 ⟨ht, by simpa using hne⟩;have arr : ∀ (a : Sl) (xs : List Value) (e : TypeId), a.b ≠ some c → slOk a xs e L → slOk a xs e (L.filter fun t => !decide (t.1 = c)) := fun a xs e hn ha => by
   refine ha.mono fun d hd o ho => mem _ ho ?_;show d ≠ c;rintro rfl;exact hn hd
 exact { h with
   fn := fun b fl fl' o o' h1 h2 => h.fn b fl fl' o o' (List.mem_filter.1 h1).1 (List.mem_filter.1 h2).1
   k := mem _ h.k (Ne.symm d1)
   g := mem _ h.g (h.fn.ne h.g hcL (aF (by decide)))
   p := fun q hq => mem _ (h.p q hq) (Ne.symm (d2 q hq))
   pa := arr _ _ _ (d3 0) h.pa
   rw := fun l hl => arr _ _ _ (d3 _) (h.rw l hl)
   ya := fun i hi => arr _ _ _ (d4 i) (h.ya i hi)
   w := mem _ h.w (Ne.symm d5)
   wa := fun e he => arr _ _ _ (d3 _) (h.wa e he)
   al := fun i d hd => by obtain ⟨xs, hx⟩ := h.al i d hd; exact ⟨xs, mem _ hx (by rintro rfl; exact d3 i hd)⟩
   yl := fun i d hd => by obtain ⟨xs, hx⟩ := h.yl i d hd; exact ⟨xs, mem _ hx (by rintro rfl; exact d4 i hd)⟩
   fr := fun t ht => mem _ (h.fr t (hF t ht).1) (hF t ht).2
   fd := fun t ht => h.fd t (hF t ht).1 }
end
def Heard (told : Value) (es : List Value) (L : Frag) : Prop := (told = .slice none 0 0 ∧ es = []) ∨ ∃ g cap cur, told = .slice (some ⟨g, 0, none⟩) es.length cap ∧ (g, true, Obj.cells cur 51) ∈ L ∧ es.length ≤ cap ∧ cap ≤ maxLen ∧ cur.size = cap * 4 ∧ cur.toList.take (es.length * 4) = es.flatMap fun v => v.cells.toList
theorem nS (S : St) (b : Nat) (x : PS) (m : Int) : ∃ ws : List Wd, S.grantE b x m = ws.map Wd.v ∧ ws.length ≤ 1 := by
 unfold St.grantE;by_cases e0 : m = 0
 · rw [if_pos e0]; exact ⟨[(_, _, _, _)], rfl, Nat.le_refl _⟩
 rw [if_neg e0];by_cases e3 : m = 3
 · rw [if_pos e3];cases S.find (x.r 0) with
   | none => exact ⟨[], rfl, Nat.zero_le _⟩
   | some q =>
     simp only
     split
     · exact ⟨[], rfl, Nat.zero_le _⟩
     · exact ⟨[(_, _, _, _)], rfl, Nat.le_refl _⟩
 rw [if_neg e3]
 split
 · exact ⟨[(_, _, _, _)], rfl, Nat.le_refl _⟩
 · exact ⟨[], rfl, Nat.zero_le _⟩
theorem rV (S : St) (b : Nat) (x : PS) : ∃ ws : List Wd, S.runE b x = ws.map Wd.v ∧ ws.length ≤ 1 := by
 unfold St.runE
 split
 · exact ⟨[(_, _, _, _)], rfl, Nat.le_refl _⟩
 · split
   · exact nS _ _ _ _
   · split
     · exact ⟨[], rfl, Nat.zero_le _⟩
     · exact ⟨[(_, _, _, _)], rfl, Nat.le_refl _⟩
theorem pt (S : St) : ∃ ws : List Wd, S.tickE = ws.map Wd.v ∧ ws.length ≤ 2 := by
 unfold St.tickE;cases S.lead.first with
 | none => exact ⟨[(_, _, _, _)], rfl, by simp⟩
 | some b =>
   simp only;cases S.lead.get b with
   | none => exact ⟨[], rfl, by simp⟩
   | some x =>
     obtain ⟨ws, h1, h2⟩ := rV S.lead b x;exact ⟨(_, _, _, _) :: ws, by simp only [h1]; rfl, by simp; omega⟩
theorem iz : ∀ (m : Nat) (T : St), ∃ ws : List Wd, St.evs m T = ws.map Wd.v ∧ ws.length ≤ 2 * m
 | 0, _ => ⟨[], rfl, by simp⟩
 | m + 1, T => by
   unfold St.evs
   split
   · exact ⟨[], rfl, by simp⟩
   · obtain ⟨w1, h1, h2⟩ := pt T;obtain ⟨w2, h3, h4⟩ := iz m T.next
     exact ⟨w1 ++ w2, by rw [h1, h3]; simp, by simp; omega⟩
theorem mv : ∀ (s : List Nat) (l : Loc), Shs s l → ∃ b, blk l = some b
 | [], _, h => h.elim
 | N :: s, l, h => by
   rcases h with h | ⟨a, rfl, _⟩
   · exact mv s l h
   · exact ⟨_, rfl⟩
theorem AP {p : Par} {Sh : Loc → Prop} {E Dn : Nat} {PostB : World → Prop} {Aft : Goroutine → World → Prop} {W : World} {O : Nat} {G : List (Nat × Obj)} (hp : p.ety = 51) : ∀ s, NewT (domT Tryz.prog p Sh E Dn PostB Aft W O G s) := fun s => by
 have h : ∀ (t : TypeId), t ≠ 51 → ∀ cs, (domT Tryz.prog p Sh E Dn PostB Aft W O G s).New (.cells cs t) := fun t ht cs => by
   show isEv p.ety (.cells cs t) = false;rw [hp];simpa [isEv] using ht
 exact { a := h 180 (by decide), b := h 182 (by decide), c := h 196 (by decide), d := h 210 (by decide), r := h 93 (by decide), k := h 96 (by decide), y := h 5 (by decide), i := h 158 (by decide), p := h 99 (by decide), n := h 3 (by decide) }
abbrev bxs (N K : Nat) (m : Nat) : Frag := [(N + 1, false, Obj.cells #[.int .i64 (m : Nat)] 3), (N, false, Obj.cells #[.pointer (some ⟨K, 0, none⟩)] 35), (N + 3, false, Obj.cells #[.chan (some (N + 2))] 76), (N + 5, false, Obj.cells #[.chan (some (N + 4))] 77)]
section
variable {W : World} {O : Nat} {s : List Nat} {L : Frag} {w w' : World} {K m : Nat}
theorem rW (hO : Own0 (Shs s) W O L w) (hn : New w (boxZ w.heap.size K (m : Nat) KK) w') : (domV (pZ w.heap.size) (ShR (Shs s) w.heap.size) (w.heap.size + 2) (w.heap.size + 4) W O (GW (w.heap.size + 6))).Own (bxs w.heap.size K m ++ L) w' := by
 have hE : Elder (Shs s) w.heap.size := fun l hl => by
   obtain ⟨b, hb⟩ := mv s l hl;exact ⟨b, hb, hO.low l b hl hb⟩
 have lt : ∀ t ∈ L, t.1 < w.heap.size := fun t ht => hO.lt (fl := t.2.1) (o := t.2.2) ht;have hz := hO.old.z;have bx : ∀ t ∈ bxs w.heap.size K m, w'.heap[t.1]? = some t.2.2 ∧ w.heap.size ≤ t.1 ∧ t.1 < w.heap.size + 6 ∧ t.1 ≠ w.heap.size + 2 ∧ t.1 ≠ w.heap.size + 4 ∧ t.2.1 = false := fun t ht => by
   simp only [List.mem_cons, List.mem_nil_iff, or_false] at ht;rcases ht with rfl | rfl | rfl | rfl
   · exact ⟨hn.get (i := 1) rfl, by simp only; omega, by simp only; omega, by simp only; omega, by simp only; omega, rfl⟩
   · exact ⟨hn.get (i := 0) rfl, by simp only; omega, by simp only; omega, by simp only; omega, by simp only; omega, rfl⟩
   · exact ⟨hn.get (i := 3) rfl, by simp only; omega, by simp only; omega, by simp only; omega, by simp only; omega, rfl⟩
   · exact ⟨hn.get (i := 5) rfl, by simp only; omega, by simp only; omega, by simp only; omega, by simp only; omega, rfl⟩
 refine ⟨(show OwnW _ _ _ _ _ _ _ _ from { has := ?_, ap := ?_, own := ?_, nd := ?_, sz := ?_, old := ?_, sh := xd hE, hE := ?_, oo := ?_ }), ⟨?_, ?_, ?_⟩⟩
 · intro t ht;rcases List.mem_append.1 ht with h | h
   · exact (bx t h).1
   · rw [hn.old (lt t h)]; exact hO.has t h
 · intro t ht;rcases List.mem_append.1 ht with h | h
   · obtain ⟨_, h1, h2, h3, h4, _⟩ := bx t h;refine ⟨h3, h4, fun l hl hs => ?_, fun _ => by show t.1 < w.heap.size + 7; omega⟩;rcases hs with hs | ⟨a, rfl, ha⟩
     · have := hO.low l _ hs hl;omega
     · simp only [blk, Option.some.injEq] at hl;omega
   · have := lt t h;refine ⟨by omega, by omega, fun l hl hs => ?_, fun _ => by show t.1 < w.heap.size + 7; omega⟩;rcases hs with hs | ⟨a, rfl, ha⟩
     · exact hO.ap t h l hl hs
     · simp only [blk, Option.some.injEq] at hl;omega
 · intro t ht hfl;rcases List.mem_append.1 ht with h | h
   · have := (bx t h).2.2.2.2.2;rw [hfl] at this;cases this
   · refine ⟨hO.own t h hfl, fun l hl hs => ?_⟩;obtain ⟨a, rfl, ha⟩ := hs;simp only [blk, Option.some.injEq] at hl;have := lt t h;omega
 · rw [List.map_append];refine List.nodup_append.2 ⟨by simp, hO.nd, fun a ha c hc => ?_⟩;obtain ⟨t, ht, rfl⟩ := List.mem_map.1 ha;obtain ⟨u, hu, rfl⟩ := List.mem_map.1 hc;have := (bx t ht).2.1;have := lt u hu;omega
 · rw [hn.size]; exact Nat.le_refl _
 · exact ⟨hn.tape.trans hO.old.t, hn.os'.trans hO.old.o, hn.output.trans hO.old.u, by rw [hn.size]; omega, fun x hx => (hn.old (by omega)).trans (hO.old.b x hx)⟩
 · exact ⟨by show w.heap.size + 2 < w.heap.size + 7; omega, by show w.heap.size + 4 < w.heap.size + 7; omega⟩
 · refine ⟨by omega, by omega, ?_⟩;show O ≤ w.heap.size + 7;omega
 · intro t ht;simp only [List.mem_cons, List.mem_nil_iff, or_false] at ht;subst ht;exact hn.get (i := 6) rfl
 · intro t ht u hu;simp only [List.mem_cons, List.mem_nil_iff, or_false] at ht;subst ht;rcases List.mem_append.1 hu with h | h
   · have := (bx u h).2.2.1;simp only; omega
   · have := lt u h;simp only; omega
 · intro t ht;simp only [List.mem_cons, List.mem_nil_iff, or_false] at ht;subst ht;refine ⟨by simp only; omega, by simp only; omega, ?_⟩;show w.heap.size + 6 < w.heap.size + 7;omega
end
theorem pu (ws : List Wd) : (ws.map Wd.v).flatMap (fun v => v.cells.toList) = ws.flatMap Wd.c := by
 induction ws with
 | nil => rfl
 | cons x ws ih => simp only [List.map_cons, List.flatMap_cons, ih]; rfl
set_option maxHeartbeats 1000000 in
theorem xF : ∃ k, ∀ {Fin : Value → World → Prop} {W : World} {O : Nat} (nn : Nat) (s : List Nat) (K : Nat) (A : Lay) (S T : St) (Fr L : Frag) (eb : Nat → Nat × Nat) (m : Nat), Rep K A S Fr L → Ers eb Fr → Ab S T → m ≤ 2000 → S.now < 1152921504606846976 →
   CallsL (F := FZ Tryz.prog Fin) (fun s => dom0 (Shs s.2) W O) Tryz.prog true 19 [ptr K, .int .i64 (m : Nat)].toArray k (nn + 1, s) L (fun s' v L' => ∃ N told A' S', s' = (nn, N :: s) ∧ v = .tuple #[told, .int .i64 0] ∧ Ab S' (St.runs m T) ∧ Rep K A' S' Fr L' ∧ Heard told (St.evs m T) L') := by
 obtain ⟨k, hk⟩ := Ae;obtain ⟨kp, hpass⟩ := yL;refine ⟨k, fun {Fin W O} nn s K A S T Fr L eb m hR hEr hAb hm hnow w hO => ?_⟩;obtain ⟨ws, hws, hwl⟩ := iz m T;have hO' : Own0 (Shs s) W O L w := hO;have hE : Elder (Shs s) w.heap.size := fun l hl => by
   obtain ⟨b, hb⟩ := mv s l hl;exact ⟨b, hb, hO'.low l b hl hb⟩
 have hz := hO'.old.z;have lt : ∀ t ∈ L, t.1 < w.heap.size := fun t ht => hO'.lt (fl := t.2.1) (o := t.2.2) ht
 let QL : Frag → Prop := fun L' => ∃ A' S', Ab S' (St.runs m T) ∧ Rep K A' S' Fr L'
 let PB := PostW (pZ w.heap.size) (ShR (Shs s) w.heap.size) (w.heap.size + 2) (w.heap.size + 4) W O (w.heap.size + 6) (w.heap.size + 1) QL
 refine fE (hk nn s K (m : Nat) ⟨by omega, by omega⟩ ws (by omega) w hE PB ?_ ?_ ?_ ?_) ?_
 · rintro x x₁ r ⟨L', h1, h2, h3⟩;exact ⟨L', h1.rely r, h2, h3⟩
 · rintro x x₁ r ⟨L', h1, h2, h3⟩;refine ⟨L', { h1 with has := fun t ht => (r.block t.1 (h2 t ht).1 (h2 t ht).2).trans (h1.has t ht), sz := by rw [r.size]; exact h1.sz, old := ⟨r.tape.trans h1.old.t, r.os.trans h1.old.o, r.output.trans h1.old.u, by rw [r.size]; exact h1.old.z, fun y hy => (r.block y (by omega) (by omega)).trans (h1.old.b y hy)⟩ }, h2, h3⟩
 · rintro x ⟨L', h1, _⟩;exact h1.sz
 · intro _ w' hn;have hV := rW hO' hn;have hnd := (domV (pZ w.heap.size) (ShR (Shs s) w.heap.size) (w.heap.size + 2) (w.heap.size + 4) W O (GW (w.heap.size + 6))).nd hV;have hR1 : Rep K A S (bxs w.heap.size K m ++ Fr) (bxs w.heap.size K m ++ L) := hR.boxes (bF hnd) fun t ht u hu e => by
     rw [List.map_append] at hnd;exact (List.nodup_append.1 hnd).2.2 t.1 (List.mem_map.2 ⟨t, ht, rfl⟩) u.1 (List.mem_map.2 ⟨u, hu, rfl⟩) e.symm
   have hP := hpass (p := pZ w.heap.size) (Sh := ShR (Shs s) w.heap.size) (E := w.heap.size + 2) (Dn := w.heap.size + 4) (PostB := PB) (Aft := AfterD Tryz.prog 87 (w.heap.size + 6) (w.heap.size + 1) (w.heap.size + 7) [.int .i64 (m : Nat)] Mine0) (W := W) (O := O) (G0 := GW (w.heap.size + 6)) (vs := []) K A S T (bxs w.heap.size K m ++ Fr) (bxs w.heap.size K m ++ L) eb m (AP rfl) hR1 (hEr.mono fun t ht => List.mem_append_right _ ht) hAb hm hnow;rw [List.append_nil, hws] at hP;refine pq (kb := w.heap.size) (db := w.heap.size + 5) (eb := w.heap.size + 3) (C := w.heap.size + 1) (Wg := w.heap.size + 6) (Low := w.heap.size + 7) (K := K) (L := bxs w.heap.size K m ++ L) (QL := QL) (by omega) (by omega) (by omega) (by omega) (by omega) (by simp) (by simp) (by simp) (by simp) kp _ (fun x hx => fE (hP x hx) ?_) w' hV;rintro s' v x' ⟨L', hL', h1, _, A', S', h2, h3⟩;refine ⟨h1.symm, L', hL', h3.fr _ (by simp), A', S', h2, h3.forget (c := w.heap.size + 1) (cs := #[.int .i64 (m : Nat)]) (fl := false) (by simp) fun t ht => ⟨List.mem_append_right _ ht, ?_⟩⟩;have := lt t (hR.fr t ht);omega
 · rintro s' v x' ⟨h1, told, h2, ⟨L', hW, hne, A', S', hA', hR'⟩, hT⟩;have hdom : Own0 (Shs (w.heap.size :: s)) W O L' x' := ⟨hW.has, fun t ht => (hW.ap t ht).2.2.1, fun t ht hf => (hW.own t ht hf).1, hW.nd, fun l b hl hb => by have := hW.sh.low l b hl hb; have := hW.sz; omega, hW.old⟩;subst h1;rw [show (St.evs m T) = ws.map Wd.v from hws];obtain ⟨hl, hT⟩ := hT;rcases hT with ⟨rfl, h0⟩ | ⟨g, cap, cur, rfl, hg, hcur, hn, hcm, hcs, htk⟩
   · refine ⟨L', hdom, w.heap.size, _, A', S', rfl, h2, hA', hR', .inl ⟨rfl, ?_⟩⟩;have : ws = [] := List.length_eq_zero_iff.1 h0;rw [this]; rfl
   · have hgN : w.heap.size + 7 ≤ g := hg;have hgn : ∀ t ∈ L', t.1 ≠ g := fun t ht e => by
       have h3 := hW.has t ht;rw [e, hcur] at h3;have h4 := (hW.ap t ht).2.2.2 (by rw [← Option.some.inj h3]; rfl);have : t.1 < w.heap.size + 7 := h4;omega
     refine ⟨(g, true, Obj.cells cur 51) :: L', ?_, w.heap.size, _, A', S', rfl, h2, hA', hR'.of ?_ (fun t ht => List.mem_cons_of_mem _ ht), .inr ⟨g, cap, cur, by rw [List.length_map], List.mem_cons_self, by rw [List.length_map]; exact hn, hcm, hcs, ?_⟩⟩
     · show Own0 (Shs (w.heap.size :: s)) W O _ x';refine ⟨fun t ht => ?_, fun t ht => ?_, fun t ht hf => ?_, ?_, hdom.low, hdom.old⟩
       · rcases List.mem_cons.1 ht with rfl | ht
         · exact hcur
         · exact hdom.has t ht
       · rcases List.mem_cons.1 ht with rfl | ht
         · intro l hl hs;have := hW.sh.low l g hs hl;have : g < w.heap.size + 7 := this;omega
         · exact hdom.ap t ht
       · rcases List.mem_cons.1 ht with rfl | ht
         · simp only; omega
         · exact hdom.own t ht hf
       · simp only [List.map_cons, List.nodup_cons];exact ⟨fun hm => by obtain ⟨t, ht, e⟩ := List.mem_map.1 hm; exact hgn t ht e, hdom.nd⟩
     · refine bF ?_;simp only [List.map_cons, List.nodup_cons];exact ⟨fun hm => by obtain ⟨t, ht, e⟩ := List.mem_map.1 hm; exact hgn t ht e, hdom.nd⟩
     · rw [List.length_map, pu]; exact htk
end Go.Proofs.YtejkelcaljmnoaaGreatDoor
namespace Go.Proofs.YtejkelcaljmnoaaGreatDoor
open Go.Conc Go.Hx Go.Lo
def rowv (a : Sl) (sz n : Nat) : Value := match a.b with
 | none => .slice none 0 0
 | some b => .slice (some ⟨b, 0, none⟩) n (n + a.junk.length / sz)
structure ApN (L : Frag) (e : TypeId) (a : Sl) (zs : List Value) (a' : Sl) (L' : Frag) : Prop where
 ok : slOk a' zs e L'
 fn : Fun L'
 sub : ∀ t ∈ L, a.b ≠ some t.1 → t ∈ L'
 d : ∀ b, a'.b = some b → a.b = some b ∨ ∀ t ∈ L, t.1 ≠ b
theorem kC : ∀ (vs : List Value) (cs : Array Value) (o k : Nat), (vs.zipIdx k).foldl (fun cs (c, j) => cs.setIfInBounds (o + j) c) cs = puts cs (o + k) vs
 | [], cs, o, k => by simp [puts]
 | v :: vs, cs, o, k => by
   simp only [List.zipIdx_cons, List.foldl_cons, puts];rw [kC vs _ o (k + 1)]; rfl
section
variable {New : Obj → Prop} {N : Nat} {ε : Env} {L : Frag} {d : Option Tmp} {ty : TypeId} {ps : String} {af : Array Edge} {g : Option (Nat × Bool)} {x y : Operand} {P : Program}
theorem uJ {t e : TypeId} {x : Operand} {v z : Value} {sz : Nat} (hN : New (.cells v.cells e)) (hv : v.cells.size = sz) (hx : ev ε x = some v := by rfl) (hu : P.underlying t = some (.slice e)) (hs : sizeAt P e = some sz) (hz : zeroAt P e = some z) (h0 : 0 < sz) (h24 : sz ≤ 1000) :
   EO P New N ε L ⟨d, .buildSlice t 1 #[(0, x)], ty, ps, af, g⟩ (fun r L'' => ∃ b, (∀ t ∈ L, t.1 ≠ b) ∧ r = .slice (some ⟨b, 0, none⟩) 1 1 ∧ L'' = (b, true, .cells v.cells e) :: L) := by
 intro a ha;simp only [execOp, List.map_toArray, List.map_cons, List.map_nil];unfold Instr.buildSlice newRow;have hf : Instr.fill (fun i => some (i * sz, sz)) ((Array.range (1 * sz)).map (z.cells[· % z.cells.size]!)) [(0, v)] = some v.cells := by
   have e1 : ((Array.range (1 * sz)).map (z.cells[· % z.cells.size]!)).size = sz := by simp
   generalize (Array.range (1 * sz)).map (z.cells[· % z.cells.size]!) = cs at e1;simp only [Instr.fill];rw [if_neg (by simp [hv, e1])];congr 1;have e2 : v.cells.zipIdx.foldl (fun cs (c, j) => cs.setIfInBounds (0 * sz + j) c) cs = puts cs (0 * sz + 0) v.cells.toList := by
     rw [← kC, ← Array.foldl_toList, Array.toList_zipIdx]
   rw [e2];obtain ⟨l⟩ := cs;rw [b6 _ _ _ (by simp at e1 ⊢; omega)];apply Array.ext';have : l.drop (0 * sz + 0 + v.cells.toList.length) = [] := List.drop_eq_nil_of_le (by simp at e1 ⊢; omega);rw [this]; simp
 rw [ar, ar, aT hu, ha.ev hx];simp only [];rw [ar, bP hs];rw [if_neg (by omega), if_neg (by omega), ar, cF hz, ar, br];simp only [hf, ar];exact cf hN fun b hb => ⟨b, hb, rfl, rfl⟩
theorem wN {a : Sl} {xs : List Value} {e : TypeId} {sz n : Nat} (ha : slOk a xs e L) (hn : xs.length = n * sz) (h0 : 0 < sz) : Reads P L sz n (rowv a sz n) xs.toArray := by
 cases hab : a.b with
 | none =>
   unfold slOk at ha;rw [hab] at ha;obtain rfl : xs = [] := ha.1;obtain rfl : n = 0 := by
     rcases Nat.eq_zero_or_pos n with h | h
     · exact h
     · have := Nat.mul_pos h h0; simp at hn; omega
   have e3 : rowv a sz 0 = .slice none 0 0 := by unfold rowv; rw [hab]
   rw [e3]; exact dC
 | some b =>
   have hm := ha.mem hab;have e3 : rowv a sz n = .slice (some ⟨b, 0, none⟩) n (n + a.junk.length / sz) := by unfold rowv; rw [hab]
   rw [e3];have := b7 (P := P) (sz := sz) (n := n) (len := n) (cap := n + a.junk.length / sz) (o := 0) hm (by simp; omega);have e7 : (xs ++ a.junk).take (n * sz) = xs := by rw [← hn, List.take_append_of_le_length (by simp)]; exact List.take_of_length_le (by simp)
   simpa [e7] using this
theorem rX {ρ : Operand → Value} {Q : Next → Frag → Prop} {t u e e2 : TypeId} {sz : Nat} {yb : Option Addr} {yc : Nat} {vs : Array Value} (hx : ρ x = .slice none 0 0) (hy : ρ y = .slice yb 0 yc) (hu : P.underlying t = some (.slice e)) (hv : P.underlying u = some (.slice e2)) (hs : sizeAt P e = some sz)
   (hr : Reads P L sz 0 (.slice yb 0 yc) vs) (hQ : Q (.value (.slice none 0 0)) L) : wpS P New (execOp ρ ⟨d, .call ⟨.builtin .append, #[x, y], #[t, u]⟩, ty, ps, af, g⟩) Q L := by
 refine cx (s := Builtin.append_ #[t, u] ty #[.slice none 0 0, .slice yb 0 yc]) (fun _ => by simp [builtin, hx, hy]) ?_;unfold Builtin.append_;simp only [List.getElem?_toArray, List.getElem?_cons_zero, List.getElem?_cons_succ];rw [ar, aT hu];simp only [];rw [ar, bP hs];rw [ar, aT hv, ar, br];simp only [Bool.false_eq_true, if_false, Bool.not_false, if_true, Builtin.lenOf];rw [ar, br];simp only [Nat.le_refl, if_true];rw [ar];refine hr.r New _ ?_;exact hQ
theorem ql {t e : TypeId} {a : Sl} {xs ys : List Value} {n m sz by_ : Nat} {z : Value} {yb : Option Addr} {yc : Nat} (hx : ev ε x = some (rowv a sz n) := by rfl) (hy : ev ε y = some (.slice yb m yc) := by rfl) (hnd : (L.map (·.1)).Nodup) (hu : P.underlying t = some (.slice e)) (hs : sizeAt P e = some sz) (hb : bytesAt P e = some (by_ + 1)) (hz : zeroAt P e = some z) (hzs : z.cells.size = sz) (hN : ∀ cs, New (.cells cs e)) (ha : slOk a xs e L) (hn : xs.length = n * sz) (hr : Reads P L sz m (.slice yb m yc) ys.toArray) (hm : ys.length = m * sz) (hpl : ys.all plainV = true) (h0 : 0 < sz) (h8 : (2 * (n + m) + 192) * (by_ + 1) ≤ 281474976710656) :
   EO P New N ε L ⟨d, .call ⟨.builtin .append, #[x, y], #[t, t]⟩, ty, ps, af, g⟩ (fun r L' => ∃ a', r = rowv a' sz (n + m) ∧ ApN L e a (xs ++ ys) a' L') := by
 have hws := wN (P := P) ha hn h0
 have grow : ∀ (cap0 : Nat), (∃ base, rowv a sz n = .slice base n cap0) → cap0 < n + m →
     EO P New N ε L ⟨d, .call ⟨.builtin .append, #[x, y], #[t, t]⟩, ty, ps, af, g⟩ (fun r L' => ∃ a', r = rowv a' sz (n + m) ∧ ApN L e a (xs ++ ys) a' L') := by
   rintro cap0 ⟨base, hbs⟩ hc;rw [hbs] at hws hx;intro ac hac;refine bR ?_ _ _ (la (by_ := by_) (New := New) hx hy (bF hnd) hu hu hs hb hz hws hr hc h8 hN ac hac);intro r L' q;cases r <;> try exact q.elim
   · obtain ⟨b, cap, h1, h2, rfl, hA⟩ := q;have hzl : (Builtin.zeroCells z.cells (cap - (n + m))).toList.length = (cap - (n + m)) * sz := by unfold Builtin.zeroCells; simp [hzs]
     refine ⟨⟨some b, (Builtin.zeroCells z.cells (cap - (n + m))).toList⟩, ?_, ?_, hA.fn, fun t ht _ => hA.sub t ht, fun b' hb' => .inr ?_⟩
     · unfold rowv; simp only []; rw [hzl, Nat.mul_div_cancel _ h0, show n + m + (cap - (n + m)) = cap by omega]
     · have e5 : xs.toArray ++ ys.toArray ++ Builtin.zeroCells z.cells (cap - (n + m)) = ((xs ++ ys) ++ (Builtin.zeroCells z.cells (cap - (n + m))).toList).toArray := by
         apply Array.ext'; simp
       rw [e5] at hA;exact hA.self
     · obtain rfl : b = b' := by simpa using hb'
       exact hA.new
   · obtain ⟨b, cap, _, _, e, _⟩ := q; cases e
 cases hab : a.b with
 | none =>
   have h2 := ha;unfold slOk at h2;rw [hab] at h2;obtain ⟨e1, e2⟩ := h2;obtain rfl : xs = [] := e1;obtain rfl : n = 0 := by
     rcases Nat.eq_zero_or_pos n with h | h
     · exact h
     · have := Nat.mul_pos h h0; simp at hn; omega
   have e3 : rowv a sz 0 = .slice none 0 0 := by unfold rowv; rw [hab]
   by_cases hm0 : m = 0
   · subst hm0;obtain rfl : ys = [] := List.length_eq_zero_iff.1 (by simpa using hm);rw [e3] at hx;intro ac hac;exact rX (hac.ev hx) (hac.ev hy) hu hu hs hr ⟨a, by rw [Nat.add_zero, e3], by simpa using ha, bF hnd, fun t ht _ => ht, fun b hb => .inl hb⟩
   exact grow 0 ⟨none, e3⟩ (by omega)
 | some b =>
   have hmm := ha.mem hab;have e3 : rowv a sz n = .slice (some ⟨b, 0, none⟩) n (n + a.junk.length / sz) := by unfold rowv; rw [hab]
   by_cases hj : m ≤ a.junk.length / sz
   · intro ac hac;rw [e3] at hx;have hj' : m * sz ≤ a.junk.length := (Nat.le_div_iff_mul_le h0).1 hj;refine bR ?_ _ _ (jM (New := New) hx hy hnd hu hu hs hr (by omega) hmm (by simp; omega) (by simpa using hpl) ac hac);intro r L' q;cases r <;> try exact q.elim
     · obtain ⟨rfl, hU⟩ := q;have e4 : puts (xs ++ a.junk).toArray (0 + n * sz) ys.toArray.toList = ((xs ++ ys) ++ a.junk.drop (m * sz)).toArray := by
         rw [b6 _ _ _ (by simp; omega)];have e6 : (xs ++ a.junk).drop (0 + n * sz + ys.toArray.toList.length) = a.junk.drop (m * sz) := by
           rw [show 0 + n * sz + ys.toArray.toList.length = xs.length + m * sz by simp; omega, List.drop_append]; simp
         have e7 : (xs ++ a.junk).take (0 + n * sz) = xs := by rw [Nat.zero_add, ← hn, List.take_append_of_le_length (by simp)]; exact List.take_of_length_le (by simp)
         rw [e6, e7]
       rw [e4] at hU;refine ⟨⟨some b, a.junk.drop (m * sz)⟩, ?_, hU.self, hU.fn, fun t ht hne => hU.ne t ht fun e => hne (by rw [hab, e]), fun b' hb' => .inl (by rw [hab]; exact hb')⟩;unfold rowv;simp only [List.length_drop];rw [Nat.mul_comm m sz, Nat.sub_mul_div];rw [show n + m + (a.junk.length / sz - m) = n + a.junk.length / sz by omega]
     · exact absurd q.1 (by simp [undef])
   · exact grow (n + a.junk.length / sz) ⟨_, e3⟩ (by omega)
end
end Go.Proofs.YtejkelcaljmnoaaGreatDoor
namespace Go.Lo
open Go.Conc Go.Hx
section
variable {σ : Type} {F : Fam σ} {Δ : ∀ s, Dom (F.R s) (F.D s)} {P : Program} {main : Bool} {fn : FuncId} {N : Nat} {Q : σ → Exit → Env → Frag → Prop} {s : σ} {ε : Env} {L : Frag} {ops : Array Oper} {nf : Nat} {R L0 : Frag} {e : Nat} {s0 : σ} {fuel : Nat} {ls : Array Bool}
theorem t2 {i j : Nat} {d d' : Option Tmp} {k k' : Op} {ot ot' : TypeId} {ps ps' : String} {af af' : Array Edge} {g g' : Option (Nat × Bool)} {f : FuncId} {args : Array Operand} {ats : Array TypeId} {vs : List Value} {Post : σ → Value → Frag → Prop} {post : Value → Frag → Prop} (ho : ops[i]? = some ⟨d, k, ot, ps, af, g⟩) (hop : k = .call { callee := .value (.func f), args, argTypes := ats }) (ha : args.toList.map (ev ε) = vs.map some) (hcall : CallsL Δ P main f vs.toArray nf s L Post)
   (ho' : ops[j]? = some ⟨d', k', ot', ps', af', g'⟩) (hy : EO P (Δ s).New N ε L ⟨d', k', ot', ps', af', g'⟩ post)
   (hr : Region.ready .any ops ls = [i, j] := by kernel_rfl) (hw : wantedE ops N ε g = some true := by rfl) (hd : dstOk N d = true := by rfl) (hw' : wantedE ops N ε g' = some true := by rfl) (hd' : dstOk N d' = true := by rfl)
   (h1 : ∀ s' v L', Post s' v L' → Pre R L0 e s0 (ls.setIfInBounds i true) s' L' ∧ AnyE Δ P main fn N ops Q nf R L0 e s0 fuel (ls.setIfInBounds i true) s' (putE d v ε) L')
   (h2 : ∀ v L', post v L' → Pre R L0 e s0 (ls.setIfInBounds j true) s L' ∧ AnyE Δ P main fn N ops Q nf R L0 e s0 fuel (ls.setIfInBounds j true) s (putE d' v ε) L') : AnyE Δ P main fn N ops Q nf R L0 e s0 (fuel + 1) ls s ε L := by
 intro a hf;have e' : args.map a.eval = vs.toArray := by
   apply Array.ext';simp only [Array.toList_map];have : ∀ (l : List Operand) (vs : List Value), l.map (ev ε) = vs.map some → l.map a.eval = vs := by
     intro l
     induction l with
     | nil => intro vs h; cases vs <;> simp_all
     | cons x l ih =>
       intro vs h;cases vs with
       | nil => simp at h
       | cons v vs =>
         simp only [List.map_cons, List.cons.injEq] at h ⊢;exact ⟨hf.ev h.1, ih vs h.2⟩
   exact this _ _ ha
 refine sW hr (fun w hO hD => ?_) fun w hO hD => ?_
 · have hrm : i ∈ Region.ready .any ops ls := by simp [hr]
   have hc := hcall w hO;rw [← e'] at hc;exact .inr ⟨_, f, args, ats, _, ho, hf.wanted hw, hop, hc, fun s' v w' ⟨L', hL, hp⟩ => ⟨⟨L', hL, (h1 s' v L' hp).1⟩, (h1 s' v L' hp).2 _ (hf.put hd v) (hD.step hrm) _ hL⟩⟩
 · have hrm : j ∈ Region.ready .any ops ls := by simp [hr]
   refine .inl ?_;unfold OpC;have hww : Region.wanted ⟨d', k', ot', ps', af', g'⟩ (yielded ops a.tmps) = true := hf.wanted hw';simp only [ho', hww, if_true];intro w₁ h₁
   have hy' : wpS P (Δ s).New (execOp a.eval ⟨d', k', ot', ps', af', g'⟩) (fun x L' => onNext ⟨d', k', ot', ps', af', g'⟩ a (fun a' => Pre R L0 e s0 (ls.setIfInBounds j true) s L' ∧ AnyL Δ P main fn ops (upE N Q) nf R L0 e s0 fuel (ls.setIfInBounds j true) s a' L') x) L :=
     bR (fun x L' q => by cases x <;> first | exact ⟨(h2 _ _ q).1, (h2 _ _ q).2 _ (hf.put hd' _)⟩ | exact q.elim) _ _ (hy a hf)
   obtain ⟨x, w', hrun, hg, he, L', hL, hx⟩ := oC (Δ s) ((Δ s).rely hO h₁) hy';exact lM (Δ := Δ) (s := s) (KL := fun a' L' => Pre R L0 e s0 (ls.setIfInBounds j true) s L' ∧ AnyL Δ P main fn ops (upE N Q) nf R L0 e s0 fuel (ls.setIfInBounds j true) s a' L') hrun hL hx fun a' k => ⟨(Δ s).dd hg fun e hm => he e (mem_listed hm), ⟨L', hL, k.1⟩, k.2 (hD.step hrm) _ hL⟩
end
end Go.Lo
