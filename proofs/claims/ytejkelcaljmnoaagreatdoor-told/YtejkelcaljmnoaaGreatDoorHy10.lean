/-
  Part 10 of the proof.
  No condition but those that each statement names.
-/
import Derived.Test.YtejkelcaljmnoaaGreatDoorHy09
import Derived.Test.YtejkelcaljmnoaaGreatDoorHy04
import Derived.Test.YtejkelcaljmnoaaGreatDoorHy03
import Derived.Test.YtejkelcaljmnoaaGreatDoorHy05
set_option maxRecDepth 100000
set_option linter.unusedVariables false
set_option linter.unusedSimpArgs false
set_option linter.unusedSectionVars false
namespace Go.Proofs.YtejkelcaljmnoaaGreatDoor
open Go.Conc Go.Hx Go.Lo
def okEnd (k : Nat × Nat) : Prop := (0 < k.1 ∧ k.1 < 5) ∧ (k.2 = 4 ∨ k.2 = 5)
structure Asks (y : PS) (k : Nat × Nat) : Prop where
 f : y.file (y.r 0) = k
 a : y.r 1 + y.r 2 ≤ 64
 w : k.2 = 5 → y.r 2 ≤ 8
 s : y.st = 1 ∨ y.st = k.2
structure Inv (S : St) : Prop where
 g : Good S
 wf : ∀ q ∈ S.ps, WF q.2
 fl : ∀ q ∈ S.ps, ∀ i, i < 6 → q.2.f i = (0, 0) ∨ okEnd (q.2.f i)
 y8 : ∀ i, i < 5 → (S.by_ i).length ≤ 8
 yb : ∀ i, i < 5 → ∀ v ∈ S.by_ i, 0 ≤ v ∧ v < 256
 kn : (S.wt.map (·.1)).Nodup
 ne : ∀ e ∈ S.wt, e.2 ≠ []
 nd : ∀ e ∈ S.wt, e.2.Nodup
 ke : ∀ e ∈ S.wt, okEnd e.1
 rm : ∀ e ∈ S.wt, ∀ c ∈ e.2, ∃ y, (c, y) ∈ S.ps ∧ Asks y e.1
def St.out (S : St) (b : Nat) : Prop := ∀ e ∈ S.wt, b ∉ e.2
theorem okEnd.key {k : Nat × Nat} (h : okEnd k) : okKey k := by
 obtain ⟨_, h | h⟩ := h <;> (unfold okKey; omega)
section
variable {S : St} {b : Nat} {x x' : PS} {k : Nat × Nat}
theorem Inv.w (h : Inv S) : WGood S where
 kn := h.kn
 kk := fun e he => (h.ke e he).key
 rl := fun e he => by
   have := iN (m := S.ps.map (·.1)) (h.nd e he) fun c hc => by
     obtain ⟨y, hy, _⟩ := h.rm e he c hc;exact List.mem_map.2 ⟨_, hy, rfl⟩
   have h8 := h.g.p8;simp at this;omega
 ne := h.ne
 rm := fun e he c hc => by
   obtain ⟨y, hy, _⟩ := h.rm e he c hc;exact ⟨y, hy⟩
theorem b8 {e : (Nat × Nat) × List Nat} : ∀ {l : Wt}, e ∈ departW b k l → (e ∈ l ∧ e.1 ≠ k) ∨ (e.1 = k ∧ e.2 ≠ [] ∧ ∃ xs, (k, xs) ∈ l ∧ e.2 = xs.filter fun c => !decide (c = b)) := by
 intro l h;unfold departW at h;obtain ⟨e', he', h2⟩ := List.mem_filterMap.1 h
 split at h2
 · rename_i hk
   split at h2
   · cases h2
   · rename_i hne;simp at h2;subst h2;obtain ⟨k', xs⟩ := e';simp only at hk hne he';subst hk;refine .inr ⟨rfl, ?_, xs, he', rfl⟩;intro e0;have e0' : (xs.filter fun c => !decide (c = b)) = [] := e0;exact hne (by rw [e0']; rfl)
 · rename_i hk;simp at h2;subst h2;exact .inl ⟨he', hk⟩
theorem mj {l : Wt} : ((departW b k l).map (·.1)).Sublist (l.map (·.1)) := by
 induction l with
 | nil => exact List.Sublist.slnil
 | cons e l ih =>
   unfold departW at *;rw [List.filterMap_cons]
   split
   · exact ih.cons _
   · rename_i e' he;have : e'.1 = e.1 := by
       split at he
       · rename_i hk
         split at he
         · cases he
         · simp at he; rw [← he]; exact hk.symm
       · simp at he; rw [he]
     rw [List.map_cons, List.map_cons, this];exact ih.cons_cons _
theorem Inv.depart (h : Inv S) : Inv (S.depart b k) where
 g := ⟨h.g.pn, h.g.p8, h.g.lv, h.g.rn, h.g.rm, h.g.rr⟩
 wf := h.wf
 fl := h.fl
 y8 := h.y8
 yb := h.yb
 kn := h.kn.sublist mj
 ne := fun e he => by
   rcases b8 he with ⟨h1, _⟩ | ⟨_, h2, _⟩
   · exact h.ne e h1
   · exact h2
 nd := fun e he => by
   rcases b8 he with ⟨h1, _⟩ | ⟨_, _, xs, h3, h4⟩
   · exact h.nd e h1
   · rw [h4]; exact (h.nd _ h3).sublist List.filter_sublist
 ke := fun e he => by
   rcases b8 he with ⟨h1, _⟩ | ⟨h2, _, xs, h3, h4⟩
   · exact h.ke e h1
   · rw [h2]; exact h.ke _ h3
 rm := fun e he c hc => by
   rcases b8 he with ⟨h1, _⟩ | ⟨h2, _, xs, h3, h4⟩
   · exact h.rm e h1 c hc
   · rw [h2];rw [h4] at hc;exact h.rm _ h3 c (List.mem_filter.1 hc).1
theorem Inv.row (h : Inv S) (hb : (b, x) ∈ S.ps) {e : (Nat × Nat) × List Nat} (he : e ∈ S.wt) (hm : b ∈ e.2) : Asks x e.1 := by
 obtain ⟨y, hy, ha⟩ := h.rm e he b hm;rw [bp h.g.pn hb hy]; exact ha
theorem Inv.out_depart (h : Inv S) (hb : (b, x) ∈ S.ps) : (S.depart b (x.file (x.r 0))).out b := by
 intro e he hm;rcases b8 he with ⟨h1, h2⟩ | ⟨h2, _, xs, h3, h4⟩
 · exact h2 (h.row hb h1 hm).f.symm
 · rw [h4] at hm;have := (List.mem_filter.1 hm).2;simp at this
theorem ml {c : Nat} (h : S.out c) : (S.depart b k).out c := by
 intro e he hm;rcases b8 he with ⟨h1, h2⟩ | ⟨h2, _, xs, h3, h4⟩
 · exact h e h1 hm
 · rw [h4] at hm;exact h _ h3 (List.mem_filter.1 hm).1
theorem Inv.out_st (h : Inv S) (hb : (b, x) ∈ S.ps) (h1 : x.st ≠ 1) (h4 : x.st ≠ 4) (h5 : x.st ≠ 5) : S.out b := fun e he hm => by
 have := (h.row hb he hm).s;rcases (h.ke e he).2 with h | h <;> omega
theorem Inv.setP (h : Inv S) (hb : (b, x) ∈ S.ps) (ho : S.out b) (hg : Good (S.setP b x')) (hw : WF x') (hf : ∀ i, i < 6 → x'.f i = (0, 0) ∨ okEnd (x'.f i)) : Inv (S.setP b x') where
 g := hg
 wf := fun q hq => by
   rcases a5 hq with rfl | ⟨h1, _⟩
   · exact hw
   · exact h.wf q h1
 fl := fun q hq => by
   rcases a5 hq with rfl | ⟨h1, _⟩
   · exact hf
   · exact h.fl q h1
 y8 := h.y8
 yb := h.yb
 kn := h.kn
 ne := h.ne
 nd := h.nd
 ke := h.ke
 rm := fun e he c hc => by
   obtain ⟨y, hy, ha⟩ := h.rm e he c hc;refine ⟨y, ?_, ha⟩;simp only [St.setP, List.mem_map];refine ⟨(c, y), hy, ?_⟩;rw [if_neg];rintro rfl;exact ho e he hc
theorem Inv.like (h : Inv S) (hb : (b, x) ∈ S.ps) (ho : S.out b) (hs : x'.st = x.st) (hl : x'.lv = x.lv) (hw : WF x') (hf : ∀ i, i < 6 → x'.f i = (0, 0) ∨ okEnd (x'.f i)) : Inv (S.setP b x') := h.setP hb ho (h.g.like hb hs hl) hw hf
theorem Inv.wake1 (h : Inv S) (hb : (b, x) ∈ S.ps) (ho : S.out b) (hs : x.st ≠ 1) : Inv (S.wake1 b x) where
 g := h.g.wake1 hb hs
 wf := fun q hq => by
   rcases a5 hq with rfl | ⟨h1, _⟩
   · exact ⟨(h.wf _ hb).r, (h.wf _ hb).m⟩
   · exact h.wf q h1
 fl := fun q hq => by
   rcases a5 hq with rfl | ⟨h1, _⟩
   · exact h.fl (b, x) hb
   · exact h.fl q h1
 y8 := h.y8
 yb := h.yb
 kn := h.kn
 ne := h.ne
 nd := h.nd
 ke := h.ke
 rm := fun e he c hc => by
   obtain ⟨y, hy, ha⟩ := h.rm e he c hc;refine ⟨y, ?_, ha⟩;show (c, y) ∈ (S.setP b _).ps;simp only [St.setP, List.mem_map];refine ⟨(c, y), hy, ?_⟩;rw [if_neg];rintro rfl;exact ho e he hc
theorem Inv.setY (h : Inv S) {i : Nat} {ys : List Int} (h8 : ys.length ≤ 8) (hb : ∀ v ∈ ys, 0 ≤ v ∧ v < 256) : Inv (S.setY i ys) where
 g := ⟨h.g.pn, h.g.p8, h.g.lv, h.g.rn, h.g.rm, h.g.rr⟩
 wf := h.wf
 fl := h.fl
 y8 := fun j hj => by
   show (put S.by_ i ys j).length ≤ 8;unfold put; split
   · exact h8
   · exact h.y8 j hj
 yb := fun j hj v hv => by
   have hv' : v ∈ put S.by_ i ys j := hv;unfold put at hv'
   split at hv'
   · exact hb v hv'
   · exact h.yb j hj v hv'
 kn := h.kn
 ne := h.ne
 nd := h.nd
 ke := h.ke
 rm := h.rm
end
def PS.gave (x : PS) : PS := { x with r := put x.r 0 (x.r 2) }
def St.writeP (S : St) (b : Nat) (x : PS) (k : Nat × Nat) : St := (S.setY k.1 (S.by_ k.1 ++ x.peek (x.r 1).toNat (x.r 2).toNat)).setP b x.gave
def St.carried (S : St) (x : PS) (k : Nat × Nat) : PS := if k.2 = 4 then x.got (S.by_ k.1) else if S.isOpen (otherE k) then x.gave else { x with r := put x.r 0 (ansOf 7) }
def St.carry (S : St) (b : Nat) (x : PS) (k : Nat × Nat) : St := if k.2 = 4 then S.readP b x k else if S.isOpen (otherE k) then S.writeP b x k else S.setP b { x with r := put x.r 0 (ansOf 7) }
def St.rowAt (S : St) (k : Nat × Nat) : List Nat := ((S.wt.find? fun e => decide (e.1 = k)).map (·.2)).getD []
def St.serve (S : St) (k : Nat × Nat) : Option St := match S.rowAt k with
 | [] => none
 | b :: _ => match S.get b with
   | none => none
   | some x => if S.canBeDone x k then some (if x.st = 1 then (S.depart b k).carry b x k else ((S.depart b k).carry b x k).wake1 b (S.carried x k)) else none
def St.looks : Nat → St → Nat → St
 | 0, S, _ => S
 | n + 1, S, p => match S.serve (p, 5) with
   | some S' => St.looks n S' p
   | none => match S.serve (p, 4) with
     | some S' => St.looks n S' p
     | none => S
def St.look (S : St) (p : Nat) : St := St.looks 16 S p
def St.meas (S : St) (p : Nat) : Nat := (S.rowAt (p, 5)).length + (S.rowAt (p, 4)).length
def St.shut (S : St) (b n : Nat) : St := match S.get b with
 | some x => (S.setP b { x with f := put x.f n (0, 0) }).look (x.f n).1
 | none => S
def St.shuts (S : St) (b : Nat) (f : Nat → Nat × Nat) : List Nat → St
 | [] => S
 | n :: ns => (if f n = (0, 0) then S else S.shut b n).shuts b f ns
section
variable {S S' : St} {b : Nat} {x x' : PS} {k : Nat × Nat}
theorem fQ {c : Nat} (h : c ∈ S.rowAt k) : ∃ xs, (k, xs) ∈ S.wt ∧ xs = S.rowAt k := by
 unfold St.rowAt at *;cases hf : S.wt.find? fun e => decide (e.1 = k) with
 | none => rw [hf] at h; simp at h
 | some e =>
   have h1 := List.mem_of_find?_eq_some hf;have h2 := List.find?_some hf;simp only [decide_eq_true_eq] at h2;subst h2;exact ⟨e.2, h1, rfl⟩
theorem cQ (h : (S.wt.map (·.1)).Nodup) {xs : List Nat} (hm : (k, xs) ∈ S.wt) : S.rowAt k = xs := by
 obtain ⟨l1, ys, l2, hl, h1, h2⟩ := cu h (List.mem_map.2 ⟨_, hm, rfl⟩);have e1 : S.rowAt k = ys := by
   unfold St.rowAt;rw [hl, List.find?_append, List.find?_eq_none.2 fun e he => by simpa using h1 e he];simp
 rw [hl] at hm;rcases List.mem_append.1 hm with h3 | h3
 · exact absurd rfl (h1 _ h3)
 · rcases List.mem_cons.1 h3 with h4 | h4
   · rw [e1]; cases h4; rfl
   · exact absurd rfl (h2 _ h4)
theorem gG (h : ∀ e ∈ S.wt, e.1 ≠ k) : S.rowAt k = [] := by
 unfold St.rowAt;rw [List.find?_eq_none.2 fun e he => by simpa using h e he]; rfl
theorem mm (h : (S.wt.map (·.1)).Nodup) (k' : Nat × Nat) : (S.depart b k).rowAt k' = if k' = k then (S.rowAt k).filter (fun c => !decide (c = b)) else S.rowAt k' := by
 by_cases hk : k ∈ S.wt.map (·.1)
 · obtain ⟨l1, ys, l2, hl, h1, h2⟩ := cu h hk;have e0 : S.rowAt k = ys := cQ h (by rw [hl]; simp);have e1 : (S.depart b k).wt = l1 ++ ((if (ys.filter fun c => !decide (c = b)).length = 0 then [] else [(k, ys.filter fun c => !decide (c = b))]) ++ l2) := by
     show departW b k S.wt = _;rw [hl, j2 h1 h2]
   have f1 : l1.find? (fun e => decide (e.1 = k)) = none := List.find?_eq_none.2 fun e he => by simpa using h1 e he
   have f2 : l2.find? (fun e => decide (e.1 = k)) = none := List.find?_eq_none.2 fun e he => by simpa using h2 e he
   split
   · rename_i e; subst e;rw [e0];unfold St.rowAt;rw [e1, List.find?_append, f1, List.find?_append]
     split
     · rename_i hz;have hz' := List.length_eq_zero_iff.1 hz;rw [f2, hz']; rfl
     · simp
   · rename_i hne;unfold St.rowAt;rw [e1, hl, List.find?_append, List.find?_append, List.find?_append];have g1 : ∀ zs, ((k, zs) :: l2).find? (fun e => decide (e.1 = k')) = l2.find? (fun e => decide (e.1 = k')) := fun zs => by
       rw [List.find?_cons]; simp [Ne.symm hne]
     rw [g1]
     split
     · rfl
     · simp [Ne.symm hne]
 · have h0 : ∀ e ∈ S.wt, e.1 ≠ k := fun e he e1 => hk (List.mem_map.2 ⟨e, he, e1⟩);have e1 : S.depart b k = S := by unfold St.depart; rw [dV h0]; rfl
   rw [e1]
   split
   · rename_i e; rw [e, gG h0]; rfl
   · rfl
theorem qa : ∀ (vs : List Int) (x : PS) (i : Nat), (x.poke i vs).st = x.st ∧ (x.poke i vs).lv = x.lv ∧ (x.poke i vs).f = x.f ∧ (x.poke i vs).id = x.id ∧ (x.poke i vs).par = x.par
 | [], _, _ => ⟨rfl, rfl, rfl, rfl, rfl⟩
 | v :: vs, x, i => qa vs { x with m := put x.m i v } (i + 1)
theorem qb : ∀ (vs : List Int) (x : PS) (i : Nat), WF x → (∀ v ∈ vs, 0 ≤ v ∧ v < 256) → WF (x.poke i vs)
 | [], _, _, h, _ => h
 | v :: vs, x, i, h, hv => qb vs { x with m := put x.m i v } (i + 1) ⟨h.r, fun j hj => by
     show 0 ≤ put x.m i v j ∧ put x.m i v j < 256;unfold put; split
     · exact hv v (by simp)
     · exact h.m j hj⟩ fun w hw => hv w (by simp [hw])
theorem fA (h : WF x) {v : Int} (hv : 0 ≤ v ∧ v < 65536) : WF { x with r := put x.r 0 v } := ⟨fun j hj => by
 show 0 ≤ put x.r 0 v j ∧ put x.r 0 v j < 65536;unfold put; split
 · exact hv
 · exact h.r j hj, h.m⟩
theorem tX (i : Nat) : 0 ≤ ansOf i ∧ ansOf i < 65536 := by
 unfold ansOf
 repeat' split
 all_goals omega
theorem cC (S : St) (x : PS) (k : Nat × Nat) : (S.carried x k).st = x.st ∧ (S.carried x k).lv = x.lv ∧ (S.carried x k).f = x.f ∧ (S.carried x k).id = x.id ∧ (S.carried x k).par = x.par := by
 unfold St.carried
 split
 · exact qa _ _ _
 · split <;> exact ⟨rfl, rfl, rfl, rfl, rfl⟩
theorem o0 (h : Inv S) (hk : k.1 < 5) (hx : WF x) (ha : x.r 1 + x.r 2 ≤ 64) : WF (S.carried x k) := by
 unfold St.carried
 split
 · refine fA (qb _ _ _ hx fun v hv => h.yb _ hk v (List.mem_of_mem_take hv)) ⟨by omega, ?_⟩;have := h.y8 _ hk;have : (Nat.min (S.by_ k.1).length (x.r 2).toNat : Nat) ≤ (S.by_ k.1).length := Nat.min_le_left _ _;omega
 · split
   · exact fA hx (hx.r 2 (by omega))
   · exact fA hx (tX 7)
theorem fB (S : St) (b : Nat) (x : PS) (k : Nat × Nat) : ∃ ys, S.carry b x k = (S.setP b (S.carried x k)).setY k.1 ys ∧ (k.2 = 4 → ys = (S.by_ k.1).drop (Nat.min (S.by_ k.1).length (x.r 2).toNat)) ∧ (k.2 ≠ 4 → ys = if S.isOpen (otherE k) then S.by_ k.1 ++ x.peek (x.r 1).toNat (x.r 2).toNat else S.by_ k.1) := by
 unfold St.carry St.carried
 split
 · rename_i h; exact ⟨_, rfl, fun _ => rfl, fun hn => absurd h hn⟩
 · rename_i h
   split
   · exact ⟨_, rfl, fun h' => absurd h' h, fun _ => rfl⟩
   · refine ⟨S.by_ k.1, ?_, fun h' => absurd h' h, fun _ => rfl⟩;have : put S.by_ k.1 (S.by_ k.1) = S.by_ := by funext j; unfold put; split <;> simp_all
     show _ = { S.setP b _ with by_ := put S.by_ k.1 (S.by_ k.1) };rw [this]; rfl
theorem Inv.carry (h : Inv S) (hb : (b, x) ∈ S.ps) (ho : S.out b) (hk : k.1 < 5) (ha : x.r 1 + x.r 2 ≤ 64) (hc : S.canBeDone x k = true) : Inv (S.carry b x k) := by
 obtain ⟨ys, e, h4, h5⟩ := fB S b x k;obtain ⟨l1, l2, l3, _, _⟩ := cC S x k;have hI := h.like hb ho l1 l2 (o0 h hk (h.wf _ hb) ha) (by rw [l3]; exact h.fl _ hb);rw [e];have hy8 := h.y8 _ hk;have hyb := h.yb _ hk;have w2 : 0 ≤ x.r 2 ∧ x.r 2 < 65536 := (h.wf _ hb).r 2 (by omega);have w1 : 0 ≤ x.r 1 ∧ x.r 1 < 65536 := (h.wf _ hb).r 1 (by omega);refine hI.setY ?_ ?_
 · by_cases h44 : k.2 = 4
   · rw [h4 h44, List.length_drop]; omega
   · rw [h5 h44]
     split
     · rename_i ho;unfold St.canBeDone at hc;rw [if_pos ho, if_neg h44] at hc;simp only [decide_eq_true_eq] at hc;simp [PS.peek];omega
     · exact hy8
 · by_cases h44 : k.2 = 4
   · rw [h4 h44]; exact fun v hv => hyb v (List.mem_of_mem_drop hv)
   · rw [h5 h44]
     split
     · intro v hv;rcases List.mem_append.1 hv with h1 | h1
       · exact hyb v h1
       · unfold PS.peek at h1;obtain ⟨j, hj, rfl⟩ := List.mem_map.1 h1;simp at hj;exact (h.wf _ hb).m _ (by omega)
     · exact hyb
theorem io (S : St) (b : Nat) (x : PS) (k : Nat × Nat) : (S.carry b x k).wt = S.wt := by
 obtain ⟨ys, e, _⟩ := fB S b x k;rw [e]; rfl
theorem cR (S : St) (b : Nat) (x : PS) (k : Nat × Nat) : (S.carry b x k).ps = (S.setP b (S.carried x k)).ps := by
 obtain ⟨ys, e, _⟩ := fB S b x k;rw [e]; rfl
theorem cW (hS : S.serve k = some S') : ∃ b x, b ∈ S.rowAt k ∧ (S.rowAt k).head? = some b ∧ (b, x) ∈ S.ps ∧ S.canBeDone x k = true ∧ S' = if x.st = 1 then (S.depart b k).carry b x k else ((S.depart b k).carry b x k).wake1 b (S.carried x k) := by
 unfold St.serve at hS
 split at hS
 · cases hS
 · rename_i b l hr
   split at hS
   · cases hS
   · rename_i x hx
     split at hS
     · rename_i hc;refine ⟨b, x, by rw [hr]; simp, by rw [hr]; rfl, bk hx, hc, ?_⟩;exact (Option.some.inj hS).symm
     · cases hS
theorem Inv.atRow (h : Inv S) {c : Nat} (hc : c ∈ S.rowAt k) (hb : (c, x) ∈ S.ps) : Asks x k ∧ okEnd k := by
 obtain ⟨xs, h1, h2⟩ := fQ hc;exact ⟨h.row hb h1 (by rw [h2]; exact hc), h.ke _ h1⟩
theorem Inv.serve (h : Inv S) (hS : S.serve k = some S') : Inv S' := by
 obtain ⟨b, x, hm, _, hb, hc, rfl⟩ := cW hS;obtain ⟨ha, hk⟩ := h.atRow hm hb;have hd : Inv (S.depart b k) := h.depart;have ho : (S.depart b k).out b := by have := h.out_depart hb; rw [ha.f] at this; exact this
 have hI := Inv.carry hd (b := b) (x := x) (k := k) hb ho hk.1.2 ha.a hc
 split
 · exact hI
 · rename_i h1;refine hI.wake1 ?_ (by intro e he; exact ho e (by rw [io] at he; exact he)) (by rw [(cC S x k).1]; exact h1);rw [cR]; exact au hb
theorem j9 (hS : S.serve k = some S') : ∃ b, (S.rowAt k).head? = some b ∧ S'.wt = (S.depart b k).wt := by
 obtain ⟨b, x, hm, hh, hb, hc, rfl⟩ := cW hS;refine ⟨b, hh, ?_⟩
 split
 · exact io _ _ _ _
 · show ((S.depart b k).carry b x k).wt = _;exact io _ _ _ _
theorem nv {S S' : St} (h : S'.wt = S.wt) (k : Nat × Nat) : S'.rowAt k = S.rowAt k := by unfold St.rowAt; rw [h]
theorem kf (h : Inv S) {p u : Nat} (hu : u = 4 ∨ u = 5) (hS : S.serve (p, u) = some S') : S'.meas p < S.meas p := by
 obtain ⟨b, hh, hw⟩ := j9 hS;have e1 := nv hw (p, 4);have e2 := nv hw (p, 5);rw [mm h.kn] at e1 e2;have hlt : ((S.rowAt (p, u)).filter fun c => !decide (c = b)).length < (S.rowAt (p, u)).length := by
   rw [List.length_filter_lt_length_iff_exists];refine ⟨b, List.mem_of_head? hh, by simp⟩
 unfold St.meas;rw [e1, e2];rcases hu with rfl | rfl
 · rw [if_pos rfl, if_neg (by simp)]; omega
 · rw [if_pos rfl, if_neg (by simp)]; omega
theorem lj {c : Nat} (h : S.out c) (hS : S.serve k = some S') : S'.out c := by
 obtain ⟨b, hh, hw⟩ := j9 hS;intro e he;rw [hw] at he;exact ml h e he
theorem ry {c : Nat} {y : PS} (h : Inv S) (ho : S.out c) (hc : (c, y) ∈ S.ps) (hS : S.serve k = some S') : (c, y) ∈ S'.ps := by
 obtain ⟨b, x, hm, hh, hb, hd, rfl⟩ := cW hS;have hne : c ≠ b := by
   rintro rfl;obtain ⟨xs, h1, h2⟩ := fQ hm;exact ho _ h1 (by rw [h2]; exact hm)
 have stay : ∀ (T : St) (z : PS), (c, y) ∈ T.ps → (c, y) ∈ (T.setP b z).ps := fun T z hT => by
   simp only [St.setP, List.mem_map];exact ⟨(c, y), hT, by rw [if_neg hne]⟩
 split
 · rw [cR]; exact stay _ _ hc
 · show (c, y) ∈ (((S.depart b k).carry b x k).setP b _).ps;apply stay;rw [cR]; exact stay _ _ hc
theorem rz (hS : S.serve k = some S') : S'.ps.map (·.1) = S.ps.map (·.1) := by
 obtain ⟨b, x, hm, hh, hb, hd, rfl⟩ := cW hS;have e1 : ((S.depart b k).carry b x k).ps.map (·.1) = S.ps.map (·.1) := by rw [cR, aX]; rfl
 split
 · exact e1
 · show (((S.depart b k).carry b x k).setP b _).ps.map (·.1) = _;rw [aX, e1]
theorem qd (h : Inv S) (p : Nat) : S.meas p ≤ 16 := by
 have aux : ∀ k, (S.rowAt k).length ≤ 8 := fun k => by
   cases hr : S.rowAt k with
   | nil => simp
   | cons c l =>
     obtain ⟨xs, h1, h2⟩ := fQ (S := S) (k := k) (c := c) (by rw [hr]; simp);have := h.w.rl _ h1;simp only at this;rw [h2, hr] at this;exact this
 have h1 := aux (p, 5);have h2 := aux (p, 4);unfold St.meas;omega
theorem o3 {p : Nat} (h5 : S.serve (p, 5) = none) (h4 : S.serve (p, 4) = none) : ∀ n, St.looks n S p = S
 | 0 => rfl
 | n + 1 => by simp only [St.looks, h5, h4]
structure Looked (S S' : St) : Prop where
 i : Inv S'
 f : S'.ps.map (·.1) = S.ps.map (·.1)
 o : ∀ c, S.out c → S'.out c
 m : ∀ c y, S.out c → (c, y) ∈ S.ps → (c, y) ∈ S'.ps
theorem Inv.looks (p : Nat) : ∀ (n : Nat) {S : St}, Inv S → Looked S (St.looks n S p)
 | 0, S, h => ⟨h, rfl, fun _ h => h, fun _ _ _ h => h⟩
 | n + 1, S, h => by
   have go : ∀ {u : Nat} {S' : St}, S.serve (p, u) = some S' → Looked S (St.looks n S' p) := fun {u S'} hS => by
     have ih := Inv.looks p n (h.serve hS);exact ⟨ih.i, ih.f.trans (rz hS), fun c hc => ih.o c (lj hc hS), fun c y hc hy => ih.m c y (lj hc hS) (ry h hc hy hS)⟩
   unfold St.looks
   split
   · exact go ‹_›
   · split
     · exact go ‹_›
     · exact ⟨h, rfl, fun _ h => h, fun _ _ _ h => h⟩
theorem Inv.look (h : Inv S) (p : Nat) : Looked S (S.look p) := Inv.looks p 16 h
theorem iQ (h : ∀ i, i < 6 → x.f i = (0, 0) ∨ okEnd (x.f i)) {n : Nat} {e : Nat × Nat} (he : e = (0, 0) ∨ okEnd e) : ∀ i, i < 6 → put x.f n e i = (0, 0) ∨ okEnd (put x.f n e i) := fun i hi => by
 unfold put; split
 · exact he
 · exact h i hi
theorem Inv.shut (h : Inv S) (hb : (b, x) ∈ S.ps) (ho : S.out b) (n : Nat) : Looked (S.setP b { x with f := put x.f n (0, 0) }) (S.shut b n) := by
 unfold St.shut;rw [bt h.g.pn hb];exact Inv.look (h.like (x' := { x with f := put x.f n (0, 0) }) hb ho rfl rfl ⟨(h.wf _ hb).r, (h.wf _ hb).m⟩ (iQ (h.fl _ hb) (.inl rfl))) _
end
theorem vQ : ∃ n, ∀ {σ : Type} {F : Fam σ} {Δ : ∀ s, Dom (F.R s) (F.D s)} {main : Bool} {s : σ} (K : Nat) (A : Lay) (S : St) (Fr L : Frag) (eb : Nat → Nat × Nat) (b : Nat) (x : PS) (k : Nat × Nat), (∀ cs, (Δ s).New (.cells cs 96)) → (∀ cs, (Δ s).New (.cells cs 210)) → Rep K A S Fr L → Ers eb Fr → (b, x) ∈ S.ps → WF x → k.2 ≠ 4 → x.r 1 + x.r 2 ≤ 64 → S.isOpen (otherE k) = false →
   CallsL Δ Tryz.prog main 166 [ptr K, ptr b, keyv k].toArray n s L (fun s' v L' => s = s' ∧ ∃ r, v = .iface 180 (ptr r) ∧ At L' r 1 (erv eb 7) ∧ Rep K A S Fr L') := by
 obtain ⟨n0, g0⟩ := mf;obtain ⟨n1, g1⟩ := ij;obtain ⟨n2, g2⟩ := np;apply Exists.intro;intro σ F Δ main s K A S Fr L eb b x k hN hN2 hR hE hb hx hk4 hfc hop;have wx1 := hx.r 1 (by omega);have wx2 := hx.r 2 (by omega);have w1 : IntKind.i64.wrap (x.r 1) = x.r 1 := by simp [IntKind.wrap_i64]; omega
 have w2 : IntKind.i64.wrap (x.r 2) = x.r 2 := by simp [IntKind.wrap_i64]; omega
 have w3 : IntKind.i64.wrap (x.r 1 + x.r 2) = x.r 1 + x.r 2 := by simp [IntKind.wrap_i64]; omega
 co_applyP aB 100 Tryz.func166 Tryz.ntmps166;co_applyP ae;co_applyP aa;co_applyP bN rfl (bV (hN _));intro xk L1 hA1;have hR1 := hR.add hA1;have h1 : At L1 xk 1 (.int .i64 (k.2 : Nat)) := ⟨true, _, _, _, hA1.self, rfl⟩;have hx1 : At L1 b 8 (.int .u16 (x.r 1)) := hR1.pat hb (bh x (i := 1) (by omega));have hx2 : At L1 b 9 (.int .u16 (x.r 2)) := hR1.pat hb (bh x (i := 2) (by omega));have e4 : ((k.2 : Int) == 4) = false := by simp; omega
 co_applyP oy rfl ak;co_applyP ah;change wpE ..;co_applyP ae;co_applyP bj aZ;co_applyP tr (i := 0) rfl aj pI;co_applyP tr (i := 1) rfl aL pI;co_applyP tr (i := 2) rfl (av (hf := aD)) pI;co_applyP tr (i := 3) rfl (av (hf := aY)) pI;co_applyP tr (i := 4) rfl (a0 Tryz.underlying47 a9) pI;co_applyP tr (i := 5) rfl (aC (ht := cp)) pI;co_applyP tr (i := 6) rfl (cg (hs := Tryz.underlying32) (ht := Tryz.underlying3)) pI;co_applyP tr (i := 7) rfl aj pI;co_applyP tr (i := 8) rfl aL pI;co_applyP tr (i := 9) rfl (av (hf := aD)) pI;co_applyP tr (i := 10) rfl (av (hf := aY)) pI;co_applyP tr (i := 11) rfl (a0 Tryz.underlying47 a9) pI;co_applyP tr (i := 12) rfl (aC (ht := cp)) pI;co_applyP tr (i := 13) rfl (cg (hs := Tryz.underlying32) (ht := Tryz.underlying3)) pI;co_applyP tr (i := 14) rfl ak pI;co_applyP tr (i := 15) rfl ak pI;co_applyP td (by kernel_rfl);change wpE ..;co_applyP ae;co_applyP aa;co_applyP oy rfl aj;co_applyP oy rfl aL;co_applyP oy rfl (av (hf := fO));co_applyP oy rfl aj;co_applyP oy rfl aj;co_applyP oy rfl aj;co_applyP oy rfl a7;simp only [w1, w2, w3];co_applyP oy rfl (tU Tryz.underlying94 ee);co_applyP oy rfl ak;co_applyP ah;change wpE ..;co_applyP ae;co_applyP ae;co_applyP aa;co_applyP oy rfl (av (hf := gY));co_applyP oy rfl (aC (ht := aV));co_applyP oy rfl ay;co_applyP ah;change wpE ..;rw [e4];co_applyP aq rfl;co_applyP aA;change wpE ..;co_applyP ae (n₂ := 0);co_applyP ae;co_applyP aa;co_applyP oy rfl aj;co_applyP oy rfl (a8 (ht := bJ) (hs := bi) (hm := hA1.self) (hi := Nat.le_refl _));co_applyP ocm rfl rfl rfl (g0 L1 k hN);rintro _ _ _ ⟨rfl, rfl, hE2⟩;rename_i L2;co_applyP oc rfl rfl rfl (g1 K A S Fr L2 (otherE k) hN (hR1.ext hE2));rintro _ _ _ ⟨rfl, rfl, hE3⟩;co_applyP oy rfl bY;co_applyP ah;change wpE ..;rename_i L3;have hR3 := (hR1.ext hE2).ext hE3;have hg := (hE.mono hR3.fr).g 7 (by decide) (by decide);rw [hop];co_applyP aW rfl;co_applyP ae;co_applyP aa;co_applyP oy rfl (aC (ht := b4));co_applyP oc rfl rfl rfl (g2 L3 10 (eb 7) hN2);rintro _ _ _ ⟨rfl, r, rfl, hA4⟩;co_applyP oy rfl ak;co_applyP ah;change wpE ..;co_applyP aJ;change ∃ v, resE .. = some v ∧ _;exact ⟨_, rfl, rfl, r, rfl, ⟨true, _, _, _, hA4.self, rfl⟩, hR3.add hA4⟩
theorem vR : ∃ n, ∀ {σ : Type} {F : Fam σ} {Δ : ∀ s, Dom (F.R s) (F.D s)} {main : Bool} {s : σ} (K : Nat) (A : Lay) (S : St) (Fr L : Frag) (b : Nat) (x : PS) (k : Nat × Nat), (∀ cs, (Δ s).New (.cells cs 96)) → (∀ cs, (Δ s).New (.cells cs 5)) → Rep K A S Fr L → (b, x) ∈ S.ps → WF x → k.1 < 5 → k.2 ≠ 4 → x.r 1 + x.r 2 ≤ 64 → (S.by_ k.1).length ≤ 8 → S.isOpen (otherE k) = true →
   CallsL Δ Tryz.prog main 166 [ptr K, ptr b, keyv k].toArray n s L (fun s' v L' => s = s' ∧ v = .nilIface ∧ ∃ A', YLay A A' ∧ Rep K A' (S.writeP b x k) Fr L') := by
 obtain ⟨n0, g0⟩ := mf;obtain ⟨n1, g1⟩ := ij;apply Exists.intro;intro σ F Δ main s K A S Fr L b x k hN hN5 hR hb hx hk5 hk4 hfc h8 hop;have wx1 := hx.r 1 (by omega);have wx2 := hx.r 2 (by omega);have w1 : IntKind.i64.wrap (x.r 1) = x.r 1 := by simp [IntKind.wrap_i64]; omega
 have w2 : IntKind.i64.wrap (x.r 2) = x.r 2 := by simp [IntKind.wrap_i64]; omega
 have w3 : IntKind.i64.wrap (x.r 1 + x.r 2) = x.r 1 + x.r 2 := by simp [IntKind.wrap_i64]; omega
 obtain ⟨base, cap, hv, _⟩ : ∃ base cap, slv (A.y k.1) (S.by_ k.1).length = .slice base (S.by_ k.1).length cap ∧ True := by
   obtain ⟨base, cap, h, _⟩ := bA (hR.ya k.1 hk5);simp only [List.length_map] at h;exact ⟨base, cap, h, trivial⟩
 co_applyP aB 100 Tryz.func166 Tryz.ntmps166;co_applyP ae;co_applyP aa;co_applyP bN rfl (bV (hN _));intro xk L1 hA1;have hR1 := hR.add hA1;have h1 : At L1 xk 1 (.int .i64 (k.2 : Nat)) := ⟨true, _, _, _, hA1.self, rfl⟩;have hx1 : At L1 b 8 (.int .u16 (x.r 1)) := hR1.pat hb (bh x (i := 1) (by omega));have hx2 : At L1 b 9 (.int .u16 (x.r 2)) := hR1.pat hb (bh x (i := 2) (by omega));have e4 : ((k.2 : Int) == 4) = false := by simp; omega
 have edl : (x.r 1 + x.r 2).toNat - (x.r 1).toNat = (x.r 2).toNat := by omega
 co_applyP oy rfl ak;co_applyP ah;change wpE ..;co_applyP ae;co_applyP bj aZ;co_applyP tr (i := 0) rfl aj pI;co_applyP tr (i := 1) rfl aL pI;co_applyP tr (i := 2) rfl (av (hf := aD)) pI;co_applyP tr (i := 3) rfl (av (hf := aY)) pI;co_applyP tr (i := 4) rfl (a0 Tryz.underlying47 a9) pI;co_applyP tr (i := 5) rfl (aC (ht := cp)) pI;co_applyP tr (i := 6) rfl (cg (hs := Tryz.underlying32) (ht := Tryz.underlying3)) pI;co_applyP tr (i := 7) rfl aj pI;co_applyP tr (i := 8) rfl aL pI;co_applyP tr (i := 9) rfl (av (hf := aD)) pI;co_applyP tr (i := 10) rfl (av (hf := aY)) pI;co_applyP tr (i := 11) rfl (a0 Tryz.underlying47 a9) pI;co_applyP tr (i := 12) rfl (aC (ht := cp)) pI;co_applyP tr (i := 13) rfl (cg (hs := Tryz.underlying32) (ht := Tryz.underlying3)) pI;co_applyP tr (i := 14) rfl ak pI;co_applyP tr (i := 15) rfl ak pI;co_applyP td (by kernel_rfl);change wpE ..;co_applyP ae;co_applyP aa;co_applyP oy rfl aj;co_applyP oy rfl aL;co_applyP oy rfl (av (hf := fO));co_applyP oy rfl aj;co_applyP oy rfl aj;co_applyP oy rfl aj;co_applyP oy rfl a7;simp only [w1, w2, w3];co_applyP oy rfl (tU Tryz.underlying94 ee);co_applyP oy rfl ak;co_applyP ah;change wpE ..;co_applyP ae;co_applyP ae;co_applyP aa;co_applyP oy rfl (av (hf := gY));co_applyP oy rfl (aC (ht := aV));co_applyP oy rfl ay;co_applyP ah;change wpE ..;rw [e4, edl];co_applyP aq rfl;co_applyP aA;change wpE ..;co_applyP ae;co_applyP ae;co_applyP aa;co_applyP oy rfl aj;co_applyP oy rfl (a8 (ht := bJ) (hs := bi) (hm := hA1.self) (hi := Nat.le_refl _));co_applyP ocm rfl rfl rfl (g0 L1 k hN);rintro _ _ _ ⟨rfl, rfl, hE2⟩;rename_i L2;co_applyP oc rfl rfl rfl (g1 K A S Fr L2 (otherE k) hN (hR1.ext hE2));rintro _ _ _ ⟨rfl, rfl, hE3⟩;co_applyP oy rfl bY;co_applyP ah;change wpE ..;rename_i L3;have hR3 := (hR1.ext hE2).ext hE3;have hxk3 := hE3.s _ (hE2.s _ hA1.self);have h03 : At L3 xk 0 (.int .i64 (k.1 : Nat)) := ⟨true, _, _, _, hxk3, rfl⟩;have hky3 : At L3 K (10 + k.1) (.slice base (S.by_ k.1).length cap) := by rw [← hv]; exact hR3.kat (p6 _ hk5)
 rw [hop];co_applyP aq rfl;co_applyP aA;change wpE ..;co_applyP ae;obtain ⟨ys, hys⟩ : ∃ ys, ys = (x.peek (x.r 1).toNat (x.r 2).toNat).map fun v => Value.int .u8 v := ⟨_, rfl⟩;have hyl : ys.length = (x.r 2).toNat := by rw [hys]; simp [PS.peek]
 have hco : cutAt (0 + 15) (x.r 1).toNat 64 1 = if 64 = (x.r 1).toNat then 15 else 15 + (x.r 1).toNat := by unfold cutAt; split <;> omega
 have hrd : Reads Tryz.prog L3 1 ys.length (.slice (some ⟨b, cutAt (0 + 15) (x.r 1).toNat 64 1, none⟩) ys.length (64 - (x.r 1).toNat)) ys.toArray := by
   have h := b7 (P := Tryz.prog) (sz := 1) (n := ys.length) (len := ys.length) (cap := 64 - (x.r 1).toNat) (o := cutAt (0 + 15) (x.r 1).toNat 64 1) (hR3.p _ hb) (by rw [bg, hco]; split <;> omega);have e : (pcells x).extract (cutAt (0 + 15) (x.r 1).toNat 64 1) (cutAt (0 + 15) (x.r 1).toNat 64 1 + ys.length * 1) = ys.toArray := by
     rw [hco]
     split
     · have h0 : (x.r 2).toNat = 0 := by omega
       have : ys = [] := List.length_eq_zero_iff.1 (by omega);rw [this];simp;omega
     · rw [Nat.mul_one, hyl, xz x (by omega), hys]
   rw [e] at h;exact h
 have hypl : ys.all plainV = true := by rw [hys, List.all_eq_true]; intro v hv; obtain ⟨w, _, rfl⟩ := List.mem_map.1 hv; rfl
 have hxm : ∀ (L : Frag), (xk, true, Obj.cells (keyv k).cells 96) ∈ L → ∀ t ∈ [(xk, true, Obj.cells (keyv k).cells 96)], t ∈ L := fun L h t ht => by simp only [List.mem_singleton] at ht; rw [ht]; exact h
 have tyy : ∀ {c : Nat} {fl : Bool} {o : Obj}, (c, fl, o) ∈ L3 → (∀ c', o ≠ Obj.cells c' 5) → (A.y k.1).b ≠ some c := fun hm ho hc => by
   obtain ⟨xs, hx'⟩ := hR3.yl _ _ hc;exact ho _ (hR3.fn _ _ _ _ _ hm hx').2
 have hyx := tyy hxk3 fun c => aF (by decide);have hyK := tyy hR3.k fun c => aF (by decide);co_applyP bm [(xk, true, Obj.cells (keyv k).cells 96)] 11 (nf := 0) aZ;co_applyP tr (i := 0) rfl aj (ai (hxm _ hxk3));co_applyP tr (i := 1) rfl (av (hf := dJ)) (ai (hxm _ hxk3));co_applyP tr (i := 2) rfl (aC (ht := aV)) (ai (hxm _ hxk3));co_applyP tr (i := 3) rfl aj (ai (hxm _ hxk3));co_applyP tr (i := 4) rfl (av (hf := dJ)) (ai (hxm _ hxk3));co_applyP t0 (i := 5) rfl (aC (ht := aV)) (ai (hxm _ hxk3));co_applyP tr (i := 6) rfl aL (ai (hxm _ hxk3));co_applyP tr (i := 7) rfl (av (hf := ep)) (ai (hxm _ hxk3));co_applyP tr (i := 8) rfl (a0 Tryz.underlying113 gm) (ai (hxm _ hxk3));co_applyP t0 (i := 9) rfl (aC (ht := pM)) (ai (hxm _ hxk3));co_applyP tr (i := 10) rfl aj (ai (hxm _ hxk3));co_applyP tr (i := 12) rfl aL (ai (hxm _ hxk3));co_applyP tr (i := 13) rfl (av (hf := ep)) (ai (hxm _ hxk3));co_applyP ba;intro hnd;co_applyP te (i := 11) rfl (zU (a := A.y k.1) (xs := (S.by_ k.1).map fun v => Value.int .u8 v) (ys := ys) (hx := by rw [List.length_map, hv]; rfl) (hy := by rw [hyl]; rfl) (hnd := hnd) (hN := hN5) (ha := hR3.ya k.1 hk5) (hr := hrd) (hpl := hypl) (h8 := by simp; omega) (h8' := by omega));rintro _ _ ⟨a', rfl, hp⟩;refine ⟨aE (hxm _ (hp.sub _ hxk3 hyx)), ?_⟩;rename_i L4;co_applyP to (i := 14) rfl ((a0 Tryz.underlying113 gm)) (aE (hxm _ (hp.sub _ hxk3 hyx)));co_applyP ba;intro hnd';have hK4 := hp.sub _ hR3.k hyK;have hxKne : xk ≠ K := fun e => hA1.new _ hR.k e.symm;co_applyP te (i := 15) rfl (fb (hnd := hnd') (hm := hK4) (hi := by rw [bC]; omega) (hp := eQ _ _) (hs := gm));rintro _ _ ⟨rfl, hU5⟩;refine ⟨aE (hxm _ (hU5.ne _ (hp.sub _ hxk3 hyx) hxKne)), ?_⟩;rename_i L5;co_applyP td (by kernel_rfl);change wpE ..;co_applyP ae;have hR5 : Rep K (A.setY k.1 a') (S.setY k.1 (S.by_ k.1 ++ x.peek (x.r 1).toNat (x.r 2).toNat)) Fr L5 := by
   refine hR3.setBytes hk5 hU5.fn ?_ (fun t ht h1 h2 => hU5.ne _ (hp.sub _ ht h2) h1) ?_ (fun c hc => ?_)
   · show (K, true, Obj.cells (kcells _) 115) ∈ L5;have := hU5.self;rw [mi _ hk5] at this;rw [oZ];have el : (S.by_ k.1 ++ x.peek (x.r 1).toNat (x.r 2).toNat).length = ((S.by_ k.1).map (fun v => Value.int .u8 v) ++ ys).length := by rw [hys]; simp
     rw [el];exact this
   · rw [List.map_append, ← hys];refine hp.ok.mono fun c hc o ho => hU5.ne _ ho fun e => ?_;rcases hp.d c hc with h | h
     · exact hyK (by rw [h]; exact congrArg some e)
     · exact h _ hR3.k e.symm
   · rcases hp.d c hc with h | h
     · exact .inl h
     · refine .inr ⟨fun j hj => ?_, fun t ht e => h _ (hR3.fr t ht) e⟩;obtain ⟨xs, hx'⟩ := hR3.yl j c hj;exact h _ hx' rfl
 have hb5 : (b, x) ∈ (S.setY k.1 (S.by_ k.1 ++ x.peek (x.r 1).toNat (x.r 2).toNat)).ps := hb;have hx25 : At L5 b 9 (.int .u16 (x.r 2)) := hR5.pat hb5 (bh x (i := 2) (by omega));co_applyP bm [] 11 (nf := 0) aZ;co_applyP tr (i := 0) rfl aj (ai (by simp));co_applyP tr (i := 1) rfl aj (ai (by simp));co_applyP tr (i := 2) rfl aL (ai (by simp));co_applyP tr (i := 3) rfl (av (hf := aD)) (ai (by simp));co_applyP tr (i := 4) rfl (av (hf := aY)) (ai (by simp));co_applyP tr (i := 5) rfl (a0 Tryz.underlying47 a9) (ai (by simp));co_applyP t0 (i := 6) rfl (aC (ht := cp)) (ai (by simp));co_applyP tr (i := 7) rfl aL (ai (by simp));co_applyP tr (i := 8) rfl (av (hf := aD)) (ai (by simp));co_applyP tr (i := 9) rfl (av (hf := aY)) (ai (by simp));co_applyP tr (i := 10) rfl (a0 Tryz.underlying47 a9) (ai (by simp));co_applyP ba;intro hnd6;co_applyP te (i := 11) rfl (fb (hnd := hnd6) (hm := hR5.p _ hb5) (hi := by rw [bg]; omega) (hs := a9));rintro _ _ ⟨rfl, hU6⟩;refine ⟨aE (by simp), ?_⟩;co_applyP td (by kernel_rfl);change wpE ..;co_applyP ae;co_applyP aa;co_applyP oy rfl ak;co_applyP ah;change wpE ..;co_applyP aJ;change ∃ v, resE .. = some v ∧ _;have h7 : (pcells x).setIfInBounds (7 + 0) (.int .u16 (x.r 2)) = pcells x.gave := by rw [dF _ (by omega)]; rfl
 refine ⟨_, rfl, rfl, rfl, A.setY k.1 a', ⟨rfl, ⟨rfl, rfl, rfl⟩, ⟨rfl, rfl, rfl⟩⟩, ?_⟩;exact hR5.setP hb5 (x' := x.gave) (h7 ▸ hU6)
theorem tY : ∃ n, ∀ {σ : Type} {F : Fam σ} {Δ : ∀ s, Dom (F.R s) (F.D s)} {main : Bool} {s : σ} (K : Nat) (A : Lay) (S : St) (Fr L : Frag) (b : Nat) (x : PS) (k : Nat × Nat), (∀ cs, (Δ s).New (.cells cs 96)) → (∀ cs, (Δ s).New (.cells cs 5)) → Rep K A S Fr L → (b, x) ∈ S.ps → WF x → k.1 < 5 → x.r 1 + x.r 2 ≤ 64 → (S.by_ k.1).length ≤ 8 → k.2 = 4 ∨ S.isOpen (otherE k) = true →
   CallsL Δ Tryz.prog main 166 [ptr K, ptr b, keyv k].toArray n s L (fun s' v L' => s = s' ∧ v = .nilIface ∧ ∃ A', Rep K A' (S.carry b x k) Fr L') := by
 obtain ⟨n0, g0⟩ := vP;obtain ⟨n2, g2⟩ := vR;refine ⟨n0 + n2, fun {σ F Δ main s} K A S Fr L b x k hN hN5 hR hb hx hk5 hfc h8 ho => aS (k.2 = 4) (fun h => ?_) fun h => ?_⟩
 · refine aU (g0 K A S Fr L b x k hN hR hb hx hk5 h hfc h8) fun s' v L' ⟨h1, h2, A', h3, h4⟩ => ⟨h1, h2, A', ?_⟩;unfold St.carry; rw [if_pos h]; exact h4
 · have ho' : S.isOpen (otherE k) = true := ho.resolve_left h;refine aU (g2 K A S Fr L b x k hN hN5 hR hb hx hk5 h hfc h8 ho') fun s' v L' ⟨h1, h2, A', h3, h4⟩ => ⟨h1, h2, A', ?_⟩;unfold St.carry; rw [if_neg h, if_pos ho']; exact h4
structure NewK {R : World → World → Prop} {D : World → World → Array Event → Prop} (Δ : Dom R D) : Prop extends NewE Δ where
 r : ∀ cs, Δ.New (.cells cs 93)
 k : ∀ cs, Δ.New (.cells cs 96)
 y : ∀ cs, Δ.New (.cells cs 5)
 i : ∀ cs, Δ.New (.cells cs 158)
 p : ∀ cs, Δ.New (.cells cs 99)
theorem vS : ∃ n, ∀ {σ : Type} {F : Fam σ} {Δ : ∀ s, Dom (F.R s) (F.D s)} {main : Bool} {s : σ} (K : Nat) (A : Lay) (S : St) (Fr L : Frag) (k : Nat × Nat), (∀ cs, (Δ s).New (.cells cs 96)) → Rep K A S Fr L → (∀ e ∈ S.wt, e.1 ≠ k) →
   CallsL Δ Tryz.prog main 160 [ptr K, keyv k].toArray n s L (fun s' v L' => s = s' ∧ v = .bool false ∧ Rep K A S Fr L') := by
 apply Exists.intro;intro σ F Δ main s K A S Fr L k hN hR hk;co_applyP aB 51 Tryz.func160 Tryz.ntmps160;co_applyP ae;co_applyP aa;co_applyP bN rfl (bV (hN _));intro xk L1 hA1;have hR1 := hR.add hA1;have hkx : At L1 K 15 (.map (some A.wt)) := hR1.kat rfl;have hw1 := hR1.w;rw [ct] at hw1;have hkey := dH (A := A) (bs := A.born) hk;co_applyP oy rfl ak;co_applyP ah;change wpE ..;co_applyP ae;co_applyP bj aZ;co_applyP tr (i := 0) rfl aj pI;co_applyP tr (i := 1) rfl aL pI;co_applyP tr (i := 2) rfl (av (hf := cr)) pI;co_applyP tr (i := 3) rfl (aC (ht := dD)) pI;co_applyP tr (i := 4) rfl (a8 (ht := bJ) (hs := bi) (hm := hA1.self) (hi := Nat.le_refl _)) pI;co_applyP tr (i := 5) rfl (nq (k := k) ey Tryz.underlying110 ii hw1) pI;co_applyP tr (i := 6) rfl ak pI;co_applyP td (by kernel_rfl);change wpE ..;co_applyP ae (n₂ := 0);co_applyP ae;rw [ig hkey];co_applyP bj aZ;co_applyP tr (i := 0) rfl aj pI;co_applyP tr (i := 1) rfl (bz (hu := Tryz.underlying91)) pI;co_applyP tr (i := 2) rfl ay pI;co_applyP tr (i := 3) rfl aj pI;co_applyP tu (i := 4) rfl pI;co_applyP tu (i := 5) rfl pI;co_applyP tu (i := 6) rfl pI;co_applyP tu (i := 7) rfl pI;co_applyP tu (i := 8) rfl pI;co_applyP tu (i := 9) rfl pI;co_applyP tu (i := 10) rfl pI;co_applyP tr (i := 11) rfl aN pI;co_applyP td (by kernel_rfl);change wpE ..;co_applyP aW rfl;co_applyP ae;co_applyP aa;co_applyP oy rfl ak;co_applyP ah;change wpE ..;co_applyP aJ;change ∃ v, resE .. = some v ∧ _;exact ⟨_, rfl, rfl, rfl, hR1⟩
theorem kg {K : Nat} {A : Lay} {S : St} {F L : Frag} (hR : Rep K A S F L) {k : Nat × Nat} {b : Nat} {xs : List Nat} (hin : (k, b :: xs) ∈ S.wt) : ∃ Q, (A.a (slot k)).b = some Q ∧ slv (A.a (slot k)) (b :: xs).length = .slice (some ⟨Q, 0, none⟩) (b :: xs).length ((b :: xs).length + (A.a (slot k)).junk.length) ∧ At L Q 0 (ptr b) := by
 cases h : (A.a (slot k)).b with
 | some Q =>
   refine ⟨Q, rfl, by unfold slv; rw [h], true, _, _, _, (hR.wa _ hin).mem h, by simp⟩
 | none =>
   have := hR.wa _ hin;unfold slOk at this;rw [h] at this;simp at this
theorem kh {A : Lay} {S : St} {k : Nat × Nat} {l1 l2 : Wt} {xs : List Nat} (hwl : A.born.length = S.wt.length) (hwt : S.wt = l1 ++ (k, xs) :: l2) (hl1 : ∀ e ∈ l1, e.1 ≠ k) : lk k (entsOf A S.wt A.born) 0 = some (l1.length, slv (A.a (slot k)) xs.length) := by
 obtain ⟨b1, c0, b2, hborn, hbl⟩ : ∃ b1 c0 b2, A.born = b1 ++ c0 :: b2 ∧ l1.length = b1.length := by
   have hl := hwl;rw [hwt] at hl;simp at hl;refine ⟨A.born.take l1.length, A.born[l1.length]'(by omega), A.born.drop (l1.length + 1), by simp, by simp; omega⟩
 have hents : entsOf A S.wt A.born = entsOf A l1 b1 ++ (k, slv (A.a (slot k)) xs.length, c0) :: entsOf A l2 b2 := by
   rw [hwt, hborn, ci A hbl]; rfl
 rw [hents, ju (dH hl1), dG A hbl];simp [lk]
theorem vT : ∃ n, ∀ {σ : Type} {F : Fam σ} {Δ : ∀ s, Dom (F.R s) (F.D s)} {main : Bool} {s : σ} (K : Nat) (A : Lay) (S : St) (Fr L : Frag) (k : Nat × Nat) (b : Nat) (x : PS) (xs : List Nat), (∀ cs, (Δ s).New (.cells cs 96)) → Rep K A S Fr L → Inv S → (k, b :: xs) ∈ S.wt → (b, x) ∈ S.ps → S.canBeDone x k = false →
   CallsL Δ Tryz.prog main 160 [ptr K, keyv k].toArray n s L (fun s' v L' => s = s' ∧ v = .bool false ∧ Rep K A S Fr L') := by
 obtain ⟨n1, g1⟩ := fy;apply Exists.intro;intro σ F Δ main s K A S Fr L k b x xs hN hR hI hin hb hcd;obtain ⟨l1, ys, l2, hwt, hl1, hl2⟩ := cu hI.kn (List.mem_map.2 ⟨_, hin, rfl⟩);have hke := hI.ke _ hin;co_applyP aB 51 Tryz.func160 Tryz.ntmps160;co_applyP ae;co_applyP aa;co_applyP bN rfl (bV (hN _));intro xk L1 hA1;have hR1 := hR.add hA1;have hkx : At L1 K 15 (.map (some A.wt)) := hR1.kat rfl;have hw1 := hR1.w;rw [ct] at hw1;have hrow : ys = b :: xs := by
   have h1 := cQ hI.kn hin;have h2 := cQ hI.kn (S := S) (k := k) (xs := ys) (by rw [hwt]; simp);rw [← h2, h1]
 subst hrow;obtain ⟨Q, hQ, hsl, hat⟩ := kg hR1 hin;have hlk := kh hR1.wl hwt hl1;rw [hsl] at hlk;co_applyP oy rfl ak;co_applyP ah;change wpE ..;co_applyP ae;co_applyP bj aZ;co_applyP tr (i := 0) rfl aj pI;co_applyP tr (i := 1) rfl aL pI;co_applyP tr (i := 2) rfl (av (hf := cr)) pI;co_applyP tr (i := 3) rfl (aC (ht := dD)) pI;co_applyP tr (i := 4) rfl (a8 (ht := bJ) (hs := bi) (hm := hA1.self) (hi := Nat.le_refl _)) pI;co_applyP tr (i := 5) rfl (nq (k := k) ey Tryz.underlying110 ii hw1) pI;co_applyP tr (i := 6) rfl ak pI;co_applyP td (by kernel_rfl);change wpE ..;co_applyP ae (n₂ := 0);co_applyP ae;rw [hlk];have hz : (((b :: xs).length : Int) == 0) = false := by simp; omega
 co_applyP bm [] 9 aZ;co_applyP tr (i := 0) rfl aj (ai (by simp));co_applyP tr (i := 1) rfl (bz (hu := Tryz.underlying91)) (ai (by simp));co_applyP tr (i := 2) rfl ay (ai (by simp));co_applyP tr (i := 3) rfl aj (ai (by simp));rw [hz];co_applyP tr (i := 4) rfl (aj) (ai (by simp));co_applyP tr (i := 5) rfl (aj) (ai (by simp));co_applyP tr (i := 6) rfl (bv Tryz.underlying91 bI) (ai (by simp));co_applyP t0 (i := 7) rfl ((aC (ht := c9))) (ai (by simp));co_applyP t0 (i := 8) rfl (a8 (ht := bJ) (hs := bi) (hm := hA1.self) (hi := Nat.le_refl _)) (ai (by simp));co_applyP tc (i := 9) rfl rfl rfl (g1 K A S Fr L1 b x k hN hR1 hb (hI.wf _ hb) hke.1.2 (hI.y8 _ hke.1.2));rintro _ _ _ ⟨rfl, rfl, hE⟩;refine ⟨aE (by simp), ?_⟩;rw [hcd];co_applyP to (i := 10) rfl (bY) (aE (by simp));co_applyP to (i := 11) rfl (aN) (aE (by simp));co_applyP td (by kernel_rfl);change wpE ..;co_applyP aW rfl;co_applyP ae;co_applyP aa;co_applyP oy rfl ak;co_applyP ah;change wpE ..;co_applyP aJ;change ∃ v, resE .. = some v ∧ _;exact ⟨_, rfl, rfl, rfl, hR1.ext hE⟩
theorem vU : ∃ n, ∀ {σ : Type} {F : Fam σ} {Δ : ∀ s, Dom (F.R s) (F.D s)} {main : Bool} {s : σ} (K : Nat) (A : Lay) (S : St) (Fr L : Frag) (eb : Nat → Nat × Nat) (k : Nat × Nat) (b : Nat) (x : PS) (xs : List Nat), NewK (Δ s) → Rep K A S Fr L → Ers eb Fr → Inv S → (k, b :: xs) ∈ S.wt → (b, x) ∈ S.ps → S.canBeDone x k = true → k.2 = 4 ∨ S.isOpen (otherE k) = true →
   CallsL Δ Tryz.prog main 160 [ptr K, keyv k].toArray n s L (fun s' v L' => s = s' ∧ v = .bool true ∧ ∃ A', Rep K A' (if x.st = 1 then (S.depart b k).carry b x k else ((S.depart b k).carry b x k).wake1 b (S.carried x k)) Fr L') := by
 obtain ⟨n1, g1⟩ := fy;obtain ⟨n2, g2⟩ := j4;obtain ⟨n3, g3⟩ := tY;obtain ⟨n4, g4⟩ := jU;apply Exists.intro;intro σ F Δ main s K A S Fr L eb k b x xs hN hR hEr hI hin hb hcd hoc;obtain ⟨l1, ys, l2, hwt, hl1, hl2⟩ := cu hI.kn (List.mem_map.2 ⟨_, hin, rfl⟩);have hke := hI.ke _ hin;have hask := hI.row hb hin (by simp);co_applyP aB 51 Tryz.func160 Tryz.ntmps160;co_applyP ae;co_applyP aa;co_applyP bN rfl (bV (hN.k _));intro xk L1 hA1;have hR1 := hR.fresh ⟨hA1.fn, hA1.sub⟩ hA1.new hA1.self;have hkx : At L1 K 15 (.map (some A.wt)) := hR1.kat rfl;have hw1 := hR1.w;rw [ct] at hw1;have hrow : ys = b :: xs := by
   have h1 := cQ hI.kn hin;have h2 := cQ hI.kn (S := S) (k := k) (xs := ys) (by rw [hwt]; simp);rw [← h2, h1]
 subst hrow;obtain ⟨Q, hQ, hsl, hat⟩ := kg hR1 hin;have hlk := kh hR1.wl hwt hl1;rw [hsl] at hlk;co_applyP oy rfl ak;co_applyP ah;change wpE ..;co_applyP ae;co_applyP bj aZ;co_applyP tr (i := 0) rfl aj pI;co_applyP tr (i := 1) rfl aL pI;co_applyP tr (i := 2) rfl (av (hf := cr)) pI;co_applyP tr (i := 3) rfl (aC (ht := dD)) pI;co_applyP tr (i := 4) rfl (a8 (ht := bJ) (hs := bi) (hm := hA1.self) (hi := Nat.le_refl _)) pI;co_applyP tr (i := 5) rfl (nq (k := k) ey Tryz.underlying110 ii hw1) pI;co_applyP tr (i := 6) rfl ak pI;co_applyP td (by kernel_rfl);change wpE ..;co_applyP ae;co_applyP ae;rw [hlk];have hz : (((b :: xs).length : Int) == 0) = false := by simp; omega
 co_applyP bm [] 9 aZ;co_applyP tr (i := 0) rfl aj (ai (by simp));co_applyP tr (i := 1) rfl (bz (hu := Tryz.underlying91)) (ai (by simp));co_applyP tr (i := 2) rfl ay (ai (by simp));co_applyP tr (i := 3) rfl aj (ai (by simp));rw [hz];co_applyP tr (i := 4) rfl (aj) (ai (by simp));co_applyP tr (i := 5) rfl (aj) (ai (by simp));co_applyP tr (i := 6) rfl (bv Tryz.underlying91 bI) (ai (by simp));co_applyP t0 (i := 7) rfl ((aC (ht := c9))) (ai (by simp));co_applyP t0 (i := 8) rfl (a8 (ht := bJ) (hs := bi) (hm := hA1.self) (hi := Nat.le_refl _)) (ai (by simp));co_applyP tc (i := 9) rfl rfl rfl (g1 K A S _ L1 b x k hN.k hR1 hb (hI.wf _ hb) hke.1.2 (hI.y8 _ hke.1.2));rintro _ _ _ ⟨rfl, rfl, hE⟩;refine ⟨aE (by simp), ?_⟩;rename_i L2;rw [hcd];co_applyP to (i := 10) rfl (bY) (aE (by simp));co_applyP to (i := 11) rfl (aN) (aE (by simp));have hR2 := hR1.ext hE;have hat2 := hE.at hat;co_applyP td (by kernel_rfl);change wpE ..;co_applyP aq rfl;co_applyP aA;change wpE ..;co_applyP ae;co_applyP aa;co_applyP oy rfl aj;co_applyP oy rfl (bv Tryz.underlying91 bI);co_applyP oy rfl (aC (ht := c9));co_applyP oy rfl ak;co_applyP ah;change wpE ..;co_applyP ae;co_applyP aa;co_applyP oy rfl aj;co_applyP oy rfl aj;co_applyP oy rfl (a8 (ht := bJ) (hs := bi) (hm := hR2.fr _ List.mem_cons_self) (hi := Nat.le_refl _));co_applyP oc rfl rfl rfl (g2 K A S _ L2 b x k hN.r hN.k hR2 hI.w hb);rintro _ _ _ ⟨rfl, rfl, A3, hwl3, hR3⟩;co_applyP ah;change wpE ..;co_applyP ae;co_applyP ae;co_applyP aa;co_applyP oy rfl aj;co_applyP oy rfl aj;rename_i L3;have hb3 : (b, x) ∈ (S.depart b k).ps := hb;co_applyP oy rfl (a8 (ht := bJ) (hs := bi) (hm := hR3.fr _ List.mem_cons_self) (hi := Nat.le_refl _));co_applyP oc rfl rfl rfl (g3 K A3 _ _ L3 b x k hN.k hN.y hR3 hb3 (hI.wf _ hb) hke.1.2 hask.a (hI.y8 _ hke.1.2) hoc);rintro _ _ _ ⟨rfl, rfl, A5, hR5⟩;co_applyP oy rfl ak;co_applyP ah;change wpE ..;co_applyP ae;co_applyP aa;co_applyP oy rfl aj;rename_i L5;have hb5 : (b, S.carried x k) ∈ ((S.depart b k).carry b x k).ps := by rw [cR]; exact au hb3
 have hd : Inv (S.depart b k) := hI.depart;have ho : (S.depart b k).out b := by have := hI.out_depart hb; rw [hask.f] at this; exact this
 have hI5 := Inv.carry hd (b := b) (x := x) (k := k) hb3 ho hke.1.2 hask.a hcd;have hst : (S.carried x k).st = x.st := (cC S x k).1;have hs5 : At L5 b 2 (.int .i64 ((S.carried x k).st : Nat)) := hR5.pat hb5 (i := 2) rfl;co_applyP oy rfl (dx (v := .nilIface) (c := true) (hv := .inl ⟨rfl, rfl⟩) (hu := Tryz.underlying168));co_applyP ah;change wpE ..;co_applyP aq rfl;co_applyP aA;change wpE ..;co_applyP dR (fun s'' ε'' L'' => s = s'' ∧ kn ε'' [] ∧ ∃ A6, Rep K A6 (if x.st = 1 then (S.depart b k).carry b x k else ((S.depart b k).carry b x k).wake1 b (S.carried x k)) Fr L'');co_applyP ae;co_applyP aa;co_applyP oy rfl aj;co_applyP oy rfl aL;co_applyP oy rfl (av (hf := aD));co_applyP oy rfl (av (hf := cA));co_applyP oy rfl (aC (ht := aV));co_applyP oy rfl cY;co_applyP ah;change wpE ..;co_applyP bl rfl;intro hc;co_applyP aa;co_applyP oy rfl aj;co_applyP oy rfl aj
 · have h1 : ¬ x.st = 1 := by rw [hst] at hc; simp at hc; omega
   co_applyP oc rfl rfl rfl (g4 K A5 _ _ L5 b (S.carried x k) hN.r hR5 hb5 (hI5.g.lv _ hb5) (hI5.g.r8 (hI5.g.lv _ hb5)) (fun e he => cI e.1 (hI5.g.lv _ hb5)));rintro _ _ _ ⟨rfl, rfl, A6, _, hR6⟩;co_applyP ah;change _ = _ ∧ kn _ _ ∧ ∃ A6, _;exact ⟨rfl, rfl, A6, by rw [if_neg h1]; exact hR6.less fun t ht => List.mem_cons_of_mem _ ht⟩
 intro hc;co_applyP aA;change _ = _ ∧ kn _ _ ∧ ∃ A6, _;have h1 : x.st = 1 := by rw [hst] at hc; simp at hc; omega
 exact ⟨rfl, rfl, A5, by rw [if_pos h1]; exact hR5.less fun t ht => List.mem_cons_of_mem _ ht⟩;rintro _ ε6 L6 ⟨rfl, he6, A6, hR6⟩;co_applyP a6 he6;co_applyP ae;co_applyP aa;co_applyP oy rfl ak;co_applyP ah;change wpE ..;co_applyP aJ;change ∃ v, resE .. = some v ∧ _;exact ⟨_, rfl, rfl, rfl, A6, hR6⟩
theorem vV : ∃ n, ∀ {σ : Type} {F : Fam σ} {Δ : ∀ s, Dom (F.R s) (F.D s)} {main : Bool} {s : σ} (K : Nat) (A : Lay) (S : St) (Fr L : Frag) (eb : Nat → Nat × Nat) (k : Nat × Nat) (b : Nat) (x : PS) (xs : List Nat), NewK (Δ s) → Rep K A S Fr L → Ers eb Fr → Inv S → (k, b :: xs) ∈ S.wt → (b, x) ∈ S.ps → S.canBeDone x k = true → k.2 ≠ 4 ∧ S.isOpen (otherE k) = false →
   CallsL Δ Tryz.prog main 160 [ptr K, keyv k].toArray n s L (fun s' v L' => s = s' ∧ v = .bool true ∧ ∃ A', Rep K A' (if x.st = 1 then (S.depart b k).carry b x k else ((S.depart b k).carry b x k).wake1 b (S.carried x k)) Fr L') := by
 obtain ⟨n1, g1⟩ := fy;obtain ⟨n2, g2⟩ := j4;obtain ⟨n3, g3⟩ := vQ;obtain ⟨n4, g4⟩ := jU;obtain ⟨n5, g5⟩ := jY;apply Exists.intro;intro σ F Δ main s K A S Fr L eb k b x xs hN hR hEr hI hin hb hcd hoc;obtain ⟨l1, ys, l2, hwt, hl1, hl2⟩ := cu hI.kn (List.mem_map.2 ⟨_, hin, rfl⟩);have hke := hI.ke _ hin;have hask := hI.row hb hin (by simp);co_applyP aB 51 Tryz.func160 Tryz.ntmps160;co_applyP ae;co_applyP aa;co_applyP bN rfl (bV (hN.k _));intro xk L1 hA1;have hR1 := hR.fresh ⟨hA1.fn, hA1.sub⟩ hA1.new hA1.self;have hkx : At L1 K 15 (.map (some A.wt)) := hR1.kat rfl;have hw1 := hR1.w;rw [ct] at hw1;have hrow : ys = b :: xs := by
   have h1 := cQ hI.kn hin;have h2 := cQ hI.kn (S := S) (k := k) (xs := ys) (by rw [hwt]; simp);rw [← h2, h1]
 subst hrow;obtain ⟨Q, hQ, hsl, hat⟩ := kg hR1 hin;have hlk := kh hR1.wl hwt hl1;rw [hsl] at hlk;co_applyP oy rfl ak;co_applyP ah;change wpE ..;co_applyP ae;co_applyP bj aZ;co_applyP tr (i := 0) rfl aj pI;co_applyP tr (i := 1) rfl aL pI;co_applyP tr (i := 2) rfl (av (hf := cr)) pI;co_applyP tr (i := 3) rfl (aC (ht := dD)) pI;co_applyP tr (i := 4) rfl (a8 (ht := bJ) (hs := bi) (hm := hA1.self) (hi := Nat.le_refl _)) pI;co_applyP tr (i := 5) rfl (nq (k := k) ey Tryz.underlying110 ii hw1) pI;co_applyP tr (i := 6) rfl ak pI;co_applyP td (by kernel_rfl);change wpE ..;co_applyP ae;co_applyP ae;rw [hlk];have hz : (((b :: xs).length : Int) == 0) = false := by simp; omega
 co_applyP bm [] 9 aZ;co_applyP tr (i := 0) rfl aj (ai (by simp));co_applyP tr (i := 1) rfl (bz (hu := Tryz.underlying91)) (ai (by simp));co_applyP tr (i := 2) rfl ay (ai (by simp));co_applyP tr (i := 3) rfl aj (ai (by simp));rw [hz];co_applyP tr (i := 4) rfl (aj) (ai (by simp));co_applyP tr (i := 5) rfl (aj) (ai (by simp));co_applyP tr (i := 6) rfl (bv Tryz.underlying91 bI) (ai (by simp));co_applyP t0 (i := 7) rfl ((aC (ht := c9))) (ai (by simp));co_applyP t0 (i := 8) rfl (a8 (ht := bJ) (hs := bi) (hm := hA1.self) (hi := Nat.le_refl _)) (ai (by simp));co_applyP tc (i := 9) rfl rfl rfl (g1 K A S _ L1 b x k hN.k hR1 hb (hI.wf _ hb) hke.1.2 (hI.y8 _ hke.1.2));rintro _ _ _ ⟨rfl, rfl, hE⟩;refine ⟨aE (by simp), ?_⟩;rename_i L2;rw [hcd];co_applyP to (i := 10) rfl (bY) (aE (by simp));co_applyP to (i := 11) rfl (aN) (aE (by simp));have hR2 := hR1.ext hE;have hat2 := hE.at hat;co_applyP td (by kernel_rfl);change wpE ..;co_applyP aq rfl;co_applyP aA;change wpE ..;co_applyP ae;co_applyP aa;co_applyP oy rfl aj;co_applyP oy rfl (bv Tryz.underlying91 bI);co_applyP oy rfl (aC (ht := c9));co_applyP oy rfl ak;co_applyP ah;change wpE ..;co_applyP ae;co_applyP aa;co_applyP oy rfl aj;co_applyP oy rfl aj;co_applyP oy rfl (a8 (ht := bJ) (hs := bi) (hm := hR2.fr _ List.mem_cons_self) (hi := Nat.le_refl _));co_applyP oc rfl rfl rfl (g2 K A S _ L2 b x k hN.r hN.k hR2 hI.w hb);rintro _ _ _ ⟨rfl, rfl, A3, hwl3, hR3⟩;co_applyP ah;change wpE ..;co_applyP ae;co_applyP ae;co_applyP aa;co_applyP oy rfl aj;co_applyP oy rfl aj;rename_i L3;have hb3 : (b, x) ∈ (S.depart b k).ps := hb;co_applyP oy rfl (a8 (ht := bJ) (hs := bi) (hm := hR3.fr _ List.mem_cons_self) (hi := Nat.le_refl _));co_applyP oc rfl rfl rfl (g3 K A3 _ _ L3 eb b x k hN.k hN.d hR3 (hEr.mono fun t ht => List.mem_cons_of_mem _ ht) hb3 (hI.wf _ hb) hoc.1 hask.a hoc.2);rintro _ _ _ ⟨rfl, r, rfl, hr4, hR4⟩;co_applyP oy rfl ak;co_applyP ah;change wpE ..;co_applyP ae;co_applyP aa;co_applyP oy rfl aj;rename_i L4;co_applyP oy rfl (dx (v := .iface 180 (ptr r)) (c := false) (hv := .inr ⟨_, _, rfl, rfl⟩) (hu := Tryz.underlying168));co_applyP ah;change wpE ..;co_applyP aW rfl;co_applyP aa;co_applyP oy rfl aj;co_applyP oy rfl aj;co_applyP oc rfl rfl rfl (g5 K A3 _ _ L4 eb b x r 7 hN.toNewE hR4 (hEr.mono fun t ht => List.mem_cons_of_mem _ ht) hb3 hr4 (by decide) (by decide));rintro _ _ _ ⟨rfl, rfl, hR5'⟩;co_applyP ah;change wpE ..;rename_i L5;obtain ⟨A5, hA5⟩ : ∃ A5, A5 = A3 := ⟨_, rfl⟩;have hR5 : Rep K A5 ((S.depart b k).carry b x k) ((xk, true, Obj.cells (keyv k).cells 96) :: Fr) L5 := by rw [hA5]; unfold St.carry; rw [if_neg hoc.1, if_neg (by rw [show (S.depart b k).isOpen (otherE k) = S.isOpen (otherE k) from rfl, hoc.2]; simp)]; exact hR5'
 have hb5 : (b, S.carried x k) ∈ ((S.depart b k).carry b x k).ps := by rw [cR]; exact au hb3
 have hd : Inv (S.depart b k) := hI.depart;have ho : (S.depart b k).out b := by have := hI.out_depart hb; rw [hask.f] at this; exact this
 have hI5 := Inv.carry hd (b := b) (x := x) (k := k) hb3 ho hke.1.2 hask.a hcd;have hst : (S.carried x k).st = x.st := (cC S x k).1;have hs5 : At L5 b 2 (.int .i64 ((S.carried x k).st : Nat)) := hR5.pat hb5 (i := 2) rfl;co_applyP dR (fun s'' ε'' L'' => s = s'' ∧ kn ε'' [] ∧ ∃ A6, Rep K A6 (if x.st = 1 then (S.depart b k).carry b x k else ((S.depart b k).carry b x k).wake1 b (S.carried x k)) Fr L'');co_applyP ae;co_applyP aa;co_applyP oy rfl aj;co_applyP oy rfl aL;co_applyP oy rfl (av (hf := aD));co_applyP oy rfl (av (hf := cA));co_applyP oy rfl (aC (ht := aV));co_applyP oy rfl cY;co_applyP ah;change wpE ..;co_applyP bl rfl;intro hc;co_applyP aa;co_applyP oy rfl aj;co_applyP oy rfl aj
 · have h1 : ¬ x.st = 1 := by rw [hst] at hc; simp at hc; omega
   co_applyP oc rfl rfl rfl (g4 K A5 _ _ L5 b (S.carried x k) hN.r hR5 hb5 (hI5.g.lv _ hb5) (hI5.g.r8 (hI5.g.lv _ hb5)) (fun e he => cI e.1 (hI5.g.lv _ hb5)));rintro _ _ _ ⟨rfl, rfl, A6, _, hR6⟩;co_applyP ah;change _ = _ ∧ kn _ _ ∧ ∃ A6, _;exact ⟨rfl, rfl, A6, by rw [if_neg h1]; exact hR6.less fun t ht => List.mem_cons_of_mem _ ht⟩
 intro hc;co_applyP aA;change _ = _ ∧ kn _ _ ∧ ∃ A6, _;have h1 : x.st = 1 := by rw [hst] at hc; simp at hc; omega
 exact ⟨rfl, rfl, A5, by rw [if_pos h1]; exact hR5.less fun t ht => List.mem_cons_of_mem _ ht⟩;rintro _ ε6 L6 ⟨rfl, he6, A6, hR6⟩;co_applyP a6 he6;co_applyP ae;co_applyP aa;co_applyP oy rfl ak;co_applyP ah;change wpE ..;co_applyP aJ;change ∃ v, resE .. = some v ∧ _;exact ⟨_, rfl, rfl, rfl, A6, hR6⟩
theorem vW : ∃ n, ∀ {σ : Type} {F : Fam σ} {Δ : ∀ s, Dom (F.R s) (F.D s)} {main : Bool} {s : σ} (K : Nat) (A : Lay) (S : St) (Fr L : Frag) (eb : Nat → Nat × Nat) (k : Nat × Nat), NewK (Δ s) → Rep K A S Fr L → Ers eb Fr → Inv S →
   CallsL Δ Tryz.prog main 160 [ptr K, keyv k].toArray n s L (fun s' v L' => s = s' ∧ v = .bool (S.serve k).isSome ∧ ∃ A', Rep K A' ((S.serve k).getD S) Fr L') := by
 obtain ⟨n0, g0⟩ := vS;obtain ⟨n1, g1⟩ := vT;obtain ⟨n2, g2⟩ := vU;obtain ⟨n3, g3⟩ := vV;refine ⟨n0 + (n1 + (n2 + n3)), fun {σ F Δ main s} K A S Fr L eb k hN hR hE hI => aS (∀ e ∈ S.wt, e.1 ≠ k) (fun h => ?_) fun h => ?_⟩
 · have e : S.serve k = none := by unfold St.serve; rw [gG h]
   rw [e];exact aU (g0 K A S Fr L k hN.k hR h) fun s' v L' ⟨h1, h2, h3⟩ => ⟨h1, h2, A, h3⟩
 · have hk : k ∈ S.wt.map (·.1) := by
     refine Decidable.byContradiction fun hn => h fun e he e1 => hn (List.mem_map.2 ⟨e, he, e1⟩)
   obtain ⟨⟨k', ys⟩, hin, rfl⟩ := List.mem_map.1 hk;cases ys with
   | nil => exact absurd rfl (hI.ne _ hin)
   | cons b xs =>
     obtain ⟨x, hb, _⟩ := hI.rm _ hin b (by simp);have er := cQ hI.kn hin;refine aS (S.canBeDone x k' = false) (fun h => ?_) fun h => aS (k'.2 = 4 ∨ S.isOpen (otherE k') = true) (fun ho => ?_) fun ho => ?_
     · have e : S.serve k' = none := by unfold St.serve; rw [er]; simp only [bt hI.g.pn hb, h]; rfl
       rw [e];exact aU (g1 K A S Fr L k' b x xs hN.k hR hI hin hb h) fun s' v L' ⟨h1, h2, h3⟩ => ⟨h1, h2, A, h3⟩
     · have hc : S.canBeDone x k' = true := by simpa using h
       have e : S.serve k' = some (if x.st = 1 then (S.depart b k').carry b x k' else ((S.depart b k').carry b x k').wake1 b (S.carried x k')) := by unfold St.serve; rw [er]; simp only [bt hI.g.pn hb, hc]; rfl
       rw [e];exact g2 K A S Fr L eb k' b x xs hN hR hE hI hin hb hc ho
     · have hc : S.canBeDone x k' = true := by simpa using h
       have e : S.serve k' = some (if x.st = 1 then (S.depart b k').carry b x k' else ((S.depart b k').carry b x k').wake1 b (S.carried x k')) := by unfold St.serve; rw [er]; simp only [bt hI.g.pn hb, hc]; rfl
       rw [e]
       exact g3 K A S Fr L eb k' b x xs hN hR hE hI hin hb hc ⟨fun h => ho (.inl h), by cases hh : S.isOpen (otherE k') with
         | false => rfl
         | true => exact absurd (.inr hh) ho⟩
theorem o4 {S S' : St} {p m : Nat} (h : S.serve (p, 5) = some S') (hm : S'.meas p < m) : ∃ m', S'.meas p ≤ m' ∧ St.looks m S p = St.looks m' S' p := by
 cases m with
 | zero => omega
 | succ m => exact ⟨m, by omega, by simp only [St.looks, h]⟩
theorem o5 {S S' : St} {p m : Nat} (h5 : S.serve (p, 5) = none) (h : S.serve (p, 4) = some S') (hm : S'.meas p < m) : ∃ m', S'.meas p ≤ m' ∧ St.looks m S p = St.looks m' S' p := by
 cases m with
 | zero => omega
 | succ m => exact ⟨m, by omega, by simp only [St.looks, h5, h]⟩
theorem tZ : ∃ n, ∀ {σ : Type} {F : Fam σ} {Δ : ∀ s, Dom (F.R s) (F.D s)} {main : Bool} {s : σ} (K : Nat) (A : Lay) (S : St) (Fr L : Frag) (eb : Nat → Nat × Nat) (p : Nat), (∀ s, NewK (Δ s)) → Rep K A S Fr L → Ers eb Fr → Inv S →
   CallsL Δ Tryz.prog main 147 [ptr K, .int .i64 (p : Nat)].toArray n s L (fun s' v L' => s = s' ∧ v = .tuple #[] ∧ ∃ A', Rep K A' (S.look p) Fr L') := by
 obtain ⟨n1, g1⟩ := vW;apply Exists.intro;intro σ F Δ main s K A S Fr L eb p hN hR hE hI;co_applyP aB 14 Tryz.func147 Tryz.ntmps147;co_applyP aI;co_applyP bG (fun c s' ε' L' => s' = s ∧ ∃ A' S' m, Rep K A' S' Fr L' ∧ Inv S' ∧ S'.meas p ≤ c ∧ S'.meas p ≤ m ∧ St.looks m S' p = S.look p ∧ kn ε' [(0, ptr K), (1, .int .i64 (p : Nat))]) 16
 · exact ⟨rfl, A, S, 16, hR, hI, qd hI p, qd hI p, rfl, rfl⟩
 rintro c s' ε' L' ⟨rfl, A', S', m, hR', hI', hc, hm, hlk, he⟩;co_applyP a6 he;co_applyP bK ((S'.serve (p, 5)).isSome = true);intro h5
 · obtain ⟨S5, hS5⟩ := Option.isSome_iff_exists.1 h5;have hlt := kf hI' (.inr rfl) hS5;co_applyP ae;co_applyP ae;co_applyP aa;co_applyP oy rfl aj;co_applyP oy rfl aj;co_applyP oy rfl (bq (dq _ _));co_applyP oc rfl rfl rfl (g1 K A' S' Fr L' eb (p, 5) (hN _) hR' hE hI');rintro _ _ _ ⟨rfl, rfl, A2, hR2⟩;co_applyP oy rfl aj;rw [hS5] at hR2 ⊢;co_applyP ou rfl;co_applyP ou rfl;co_applyP ou rfl;co_applyP ou rfl;co_applyP oy rfl aN;co_applyP ah;change wpE ..;co_applyP aW rfl;co_applyP aA;change wpE ..;co_applyP aI;co_applyP aA;change ∃ k', k' < _ ∧ _;obtain ⟨m', hm', e'⟩ := o4 hS5 (show S5.meas p < m by omega);exact ⟨S5.meas p, by omega, rfl, A2, S5, m', hR2, hI'.serve hS5, Nat.le_refl _, hm', by rw [← e']; exact hlk, rfl⟩
 intro h5;have hS5 : S'.serve (p, 5) = none := by simpa using h5
 co_applyP bK ((S'.serve (p, 4)).isSome = true);intro h4
 · obtain ⟨S4, hS4⟩ := Option.isSome_iff_exists.1 h4;have hlt := kf hI' (.inl rfl) hS4;co_applyP ae;co_applyP ae;co_applyP aa;co_applyP oy rfl aj;co_applyP oy rfl aj;co_applyP oy rfl (bq (dq _ _));co_applyP oc rfl rfl rfl (g1 K A' S' Fr L' eb (p, 5) (hN _) hR' hE hI');rintro _ _ _ ⟨rfl, rfl, A2, hR2⟩;co_applyP oy rfl aj;rw [hS5] at hR2 ⊢;co_applyP oy rfl (aj);co_applyP oy rfl (aj);co_applyP oy rfl (bq (dq _ _));co_applyP oc rfl rfl rfl (g1 K A2 S' Fr _ eb (p, 4) (hN _) hR2 hE hI');rintro _ _ _ ⟨rfl, rfl, A3, hR3⟩;co_applyP oy rfl aN;co_applyP ah;change wpE ..;rw [hS4] at hR3 ⊢;co_applyP aW rfl;co_applyP aA;change wpE ..;co_applyP aI;co_applyP aA;change ∃ k', k' < _ ∧ _;obtain ⟨m', hm', e'⟩ := o5 hS5 hS4 (show S4.meas p < m by omega);exact ⟨S4.meas p, by omega, rfl, A3, S4, m', hR3, hI'.serve hS4, Nat.le_refl _, hm', by rw [← e']; exact hlk, rfl⟩
 intro h4;have hS4 : S'.serve (p, 4) = none := by simpa using h4
 co_applyP ae (n₂ := 0);co_applyP ae;co_applyP aa;co_applyP oy rfl aj;co_applyP oy rfl aj;co_applyP oy rfl (bq (dq _ _));co_applyP oc rfl rfl rfl (g1 K A' S' Fr L' eb (p, 5) (hN _) hR' hE hI');rintro _ _ _ ⟨rfl, rfl, A2, hR2⟩;co_applyP oy rfl aj;rw [hS5] at hR2 ⊢;co_applyP oy rfl (aj);co_applyP oy rfl (aj);co_applyP oy rfl (bq (dq _ _));co_applyP oc rfl rfl rfl (g1 K A2 S' Fr _ eb (p, 4) (hN _) hR2 hE hI');rintro _ _ _ ⟨rfl, rfl, A3, hR3⟩;co_applyP oy rfl aN;co_applyP ah;change wpE ..;rw [hS4] at hR3 ⊢;co_applyP aq rfl;co_applyP bL;change ∃ v, resE .. = some v ∧ _;refine ⟨_, rfl, rfl, rfl, A3, ?_⟩;rw [← hlk, o3 hS5 hS4];exact hR3
theorem ua : ∃ n, ∀ {σ : Type} {F : Fam σ} {Δ : ∀ s, Dom (F.R s) (F.D s)} {main : Bool} {s : σ} (K : Nat) (A : Lay) (S : St) (Fr L : Frag) (eb : Nat → Nat × Nat) (b : Nat) (x : PS) (j : Nat), (∀ s, NewK (Δ s)) → Rep K A S Fr L → Ers eb Fr → Inv S → (b, x) ∈ S.ps → S.out b → j < 6 →
   CallsL Δ Tryz.prog main 127 [ptr K, ptr b, .int .i64 (j : Nat)].toArray n s L (fun s' v L' => s = s' ∧ v = .tuple #[] ∧ ∃ A', Rep K A' (S.shut b j) Fr L') := by
 obtain ⟨n1, g1⟩ := tZ;apply Exists.intro;intro σ F Δ main s K A S Fr L eb b x j hN hR hE hI hb ho hj;have hd := hI.like (x' := { x with f := put x.f j (0, 0) }) hb ho rfl rfl ⟨(hI.wf _ hb).r, (hI.wf _ hb).m⟩ (iQ (hI.fl _ hb) (.inl rfl));have eo : 79 + j * 2 = 79 + 2 * j := by omega
 co_applyP aB 23 Tryz.func127 Tryz.ntmps127;co_applyP ae;co_applyP aa;co_applyP oy rfl aj;co_applyP oy rfl aj;co_applyP oy rfl aL;co_applyP oy rfl (av (hf := dT));co_applyP oy rfl (a0 Tryz.underlying97 bi);co_applyP oy rfl (a8 (ht := bJ) (hs := bi) (hm := hR.p _ hb) (hi := by rw [bg]; omega));co_applyP bN rfl (dQ (z := keyv (0, 0)) ((hN _).k _));intro nb L1 hA1;co_applyP oeN rfl (fun hnd => fj (hs := bi) (vs := [.int .i64 (x.f j).1, .int .i64 (x.f j).2]) (hy := by rw [eo, oV x hj]; rfl) (hnd := hnd) (hm := hA1.self) (hi := Nat.le_refl _));rintro _ L2 ⟨rfl, hU2⟩;co_applyP ah;change wpE ..;co_applyP ae;co_applyP aa;co_applyP oy rfl aj;co_applyP oy rfl aj;have hR2 := hR.fresh (L' := L2) ⟨hU2.fn, fun t ht => hU2.ne _ (hA1.sub _ ht) (hA1.new _ ht)⟩ hA1.new hU2.self;co_applyP oy rfl (bq tK);co_applyP oy rfl aL;co_applyP oy rfl (av (hf := dT));co_applyP oy rfl (a0 Tryz.underlying97 bi);co_applyP oeN rfl (fun hnd => fj (hs := bi) (vs := [.int .i64 (0 : Nat), .int .i64 (0 : Nat)]) (hnd := hnd) (hm := hR2.p _ hb) (hi := by rw [bg]; simp; omega));rintro _ L3 ⟨rfl, hU3⟩;rw [eo, oW x hj (0, 0)] at hU3;have hR3 := hR2.setP hb (x' := { x with f := put x.f j (0, 0) }) hU3;have h0 : At L3 nb 0 (.int .i64 ((x.f j).1 : Nat)) := ⟨true, _, _, _, hR3.fr _ List.mem_cons_self, rfl⟩;co_applyP ah;change wpE ..;co_applyP aa;co_applyP oy rfl aj;co_applyP oy rfl (av (hf := dJ));co_applyP oy rfl (aC (ht := aV));co_applyP oc rfl rfl rfl (g1 K A _ _ L3 eb (x.f j).1 hN hR3 (hE.mono fun t ht => List.mem_cons_of_mem _ ht) hd);rintro _ _ _ ⟨rfl, rfl, A4, hR4⟩;co_applyP ah;change ∃ v, resE .. = some v ∧ _;refine ⟨_, rfl, rfl, rfl, A4, ?_⟩;unfold St.shut;rw [bt hI.g.pn hb];exact hR4.less fun t ht => List.mem_cons_of_mem _ ht
def filesv (f : Nat → Nat × Nat) : Value := .agg #[.int .i64 (f 0).1, .int .i64 (f 0).2, .int .i64 (f 1).1, .int .i64 (f 1).2, .int .i64 (f 2).1, .int .i64 (f 2).2, .int .i64 (f 3).1, .int .i64 (f 3).2, .int .i64 (f 4).1, .int .i64 (f 4).2, .int .i64 (f 5).1, .int .i64 (f 5).2]
theorem gH (x : PS) : Value.agg ((pcells x).extract 79 91) = filesv x.f := by rfl
theorem xA (f : Nat → Nat × Nat) {i : Nat} (hi : i < 6) : evR Tryz.prog (Instr.index 97 (filesv f) (.int .i64 (i : Nat))) [] = some (keyv (f i), []) := by
 have : i = 0 ∨ i = 1 ∨ i = 2 ∨ i = 3 ∨ i = 4 ∨ i = 5 := by omega
 rcases this with rfl | rfl | rfl | rfl | rfl | rfl
 · show evR Tryz.prog (Instr.index 97 (filesv f) (.int .i64 ((0 : Nat) : Int))) [] = some (keyv (f 0), []);kernel_rfl
 · show evR Tryz.prog (Instr.index 97 (filesv f) (.int .i64 ((1 : Nat) : Int))) [] = some (keyv (f 1), []);kernel_rfl
 · show evR Tryz.prog (Instr.index 97 (filesv f) (.int .i64 ((2 : Nat) : Int))) [] = some (keyv (f 2), []);kernel_rfl
 · show evR Tryz.prog (Instr.index 97 (filesv f) (.int .i64 ((3 : Nat) : Int))) [] = some (keyv (f 3), []);kernel_rfl
 · show evR Tryz.prog (Instr.index 97 (filesv f) (.int .i64 ((4 : Nat) : Int))) [] = some (keyv (f 4), []);kernel_rfl
 · show evR Tryz.prog (Instr.index 97 (filesv f) (.int .i64 ((5 : Nat) : Int))) [] = some (keyv (f 5), []);kernel_rfl
theorem ub {N : Nat} {ε : Env} {L : Frag} {d : Option Tmp} {ty : TypeId} {ps : String} {af : Array Edge} {g : Option (Nat × Bool)} {x ix : Operand} {t : TypeId} {w j v : Value} (hv : evR Tryz.prog (Instr.index t w j) [] = some (v, [])) (hx : ev ε x = some w := by rfl) (hy : ev ε ix = some j := by rfl) : EY Tryz.prog N ε L ⟨d, .index t x ix, ty, ps, af, g⟩ v := fun a ha => by
 refine cG (fun _ => rfl) fun K hK => ?_;rw [ha.ev hx, ha.ev hy];exact bd hv hK
structure Shutting (b : Nat) (x : PS) (S S' : St) : Prop where
 i : Inv S'
 f : S'.ps.map (·.1) = S.ps.map (·.1)
 o : S'.out b
 m : ∃ f', (b, { x with f := f' }) ∈ S'.ps
theorem Shutting.step {b : Nat} {x : PS} {S S' : St} (h : Shutting b x S S') (n : Nat) : Shutting b x S (S'.shut b n) := by
 obtain ⟨f', hm⟩ := h.m;have hl := h.i.shut hm h.o n;exact ⟨hl.i, by rw [hl.f, aX]; exact h.f, hl.o b h.o, put f' n (0, 0), hl.m b _ h.o (au hm)⟩
theorem Shutting.all {b : Nat} {x : PS} {S : St} (f : Nat → Nat × Nat) : ∀ (ns : List Nat) {S' : St}, Shutting b x S S' → Shutting b x S (S'.shuts b f ns)
 | [], _, h => h
 | n :: ns, S', h => by
   show Shutting b x S ((if f n = (0, 0) then S' else S'.shut b n).shuts b f ns)
   split
   · exact Shutting.all f ns h
   · exact Shutting.all f ns (h.step n)
theorem rA : ∃ n, ∀ {σ : Type} {F : Fam σ} {Δ : ∀ s, Dom (F.R s) (F.D s)} {main : Bool} {s : σ} (K : Nat) (A : Lay) (S : St) (Fr L : Frag) (eb : Nat → Nat × Nat) (b : Nat) (x : PS), (∀ s, NewK (Δ s)) → Rep K A S Fr L → Ers eb Fr → Inv S → (b, x) ∈ S.ps → S.out b →
   CallsL Δ Tryz.prog main 108 [ptr K, ptr b].toArray n s L (fun s' v L' => s = s' ∧ v = .tuple #[] ∧ ∃ A', Rep K A' (S.shuts b x.f (List.range' 0 6)) Fr L') := by
 obtain ⟨n1, g1⟩ := il;obtain ⟨n2, g2⟩ := ua;apply Exists.intro;intro σ F Δ main s K A S Fr L eb b x hN hR hE hI hb ho;co_applyP aB 22 Tryz.func108 Tryz.ntmps108;co_applyP ae;co_applyP aa;co_applyP oy rfl aj;co_applyP oy rfl aL;co_applyP oy rfl (av (hf := dT));co_applyP oy rfl (a8 (ht := tl) (hs := tj) (hm := hR.p _ hb) (hi := by rw [bg]; omega));co_applyP oy rfl aj;co_applyP ah;change wpE ..;co_applyP aI;rw [show (0 + 79 : Nat) = 79 from rfl, show (79 + 12 : Nat) = 91 from rfl, gH];co_applyP bG (fun c s' ε' L' => s' = s ∧ ∃ A' S' i, i ≤ 6 ∧ c + i = 6 ∧ Rep K A' S' Fr L' ∧ Shutting b x S S' ∧ S'.shuts b x.f (List.range' i (6 - i)) = S.shuts b x.f (List.range' 0 6) ∧ kn ε' [(0, ptr K), (1, ptr b), (9, filesv x.f), (10, .int .i64 (i : Nat))]) 6
 · exact ⟨rfl, A, S, 0, by omega, rfl, hR, ⟨hI, rfl, ho, x.f, hb⟩, rfl, rfl⟩
 rintro c s' ε' L' ⟨rfl, A', S', i, hi, hc, hR', hS', hsh, he⟩;co_applyP a6 he;have ei : IntKind.i64.wrap ((i : Int) + 1) = ((i + 1 : Nat) : Int) := by simp [IntKind.wrap_i64]; omega
 co_applyP ae;co_applyP aa;co_applyP oy rfl bX;co_applyP ah;change wpE ..;co_applyP ae;co_applyP bl rfl;intro hlt
 · have hi6 : i < 6 := by simp at hlt; omega
   have e6 : List.range' i (6 - i) = i :: List.range' (i + 1) (6 - (i + 1)) := by
     rw [show 6 - i = (6 - (i + 1)) + 1 by omega, List.range'_succ]
   rw [e6] at hsh;co_applyP aA;change wpE ..;co_applyP ae;co_applyP aI;co_applyP ae;co_applyP aa;co_applyP oy rfl aj;co_applyP oy rfl (ub (xA x.f hi6));co_applyP bN rfl (dQ (z := keyv (0, 0)) ((hN _).k _));intro nb L1 hA1;co_applyP oy rfl ak;co_applyP oeN rfl (fun hnd => fj (hs := bi) (vs := [.int .i64 (x.f i).1, .int .i64 (x.f i).2]) (hnd := hnd) (hm := hA1.self) (hi := Nat.le_refl _));rintro _ L2 ⟨rfl, hU2⟩;co_applyP ah;change wpE ..;co_applyP ae;co_applyP aa;have hR2 := hR'.of hU2.fn (fun t ht => hU2.ne _ (hA1.sub _ ht) (hA1.new _ ht));co_applyP oy rfl (a8 (ht := bJ) (hs := bi) (hm := hU2.self) (hi := Nat.le_refl _));co_applyP oc rfl rfl rfl (g1 L2 (x.f i) (hN _).k);rintro _ _ _ ⟨rfl, rfl, hE3⟩;co_applyP oy rfl bY;co_applyP ah;change wpE ..;have hR3 := hR2.ext hE3;co_applyP bl rfl;intro hz;co_applyP aa;co_applyP oy rfl aj;co_applyP oy rfl aj;co_applyP oy rfl aj
   · have hz' : ¬ x.f i = (0, 0) := by simpa using hz
     obtain ⟨f', hm'⟩ := hS'.m;co_applyP oc rfl rfl rfl (g2 K A' S' Fr _ eb b _ i hN hR3 hE hS'.i hm' hS'.o hi6);rintro _ _ _ ⟨rfl, rfl, A4, hR4⟩;co_applyP ah;change wpE ..;co_applyP aa;co_applyP oy rfl a7;co_applyP oy rfl aj;co_applyP ah;change ∃ k', k' < _ ∧ _;refine ⟨c - 1, by omega, rfl, A4, _, i + 1, by omega, by omega, hR4, hS'.step i, ?_, by rw [← ei]; rfl⟩;rw [← hsh];show _ = (if x.f i = (0, 0) then S' else S'.shut b i).shuts b x.f _;rw [if_neg hz']
   intro hz;co_applyP aA;change wpE ..;co_applyP aa;co_applyP oy rfl a7;co_applyP oy rfl aj;co_applyP ah;change ∃ k', k' < _ ∧ _;have hz' : x.f i = (0, 0) := by simpa using hz
   refine ⟨c - 1, by omega, rfl, A', S', i + 1, by omega, by omega, hR3, hS', ?_, by rw [← ei]; rfl⟩;rw [← hsh];show _ = (if x.f i = (0, 0) then S' else S'.shut b i).shuts b x.f _;rw [if_pos hz']
 intro hlt;co_applyP bL;change ∃ v, resE .. = some v ∧ _;have hi6 : i = 6 := by simp at hlt; omega
 subst hi6;refine ⟨_, rfl, rfl, rfl, A', ?_⟩;rw [← hsh];exact hR'
end Go.Proofs.YtejkelcaljmnoaaGreatDoor
namespace Go.Lo
open Go.Conc Go.Hx
structure OldW (W : World) (O : Nat) (w : World) : Prop where
 t : w.tape = W.tape
 o : w.os = W.os
 u : w.output = W.output
 z : O ≤ w.heap.size
 b : ∀ x, x < O → w.heap[x]? = W.heap[x]?
theorem eD {w : World} {b x : Nat} {o : Obj} (h : x ≠ b) : (upd w b o).heap[x]? = w.heap[x]? := by simp [upd, Array.getElem?_setIfInBounds, Ne.symm h]
theorem ki {w : World} {b : Nat} {o : Obj} (h : b < w.heap.size) : (upd w b o).heap[b]? = some o := by simp [upd, h]
theorem dt {w : World} {x : Nat} {o : Obj} (h : x ≠ w.heap.size) : (more w o).heap[x]? = w.heap[x]? := by
 show (w.heap.push o)[x]? = w.heap[x]?;rw [Array.getElem?_push, if_neg h]
theorem iR {w : World} {o : Obj} : (more w o).heap[w.heap.size]? = some o := by
 show (w.heap.push o)[w.heap.size]? = some o;simp
theorem OldW.upd {W : World} {O : Nat} {w : World} (h : OldW W O w) {b : Nat} (hb : O ≤ b) (o : Obj) : OldW W O (upd w b o) :=
 ⟨h.t, h.o, h.u, by simpa [Lo.upd] using h.z, fun x hx => by rw [← h.b x hx]; simp [Lo.upd, Array.getElem?_setIfInBounds, show b ≠ x by omega]⟩
theorem OldW.more {W : World} {O : Nat} {w : World} (h : OldW W O w) (o : Obj) : OldW W O (more w o) :=
 ⟨h.t, h.o, h.u, by have := h.z; simp [Lo.more]; omega, fun x hx => by rw [← h.b x hx]; have := h.z; exact dt (by omega)⟩
theorem OldW.drew {W : World} {O : Nat} {w : World} (h : OldW W O w) : OldW W O (drew w) := ⟨h.t, h.o, h.u, h.z, h.b⟩
theorem qe {o o' : Obj} {ety : TypeId} (h : fits o o' = true) : isEv ety o' = isEv ety o := by
 cases o <;> cases o' <;> simp_all [fits, isEv, thing]
theorem jb {L : Frag} {n b : Nat} {fl : Bool} {o o' : Obj} (hn : L[n]? = some (b, fl, o)) : (L.set n (b, fl, o')).map (·.1) = L.map (·.1) := by
 apply List.ext_getElem?;intro i;simp only [List.getElem?_map, List.getElem?_set]
 split
 · rename_i e; subst e;obtain ⟨hlt, he⟩ := List.getElem?_eq_some_iff.1 hn;simp [hlt, he]
 · rfl
theorem cj {L : Frag} {n b : Nat} {fl : Bool} {o o' : Obj} (hd : (L.map (·.1)).Nodup) (hn : L[n]? = some (b, fl, o)) {t : Nat × Bool × Obj} (ht : t ∈ L.set n (b, fl, o')) : t = (b, fl, o') ∨ (t ∈ L ∧ t.1 ≠ b) := by
 obtain ⟨i, hi⟩ := List.getElem?_of_mem ht;rw [List.getElem?_set] at hi
 split at hi
 · split at hi
   · left; simpa using hi.symm
   · cases hi
 · rename_i hne;right;refine ⟨List.mem_of_getElem? hi, fun e => hne ?_⟩;have h1 : (L.map (·.1))[i]? = some t.1 := by simp [hi]
   have h2 : (L.map (·.1))[n]? = some b := by simp [hn]
   obtain ⟨hl1, he1⟩ := List.getElem?_eq_some_iff.1 h1;obtain ⟨hl2, he2⟩ := List.getElem?_eq_some_iff.1 h2;rcases Nat.lt_trichotomy n i with g | g | g
   · exact absurd (he2.trans (e.symm.trans he1.symm)) (List.pairwise_iff_getElem.1 hd n i hl2 hl1 g)
   · exact g
   · exact absurd (he1.trans (e.trans he2.symm)) (List.pairwise_iff_getElem.1 hd i n hl1 hl2 g)
theorem kj {m : Mark} (hm : okMark m = true) : (MemAct.ofEvent ⟨.mark m, false, true⟩).touch? = none ∧ m ≠ .disable ∧ m ≠ .enable := by
 cases m with
 | noRoom => exact ⟨rfl, nofun, nofun⟩
 | extern f => exact ⟨rfl, nofun, nofun⟩
 | _ => cases hm
structure OwnW (p : Par) (Sh : Loc → Prop) (E Dn : Nat) (W : World) (O : Nat) (L : Frag) (w : World) : Prop where
 has : ∀ t ∈ L, w.heap[t.1]? = some t.2.2
 ap : ∀ t ∈ L, t.1 ≠ E ∧ t.1 ≠ Dn ∧ (∀ l, blk l = some t.1 → ¬ Sh l) ∧ (isEv p.ety t.2.2 = true → t.1 < p.N0)
 own : ∀ t ∈ L, t.2.1 = true → O ≤ t.1 ∧ ∀ l, blk l = some t.1 → ¬ p.Still l
 nd : (L.map (·.1)).Nodup
 sz : p.N0 ≤ w.heap.size
 old : OldW W O w
 sh : ShOk p Sh
 hE : E < p.N0 ∧ Dn < p.N0
 oo : O ≤ E ∧ O ≤ Dn ∧ O ≤ p.N0
section
variable {p : Par} {Sh : Loc → Prop} {E Dn : Nat} {W : World} {O : Nat} {L : Frag} {w w₁ : World}
theorem OwnW.notFA (h : OwnW p Sh E Dn W O L w) {b : Nat} {fl : Bool} {o : Obj} (hm : (b, fl, o) ∈ L) : ¬ FA p w b := by
 rintro ⟨h1, o', ho', hi⟩;have := h.has _ hm;have h2 := (h.ap _ hm).2.2.2;simp only at this h2;rw [this] at ho';cases ho';exact absurd (h2 hi) (by omega)
theorem OwnW.lt (h : OwnW p Sh E Dn W O L w) {b : Nat} {fl : Bool} {o : Obj} (hm : (b, fl, o) ∈ L) : b < w.heap.size := (Array.getElem?_eq_some_iff.1 (h.has _ hm)).1
theorem OwnW.rely (h : OwnW p Sh E Dn W O L w) (r : RB p E Dn w w₁) : OwnW p Sh E Dn W O L w₁ :=
 { h with
   has := fun t ht => (r.block t.1 (h.lt (fl := t.2.1) (o := t.2.2) ht) (h.notFA (fl := t.2.1) (o := t.2.2) ht) (h.ap t ht).1 (h.ap t ht).2.1).trans (h.has t ht)
   sz := Nat.le_trans h.sz r.kept.size
   old := ⟨r.tape.trans h.old.t, r.os.trans h.old.o, r.output.trans h.old.u, Nat.le_trans h.old.z r.kept.size, fun x hx => by
     have h1 := h.oo;have h2 := h.sz;exact (r.block x (by omega) (fun f => by have := f.1; omega) (by omega) (by omega)).trans (h.old.b x hx)⟩ }
theorem o6 {b : Nat} {o o' : Obj} (hb : w.heap[b]? = some o) (hf : fits o o' = true) (x : Nat) : FA p (upd w b o') x ↔ FA p w x := by
 by_cases e : x = b
 · subst e;have hlt := (Array.getElem?_eq_some_iff.1 hb).1;unfold FA;rw [ki hlt, hb];simp [qe (ety := p.ety) hf]
 · unfold FA; rw [eD e]
theorem qf {o : Obj} (ho : isEv p.ety o = false) (x : Nat) : FA p (more w o) x ↔ FA p w x := by
 by_cases e : x = w.heap.size
 · subst e;unfold FA;rw [iR];simp [ho]
 · unfold FA; rw [dt e]
theorem OwnW.set (h : OwnW p Sh E Dn W O L w) {n b : Nat} {o o' : Obj} (hn : L[n]? = some (b, true, o)) (hf : fits o o' = true) :
   OwnW p Sh E Dn W O (L.set n (b, true, o')) (upd w b o') ∧ (RA p w (upd w b o') ∧ (upd w b o').heap[E]? = w.heap[E]? ∧ (upd w b o').heap[Dn]? = w.heap[Dn]?) ∧ (∀ i, EvB p Sh (upd w b o') ⟨.cell ⟨b, i, none⟩, true, false⟩) ∧ EvB p Sh (upd w b o') ⟨.obj b, true, false⟩ := by
 have hm := List.mem_of_getElem? hn;have hb : w.heap[b]? = some o := h.has _ hm;have hlt := h.lt hm;obtain ⟨a1, a2, a3, a4⟩ := h.ap _ hm;obtain ⟨o1, o2⟩ := h.own _ hm rfl
 have hO : OwnW p Sh E Dn W O (L.set n (b, true, o')) (upd w b o') :=
   { h with
     has := fun t ht => by
       rcases cj h.nd hn ht with rfl | ⟨h1, h2⟩
       · exact ki hlt
       · rw [eD h2]; exact h.has t h1
     ap := fun t ht => by
       rcases cj h.nd hn ht with rfl | ⟨h1, h2⟩
       · exact ⟨a1, a2, a3, fun e => a4 (by rw [qe hf] at e; exact e)⟩
       · exact h.ap t h1
     own := fun t ht hfl => by
       rcases cj h.nd hn ht with rfl | ⟨h1, h2⟩
       · exact ⟨o1, o2⟩
       · exact h.own t h1 hfl
     nd := by rw [jb hn]; exact h.nd
     sz := by simpa [upd] using h.sz
     old := h.old.upd o1 o' }
 have hnf : ¬ FA p (upd w b o') b := fun f => h.notFA hm ((o6 hb hf b).1 f);refine ⟨hO, ⟨⟨rfl, rfl, rfl, ⟨by simp [upd], fun x f => (o6 hb hf x).2 f, fun x _ nf f => nf ((o6 hb hf x).1 f)⟩, fun x f => eD fun e => h.notFA hm (e ▸ f), fun x cs ty fl hs hx => (eD fun e => ?_).trans hx⟩, eD (Ne.symm a1), eD (Ne.symm a2)⟩, fun i => ?_, ?_⟩
 · obtain ⟨j, hj⟩ := hs;exact o2 _ (by rw [← e]; rfl) hj
 · refine ⟨fun x hx _ => ?_, by simp, by simp⟩;simp only [MemAct.ofEvent, MemAct.touch?, Option.some.injEq] at hx;subst hx;exact ⟨⟨b, rfl, by simpa [upd] using hlt, hnf⟩, fun s => absurd s (a3 _ rfl), fun s => absurd s (o2 _ rfl)⟩
 · refine ⟨fun x hx _ => ?_, by simp, by simp⟩;simp only [MemAct.ofEvent, MemAct.touch?, Option.some.injEq] at hx;subst hx;exact ⟨⟨b, rfl, by simpa [upd] using hlt, hnf⟩, fun s => absurd s (a3 _ rfl), fun s => absurd s (o2 _ rfl)⟩
theorem OwnW.new (h : OwnW p Sh E Dn W O L w) {o : Obj} (ho : isEv p.ety o = false) :
   (∀ t ∈ L, t.1 ≠ w.heap.size) ∧ OwnW p Sh E Dn W O ((w.heap.size, true, o) :: L) (more w o) ∧ (RA p w (more w o) ∧ (more w o).heap[E]? = w.heap[E]? ∧ (more w o).heap[Dn]? = w.heap[Dn]?) := by
 have hne : ∀ t ∈ L, t.1 ≠ w.heap.size := fun t ht => Nat.ne_of_lt (h.lt (fl := t.2.1) (o := t.2.2) ht);have h1 := h.sz;have h2 := h.hE;have h3 := h.oo
 refine ⟨hne, { h with
     has := fun t ht => by
       rcases List.mem_cons.1 ht with rfl | ht
       · exact iR
       · rw [dt (hne t ht)]; exact h.has t ht
     ap := fun t ht => by
       rcases List.mem_cons.1 ht with rfl | ht
       · exact ⟨by show w.heap.size ≠ E; omega, by show w.heap.size ≠ Dn; omega, fun l hl s => by have := h.sh.low l _ s hl; simp only at this; omega, fun e => by simp only [ho] at e; cases e⟩
       · exact h.ap t ht
     own := fun t ht hfl => by
       rcases List.mem_cons.1 ht with rfl | ht
       · exact ⟨by show O ≤ w.heap.size; omega, fun l hl s => by have := h.sh.st l _ s hl; simp only at this; omega⟩
       · exact h.own t ht hfl
     nd := by
       simp only [List.map_cons, List.nodup_cons];exact ⟨fun hm => by obtain ⟨t, ht, e⟩ := List.mem_map.1 hm; exact hne t ht e, h.nd⟩
     sz := by simp [more]; omega
     old := h.old.more o }, ⟨⟨rfl, rfl, rfl, ⟨by simp [more], fun x f => (qf ho x).2 f, fun x _ nf f => nf ((qf ho x).1 f)⟩, fun x f => dt (Nat.ne_of_lt f.lt), fun x cs ty fl _ hx => (dt (Nat.ne_of_lt (Array.getElem?_eq_some_iff.1 hx).1)).trans hx⟩, dt (by omega), dt (by omega)⟩⟩
theorem OwnW.draw (h : OwnW p Sh E Dn W O L w) : OwnW p Sh E Dn W O L (drew w) := { h with old := h.old.drew }
def domW (p : Par) (Sh : Loc → Prop) (E Dn : Nat) (W : World) (O : Nat) : Dom (RB p E Dn) (DT p Sh E Dn) where
 New o := isEv p.ety o = false
 Own := OwnW p Sh E Dn W O
 Gu w w' := RA p w w' ∧ w'.heap[E]? = w.heap[E]? ∧ w'.heap[Dn]? = w.heap[Dn]?
 Ev := EvB p Sh
 gr w := ⟨RA.refl p w, rfl, rfl⟩
 gt h k := ⟨RA.trans _ _ _ h.1 k.1, k.2.1.trans h.2.1, k.2.2.trans h.2.2⟩
 em h k := ⟨fun x hx hm => ⟨(k.1 x hx hm).1.kept h.1.kept, (k.1 x hx hm).2⟩, k.2⟩
 dd h k := ⟨h.1, h.2.1, h.2.2, k⟩
 rely h r := h.rely r
 has h hm := h.has _ hm
 evc h hm i := by
   refine ⟨fun x hx _ => ?_, by simp, by simp⟩;simp only [MemAct.ofEvent, MemAct.touch?, Option.some.injEq] at hx;subst hx;exact ⟨⟨_, rfl, h.lt hm, h.notFA hm⟩, fun s => absurd s ((h.ap _ hm).2.2.1 _ rfl), fun _ => rfl⟩
 evo h hm := by
   refine ⟨fun x hx _ => ?_, by simp, by simp⟩;simp only [MemAct.ofEvent, MemAct.touch?, Option.some.injEq] at hx;subst hx;exact ⟨⟨_, rfl, h.lt hm, h.notFA hm⟩, fun s => absurd s ((h.ap _ hm).2.2.1 _ rfl), fun _ => rfl⟩
 set h hn hf := h.set hn hf
 new h ho := h.new ho
 draw h := ⟨h.draw, ⟨RA.at p _ _, rfl, rfl⟩⟩
 nor w m hm := by
   obtain ⟨h1, h2, h3⟩ := kj hm;exact ⟨fun x hx => (by rw [h1] at hx; cases hx), by simpa using h2, by simpa using h3⟩
 sub h hs hn := { h with has := fun t ht => h.has t (hs t ht), ap := fun t ht => h.ap t (hs t ht), own := fun t ht => h.own t (hs t ht), nd := hn }
 nd h := h.nd
 ld w := ⟨RA.at p w (w.drawn + 1), rfl, rfl, by simp⟩
end
structure Own0 (Sh : Loc → Prop) (W : World) (O : Nat) (L : Frag) (w : World) : Prop where
 has : ∀ t ∈ L, w.heap[t.1]? = some t.2.2
 ap : ∀ t ∈ L, ∀ l, blk l = some t.1 → ¬ Sh l
 own : ∀ t ∈ L, t.2.1 = true → O ≤ t.1
 nd : (L.map (·.1)).Nodup
 low : ∀ l b, Sh l → blk l = some b → b < w.heap.size
 old : OldW W O w
section
variable {Sh : Loc → Prop} {W : World} {O : Nat} {L : Frag} {w w₁ : World}
theorem Own0.lt (h : Own0 Sh W O L w) {b : Nat} {fl : Bool} {o : Obj} (hm : (b, fl, o) ∈ L) : b < w.heap.size := (Array.getElem?_eq_some_iff.1 (h.has _ hm)).1
theorem mn {e : Event} {b : Nat} (hl : blk e.loc = some b) (h : ∀ l, blk l = some b → ¬ Sh l) (hs : e.sync = false) : EvP Sh e := by
 obtain ⟨l, wr, sy⟩ := e;obtain rfl : sy = false := hs;cases l <;> simp only [blk] at hl <;> try cases hl
 · refine ⟨fun x hx s => ?_, by simp, by simp⟩;simp only [MemAct.ofEvent, MemAct.touch?, Option.some.injEq] at hx;subst hx;exact absurd s (h _ rfl)
 · refine ⟨fun x hx s => ?_, by simp, by simp⟩;cases wr <;> (simp only [MemAct.ofEvent, MemAct.touch?, Option.some.injEq] at hx; subst hx; exact absurd s (h _ rfl))
theorem Own0.set (h : Own0 Sh W O L w) {n b : Nat} {o o' : Obj} (hn : L[n]? = some (b, true, o)) : Own0 Sh W O (L.set n (b, true, o')) (upd w b o') := by
 have hm := List.mem_of_getElem? hn;have hlt := h.lt hm
 exact { h with
     has := fun t ht => by
       rcases cj h.nd hn ht with rfl | ⟨h1, h2⟩
       · exact ki hlt
       · rw [eD h2]; exact h.has t h1
     ap := fun t ht => by
       rcases cj h.nd hn ht with rfl | ⟨h1, h2⟩
       · exact h.ap (b, true, o) hm
       · exact h.ap t h1
     own := fun t ht hfl => by
       rcases cj h.nd hn ht with rfl | ⟨h1, h2⟩
       · exact h.own (b, true, o) hm rfl
       · exact h.own t h1 hfl
     nd := by rw [jb hn]; exact h.nd
     low := fun l b s hb => by simpa [upd] using h.low l b s hb
     old := h.old.upd (h.own _ hm rfl) o' }
theorem Own0.new (h : Own0 Sh W O L w) {o : Obj} : (∀ t ∈ L, t.1 ≠ w.heap.size) ∧ Own0 Sh W O ((w.heap.size, true, o) :: L) (more w o) := by
 have hne : ∀ t ∈ L, t.1 ≠ w.heap.size := fun t ht => Nat.ne_of_lt (h.lt (fl := t.2.1) (o := t.2.2) ht);have hz := h.old.z
 refine ⟨hne, { h with
     has := fun t ht => by
       rcases List.mem_cons.1 ht with rfl | ht
       · exact iR
       · rw [dt (hne t ht)]; exact h.has t ht
     ap := fun t ht => by
       rcases List.mem_cons.1 ht with rfl | ht
       · exact fun l hl s => by have := h.low l _ s hl; simp only at this; omega
       · exact h.ap t ht
     own := fun t ht hfl => by
       rcases List.mem_cons.1 ht with rfl | ht
       · exact hz
       · exact h.own t ht hfl
     nd := by
       simp only [List.map_cons, List.nodup_cons];exact ⟨fun hm => by obtain ⟨t, ht, e⟩ := List.mem_map.1 hm; exact hne t ht e, h.nd⟩
     low := fun l b s hb => by have := h.low l b s hb; simp [more]; omega
     old := h.old.more o }⟩
def dom0 (Sh : Loc → Prop) (W : World) (O : Nat) : Dom AtRel (D0 Sh) where
 New _ := True
 Own := Own0 Sh W O
 Gu _ _ := True
 Ev _ e := EvP Sh e
 gr _ := trivial
 gt _ _ := trivial
 em _ k := k
 dd _ k := k
 rely h r := by obtain ⟨d, rfl⟩ := r; exact { h with old := ⟨h.old.t, h.old.o, h.old.u, h.old.z, h.old.b⟩ }
 has h hm := h.has _ hm
 evc h hm _ := mn rfl (h.ap _ hm) rfl
 evo h hm := mn rfl (h.ap _ hm) rfl
 set h hn _ := ⟨h.set hn, trivial, fun _ => mn rfl (h.ap _ (List.mem_of_getElem? hn)) rfl, mn rfl (h.ap _ (List.mem_of_getElem? hn)) rfl⟩
 new h _ := ⟨(h.new (o := default)).1, h.new.2, trivial⟩
 draw h := ⟨{ h with old := h.old.drew }, trivial⟩
 nor _ m hm := by
   obtain ⟨h1, h2, h3⟩ := kj hm;exact ⟨fun x hx => (by rw [h1] at hx; cases hx), by simpa using h2, by simpa using h3⟩
 sub h hs hn := { h with has := fun t ht => h.has t (hs t ht), ap := fun t ht => h.ap t (hs t ht), own := fun t ht => h.own t (hs t ht), nd := hn }
 nd h := h.nd
 ld w := by simp [Hx.D0]
end
section
variable {p : Par} {Sh : Loc → Prop} {E Dn : Nat} {W : World} {O : Nat} {L : Frag} {w w₁ : World}
structure Beside (p : Par) (E Dn : Nat) (G : List (Nat × Obj)) (L : Frag) (w : World) : Prop where
 h : ∀ t ∈ G, w.heap[t.1]? = some t.2
 l : ∀ t ∈ G, ∀ u ∈ L, u.1 ≠ t.1
 a : ∀ t ∈ G, t.1 ≠ E ∧ t.1 ≠ Dn ∧ t.1 < p.N0
theorem Beside.rely {G : List (Nat × Obj)} (h : Beside p E Dn G L w) (hz : p.N0 ≤ w.heap.size) (r : RB p E Dn w w₁) : Beside p E Dn G L w₁ :=
 ⟨fun t ht => (r.block t.1 (by have := (h.a t ht).2.2; omega) (fun f => by have := f.1; have := (h.a t ht).2.2; omega) (h.a t ht).1 (h.a t ht).2.1).trans (h.h t ht), h.l, h.a⟩
def domV (p : Par) (Sh : Loc → Prop) (E Dn : Nat) (W : World) (O : Nat) (G : List (Nat × Obj)) : Dom (RB p E Dn) (DT p Sh E Dn) where
 New := (domW p Sh E Dn W O).New
 Own L w := (domW p Sh E Dn W O).Own L w ∧ Beside p E Dn G L w
 Gu := (domW p Sh E Dn W O).Gu
 Ev := (domW p Sh E Dn W O).Ev
 gr := (domW p Sh E Dn W O).gr
 gt := (domW p Sh E Dn W O).gt
 em := (domW p Sh E Dn W O).em
 dd := (domW p Sh E Dn W O).dd
 rely h r := ⟨(domW p Sh E Dn W O).rely h.1 r, h.2.rely (show OwnW p Sh E Dn W O _ _ from h.1).sz r⟩
 has h := (domW p Sh E Dn W O).has h.1
 evc h := (domW p Sh E Dn W O).evc h.1
 evo h := (domW p Sh E Dn W O).evo h.1
 set h hn hf := by
   obtain ⟨h1, h2, h3, h4⟩ := (domW p Sh E Dn W O).set h.1 hn hf;refine ⟨⟨h1, fun t ht => ?_, fun t ht u hu => ?_, h.2.a⟩, h2, h3, h4⟩
   · rw [eD (Ne.symm (h.2.l t ht _ (List.mem_of_getElem? hn)))]; exact h.2.h t ht
   · rcases cj ((domW p Sh E Dn W O).nd h.1) hn hu with rfl | ⟨h5, _⟩
     · have := h.2.l t ht _ (List.mem_of_getElem? hn);exact this
     · exact h.2.l t ht u h5
 new h ho := by
   obtain ⟨h1, h2, h3⟩ := (domW p Sh E Dn W O).new h.1 ho;have hz := (show OwnW p Sh E Dn W O _ _ from h.1).sz;refine ⟨h1, ⟨h2, fun t ht => ?_, fun t ht u hu => ?_, h.2.a⟩, h3⟩
   · rw [dt (by have := (h.2.a t ht).2.2; omega)]; exact h.2.h t ht
   · rcases List.mem_cons.1 hu with rfl | hu
     · have := (h.2.a t ht).2.2;simp only;omega
     · exact h.2.l t ht u hu
 draw h := by
   obtain ⟨h1, h2⟩ := (domW p Sh E Dn W O).draw h.1;exact ⟨⟨h1, h.2.h, h.2.l, h.2.a⟩, h2⟩
 nor := (domW p Sh E Dn W O).nor
 sub h hs hn := ⟨(domW p Sh E Dn W O).sub h.1 hs hn, h.2.h, fun t ht u hu => h.2.l t ht u (hs u hu), h.2.a⟩
 nd h := (domW p Sh E Dn W O).nd h.1
 ld := (domW p Sh E Dn W O).ld
end
section
variable {P : Program} {p : Par} {Sh : Loc → Prop} {E Dn : Nat} {PostB : World → Prop} {Aft : Goroutine → World → Prop} {W : World} {O : Nat} {G : List (Nat × Obj)} {fn : FuncId} {N : Nat} {Q : List Value → Exit → Env → Frag → Prop} {ε : Env} {L : Frag}
abbrev domT (P : Program) (p : Par) (Sh : Loc → Prop) (E Dn : Nat) (PostB : World → Prop) (Aft : Goroutine → World → Prop) (W : World) (O : Nat) (G : List (Nat × Obj)) : ∀ s, Dom ((tellF P p Sh E Dn PostB Aft).R s) ((tellF P p Sh E Dn PostB Aft).D s) := fun _ => domV p Sh E Dn W O G
theorem ym {ops : Array Oper} {i : Nat} {rest : List Nat} {d : Option Tmp} {x y : Operand} {ot : TypeId} {ps : String} {af : Array Edge} {g : Option (Nat × Bool)} {n : Nat} {v : Value} {vs : List Value} (ho : ops[i]? = some ⟨d, .send x y, ot, ps, af, g⟩)
   (hx : ev ε x = some (.chan (some E)) := by rfl) (hy : ev ε y = some v := by rfl) (hw : wantedE ops N ε g = some true := by rfl) (hd : dstOk N d = true := by rfl)
   (h : OpsE (domT P p Sh E Dn PostB Aft W O G) P false fn N ops rest n vs Q (putE d undef ε) L) :
   OpsE (domT P p Sh E Dn PostB Aft W O G) P false fn N ops (i :: rest) 0 (v :: vs) Q ε L := by
 intro a ha w hO;refine qL (z' := .tuple #[]) ho (ha.wanted hw) (fun w₁ h₁ => ⟨?_, ?_⟩) fun w₂ h₂ => h _ (ha.put hd undef) w₂ ((domV p Sh E Dn W O G).rely hO h₂)
 · simp only [execOp, ha.ev hx, ha.ev hy]; rfl
 · intro e he;have hm := mem_listed he;simp [execOp, go_sem] at hm
end
end Go.Lo
namespace Go.Proofs.YtejkelcaljmnoaaGreatDoor
open Go.Conc Go.Hx Go.Lo
def evt (now kind id x : Int) : Value := .agg #[.int .i64 now, .int .i64 kind, .int .i64 id, .int .i64 x]
theorem xB (a b c d : Int) : evR Tryz.prog (Instr.build 51 [(0, .int .i64 a), (1, .int .i64 b), (2, .int .i64 c), (3, .int .i64 d)].toArray) [] = some (evt a b c d, []) := by kernel_rfl
section
variable {p : Par} {Sh : Loc → Prop} {E Dn : Nat} {PostB : World → Prop} {Aft : Goroutine → World → Prop} {W : World} {O : Nat} {G0 : List (Nat × Obj)}
theorem mo : ∃ n, ∀ {p : Par} {Sh : Loc → Prop} {E Dn : Nat} {PostB : World → Prop} {Aft : Goroutine → World → Prop} {W : World} {O : Nat} {G0 : List (Nat × Obj)} {vs : List Value} (K : Nat) (A : Lay) (S : St) (Fr L : Frag) (kind id a : Int), Rep K A S Fr L →
   CallsL (domT Tryz.prog p Sh E Dn PostB Aft W O G0) Tryz.prog false 83 [ptr K, .chan (some E), .int .i64 kind, .int .i64 id, .int .i64 a].toArray n (evt S.now kind id a :: vs) L (fun s' v L' => vs = s' ∧ L = L' ∧ v = .tuple #[]) := by
 apply Exists.intro;intro p Sh E Dn PostB Aft W O G0 vs K A S Fr L kind id a hR;have hn : At L K 16 (.int .i64 (S.now : Nat)) := hR.kat rfl;co_applyP aB 19 Tryz.func83 Tryz.ntmps83;co_applyP aa;co_applyP oy rfl aj;co_applyP oy rfl aj;co_applyP oy rfl aL;co_applyP oy rfl (av (hf := bZ));co_applyP oy rfl (aC (ht := aV));co_applyP oy rfl aj;co_applyP oy rfl aj;co_applyP oy rfl aj;co_applyP oy rfl (bq (xB _ _ _ _));co_applyP ym rfl;co_applyP ah;change ∃ v, resE .. = some v ∧ _;exact ⟨_, rfl, rfl, rfl, rfl⟩
end
end Go.Proofs.YtejkelcaljmnoaaGreatDoor
