/-
  Part 4 of the proof.
  No condition but those that each statement names.
-/
import Derived.Test.YtejkelcaljmnoaaGreatDoorHy03
set_option maxRecDepth 100000
set_option linter.unusedVariables false
set_option linter.unusedSimpArgs false
set_option linter.unusedSectionVars false
namespace Go.Lo
open Go.Conc Go.Hx
section
variable {σ : Type} {F : Fam σ} (Δ : ∀ s, Dom (F.R s) (F.D s)) (P : Program) (main : Bool) (fn : FuncId)
def up (Q : σ → Exit → Act → Frag → Prop) : σ → Exit → Act → World → Prop := fun s e a w => ∃ L, (Δ s).Own L w ∧ Q s e a L
def upV (Q : σ → Value → Frag → Prop) : σ → Value → World → Prop := fun s v w => ∃ L, (Δ s).Own L w ∧ Q s v L
def wpL (c : Code) (n : Nat) (s : σ) (Q : σ → Exit → Act → Frag → Prop) (a : Act) (L : Frag) : Prop := ∀ w, (Δ s).Own L w → wpX F P main fn c n s (up Δ Q) a w
def OpsL (ops : Array Oper) (todo : List Nat) (n : Nat) (s : σ) (Q : σ → Exit → Act → Frag → Prop) (a : Act) (L : Frag) : Prop := ∀ w, (Δ s).Own L w → OpsX F P main fn ops todo n s (up Δ Q) a w
def LoopL (c : Code) (n : Nat) (s : σ) (Q : σ → Exit → Act → Frag → Prop) (a : Act) (L : Frag) : Prop := ∀ w, (Δ s).Own L w → LoopX F P main fn c n s (up Δ Q) a w
def CallsL (f : FuncId) (args : Array Value) (n : Nat) (s : σ) (L : Frag) (Post : σ → Value → Frag → Prop) : Prop := ∀ w, (Δ s).Own L w → CallsX F P main f args n s w (upV Δ Post)
end
section
variable {σ : Type}
def thenL (K : σ → Act → Frag → Prop) (Q : σ → Exit → Act → Frag → Prop) : σ → Exit → Act → Frag → Prop
 | s, .normal, a, L => K s a L
 | s, e, a, L => Q s e a L
def inBlockL (id : Nat) (Q : σ → Exit → Act → Frag → Prop) : σ → Exit → Act → Frag → Prop
 | s, .exit id', a, L => if id' = id then Q s .normal a L else Q s (.exit id') a L
 | s, e, a, L => Q s e a L
def bodyL (P : Program) (g : Func) (Post : σ → Value → Frag → Prop) : σ → Exit → Act → Frag → Prop
 | s, .normal, a, L | s, .ret, a, L => a.defers = [] ∧ ∃ v, ResultsC P g a.tmps v ∧ Post s v L
 | _, _, _, _ => False
def onNext (o : Oper) (a : Act) (K : Act → Prop) : Next → Prop
 | .value v => K (a.put o.dst v)
 | .skip => K (a.put o.dst undef)
 | _ => False
end
section
variable {σ : Type} {F : Fam σ} {Δ : ∀ s, Dom (F.R s) (F.D s)} {P : Program} {main : Bool} {fn : FuncId} {Q : σ → Exit → Act → Frag → Prop} {s : σ} {a : Act} {L : Frag}
theorem lK {K : σ → Act → Frag → Prop} {K' : σ → Act → World → Prop} (h : ∀ s a L w, (Δ s).Own L w → K s a L → K' s a w) {s : σ} {e : Exit} {a : Act} {w : World} (q : up Δ (thenL K Q) s e a w) : ThenX K' (up Δ Q) s e a w := by
 obtain ⟨L, hO, q⟩ := q;cases e <;> first | exact h _ _ _ _ hO q | exact ⟨L, hO, q⟩
theorem de {Q' : σ → Exit → Act → Frag → Prop} {c : Code} {n : Nat} (h : wpL Δ P main fn c n s Q a L) (hq : ∀ s e a L, Q s e a L → Q' s e a L) : wpL Δ P main fn c n s Q' a L :=
 fun w hO => eM (h w hO) fun s e a w ⟨L, hL, q⟩ => ⟨L, hL, hq _ _ _ _ q⟩
theorem mQ {c : Code} {n n' : Nat} (h : wpL Δ P main fn c n s Q a L) (hn : n ≤ n') : wpL Δ P main fn c n' s Q a L := fun w hO => sv (h w hO) hn
theorem qO {ops : Array Oper} {todo : List Nat} {n n' : Nat} (h : OpsL Δ P main fn ops todo n s Q a L) (hn : n ≤ n') : OpsL Δ P main fn ops todo n' s Q a L := fun w hO => eL (h w hO) hn
theorem xR {c : Code} {n : Nat} (h : (L.map (·.1)).Nodup → wpL Δ P main fn c n s Q a L) : wpL Δ P main fn c n s Q a L := fun w hO => h ((Δ s).nd hO) w hO
theorem vj {ops : Array Oper} {todo : List Nat} {n : Nat} (h : (L.map (·.1)).Nodup → OpsL Δ P main fn ops todo n s Q a L) : OpsL Δ P main fn ops todo n s Q a L := fun w hO => h ((Δ s).nd hO) w hO
theorem vk {x y : Code} {n₁ n₂ : Nat} (h : wpL Δ P main fn x n₁ s (thenL (fun s' a' L' => wpL Δ P main fn y n₂ s' Q a' L') Q) a L) : wpL Δ P main fn (.seq x y) (n₁ + n₂ + 1) s Q a L :=
 fun w hO => b5 (eM (h w hO) fun _ _ _ _ q => lK (fun _ _ _ _ hO k => k _ hO) q)
theorem sL {c : Operand} {x y : Code} {t : Bool} {n : Nat} (hc : a.eval c = .bool t) (h : wpL Δ P main fn (if t then x else y) n s Q a L) : wpL Δ P main fn (.cond c x y) (n + 1) s Q a L := fun w hO => fp hc (h w hO)
theorem qP {id : Nat} {c : Code} {n : Nat} (h : wpL Δ P main fn c n s (inBlockL id Q) a L) : wpL Δ P main fn (.block id c) (n + 2) s Q a L :=
 fun w hO => dX (eM (h w hO) fun s' e a' w' ⟨L', hL, q⟩ => by
   cases e with
   | exit id' =>
     simp only [inBlockL] at q;simp only [Exit.inBlock]
     split
     · rename_i e; rw [if_pos e] at q; exact ⟨L', hL, q⟩
     · rename_i e; rw [if_neg e] at q; exact ⟨L', hL, q⟩
   | _ => exact ⟨L', hL, q⟩)
theorem sM (h : Q s .normal a L) : wpL Δ P main fn .skip 1 s Q a L := fun _ hO => iG (wpC_skip (F.terms s) ⟨L, hO, h⟩)
theorem vl (h : Q s .ret a L) : wpL Δ P main fn .ret 1 s Q a L := fun _ hO => iG (wpC_ret (F.terms s) ⟨L, hO, h⟩)
theorem sN {id : Nat} (h : Q s (.exit id) a L) : wpL Δ P main fn (.exit id) 1 s Q a L := fun _ hO => iG (wpC_exit (F.terms s) ⟨L, hO, h⟩)
theorem qQ {c : Code} {n₁ n₂ : Nat} (h : wpL Δ P main fn c n₁ s (thenL (fun s' a' L' => LoopL Δ P main fn c n₂ s' Q a' L') Q) a L) : wpL Δ P main fn (.loop c) (n₁ + n₂ + 1) s Q a L :=
 fun w hO => kW (eM (h w hO) fun _ _ _ _ q => lK (fun _ _ _ _ hO k => k _ hO) q)
theorem xS {c : Code} {n₁ n₂ : Nat} (h : wpL Δ P main fn c n₁ s (thenL (fun s' a' L' => LoopL Δ P main fn c n₂ s' Q a' L') Q) a L) : LoopL Δ P main fn c (n₁ + n₂ + 1) s Q a L :=
 fun w hO => ow (eM (h w hO) fun _ _ _ _ q => lK (fun _ _ _ _ hO k => k _ hO) q)
theorem gA {c : Code} {n n' : Nat} (h : LoopL Δ P main fn c n s Q a L) (hn : n ≤ n') : LoopL Δ P main fn c n' s Q a L :=
 fun w hO b k cs m hb hk hc => (h w hO b k cs m hb hk hc).mono (by omega)
theorem lL {c : Code} {n : Nat} (I : Nat → σ → Act → Frag → Prop) (h : ∀ k s a L, I k s a L → wpL Δ P main fn c n s (thenL (fun s' a' L' => ∃ k', k' < k ∧ I k' s' a' L') Q) a L) :
   ∀ (k : Nat) (s : σ) (a : Act) (L : Frag), I k s a L → LoopL Δ P main fn c ((k + 1) * (n + 1)) s Q a L := by
 intro k
 induction k using Nat.strongRecOn with
 | _ k ih =>
   intro s a L hI;refine gA (xS (n₂ := k * (n + 1)) (de (h k s a L hI) fun s' e a' L' q => ?_)) (by rw [Nat.succ_mul]; omega);cases e with
   | normal =>
     obtain ⟨k', hk', hi⟩ := q;exact gA (ih k' hk' s' a' L' hi) (Nat.mul_le_mul_right _ hk')
   | _ => exact q
theorem sO {c : Code} {n : Nat} (I : Nat → σ → Act → Frag → Prop) (h : ∀ k s a L, I k s a L → wpL Δ P main fn c n s (thenL (fun s' a' L' => ∃ k', k' < k ∧ I k' s' a' L') Q) a L) (k : Nat) (hI : I k s a L) :
   wpL Δ P main fn (.loop c) ((k + 1) * (n + 1)) s Q a L := by
 refine mQ (qQ (n₂ := k * (n + 1)) (de (h k s a L hI) fun s' e a' L' q => ?_)) (by rw [Nat.succ_mul]; omega);cases e with
 | normal =>
   obtain ⟨k', hk', hi⟩ := q;exact gA (lL I h k' s' a' L' hi) (Nat.mul_le_mul_right _ hk')
 | _ => exact q
theorem oD {id : Nat} {ops : Array Oper} {n : Nat} (h : OpsL Δ P main fn ops (List.range ops.size) n s Q a L) : wpL Δ P main fn (.region id ops false) (n + 1) s Q a L := fun w hO => bf (h w hO)
theorem sP {ops : Array Oper} (h : Q s .normal a L) : OpsL Δ P main fn ops [] 1 s Q a L := fun _ hO => bw ⟨L, hO, h⟩
theorem kL {ops : Array Oper} {i : Nat} {rest : List Nat} {o : Oper} {n : Nat} (ho : ops[i]? = some o) (hw : Region.wanted o (yielded ops a.tmps) = false)
   (h : OpsL Δ P main fn ops rest n s Q (a.put o.dst undef) L) : OpsL Δ P main fn ops (i :: rest) (n + 1) s Q a L := fun w hO => gd ho hw (h w hO)
theorem lM {o : Oper} {w w' : World} {x : Next} {K : Act → World → Prop} {KL : Act → Frag → Prop} {L' : Frag} (hr : (execOp a.eval o).run P w = .ok x w') (hL : (Δ s).Own L' w')
   (h : onNext o a (fun a' => KL a' L') x) (hk : ∀ a', KL a' L' → K a' w') : uponK o a K ((execOp a.eval o).run P w) := by
 rw [hr];cases x <;> simp only [onNext] at h <;> first | exact hk _ h | exact h.elim
theorem kZ {ops : Array Oper} {i : Nat} {rest : List Nat} {o : Oper} {n : Nat} (ho : ops[i]? = some o) (hw : Region.wanted o (yielded ops a.tmps) = true)
   (h : wpS P (Δ s).New (execOp a.eval o) (fun x L' => onNext o a (fun a' => OpsL Δ P main fn ops rest n s Q a' L') x) L) : OpsL Δ P main fn ops (i :: rest) (n + 1) s Q a L := by
 intro w hO;refine iH ho hw fun w₁ h₁ => ?_;have hO₁ := (Δ s).rely hO h₁;obtain ⟨x, w', hr, hg, he, L', hL, hx⟩ := oC (Δ s) hO₁ h;refine lM (Δ := Δ) (s := s) (KL := fun a' L' => OpsL Δ P main fn ops rest n s Q a' L') hr hL hx fun a' k => ⟨(Δ s).dd hg fun e hm => he e (mem_listed hm), k _ hL⟩
theorem qR {f : FuncId} {g : Func} {c : Code} {args : Array Value} {n : Nat} {Post : σ → Value → Frag → Prop} (hf : P.funcs[f]? = some g) (hname : (g.name == "runtime.NumGoroutine") = false) (hb : g.body = some c)
   (h : wpL Δ P main f c n s (bodyL P g Post) { tmps := args ++ Array.replicate (g.ntmps - args.size) undef, defers := [] } L) : CallsL Δ P main f args n s L Post :=
 fun w hO => eH hf hname hb (eM (h w hO) fun s' e a' w' ⟨L', hL, q⟩ => by
   cases e <;> first | exact ⟨q.1, q.2.choose, q.2.choose_spec.1, L', hL, q.2.choose_spec.2⟩ | exact q)
theorem qS {ops : Array Oper} {i : Nat} {rest : List Nat} {o : Oper} {f : FuncId} {args : Array Operand} {ats : Array TypeId} {nf n : Nat} {Post : σ → Value → Frag → Prop}
   (ho : ops[i]? = some o) (hw : Region.wanted o (yielded ops a.tmps) = true) (hop : o.op = .call { callee := .value (.func f), args, argTypes := ats })
   (hcall : CallsL Δ P main f (args.map a.eval) nf s L Post) (hnext : ∀ s' v L', Post s' v L' → OpsL Δ P main fn ops rest n s' Q (a.put o.dst v) L') : OpsL Δ P main fn ops (i :: rest) (n + nf + 3) s Q a L :=
 fun w hO => fI ho hw hop (hcall w hO) fun s' v w' ⟨L', hL, hp⟩ => hnext s' v L' hp w' hL
end
def sizeAt (P : Program) (t : TypeId) : Option Nat := (P.info? t).map (·.size)
def bytesAt (P : Program) (t : TypeId) : Option Nat := (P.info? t).map (·.bytes)
def zeroAt (P : Program) (t : TypeId) : Option Value := (P.info? t).bind (·.zero)
def aggAt (P : Program) (t : TypeId) : Option Bool := (P.underlying t).map fun | .struct _ | .array _ _ => true | _ => false
def fieldOff (P : Program) (s f : Nat) : Option Nat :=
 match P.underlying s with
 | some (.struct fs) => match fs[f]? with
   | some fd => match sizeAt P fd.type with
     | some (_ + 1) => some fd.offset
     | _ => none
   | none => none
 | _ => none
def fieldPart (P : Program) (s f : Nat) : Option (Nat × Nat × Bool) :=
 match P.underlying s with
 | some (.struct fs) => match fs[f]? with
   | some fd => match sizeAt P fd.type, aggAt P fd.type with
     | some n, some g => some (fd.offset, n, g)
     | _, _ => none
   | none => none
 | _ => none
section
variable {α β : Type} {P : Program} {New : Obj → Prop} {L : Frag}
theorem aT {t : TypeId} {d : TypeDesc} {Q : TypeDesc → Frag → Prop} (h : P.underlying t = some d) : wpS P New (underlying t) Q L = Q d L := by
 show (wpS P New (match P.underlying t with | some d => pure d | none => stuck "no such type") Q L) = Q d L;rw [h]; rfl
theorem dg {t : TypeId} {i : TypeInfo} {Q : TypeInfo → Frag → Prop} (h : P.info? t = some i) : wpS P New (typeInfo t) Q L = Q i L := by
 show (wpS P New (match P.info? t with | some d => pure d | none => stuck "no such type") Q L) = Q i L;rw [h]; rfl
theorem bP {t n : Nat} {Q : Nat → Frag → Prop} (h : sizeAt P t = some n) : wpS P New (sizeOf t) Q L = Q n L := by
 obtain ⟨i, hi, rfl⟩ := Option.map_eq_some_iff.1 h;unfold sizeOf;rw [ar, dg hi]; rfl
theorem cF {t : Nat} {v : Value} {Q : Value → Frag → Prop} (h : zeroAt P t = some v) : wpS P New (zeroValue t) Q L = Q v L := by
 obtain ⟨i, hi, hz⟩ := Option.bind_eq_some_iff.1 h;unfold zeroValue;rw [ar, dg hi, hz]; rfl
theorem gP {a : Addr} {Q : Addr → Frag → Prop} : wpS P New (Instr.sureAddr (.pointer (some a))) Q L = Q a L := rfl
def At (L : Frag) (b i : Nat) (v : Value) : Prop := ∃ fl cs ty fr, (b, fl, Obj.cells cs ty fr) ∈ L ∧ cs[i]? = some v
theorem At.at {b i n : Nat} {v : Value} {fl : Bool} {cs : Array Value} {ty : TypeId} {fr : Nat × Nat} (h : L[n]? = some (b, fl, .cells cs ty fr)) (hv : cs[i]? = some v) : At L b i v := ⟨fl, cs, ty, fr, List.mem_of_getElem? h, hv⟩
theorem sQ {b i : Nat} {v : Value} {Q : Value → Frag → Prop} (h : At L b i v) (hQ : Q v L) : wpS P New (load ⟨b, i, none⟩) Q L := by
 obtain ⟨fl, cs, ty, fr, hm, hv⟩ := h;exact ⟨rfl, fl, _, v, hm, by simpa [cellOf] using hv, hQ⟩
theorem qT {b i n : Nat} {cs : Array Value} {ty : TypeId} {v : Value} {Q : Unit → Frag → Prop} (h : L[n]? = some (b, true, .cells cs ty)) (hi : i < cs.size) (hp : plainV v = true) (hQ : Q () (L.set n (b, true, .cells (cs.setIfInBounds i v) ty))) : wpS P New (store ⟨b, i, none⟩ v) Q L :=
 ⟨rfl, hp, rfl, n, cs, ty, (0, 0), h, hi, by simp [frozenOf], hQ⟩
theorem cf {o : Obj} {Q : Nat → Frag → Prop} (hN : New o) (hQ : ∀ b, (∀ t ∈ L, t.1 ≠ b) → Q b ((b, true, o) :: L)) : wpS P New (newObj o) Q L := ⟨hN, hQ⟩
theorem d8 {r : Nat} {o : Obj} {fl : Bool} {Q : Obj → Frag → Prop} (hm : (r, fl, o) ∈ L) (ho : thing o = true) (hQ : Q o L) : wpS P New (getObj r) Q L := ⟨fl, o, hm, ho, hQ⟩
theorem cU {r n : Nat} {o o' : Obj} {Q : Unit → Frag → Prop} (hn : L[n]? = some (r, true, o')) (ho' : thing o' = true) (ho : thing o = true) (hQ : Q () (L.set n (r, true, o))) : wpS P New (setObj r o) Q L := ⟨ho, n, o', hn, ho', hQ⟩
theorem dh (b o i : Nat) : (⟨b, o, none⟩ : Addr).add i = ⟨b, o + i, none⟩ := by
 unfold Addr.add
 split
 · subst_vars; rfl
 · rfl
theorem lN {b o : Nat} {cs : Array Value} {ty : TypeId} {fr : Nat × Nat} {fl : Bool} (hm : (b, fl, .cells cs ty fr) ∈ L) {Q : Array Value → Frag → Prop} :
   ∀ (n i : Nat) (acc : Array Value), o + i + n ≤ cs.size → Q (acc ++ cs.extract (o + i) (o + i + n)) L → wpS P New (loadCellsFrom ⟨b, o, none⟩ i n acc) Q L := by
 intro n
 induction n with
 | zero =>
   intro i acc h hQ;have e : cs.extract (o + i) (o + i + 0) = #[] := by apply Array.ext'; simp
   rw [e, Array.append_empty] at hQ;exact hQ
 | succ n ih =>
   intro i acc h hQ;have hi : o + i < cs.size := by omega
   unfold loadCellsFrom;rw [ar, dh];refine sQ (b := b) (i := o + i) ⟨fl, cs, ty, fr, hm, Array.getElem?_eq_getElem hi⟩ ?_;refine ih (i + 1) _ (by omega) ?_;have e : acc.push cs[o + i] ++ cs.extract (o + (i + 1)) (o + (i + 1) + n) = acc ++ cs.extract (o + i) (o + i + (n + 1)) := by
     apply Array.ext';simp only [Array.toList_append, Array.toList_push, Array.toList_extract, List.append_assoc];congr 1;rw [List.extract_eq_take_drop, List.extract_eq_take_drop];have : cs.toList.drop (o + i) = cs[o + i] :: cs.toList.drop (o + i + 1) := by
       rw [List.drop_eq_getElem_cons (by simpa using hi)]; simp
     rw [this, show o + i + (n + 1) - (o + i) = n + 1 by omega, show o + (i + 1) + n - (o + (i + 1)) = n by omega, List.take_succ_cons, Nat.add_assoc];simp
   rw [e]; exact hQ
theorem kM {b o n : Nat} {cs : Array Value} {ty : TypeId} {fr : Nat × Nat} {fl : Bool} (hm : (b, fl, .cells cs ty fr) ∈ L) {Q : Array Value → Frag → Prop} (h : o + n ≤ cs.size) (hQ : Q (cs.extract o (o + n)) L) : wpS P New (loadCells ⟨b, o, none⟩ n) Q L :=
 lN hm n 0 #[] (by omega) (by simpa using hQ)
def puts (cs : Array Value) (o : Nat) : List Value → Array Value
 | [] => cs
 | v :: vs => puts (cs.setIfInBounds o v) (o + 1) vs
theorem kN {b n : Nat} {ty : TypeId} : ∀ (vs : List Value) (o i : Nat) (cs : Array Value) (L : Frag) {Q : Unit → Frag → Prop}, L[n]? = some (b, true, .cells cs ty) → o + i + vs.length ≤ cs.size → vs.all plainV = true →
   Q () (L.set n (b, true, .cells (puts cs (o + i) vs) ty)) → wpS P New (storeCells ⟨b, o, none⟩ vs i) Q L := by
 intro vs
 induction vs with
 | nil =>
   intro o i cs L Q hn h _ hQ;have e : L.set n (b, true, .cells cs ty) = L := by
     apply List.ext_getElem?;intro j;rw [List.getElem?_set]
     split
     · rename_i e; subst e; obtain ⟨hl, he⟩ := List.getElem?_eq_some_iff.1 hn; simp [hl, he]
     · rfl
   rw [puts, e] at hQ;exact hQ
 | cons v vs ih =>
   intro o i cs L Q hn h hp hQ;simp only [List.length_cons] at h;simp only [List.all_cons, Bool.and_eq_true] at hp;obtain ⟨hl, he⟩ := List.getElem?_eq_some_iff.1 hn;unfold storeCells;rw [ar, dh];refine qT (b := b) (i := o + i) hn (by omega) hp.1 ?_;refine ih o (i + 1) (cs.setIfInBounds (o + i) v) _ (by simp [hl]) (by simp; omega) hp.2 ?_;rw [List.set_set];exact hQ
theorem co {b n o : Nat} {ty : TypeId} {vs : List Value} {cs : Array Value} {Q : Unit → Frag → Prop} (hn : L[n]? = some (b, true, .cells cs ty)) (h : o + vs.length ≤ cs.size) (hp : vs.all plainV = true)
   (hQ : Q () (L.set n (b, true, .cells (puts cs o vs) ty))) : wpS P New (storeCells ⟨b, o, none⟩ vs) Q L := kN vs o 0 cs L hn (by omega) hp hQ
end
def wpQ {α : Type} (P : Program) : Sem α → (α → Prop) → Frag → Prop
 | .pure a, K, _ => K a
 | .load m a k, K, L => m = .plain ∧ ∃ fl o v, (a.block, fl, o) ∈ L ∧ cellOf o a = some v ∧ wpQ P (k v) K L
 | .shape r k, K, L => ∃ fl o, (r, fl, o) ∈ L ∧ wpQ P (k (shapeOf o)) K L
 | .frozen a k, K, L => ∃ fl o, (a.block, fl, o) ∈ L ∧ wpQ P (k (frozenOf o a)) K L
 | .getObj r k, K, L => ∃ fl o, (r, fl, o) ∈ L ∧ thing o = true ∧ wpQ P (k o) K L
 | .choose q k, K, L => q.forced = true ∧ wpQ P (k 0) K L
 | .program k, K, L => wpQ P (k P) K L
 | .mark m k, K, L => okMark m = true ∧ wpQ P k K L
 | .store .., _, _ | .new .., _, _ | .freeze .., _, _ | .setObj .., _, _ | .sys .., _, _ | .halt _, _, _ => False
section
variable {α β : Type} {P : Program}
theorem cP {K K' : α → Prop} (h : ∀ a, K a → K' a) {L L' : Frag} (hL : ∀ t ∈ L, t ∈ L') : ∀ (s : Sem α), wpQ P s K L → wpQ P s K' L' := by
 intro s
 induction s with
 | pure a => exact fun x => h _ x
 | load m a k ih => rintro ⟨h1, fl, o, v, h2, h3, h4⟩; exact ⟨h1, fl, o, v, hL _ h2, h3, ih _ h4⟩
 | shape r k ih => rintro ⟨fl, o, h1, h2⟩; exact ⟨fl, o, hL _ h1, ih _ h2⟩
 | frozen a k ih => rintro ⟨fl, o, h1, h2⟩; exact ⟨fl, o, hL _ h1, ih _ h2⟩
 | getObj r k ih => rintro ⟨fl, o, h1, h2, h3⟩; exact ⟨fl, o, hL _ h1, h2, ih _ h3⟩
 | choose q k ih => rintro ⟨h1, h2⟩; exact ⟨h1, ih _ h2⟩
 | program k ih => exact fun x => ih _ x
 | store m a v k ih => exact fun x => x
 | new o k ih => exact fun x => x
 | freeze a n k ih => exact fun x => x
 | setObj r o k ih => exact fun x => x
 | sys c k ih => exact fun x => x
 | mark m k ih => rintro ⟨h1, h2⟩; exact ⟨h1, ih h2⟩
 | halt x => exact fun x => x
theorem qU {L : Frag} (f : α → Sem β) (K : β → Prop) : ∀ (s : Sem α), wpQ P (s.bind f) K L = wpQ P s (fun a => wpQ P (f a) K L) L := by
 intro s
 induction s with
 | pure a => rfl
 | load m a k ih => simp only [Sem.bind, wpQ, ih]
 | shape r k ih => simp only [Sem.bind, wpQ, ih]
 | frozen a k ih => simp only [Sem.bind, wpQ, ih]
 | getObj r k ih => simp only [Sem.bind, wpQ, ih]
 | choose q k ih => simp only [Sem.bind, wpQ, ih]
 | program k ih => simp only [Sem.bind, wpQ, ih]
 | store m a v k ih => simp only [Sem.bind, wpQ]
 | new o k ih => simp only [Sem.bind, wpQ]
 | freeze a n k ih => simp only [Sem.bind, wpQ]
 | setObj r o k ih => simp only [Sem.bind, wpQ]
 | sys c k ih => simp only [Sem.bind, wpQ]
 | mark m k ih => simp only [Sem.bind, wpQ, ih]
 | halt x => simp only [Sem.bind, wpQ]
theorem ax {L : Frag} (s : Sem α) (f : α → Sem β) (K : β → Prop) : wpQ P (s >>= f) K L = wpQ P s (fun a => wpQ P (f a) K L) L := qU f K s
theorem bS {L : Frag} (a : α) (K : α → Prop) : wpQ P (Pure.pure a) K L = K a := rfl
theorem pG {L : Frag} (c : Prop) [Decidable c] (x y : Sem α) (K : α → Prop) : wpQ P (if c then x else y) K L = if c then wpQ P x K L else wpQ P y K L := by split <;> rfl
theorem bH {New : Obj → Prop} {L : Frag} {K : α → Prop} {Q : α → Frag → Prop} (h : ∀ a, K a → Q a L) : ∀ (s : Sem α), wpQ P s K L → wpS P New s Q L := by
 intro s
 induction s with
 | pure a => exact fun x => h _ x
 | load m a k ih => rintro ⟨h1, fl, o, v, h2, h3, h4⟩; exact ⟨h1, fl, o, v, h2, h3, ih _ h4⟩
 | shape r k ih => rintro ⟨fl, o, h1, h2⟩; exact ⟨fl, o, h1, ih _ h2⟩
 | frozen a k ih => rintro ⟨fl, o, h1, h2⟩; exact ⟨fl, o, h1, ih _ h2⟩
 | getObj r k ih => rintro ⟨fl, o, h1, h2, h3⟩; exact ⟨fl, o, h1, h2, ih _ h3⟩
 | choose q k ih => rintro ⟨h1, h2⟩; exact ⟨fun _ => ih _ h2, fun e => by rw [h1] at e; cases e⟩
 | program k ih => exact fun x => ih _ x
 | store m a v k ih => exact fun x => x.elim
 | new o k ih => exact fun x => x.elim
 | freeze a n k ih => exact fun x => x.elim
 | setObj r o k ih => exact fun x => x.elim
 | sys c k ih => exact fun x => x.elim
 | mark m k ih => rintro ⟨h1, h2⟩; exact ⟨h1, ih h2⟩
 | halt x => exact fun x => x.elim
variable {R : World → World → Prop} {D : World → World → Array Event → Prop}
theorem y5 (Δ : Dom R D) {L : Frag} {w : World} (hO : Δ.Own L w) {K : α → Prop} : ∀ (s : Sem α) (es : Array Event), wpQ P s K L → ∃ a es', s.runT P w es = (.ok a w, es ++ es') ∧ (∀ e ∈ es', Δ.Ev w e) ∧ K a := by
 intro s
 induction s with
 | pure a => exact fun es h => ⟨a, #[], by simp [Sem.runT, -Sem.runT_eq], by simp, h⟩
 | load m a k ih =>
   rintro es ⟨rfl, fl, o, v, hm, hv, h⟩;have hb := Δ.has hO hm;have hc := lJ hb hv;have hs : a.spot = none := by cases o <;> simp_all [cellOf]
   obtain ⟨x, es', hr, he, hK⟩ := ih v (es.push ⟨.cell a, false, false⟩) h;refine ⟨x, #[⟨.cell a, false, false⟩] ++ es', by simp only [Sem.runT, hc]; rw [show ((Mode.plain == Mode.atomic) = false) from rfl, hr]; simp, fun e hm' => ?_, hK⟩;rcases Array.mem_append.1 hm' with h1 | h1
   · obtain rfl := by simpa using h1
     obtain ⟨b, i, sp⟩ := a;obtain rfl : sp = none := hs;exact Δ.evc hO hm i
   · exact he e h1
 | shape r k ih =>
   rintro es ⟨fl, o, hm, h⟩;have hb := Δ.has hO hm;obtain ⟨x, es', hr, he, hK⟩ := ih _ es h;have e0 : w.shape? r = shapeOf o := by unfold World.shape?; rw [hb]; cases o <;> rfl
   exact ⟨x, es', by simp only [Sem.runT, e0]; exact hr, he, hK⟩
 | frozen a k ih =>
   rintro es ⟨fl, o, hm, h⟩;have hb := Δ.has hO hm;obtain ⟨x, es', hr, he, hK⟩ := ih _ es h;have e0 : w.frozen? a = frozenOf o a := by unfold World.frozen?; rw [hb]; cases o <;> rfl
   exact ⟨x, es', by simp only [Sem.runT, e0]; exact hr, he, hK⟩
 | getObj r k ih =>
   rintro es ⟨fl, o, hm, ho, h⟩;have hb := Δ.has hO hm;obtain ⟨x, es', hr, he, hK⟩ := ih o (es.push ⟨.obj r, false, false⟩) h;refine ⟨x, #[⟨.obj r, false, false⟩] ++ es', by rw [iW hb ho, hr]; simp, fun e hm' => ?_, hK⟩;rcases Array.mem_append.1 hm' with h1 | h1
   · obtain rfl := by simpa using h1
     exact Δ.evo hO hm
   · exact he e h1
 | choose q k ih =>
   rintro es ⟨hf, h⟩;obtain ⟨x, es', hr, he, hK⟩ := ih _ es h;exact ⟨x, es', by simp only [Sem.runT, hf, if_true]; exact hr, he, hK⟩
 | program k ih =>
   intro es h;obtain ⟨x, es', hr, he, hK⟩ := ih P es h;exact ⟨x, es', by simp only [Sem.runT]; exact hr, he, hK⟩
 | store m a v k ih => exact fun _ x => x.elim
 | new o k ih => exact fun _ x => x.elim
 | freeze a n k ih => exact fun _ x => x.elim
 | setObj r o k ih => exact fun _ x => x.elim
 | sys c k ih => exact fun _ x => x.elim
 | mark m k ih =>
   rintro es ⟨hm, h⟩;obtain ⟨x, es', hr, he, hK⟩ := ih (es.push ⟨.mark m, false, true⟩) h;refine ⟨x, #[⟨.mark m, false, true⟩] ++ es', by simp only [Sem.runT]; rw [hr]; simp, fun e hm' => ?_, hK⟩;rcases Array.mem_append.1 hm' with h1 | h1
   · obtain rfl := by simpa using h1
     exact Δ.nor w m hm
   · exact he e h1
 | halt x => exact fun _ x => x.elim
theorem lO (Δ : Dom R D) {L : Frag} {w : World} (hO : Δ.Own L w) {s : Sem α} {v : α} (h : wpQ P s (· = v) L) : s.run P w = .ok v w ∧ ∀ e ∈ s.events P w #[], Δ.Ev w e := by
 obtain ⟨a, es', hr, he, rfl⟩ := y5 Δ hO s #[] h;refine ⟨by rw [← Sem.runT_fst P s w #[], hr], ?_⟩;unfold Sem.events;rw [hr];simpa using he
end
section
variable {α β : Type} {P : Program} {L : Frag}
theorem aM {t : TypeId} {d : TypeDesc} {K : TypeDesc → Prop} (h : P.underlying t = some d) : wpQ P (underlying t) K L = K d := by
 show (wpQ P (match P.underlying t with | some d => pure d | none => stuck "no such type") K L) = K d;rw [h]; rfl
theorem gQ {t : TypeId} {i : TypeInfo} {K : TypeInfo → Prop} (h : P.info? t = some i) : wpQ P (typeInfo t) K L = K i := by
 show (wpQ P (match P.info? t with | some d => pure d | none => stuck "no such type") K L) = K i;rw [h]; rfl
theorem cK {t n : Nat} {K : Nat → Prop} (h : sizeAt P t = some n) : wpQ P (sizeOf t) K L = K n := by
 obtain ⟨i, hi, rfl⟩ := Option.map_eq_some_iff.1 h;unfold sizeOf;rw [ax, gQ hi]; rfl
theorem ge {t : Nat} {v : Value} {K : Value → Prop} (h : zeroAt P t = some v) : wpQ P (zeroValue t) K L = K v := by
 obtain ⟨i, hi, hz⟩ := Option.bind_eq_some_iff.1 h;unfold zeroValue;rw [ax, gQ hi, hz]; rfl
theorem fJ {t : Nat} {g : Bool} {K : Bool → Prop} (h : aggAt P t = some g) : wpQ P (isAgg t) K L = K g := by
 obtain ⟨d, hd, rfl⟩ := Option.map_eq_some_iff.1 h;unfold isAgg;rw [ax, aM hd];cases d <;> rfl
theorem di {a : Addr} {K : Addr → Prop} : wpQ P (Instr.sureAddr (.pointer (some a))) K L = K a := rfl
theorem mR {b i : Nat} {v : Value} {K : Value → Prop} (h : At L b i v) (hK : K v) : wpQ P (load ⟨b, i, none⟩) K L := by
 obtain ⟨fl, cs, ty, fr, hm, hv⟩ := h;exact ⟨rfl, fl, _, v, hm, by simpa [cellOf] using hv, hK⟩
theorem oE {r : Nat} {o : Obj} {fl : Bool} {K : Obj → Prop} (hm : (r, fl, o) ∈ L) (ho : thing o = true) (hK : K o) : wpQ P (getObj r) K L := ⟨fl, o, hm, ho, hK⟩
theorem fK {b : Nat} {fl : Bool} {cs : Array Value} {t : TypeId} {fr : Nat × Nat} {K : Option (TypeId × Nat) → Prop} (h : (b, fl, .cells cs t fr) ∈ L) (hK : K (some (t, cs.size))) : wpQ P (shape b) K L := ⟨fl, _, h, hK⟩
theorem eZ {a : Addr} {fl : Bool} {cs : Array Value} {t : TypeId} {K : Bool → Prop} (h : (a.block, fl, .cells cs t) ∈ L) (hK : K false) : wpQ P (frozen a) K L := ⟨fl, _, h, by simpa [frozenOf, wpQ] using hK⟩
theorem lP {b o : Nat} {cs : Array Value} {ty : TypeId} {fr : Nat × Nat} {fl : Bool} (hm : (b, fl, .cells cs ty fr) ∈ L) {K : Array Value → Prop} :
   ∀ (n i : Nat) (acc : Array Value), o + i + n ≤ cs.size → K (acc ++ cs.extract (o + i) (o + i + n)) → wpQ P (loadCellsFrom ⟨b, o, none⟩ i n acc) K L := by
 intro n
 induction n with
 | zero =>
   intro i acc h hK;have e : cs.extract (o + i) (o + i + 0) = #[] := by apply Array.ext'; simp
   rw [e, Array.append_empty] at hK;exact hK
 | succ n ih =>
   intro i acc h hK;have hi : o + i < cs.size := by omega
   unfold loadCellsFrom;rw [ax, dh];refine mR (b := b) (i := o + i) ⟨fl, cs, ty, fr, hm, Array.getElem?_eq_getElem hi⟩ ?_;refine ih (i + 1) _ (by omega) ?_;have e : acc.push cs[o + i] ++ cs.extract (o + (i + 1)) (o + (i + 1) + n) = acc ++ cs.extract (o + i) (o + i + (n + 1)) := by
     apply Array.ext';simp only [Array.toList_append, Array.toList_push, Array.toList_extract, List.append_assoc];congr 1;rw [List.extract_eq_take_drop, List.extract_eq_take_drop];have : cs.toList.drop (o + i) = cs[o + i] :: cs.toList.drop (o + i + 1) := by
       rw [List.drop_eq_getElem_cons (by simpa using hi)]; simp
     rw [this, show o + i + (n + 1) - (o + i) = n + 1 by omega, show o + (i + 1) + n - (o + (i + 1)) = n by omega, List.take_succ_cons, Nat.add_assoc];simp
   rw [e]; exact hK
theorem eI {b o n : Nat} {cs : Array Value} {ty : TypeId} {fr : Nat × Nat} {fl : Bool} (hm : (b, fl, .cells cs ty fr) ∈ L) {K : Array Value → Prop} (h : o + n ≤ cs.size) (hK : K (cs.extract o (o + n))) : wpQ P (loadCells ⟨b, o, none⟩ n) K L :=
 lP hm n 0 #[] (by omega) (by simpa using hK)
end
def Yld (P : Program) (L : Frag) (s : Sem Next) (v : Value) : Prop := wpQ P s (· = .value v) L
theorem Yld.mono {P : Program} {L L' : Frag} {s : Sem Next} {v : Value} (h : Yld P L s v) (hL : ∀ t ∈ L, t ∈ L') : Yld P L' s v := cP (fun _ h => h) hL s h
theorem Yld.go {P : Program} {L : Frag} {s : Sem Next} {v : Value} (h : Yld P L s v) {New : Obj → Prop} {Q : Next → Frag → Prop} (hQ : Q (.value v) L) : wpS P New s Q L := bH (fun a e => by rw [e]; exact hQ) s h
section
variable {P : Program} {L : Frag} {ρ : Operand → Value} {d : Option Tmp} {ty : TypeId} {ps : String} {af : Array Edge} {g : Option (Nat × Bool)}
theorem cG {s : Sem Value} {f : Value → Sem Next} {v : Value} (hf : ∀ v, f v = pure (.value v)) (h : ∀ (K : Value → Prop), K v → wpQ P s K L) : Yld P L (s >>= f) v := by
 unfold Yld;rw [ax];exact h _ (by rw [hf]; rfl)
theorem xT {x : Operand} : Yld P L (execOp ρ ⟨d, .move x, ty, ps, af, g⟩) (ρ x) := rfl
theorem sR {x : Operand} : Yld P L (execOp ρ ⟨d, .assign x, ty, ps, af, g⟩) (ρ x) := rfl
theorem xU {c a b : Operand} {t : Bool} (hc : ρ c = .bool t) : Yld P L (execOp ρ ⟨d, .pick c a b, ty, ps, af, g⟩) (if t then ρ a else ρ b) := by
 show wpQ P (asBool (ρ c) >>= fun t => pure (Next.value (if t then ρ a else ρ b))) (· = .value (if t then ρ a else ρ b)) L;rw [hc]; rfl
theorem oF {x : Operand} {a : Addr} (hx : ρ x = .pointer (some a)) : Yld P L (execOp ρ ⟨d, .nilCheck x, ty, ps, af, g⟩) (.pointer (some a)) := by
 unfold Yld;simp only [execOp, hx]; rfl
theorem mS {x : Operand} {s f b i off : Nat} (hx : ρ x = .pointer (some ⟨b, i, none⟩)) (hf : fieldOff P s f = some off) : Yld P L (execOp ρ ⟨d, .fieldAddr s x f, ty, ps, af, g⟩) (.pointer (some ⟨b, i + off, none⟩)) := by
 refine cG (fun _ => rfl) fun K h => ?_;unfold fieldOff at hf
 split at hf <;> try cases hf
 rename_i fs hu
 split at hf <;> try cases hf
 rename_i fd hfd
 split at hf <;> try cases hf
 rename_i n hn;unfold Instr.fieldAt;rw [ax, aM hu, hx];simp only [hfd];rw [ax, di, ax];unfold fieldPlace;rw [ax, cK hn];simp only [Nat.succ_ne_zero, if_false, Nat.add_eq_zero_iff, Nat.one_ne_zero, and_false];rw [bS, dh];exact h
theorem xV {x : Operand} {t b i : Nat} {v : Value} (hx : ρ x = .pointer (some ⟨b, i, none⟩)) (ht : aggAt P t = some false) (hv : At L b i v) : Yld P L (execOp ρ ⟨d, .load t x, ty, ps, af, g⟩) v := by
 refine cG (fun _ => rfl) fun K h => ?_;unfold Instr.loadAt;rw [hx, ax, di];unfold loadVar;rw [ax, fJ ht];exact mR hv h
theorem qV {x : Operand} {t b i n : Nat} {cs : Array Value} {e : TypeId} {fr : Nat × Nat} {fl : Bool} (hx : ρ x = .pointer (some ⟨b, i, none⟩)) (ht : aggAt P t = some true) (hs : sizeAt P t = some n) (hm : (b, fl, .cells cs e fr) ∈ L) (hi : i + n ≤ cs.size) :
   Yld P L (execOp ρ ⟨d, .load t x, ty, ps, af, g⟩) (.agg (cs.extract i (i + n))) := by
 refine cG (fun _ => rfl) fun K h => ?_;unfold Instr.loadAt;rw [hx, ax, di];unfold loadVar;rw [ax, fJ ht];simp only [if_true];rw [ax, cK hs, ax];exact eI hm hi h
theorem oG {x ix : Operand} {t b o sz : Nat} {len : Nat} {e : TypeId} {k : IntKind} {n : Int} (hx : ρ x = .pointer (some ⟨b, o, none⟩)) (hi : ρ ix = .int k n) (hu : P.underlying t = some (.array len e)) (hs : sizeAt P e = some sz) (h0 : 0 ≤ n) (h1 : n < len) :
   Yld P L (execOp ρ ⟨d, .indexAddr t x ix, ty, ps, af, g⟩) (.pointer (some ⟨b, o + n.toNat * sz, none⟩)) := by
 refine cG (fun _ => rfl) fun K h => ?_;unfold Instr.indexAt;rw [hx, hi];simp only [ax, asIntOf, bS, aM hu, di, pG, cK hs, dh];rw [if_pos ⟨h0, h1⟩];exact h
theorem qW {x ix : Operand} {t b o sz : Nat} {len cap : Nat} {e : TypeId} {k : IntKind} {n : Int} (hx : ρ x = .slice (some ⟨b, o, none⟩) len cap) (hi : ρ ix = .int k n) (hu : P.underlying t = some (.slice e)) (hs : sizeAt P e = some sz) (h0 : 0 ≤ n) (h1 : n < len) :
   Yld P L (execOp ρ ⟨d, .indexAddr t x ix, ty, ps, af, g⟩) (.pointer (some ⟨b, o + n.toNat * sz, none⟩)) := by
 refine cG (fun _ => rfl) fun K h => ?_;unfold Instr.indexAt;rw [hx, hi];simp only [ax, asIntOf, bS, aM hu, pG, cK hs, dh];rw [if_pos ⟨h0, h1⟩];exact h
theorem iX {op : BinOp} {t : TypeId} {x y : Operand} {k k' : IntKind} {a b : Int} : eqGuard op t x y (.int k a) (.int k' b) = pure () := by
 unfold eqGuard;cases op <;> rfl
theorem gh {op : BinOp} {t u : TypeId} {x y : Operand} {k : IntKind} {a b : Int} {v : Value} (hx : ρ x = .int k a) (hy : ρ y = .int k b) (h : binOp op t (.int k a) (.int k b) = pure v) : Yld P L (execOp ρ ⟨d, .binOp op t x y u, ty, ps, af, g⟩) v := by
 refine cG (fun _ => rfl) fun K hQ => ?_;rw [hx, hy, iX];show wpQ P (binOp op t (.int k a) (.int k b)) K L;rw [h]; exact hQ
theorem y6 {t u : TypeId} {x y : Operand} {k : IntKind} {a b : Int} (hx : ρ x = .int k a) (hy : ρ y = .int k b) : Yld P L (execOp ρ ⟨d, .binOp .add t x y u, ty, ps, af, g⟩) (.int k (k.wrap (a + b))) := gh hx hy (by simp [binOp, Op.intArith])
theorem y7 {t u : TypeId} {x y : Operand} {k : IntKind} {a b : Int} (hx : ρ x = .int k a) (hy : ρ y = .int k b) : Yld P L (execOp ρ ⟨d, .binOp .sub t x y u, ty, ps, af, g⟩) (.int k (k.wrap (a - b))) := gh hx hy (by simp [binOp, Op.intArith])
theorem y9 {t u : TypeId} {x y : Operand} {k : IntKind} {a b : Int} (hx : ρ x = .int k a) (hy : ρ y = .int k b) : Yld P L (execOp ρ ⟨d, .binOp .mul t x y u, ty, ps, af, g⟩) (.int k (k.wrap (a * b))) := gh hx hy (by simp [binOp, Op.intArith])
theorem za {t u : TypeId} {x y : Operand} {k : IntKind} {a b : Int} (hx : ρ x = .int k a) (hy : ρ y = .int k b) (hb : b ≠ 0) : Yld P L (execOp ρ ⟨d, .binOp .rem t x y u, ty, ps, af, g⟩) (.int k (a.tmod b)) := gh hx hy (by simp [binOp, Op.intDiv, hb])
theorem zb {t u : TypeId} {x y : Operand} {k : IntKind} {a b : Int} (hx : ρ x = .int k a) (hy : ρ y = .int k b) : Yld P L (execOp ρ ⟨d, .binOp .eql t x y u, ty, ps, af, g⟩) (.bool (a == b)) := gh hx hy (by simp [binOp, Op.intCmp])
theorem zc {t u : TypeId} {x y : Operand} {k : IntKind} {a b : Int} (hx : ρ x = .int k a) (hy : ρ y = .int k b) : Yld P L (execOp ρ ⟨d, .binOp .neq t x y u, ty, ps, af, g⟩) (.bool (a != b)) := gh hx hy (by simp [binOp, Op.intCmp])
theorem zd {t u : TypeId} {x y : Operand} {k : IntKind} {a b : Int} (hx : ρ x = .int k a) (hy : ρ y = .int k b) : Yld P L (execOp ρ ⟨d, .binOp .lss t x y u, ty, ps, af, g⟩) (.bool (decide (a < b))) := gh hx hy (by simp [binOp, Op.intCmp])
theorem ze {t u : TypeId} {x y : Operand} {k : IntKind} {a b : Int} (hx : ρ x = .int k a) (hy : ρ y = .int k b) : Yld P L (execOp ρ ⟨d, .binOp .leq t x y u, ty, ps, af, g⟩) (.bool (decide (a ≤ b))) := gh hx hy (by simp [binOp, Op.intCmp])
theorem zf {t u : TypeId} {x y : Operand} {k : IntKind} {a b : Int} (hx : ρ x = .int k a) (hy : ρ y = .int k b) : Yld P L (execOp ρ ⟨d, .binOp .gtr t x y u, ty, ps, af, g⟩) (.bool (decide (b < a))) := gh hx hy (by simp [binOp, Op.intCmp])
theorem zg {t u : TypeId} {x y : Operand} {k : IntKind} {a b : Int} (hx : ρ x = .int k a) (hy : ρ y = .int k b) : Yld P L (execOp ρ ⟨d, .binOp .geq t x y u, ty, ps, af, g⟩) (.bool (decide (b ≤ a))) := gh hx hy (by simp [binOp, Op.intCmp])
theorem xW {s t : TypeId} {ds : TypeDesc} {x : Operand} {j k : IntKind} {n : Int} (hx : ρ x = .int j n) (hs : P.underlying s = some ds) (ht : P.underlying t = some (.int k)) : Yld P L (execOp ρ ⟨d, .convert s t x, ty, ps, af, g⟩) (.int k (k.wrap n)) := by
 refine cG (fun _ => rfl) fun K h => ?_;unfold convert;rw [hx, ax, aM hs, ax, aM ht];exact h
theorem zh {t : TypeId} {x : Operand} {b : Bool} (hx : ρ x = .bool b) : Yld P L (execOp ρ ⟨d, .unOp .not t x, ty, ps, af, g⟩) (.bool !b) := by
 refine cG (fun _ => rfl) fun K h => ?_;rw [hx]; exact h
theorem zi {t : TypeId} {x : Operand} {k : IntKind} {n : Int} (hx : ρ x = .int k n) : Yld P L (execOp ρ ⟨d, .unOp .neg t x, ty, ps, af, g⟩) (.int k (k.wrap (0 - n))) := by
 refine cG (fun _ => rfl) fun K h => ?_;rw [hx]; exact h
theorem qX {x : Operand} {i : Nat} {vs : Array Value} {v : Value} (hx : ρ x = .tuple vs) (hv : vs[i]? = some v) : Yld P L (execOp ρ ⟨d, .extract x i, ty, ps, af, g⟩) v := by
 refine cG (fun _ => rfl) fun K h => ?_;rw [hx];simp only [Instr.extract, hv]; exact h
theorem jG {f : Fn} {c1 c2 : Array Operand} : Yld P L (execOp ρ ⟨d, .makeFunc f c1 c2, ty, ps, af, g⟩) (.func f (c1.map ρ) (c2.map ρ)) := cG (fun _ => rfl) fun _ h => h
theorem mU {t : TypeId} {x : Operand} {ds : TypeDesc} (ht : P.underlying t = some ds) (hi : ∀ ms, ds ≠ .interface ms) : Yld P L (execOp ρ ⟨d, .makeInterface t x, ty, ps, af, g⟩) (.iface t (ρ x)) := by
 refine cG (fun _ => rfl) fun K h => ?_;unfold Instr.makeInterface;rw [ax, aM ht];cases ds <;> first | exact h | exact absurd rfl (hi _)
theorem eN {t off : Nat} {cs : Array Value} {v : Value} {K : Value → Prop} (hg : aggAt P t = some false) (hv : cs[off]? = some v) (h : K v) : wpQ P (part t cs off) K L := by
 unfold part;rw [ax, fJ hg];simp only [Bool.false_eq_true, if_false, hv];exact h
theorem vm {x : Operand} {s f off n : Nat} {cs : Array Value} {v : Value} (hx : ρ x = .agg cs) (hf : fieldPart P s f = some (off, n, false)) (hv : cs[off]? = some v) : Yld P L (execOp ρ ⟨d, .field s x f, ty, ps, af, g⟩) v := by
 refine cG (fun _ => rfl) fun K h => ?_;unfold fieldPart at hf
 split at hf <;> try cases hf
 rename_i fs hu
 split at hf <;> try cases hf
 rename_i fd hfd
 split at hf <;> try cases hf
 rename_i h1 h2;unfold Instr.field;rw [ax, aM hu, hx];simp only [hfd];exact eN h2 hv h
theorem iL {b : Builtin} {args : Array Operand} {ats : Array TypeId} {s : Array Bool → Sem Value} {v : Value} (hb : ∀ cs, builtin b ats ty cs (args.map ρ) = (s cs >>= fun v => pure (.value v))) (h : ∀ cs (K : Value → Prop), K v → wpQ P (s cs) K L) :
   Yld P L (execOp ρ ⟨d, .call ⟨.builtin b, args, ats⟩, ty, ps, af, g⟩) v := by
 show wpQ P (builtin b ats ty _ (args.map ρ)) _ L;rw [hb, ax];exact h _ _ rfl
theorem vn {x : Operand} {ats : Array TypeId} {t : TypeId} {e : TypeId} {base : Option Addr} {len cap : Nat} (hx : ρ x = .slice base len cap) (ha : ats[0]? = some t) (hu : P.underlying t = some (.slice e)) : Yld P L (execOp ρ ⟨d, .call ⟨.builtin .len, #[x], ats⟩, ty, ps, af, g⟩) (.int .i64 len) := by
 refine iL (s := fun _ => Builtin.len_ ats ty (#[x].map ρ)) (fun _ => rfl) fun _ K h => ?_;unfold Builtin.len_;simp only [ha, List.map_toArray, List.map_cons, List.map_nil, hx, List.getElem?_toArray, List.getElem?_cons_zero];rw [ax, aM hu];exact h
theorem sT {x : Operand} {ats : Array TypeId} {t : TypeId} {s : ByteArray} (hx : ρ x = .string s) (ha : ats[0]? = some t) (hu : P.underlying t = some .string) : Yld P L (execOp ρ ⟨d, .call ⟨.builtin .len, #[x], ats⟩, ty, ps, af, g⟩) (.int .i64 s.size) := by
 refine iL (s := fun _ => Builtin.len_ ats ty (#[x].map ρ)) (fun _ => rfl) fun _ K h => ?_;unfold Builtin.len_;simp only [ha, List.map_toArray, List.map_cons, List.map_nil, hx, List.getElem?_toArray, List.getElem?_cons_zero];rw [ax, aM hu];exact h
theorem zk {x y : Operand} {ats : Array TypeId} {k k' : IntKind} {a b : Int} (hx : ρ x = .int k a) (hy : ρ y = .int k' b) : Yld P L (execOp ρ ⟨d, .call ⟨.builtin .min, #[x, y], ats⟩, ty, ps, af, g⟩) (.int k (if b < a then b else a)) := by
 refine iL (s := fun _ => Builtin.min_ ats ty (#[x, y].map ρ)) (fun _ => rfl) fun _ K h => ?_;unfold Builtin.min_;simp only [List.map_toArray, List.map_cons, List.map_nil, hx, hy, List.foldlM, Builtin.min2];exact h
theorem mV {op : BinOp} {t : TypeId} {x y : Operand} {a b : Option Addr} : eqGuard op t x y (.pointer a) (.pointer b) = pure () := by
 unfold eqGuard;cases op <;> rfl
theorem xe {op : BinOp} {t u e : TypeId} {x y : Operand} {a b : Option Addr} {v : Bool} (hop : op = .eql ∨ op = .neq) (hx : ρ x = .pointer a) (hy : ρ y = .pointer b) (hu : P.underlying t = some (.pointer e))
   (h : ∀ (K : Bool → Prop), K v → wpQ P (Op.equal t (.pointer a) (.pointer b)) K L) : Yld P L (execOp ρ ⟨d, .binOp op t x y u, ty, ps, af, g⟩) (.bool (if op = .eql then v else !v)) := by
 refine cG (fun _ => rfl) fun K hQ => ?_;rw [hx, hy, mV];show wpQ P (binOp op t (.pointer a) (.pointer b)) K L;rcases hop with rfl | rfl
 · show wpQ P (do pure (.bool (← Op.equal t (.pointer a) (.pointer b)))) K L;rw [ax];exact h _ hQ
 · show wpQ P (do pure (.bool (!(← Op.equal t (.pointer a) (.pointer b))))) K L;rw [ax];exact h _ hQ
theorem cX {t : TypeId} {x y : Value} : Op.equal t x y = Op.equalIn (9999 + 1) t x y := rfl
theorem mW {t e : TypeId} {a : Option Addr} {K : Bool → Prop} (hu : P.underlying t = some (.pointer e)) (h : K a.isNone) : wpQ P (Op.equal t (.pointer a) (.pointer none)) K L := by
 rw [cX, Op.equalIn.eq_def];rw [ax, aM hu];cases a <;> exact h
theorem jH {a : Addr} {fl : Bool} {cs : Array Value} {t : TypeId} {fr : Nat × Nat} {K : Unit → Prop} (h : (a.block, fl, .cells cs t fr) ∈ L) (hQ : K ()) : wpQ P (noView a) K L := by
 unfold noView viewAt;rw [ax, ax];refine fK h ?_;simp only [Option.isSome_some, if_true];exact hQ
theorem gi {a : Addr} {fl : Bool} {cs : Array Value} {t : TypeId} {K : Bool → Prop} (h : (a.block, fl, .cells cs t) ∈ L) (hQ : K false) : wpQ P (stringish a) K L := by
 unfold stringish;rw [ax];refine eZ h ?_;simp only [Bool.false_eq_true, if_false];rw [ax];refine fK h ?_;exact eZ (a := { block := a.block, off := cs.size }) h hQ
theorem lQ {a b : Addr} {fl fl' : Bool} {cs cs' : Array Value} {t t' : TypeId} {K : Bool → Prop} (h : (a.block, fl, .cells cs t) ∈ L) (h' : (b.block, fl', .cells cs' t') ∈ L) (hQ : K false) : wpQ P (mayBeOne a b) K L := by
 unfold mayBeOne;rw [ax];refine gi h ?_;rw [ax];refine gi h' ?_;simp only [Bool.false_and, Bool.or_false, ax];refine fK h ?_;refine fK h' ?_;exact hQ
theorem jI {t e n : TypeId} {b i b' i' : Nat} {cs cs' : Array Value} {ty1 ty1' : TypeId} {fl fl' : Bool} {K : Bool → Prop} (hu : P.underlying t = some (.pointer e)) (hs : sizeAt P e = some (n + 1))
   (h1 : (b, fl, .cells cs ty1) ∈ L) (h2 : (b', fl', .cells cs' ty1') ∈ L) (h : K (decide ((b, i) = (b', i')))) : wpQ P (Op.equal t (.pointer (some ⟨b, i, none⟩)) (.pointer (some ⟨b', i', none⟩))) K L := by
 rw [cX, Op.equalIn.eq_def];rw [ax, aM hu];show wpQ P (do if (← sizeOf e) ≠ 0 then sameAddr ⟨b, i, none⟩ ⟨b', i', none⟩ else _) K L;rw [ax, cK hs];simp only [ne_eq, Nat.add_eq_zero_iff, Nat.one_ne_zero, and_false, not_false_eq_true, if_true];unfold sameAddr;by_cases hb : b = b'
 · subst hb;simp only [beq_self_eq_true, if_true];have e0 : ((⟨b, i, none⟩ : Addr) == ⟨b, i', none⟩) = decide ((b, i) = (b, i')) := by
     rw [Bool.eq_iff_iff]; simp [Prod.ext_iff]
   rw [e0]; exact h
 · have hne : (b == b') = false := by simpa using hb
   have hd : decide ((b, i) = (b', i')) = false := by simp [hb]
   rw [hd] at h;simp only [hne, Bool.false_eq_true, if_false];rw [ax];refine eZ h1 ?_;rw [ax];refine eZ h2 ?_;simp only [Bool.and_false, Bool.false_eq_true, if_false];rw [ax];refine jH h1 ?_;rw [ax];refine jH h2 ?_;rw [ax];refine lQ h1 h2 ?_;exact h
theorem vo {t u e : TypeId} {x y : Operand} {a : Option Addr} (hx : ρ x = .pointer a) (hy : ρ y = .pointer none) (hu : P.underlying t = some (.pointer e)) : Yld P L (execOp ρ ⟨d, .binOp .eql t x y u, ty, ps, af, g⟩) (.bool a.isNone) :=
 xe (.inl rfl) hx hy hu fun _ h => mW hu h
theorem sU {t u e n : TypeId} {x y : Operand} {b i b' i' : Nat} {cs cs' : Array Value} {ty1 ty1' : TypeId} {fl fl' : Bool} (hx : ρ x = .pointer (some ⟨b, i, none⟩)) (hy : ρ y = .pointer (some ⟨b', i', none⟩)) (hu : P.underlying t = some (.pointer e)) (hs : sizeAt P e = some (n + 1))
   (h1 : (b, fl, .cells cs ty1) ∈ L) (h2 : (b', fl', .cells cs' ty1') ∈ L) : Yld P L (execOp ρ ⟨d, .binOp .eql t x y u, ty, ps, af, g⟩) (.bool (decide ((b, i) = (b', i')))) :=
 xe (.inl rfl) hx hy hu fun _ h => jI hu hs h1 h2 h
theorem vq {op : BinOp} {t u : TypeId} {x y : Operand} {v : Value} {b : Bool} {ms : Array (String × TypeId)} (hop : op = .eql ∨ op = .neq) (hv : (v = .nilIface ∧ b = true) ∨ (∃ s w, v = .iface s w ∧ b = false)) (hx : ρ x = v) (hy : y = .const .nilIface) (hy' : ρ y = .nilIface) (hu : P.underlying t = some (.interface ms)) :
   Yld P L (execOp ρ ⟨d, .binOp op t x y u, ty, ps, af, g⟩) (.bool (if op = .eql then b else !b)) := by
 refine cG (fun _ => rfl) fun K hQ => ?_;have hg : eqGuard op t x y v .nilIface = pure () := by
   unfold eqGuard;rcases hop with rfl | rfl <;> rcases hv with ⟨rfl, _⟩ | ⟨s, w, rfl, _⟩ <;> subst hy <;> simp
 rw [hx, hy', hg];show wpQ P (binOp op t v .nilIface) K L;have he : ∀ (K : Bool → Prop), K b → wpQ P (Op.equal t v .nilIface) K L := fun K hQ => by
   rw [cX, Op.equalIn.eq_def, ax, aM hu];rcases hv with ⟨rfl, rfl⟩ | ⟨s, w, rfl, rfl⟩ <;> exact hQ
 have e1 : binOp op t v .nilIface = if op = .eql then (do pure (.bool (← Op.equal t v .nilIface))) else (do pure (.bool (!(← Op.equal t v .nilIface)))) := by
   rcases hop with rfl | rfl <;> rcases hv with ⟨rfl, _⟩ | ⟨s, w, rfl, _⟩ <;> rfl
 rw [e1];rcases hop with rfl | rfl
 · simp only [if_true, ax]; exact he _ hQ
 · simp only [reduceCtorEq, if_false, ax]; exact he _ hQ
end
section
variable {P : Program} {New : Obj → Prop} {L : Frag} {Q : Next → Frag → Prop} {ρ : Operand → Value} {d : Option Tmp} {ty : TypeId} {ps : String} {af : Array Edge} {g : Option (Nat × Bool)}
theorem bU {v : Value} (h : plainV v = true) : v.cells = #[v] := by cases v <;> first | rfl | cases h
theorem vr {t : TypeId} {x y : Operand} {b i n : Nat} {v : Value} {cs : Array Value} {e : TypeId} (hx : ρ x = .pointer (some ⟨b, i, none⟩)) (hy : ρ y = v) (hs : sizeAt P t = some 1) (hn : L[n]? = some (b, true, .cells cs e)) (hi : i < cs.size) (hp : plainV v = true)
   (hQ : Q .skip (L.set n (b, true, .cells (cs.setIfInBounds i v) e))) : wpS P New (execOp ρ ⟨d, .store t x y, ty, ps, af, g⟩) Q L := by
 show wpS P New (Instr.storeAt t (ρ x) (ρ y) >>= fun _ => pure .skip) Q L;unfold Instr.storeAt storeVar;rw [hx, hy, ar, ar, gP, ar, bP hs, bU hp];simp only [List.size_toArray, List.length_cons, List.length_nil, Nat.zero_add, ne_eq, not_true_eq_false, if_false];refine co hn (by simp; omega) (by simpa using hp) ?_;exact hQ
theorem oH {t : TypeId} {x y : Operand} {b i n m : Nat} {vs : List Value} {cs : Array Value} {e : TypeId} (hx : ρ x = .pointer (some ⟨b, i, none⟩)) (hy : ρ y = .agg vs.toArray) (hs : sizeAt P t = some m) (hm : vs.length = m) (hn : L[n]? = some (b, true, .cells cs e)) (hi : i + vs.length ≤ cs.size) (hp : vs.all plainV = true)
   (hQ : Q .skip (L.set n (b, true, .cells (puts cs i vs) e))) : wpS P New (execOp ρ ⟨d, .store t x y, ty, ps, af, g⟩) Q L := by
 show wpS P New (Instr.storeAt t (ρ x) (ρ y) >>= fun _ => pure .skip) Q L;unfold Instr.storeAt storeVar;rw [hx, hy, ar, ar, gP, ar, bP hs];simp only [Value.cells, List.size_toArray, hm, ne_eq, not_true_eq_false, if_false];exact co hn hi hp hQ
theorem vt {t : TypeId} {z : Value} (hz : zeroAt P t = some z) (hN : New (.cells z.cells t)) (hQ : ∀ b, (∀ t ∈ L, t.1 ≠ b) → Q (.value (.pointer (some ⟨b, 0, none⟩))) ((b, true, .cells z.cells t) :: L)) : wpS P New (execOp ρ ⟨d, .alloc t, ty, ps, af, g⟩) Q L := by
 show wpS P New (Instr.alloc t true (.tuple #[]) >>= fun v => pure (.value v)) Q L;unfold Instr.alloc newVar newRow;rw [ar, ar, cF hz];simp only [ar];exact cf hN hQ
theorem zl {t : TypeId} {x : Operand} {v : Value} (hx : ρ x = v) (hN : New (.cells v.cells t)) (hQ : ∀ b, (∀ t ∈ L, t.1 ≠ b) → Q (.value (.pointer (some ⟨b, 0, none⟩))) ((b, true, .cells v.cells t) :: L)) : wpS P New (execOp ρ ⟨d, .box t x, ty, ps, af, g⟩) Q L := by
 show wpS P New (Instr.box t (ρ x) >>= fun v => pure (.value v)) Q L;unfold Instr.box newVar newRow;rw [hx];simp only [ar];exact cf hN hQ
theorem qY {t : TypeId} (hN : New (.map #[] 0)) (hQ : ∀ b, (∀ t ∈ L, t.1 ≠ b) → Q (.value (.map (some b))) ((b, true, .map #[] 0) :: L)) : wpS P New (execOp ρ ⟨d, .makeMap t none, ty, ps, af, g⟩) Q L := by
 show wpS P New (Instr.makeMap t none >>= fun v => pure (.value v)) Q L;unfold Instr.makeMap;simp only [ar, br];exact cf hN hQ
theorem kO {t e : TypeId} {x : Operand} {v z : Value} (hx : ρ x = v) (hu : P.underlying t = some (.slice e)) (hs : sizeAt P e = some 1) (hz : zeroAt P e = some z) (hzp : plainV z = true) (hp : plainV v = true) (hN : New (.cells #[v] e))
   (hQ : ∀ b, (∀ t ∈ L, t.1 ≠ b) → Q (.value (.slice (some ⟨b, 0, none⟩) 1 1)) ((b, true, .cells #[v] e) :: L)) : wpS P New (execOp ρ ⟨d, .buildSlice t 1 #[(0, x)], ty, ps, af, g⟩) Q L := by
 simp only [execOp, List.map_toArray, List.map_cons, List.map_nil];unfold Instr.buildSlice newRow;have h0 : Instr.fill (fun i => some (i * 1, 1)) ((Array.range (1 * 1)).map (#[z][· % #[z].size]!)) [(0, v)] = some #[v] := by
   have e1 : (Array.range (1 * 1)).map (#[z][· % #[z].size]!) = #[z] := by
     have : Array.range (1 * 1) = #[0] := by decide
     rw [this]; simp
   rw [e1];simp [Instr.fill, bU hp]
 rw [ar, ar, aT hu, hx];simp only [];rw [ar, bP hs];simp only [Nat.one_mul, gt_iff_lt, Nat.reduceLT, Nat.reducePow, if_false, Nat.one_ne_zero];rw [ar, cF hz, ar, br, bU hzp];simp only [Nat.one_mul] at h0;simp only [h0, ar];exact cf hN hQ
theorem k5 (n : Nat) : ∀ (r c : Nat), c ≤ n → Builtin.growBy n r c ≤ 2 * n + 192
 | 0, c, h => by unfold Builtin.growBy; omega
 | r + 1, c, h => by
   unfold Builtin.growBy
   split
   · omega
   · rename_i hc;by_cases h2 : c + (c + 768) / 4 ≤ n
     · exact k5 n r _ h2
     · cases r with
       | zero => unfold Builtin.growBy; omega
       | succ r => unfold Builtin.growBy; rw [if_pos (by omega)]; omega
theorem oI {n c : Nat} (h : c < n) : Builtin.nextslicecap n c ≤ 2 * n + 192 := by
 unfold Builtin.nextslicecap
 split
 · omega
 · split
   · omega
   · exact k5 n 4 c (by omega)
structure Reads (P : Program) (L : Frag) (sz n : Nat) (x : Value) (vs : Array Value) : Prop where
 r : ∀ (New : Obj → Prop) (Q : Array Value → Frag → Prop), Q vs L → wpS P New (Builtin.firstCells sz n x) Q L
theorem dC {sz n len cap : Nat} : Reads P L sz n (.slice none len cap) #[] := ⟨fun _ _ hQ => hQ⟩
theorem cx {b : Builtin} {args : Array Operand} {ats : Array TypeId} {s : Sem Value} (hb : ∀ cs, builtin b ats ty cs (args.map ρ) = (s >>= fun v => pure (.value v))) (h : wpS P New s (fun v L' => Q (.value v) L') L) : wpS P New (execOp ρ ⟨d, .call ⟨.builtin b, args, ats⟩, ty, ps, af, g⟩) Q L := by
 show wpS P New (builtin b ats ty _ (args.map ρ)) Q L;rw [hb, ar];exact h
theorem mX {n : Nat} {Q : Unit → Frag → Prop} (h : Q () L) : wpS P New (askRoom n) Q L := by
 unfold askRoom
 split
 · exact ⟨rfl, h⟩
 · exact h
theorem oJ {x y : Operand} {t u e e2 : TypeId} {sz sLen sCap b o n m : Nat} {yb : Option Addr} {yc : Nat} {vs : Array Value} {cs : Array Value} {e' : TypeId} (hx : ρ x = .slice (some ⟨b, o, none⟩) sLen sCap) (hy : ρ y = .slice yb n yc) (hu : P.underlying t = some (.slice e)) (hv : P.underlying u = some (.slice e2)) (hs : sizeAt P e = some sz)
   (hr : Reads P L sz n (.slice yb n yc) vs) (hc : sLen + n ≤ sCap) (hm : L[m]? = some (b, true, .cells cs e')) (ho : o + sLen * sz + vs.size ≤ cs.size) (hp : vs.toList.all plainV = true)
   (hQ : Q (.value (.slice (some ⟨b, o, none⟩) (sLen + n) sCap)) (L.set m (b, true, .cells (puts cs (o + sLen * sz) vs.toList) e'))) : wpS P New (execOp ρ ⟨d, .call ⟨.builtin .append, #[x, y], #[t, u]⟩, ty, ps, af, g⟩) Q L := by
 refine cx (s := Builtin.append_ #[t, u] ty #[.slice (some ⟨b, o, none⟩) sLen sCap, .slice yb n yc]) (fun _ => by simp [builtin, hx, hy]) ?_;unfold Builtin.append_;simp only [List.getElem?_toArray, List.getElem?_cons_zero, List.getElem?_cons_succ];rw [ar, aT hu];simp only [];rw [ar, bP hs];rw [ar, aT hv, ar, br];simp only [Bool.false_eq_true, if_false, Bool.not_false, if_true, Builtin.lenOf];rw [ar, br];simp only [hc, if_true];rw [ar];refine hr.r New _ ?_;rw [ar, dh];exact co hm (by simpa using ho) hp hQ
theorem mY {x y : Operand} {t u e e2 : TypeId} {sz by_ sLen sCap n : Nat} {xb yb : Option Addr} {yc : Nat} {ws vs : Array Value} {z : Value} (hx : ρ x = .slice xb sLen sCap) (hy : ρ y = .slice yb n yc) (hu : P.underlying t = some (.slice e)) (hv : P.underlying u = some (.slice e2)) (hs : sizeAt P e = some sz) (hb : bytesAt P e = some (by_ + 1)) (hz0 : zeroAt P e = some z)
   (hw : Reads P L sz sLen (.slice xb sLen sCap) ws) (hr : Reads P L sz n (.slice yb n yc) vs) (hc : sCap < sLen + n) (hbig : (2 * (sLen + n) + 192) * (by_ + 1) ≤ 281474976710656) (hN : ∀ cs, New (.cells cs e))
   (hQ : ∀ b cap, (∀ t ∈ L, t.1 ≠ b) → sLen + n ≤ cap → cap < 9223372036854775808 → Q (.value (.slice (some ⟨b, 0, none⟩) (sLen + n) cap)) ((b, true, .cells (ws ++ vs ++ Builtin.zeroCells z.cells (cap - (sLen + n))) e) :: L)) : wpS P New (execOp ρ ⟨d, .call ⟨.builtin .append, #[x, y], #[t, u]⟩, ty, ps, af, g⟩) Q L := by
 refine cx (s := Builtin.append_ #[t, u] ty #[.slice xb sLen sCap, .slice yb n yc]) (fun _ => by simp [builtin, hx, hy]) ?_;unfold Builtin.append_;simp only [List.getElem?_toArray, List.getElem?_cons_zero, List.getElem?_cons_succ];obtain ⟨inf, hinf, hby⟩ := Option.map_eq_some_iff.1 hb;rw [ar, aT hu];simp only [];rw [ar, bP hs];rw [ar, aT hv, ar, br];simp only [Bool.false_eq_true, if_false, Bool.not_false, if_true, Builtin.lenOf];rw [ar, br];have h1 : ¬ (sLen + n ≤ sCap) := by omega
 simp only [h1, if_false];rw [ar, dg hinf];have h2 : ¬ (((sLen + n : Nat) : Int) > IntKind.i64.max ∧ (False ∨ inf.bytes = 0)) := by rw [hby]; rintro ⟨_, h | h⟩ <;> simp at h
 simp only [h2, if_false];rw [ar, dg hinf];have h3 : ¬ (Builtin.nextslicecap (sLen + n) sCap * inf.bytes > 2 ^ 48) := by
   rw [hby];have := Nat.mul_le_mul_right (by_ + 1) (oI hc);omega
 simp only [h3, if_false];rw [ar];have hlt : sLen + n < 9223372036854775808 := by
   have : 2 * (sLen + n) + 192 ≤ (2 * (sLen + n) + 192) * (by_ + 1) := Nat.le_mul_of_pos_right _ (by omega);omega
 refine ⟨fun h => by simp [Question.forced] at h, fun _ tp => ?_⟩;have hcap : sLen + n ≤ Question.cut (.appendCap (sLen + n) sCap e) tp ∧ Question.cut (.appendCap (sLen + n) sCap e) tp < 9223372036854775808 := by
   simp only [Question.cut];have := Nat.mod_lt tp (show 2 ^ 63 - (sLen + n) > 0 by omega);omega
 generalize Question.cut (.appendCap (sLen + n) sCap e) tp = cap at hcap ⊢;rw [iK, ar, dg hinf, ar];refine mX ?_;rw [ar];refine hw.r New _ ?_;rw [ar];refine hr.r New _ ?_;rw [ar, cF hz0];simp only [newRow, ar];exact cf (hN _) fun b hb => hQ b cap hb hcap.1 hcap.2
end
section
variable {σ : Type} (F : Fam σ) (P : Program) (main : Bool) (fn : FuncId) (ops : Array Oper) (S : Array Bool → σ → World → Prop) (Q : σ → Exit → Act → World → Prop) (nf : Nat)
def AnyY : Nat → Array Bool → σ → Act → World → Prop
 | 0, ls, s, a, w => Region.ready .any ops ls = [] ∧ Q s .normal a w
 | fuel + 1, ls, s, a, w =>
   (Region.ready .any ops ls = [] → Q s .normal a w) ∧
   ∀ i ∈ Region.ready .any ops ls, OpX F P main fn ops nf i (fun s' a' w' => S (ls.setIfInBounds i true) s' w' ∧ AnyY fuel (ls.setIfInBounds i true) s' a' w') s a w
def Down (ls : Array Bool) : Prop := ls.size = ops.size ∧ ∀ j oj, ops[j]? = some oj → ls.getD j true = true → ∀ e ∈ oj.after, Region.binds .any e = true → ls.getD e.on false = true
end
def hangs (ops : Array Oper) : Nat → Nat → Nat → Bool
 | 0, _, _ => false
 | f + 1, e, i => match ops[e]? with
   | some oe => oe.after.any fun ed => Region.binds .any ed && (ed.on == i || hangs ops f ed.on i)
   | none => false
section
variable {ops : Array Oper} {ls : Array Bool}
theorem lR {i : Nat} (h : ls.getD i false = true) : ls.getD i true = true := by
 simp only [Array.getD_eq_getD_getElem?] at *;cases hx : ls[i]? <;> simp_all
theorem Down.hangs (h : Down ops ls) : ∀ (f e i : Nat), Lo.hangs ops f e i = true → ls.getD e true = true → ls.getD i false = true
 | 0, _, _, hh, _ => by simp [Lo.hangs] at hh
 | f + 1, e, i, hh, he => by
   unfold Lo.hangs at hh
   split at hh
   · rename_i oe hoe;obtain ⟨ed, hed, hb⟩ := Array.any_eq_true'.1 hh;simp only [Bool.and_eq_true, Bool.or_eq_true, beq_iff_eq] at hb;have h1 := h.2 e oe hoe he ed hed hb.1;rcases hb.2 with rfl | h2
     · exact h1
     · exact h.hangs f ed.on i h2 (lR h1)
   · cases hh
theorem mZ {i j : Nat} {d : Bool} (h : ls.getD j d = true) : (ls.setIfInBounds i true).getD j d = true := by
 simp only [Array.getD_eq_getD_getElem?, Array.getElem?_setIfInBounds] at *
 split
 · split <;> simp_all
 · exact h
theorem Down.step (h : Down ops ls) {i : Nat} (hi : i ∈ Region.ready .any ops ls) : Down ops (ls.setIfInBounds i true) := by
 obtain ⟨hun, oi, hoi, hall⟩ := mem_ready.1 hi;refine ⟨by simpa using h.1, fun j oj hoj hj e he hb => ?_⟩;by_cases hji : i = j
 · subst hji;obtain rfl := Option.some.inj (hoi.symm.trans hoj);exact mZ (hall e he hb)
 · refine mZ (h.2 j oj hoj ?_ e he hb);simpa [Array.getD_eq_getD_getElem?, Array.getElem?_setIfInBounds, hji] using hj
theorem jJ : Down ops (Array.replicate ops.size false) := by
 refine ⟨by simp, fun j oj hoj hj => ?_⟩;have : j < ops.size := (Array.getElem?_eq_some_iff.1 hoj).1;simp [Array.getD_eq_getD_getElem?, this] at hj
end
section
variable {σ : Type} {F : Fam σ} {P : Program} {main : Bool} {fn : FuncId} {ops : Array Oper} {S : Array Bool → σ → World → Prop} {Q : σ → Exit → Act → World → Prop} {nf : Nat}
theorem AnyY.rely (hSR : ∀ ls s x y, S ls s x → F.R s x y → S ls s y) (hQR : ∀ s a x y, Q s .normal a x → F.R s x y → Q s .normal a y) :
   ∀ (fuel : Nat) (ls : Array Bool) (s : σ) (a : Act) (w w₁ : World), AnyY F P main fn ops S Q nf fuel ls s a w → F.R s w w₁ → AnyY F P main fn ops S Q nf fuel ls s a w₁
 | 0, _, _, _, _, _, h, r => ⟨h.1, hQR _ _ _ _ h.2 r⟩
 | fuel + 1, ls, s, a, w, w₁, h, r => ⟨fun e => hQR _ _ _ _ (h.1 e) r, fun i hi => by
     rcases h.2 i hi with this | ⟨o, f, args, ats, Post, h1, h2, h3, h4, h5⟩
     · refine .inl ?_;unfold OpC at *
       split
       · simp_all
       · rename_i o ho;simp only [ho] at this
         split
         · rename_i hw; simp only [hw, if_true] at this; exact fun w₂ h₂ => this w₂ ((F.terms s).trans _ _ _ r h₂)
         · rename_i hw; simp only [hw] at this; exact ⟨hSR _ _ _ _ this.1 r, AnyY.rely hSR hQR fuel _ _ _ _ _ this.2 r⟩
     · exact .inr ⟨o, f, args, ats, Post, h1, h2, h3, mH h4 r, h5⟩⟩
theorem oK : ∀ (fuel t : Nat) (ls : Array Bool) (s : σ) (a : Act) (w : World), AnyY F P main fn ops S Q nf fuel ls s a w →
   OpsX F P main fn ops (Region.linearise.go .any ops fuel t ls []) (fuel * (nf + 3) + 1) s Q a w := by
 intro fuel
 induction fuel with
 | zero => intro t ls s a w h; simpa [Region.linearise.go] using bw h.2
 | succ fuel ih =>
   intro t ls s a w h;obtain ⟨h₀, h₁⟩ := h;simp only [Region.linearise.go]
   change OpsX F P main fn ops (match (Region.ready .any ops ls)[t % (Region.ready .any ops ls).length]? with
     | some i => Region.linearise.go .any ops fuel (t / (Region.ready .any ops ls).length) (ls.setIfInBounds i true) [i]
     | none => [].reverse) ((fuel + 1) * (nf + 3) + 1) s Q a w
   cases hi : (Region.ready .any ops ls)[t % (Region.ready .any ops ls).length]? with
   | none =>
     have hnil : Region.ready .any ops ls = [] := by
       cases hr : Region.ready .any ops ls with
       | nil => rfl
       | cons x xs =>
         rw [hr] at hi;have hlt : t % (x :: xs).length < (x :: xs).length := Nat.mod_lt _ (by simp);simp at hi;simp at hlt;omega
     exact eL (by simpa using bw (h₀ hnil)) (by omega)
   | some i =>
     simp only [];rw [linearise_go_acc, List.reverse_singleton, List.singleton_append];have := mJ (mI (fun s' a' w' x => ih (t / (Region.ready .any ops ls).length) _ s' a' w' x.2) (h₁ i (List.mem_of_getElem? hi)));exact eL this (by rw [Nat.succ_mul]; omega)
theorem vu {j : Nat} {oi oj : Oper} {v : Value} (hj : ops[j]? = some oj) (hap : oi.apart ops oj = true)
   (hsj : ∀ cs b, oj.op ≠ .select cs b) {K : σ → Act → World → Prop} {s : σ} {a : Act} {w : World} (h : OpX F P main fn ops nf j K s (a.put oi.dst v) w) :
   OpX F P main fn ops nf j (fun s' a' w' => (∃ u, a' = a.put oj.dst u) ∧ K s' (a'.put oi.dst v) w') s a w := by
 obtain ⟨h1, h2, h3⟩ := Oper.apart_spec hap;rcases h with h | ⟨o, f, args, ats, Post, g1, g2, g3, g4, g5⟩
 · refine .inl ?_;unfold OpC at *;simp only [hj] at *;rw [wanted_put oj a oi.dst v h1] at h
   split
   · rename_i hw;simp only [hw, if_true] at h;intro w₁ h₁;have h := h w₁ h₁;unfold listed at *;rw [execOp_put oj hsj a oi.dst v h1] at h;generalize (execOp a.eval oj).run P w₁ = r at *;cases r with
     | ok n w' =>
       cases n <;> simp only [uponK] at h ⊢
       case value u => exact ⟨h.1, ⟨u, rfl⟩, by rw [← Act.put_comm a v u h2]; exact h.2⟩
       case skip => exact ⟨h.1, ⟨_, rfl⟩, by rw [← Act.put_comm a v undef h2]; exact h.2⟩
     | halt x w' => simp only [uponK] at h
   · rename_i hw;simp only [hw] at h;exact ⟨⟨_, rfl⟩, by rw [← Act.put_comm a v undef h2]; exact h⟩
 · obtain rfl : oj = o := Option.some.inj (hj.symm.trans g1);refine .inr ⟨oj, f, args, ats, Post, hj, by rw [wanted_put oj a oi.dst v h1] at g2; exact g2, g3, ?_, fun s' u w' hp => ⟨⟨u, rfl⟩, by rw [← Act.put_comm a v u h2]; exact g5 s' u w' hp⟩⟩;have : args.map (a.put oi.dst v).eval = args.map a.eval := by
     apply Array.map_congr_left;intro x hx;refine Act.eval_put fun d hd hxd => h1 d hd ?_;subst hxd;refine List.mem_append_left _ (List.mem_filterMap.2 ⟨.tmp d, ?_, rfl⟩);simp [g3, Op.operands, Call.operands, hx]
   rw [this] at g4;exact g4
def YY (F : Fam σ) (P : Program) (fn : FuncId) (ops : Array Oper) (S : Array Bool → σ → World → Prop) (i : Nat) (oi : Oper) (v : Value) (a : Act) : Prop :=
 ∀ ls, Down ops ls → ls.getD i true = false → YieldsX F P fn ops (S ls) oi v a
theorem oL (hSR : ∀ ls s x y, S ls s x → F.R s x y → S ls s y) (hQR : ∀ s a x y, Q s .normal a x → F.R s x y → Q s .normal a y) {i : Nat} {oi : Oper} {v : Value} (hi : ops[i]? = some oi)
   (hsel : ∀ (j : Nat) (o : Oper) cs b, ops[j]? = some o → o.op ≠ .select cs b) (hSi : ∀ ls s w, S ls s w ↔ S (ls.setIfInBounds i true) s w) :
   ∀ (fuel : Nat) (ls : Array Bool) (s : σ) (a : Act) (w : World), Down ops ls →
     (∀ j oj, ops[j]? = some oj → j ≠ i → ls.getD j true = false → (∀ e ∈ oj.after, Region.binds .any e = true → e.on ≠ i) → oi.apart ops oj = true) →
     i ∈ Region.ready .any ops ls → YY F P fn ops S i oi v a → S ls s w →
     AnyY F P main fn ops S Q nf fuel (ls.setIfInBounds i true) s (a.put oi.dst v) w → AnyY F P main fn ops S Q nf (fuel + 1) ls s a w := by
 have hK : ∀ fuel ls, ∀ s a x y, (S ls s x ∧ AnyY F P main fn ops S Q nf fuel ls s a x) → F.R s x y → (S ls s y ∧ AnyY F P main fn ops S Q nf fuel ls s a y) :=
   fun fuel ls s a x y h r => ⟨hSR _ _ _ _ h.1 r, AnyY.rely hSR hQR fuel ls s a x y h.2 r⟩
 intro fuel
 induction fuel with
 | zero =>
   intro ls s a w hD _ hr hy hS H;refine ⟨fun h => (by rw [h] at hr; cases hr), fun j hj => ?_⟩;have hun := (mem_ready.1 hr).1;by_cases hji : j = i
   · subst hji; exact (hy ls hD hun).opX (hSR ls) hi (hK _ _) hS ⟨(hSi _ _ _).1 hS, H⟩
   · have := ready_mono hj hji;rw [H.1] at this;cases this
 | succ fuel ih =>
   intro ls s a w hD hfree hr hy hS H;have hun := (mem_ready.1 hr).1;refine ⟨fun h => (by rw [h] at hr; cases hr), fun j hj => ?_⟩;by_cases hji : j = i
   · subst hji; exact (hy ls hD hun).opX (hSR ls) hi (hK _ _) hS ⟨(hSi _ _ _).1 hS, H⟩
   · have h1 := H.2 j (ready_mono hj hji);obtain ⟨hjun, oj, hoj, hall⟩ := mem_ready.1 hj;have hnot : ∀ e ∈ oj.after, Region.binds .any e = true → e.on ≠ i := fun e he hb heq => by
       have h1 := hall e he hb;have h0 := (mem_ready.1 hr).1;rw [heq] at h1;rcases Nat.lt_or_ge i ls.size with h' | h'
       · simp [h'] at h0 h1; rw [h0] at h1; cases h1
       · simp [Array.getElem?_eq_none h'] at h1
     have hap := hfree j oj hoj hji hjun hnot;obtain ⟨g1, g2, g3⟩ := Oper.apart_spec hap;have h2 := vu hoj hap (fun cs b => hsel j oj cs b hoj) h1
     have hfree' : ∀ k ok, ops[k]? = some ok → k ≠ i → (ls.setIfInBounds j true).getD k true = false →
         (∀ e ∈ ok.after, Region.binds .any e = true → e.on ≠ i) → oi.apart ops ok = true := fun k ok hk hki hun hno => by
       refine hfree k ok hk hki ?_ hno;by_cases hjk : j = k
       · subst hjk; exact hjun
       · rw [getD_set_ne true hjk] at hun; exact hun
     have hun' : (ls.setIfInBounds j true).getD i true = false := by rw [getD_set_ne true hji]; exact hun
     refine mI (fun s' a' w' h3 => ?_) h2;obtain ⟨⟨u, rfl⟩, h4, h5⟩ := h3;have hS' : S (ls.setIfInBounds j true) s' w' := by
       rw [hSi, Array.setIfInBounds_comm _ _ hji];exact h4
     refine ⟨hS', ih (ls.setIfInBounds j true) s' _ w' (hD.step hj) hfree' (ready_mono hr (Ne.symm hji)) (fun ls' d' u' s => (hy ls' d' u' s).of_same (execOp_put oi (fun cs b => hsel i oi cs b hi) a oj.dst u g3) (wanted_put oi a oj.dst u g3)) hS' ?_⟩;rw [Array.setIfInBounds_comm _ _ hji];exact h5
theorem iM (hSR : ∀ ls s x y, S ls s x → F.R s x y → S ls s y) (hQR : ∀ s a x y, Q s .normal a x → F.R s x y → Q s .normal a y) {i : Nat} {oi : Oper} {v : Value} {fuel : Nat} {ls : Array Bool} {s : σ} {a : Act} {w : World} (hi : ops[i]? = some oi)
   (hs : Region.noSelect ops = true) (hf : Region.free .any ops ls i = true) (hr : (Region.ready .any ops ls).contains i = true) (hD : Down ops ls) (hSi : ∀ ls s w, S ls s w ↔ S (ls.setIfInBounds i true) s w)
   (hy : YY F P fn ops S i oi v a) (hS : S ls s w) (h : AnyY F P main fn ops S Q nf fuel (ls.setIfInBounds i true) s (a.put oi.dst v) w) : AnyY F P main fn ops S Q nf (fuel + 1) ls s a w :=
 oL hSR hQR hi (Region.noSelect_spec hs) hSi fuel ls s a w hD (Region.free_spec hi hf) (by simpa using hr) hy hS h
theorem gR {rs : List Nat} {fuel : Nat} {ls : Array Bool} {s : σ} {a : Act} {w : World} (hr : Region.ready .any ops ls = rs) (hne : rs ≠ [])
   (h : ∀ i ∈ rs, OpX F P main fn ops nf i (fun s' a' w' => S (ls.setIfInBounds i true) s' w' ∧ AnyY F P main fn ops S Q nf fuel (ls.setIfInBounds i true) s' a' w') s a w) : AnyY F P main fn ops S Q nf (fuel + 1) ls s a w :=
 ⟨fun h0 => absurd (hr ▸ h0) hne, hr ▸ h⟩
theorem k6 {ls : Array Bool} {s : σ} {a : Act} {w : World} (hr : Region.ready .any ops ls = []) (h : Q s .normal a w) : ∀ fuel, AnyY F P main fn ops S Q nf fuel ls s a w
 | 0 => ⟨hr, h⟩
 | _ + 1 => ⟨fun _ => h, fun i hi => by rw [hr] at hi; cases hi⟩
theorem jK {s : σ} (hd : LetsDraw (F.D s)) {id : Nat} {a : Act} {w : World} (hm : P.follows .mixedOrders = true)
   (h : ∀ w₁, F.R s w w₁ → AnyY F P main fn ops S Q nf ops.size (Array.replicate ops.size false) s a { w₁ with drawn := w₁.drawn + 1 }) : wpX F P main fn (Code.region id ops true) (ops.size * (nf + 3) + 1 + 1) s Q a w :=
 fun b k cs m hb hk hc => Goes.step rfl fun w₁ h₁ => by
   rw [stepG_region_draw];refine ⟨hd _, ?_⟩;have := oK ops.size (w₁.tape w₁.drawn (.order b.fn id)) _ s a _ (h w₁ h₁) b k cs m hb hk hc;simp only [Region.schedule, hm, Bool.true_or, if_true];exact this
end
section
variable {σ : Type} {F : Fam σ} (Δ : ∀ s, Dom (F.R s) (F.D s)) (P : Program) (main : Bool) (fn : FuncId) (ops : Array Oper) (Q : σ → Exit → Act → Frag → Prop) (nf : Nat)
def Pre (R L0 : Frag) (e : Nat) (s0 : σ) (ls : Array Bool) (s : σ) (L : Frag) : Prop := s = s0 ∧ (∀ t ∈ R, t ∈ L) ∧ (ls.getD e true = false → ∀ t ∈ L0, t ∈ L)
def AnyL (R L0 : Frag) (e : Nat) (s0 : σ) (fuel : Nat) (ls : Array Bool) (s : σ) (a : Act) (L : Frag) : Prop :=
 Down ops ls → ∀ w, (Δ s).Own L w → AnyY F P main fn ops (fun ls s w => ∃ L, (Δ s).Own L w ∧ Pre R L0 e s0 ls s L) (up Δ Q) nf fuel ls s a w
end
section
variable {σ : Type} {F : Fam σ} {Δ : ∀ s, Dom (F.R s) (F.D s)} {P : Program} {main : Bool} {fn : FuncId} {ops : Array Oper} {Q : σ → Exit → Act → Frag → Prop} {nf : Nat} {R L0 : Frag} {e : Nat} {s0 s : σ} {fuel : Nat} {ls : Array Bool} {a : Act} {L : Frag}
theorem m0 {ls : Array Bool} {s : σ} {x y : World} (h : ∃ L, (Δ s).Own L x ∧ Pre R L0 e s0 ls s L) (r : F.R s x y) : ∃ L, (Δ s).Own L y ∧ Pre R L0 e s0 ls s L := by
 obtain ⟨L, h1, h2⟩ := h;exact ⟨L, (Δ s).rely h1 r, h2⟩
theorem vv {s : σ} {x : Exit} {a : Act} {w w₁ : World} (h : up Δ Q s x a w) (r : F.R s w w₁) : up Δ Q s x a w₁ := by
 obtain ⟨L, h1, h2⟩ := h;exact ⟨L, (Δ s).rely h1 r, h2⟩
theorem sV (R : Frag) (e : Nat) {id : Nat} (hm : P.follows .mixedOrders = true) (h : AnyL Δ P main fn ops Q nf R L e s ops.size (Array.replicate ops.size false) s a L) : wpL Δ P main fn (.region id ops true) (ops.size * (nf + 3) + 1 + 1) s Q a L := by
 intro w hO;refine jK (S := fun ls s' w => ∃ L', (Δ s').Own L' w ∧ Pre R L e s ls s' L') (Δ s).ld hm fun w₁ h₁ => h jJ _ ((Δ s).draw ((Δ s).rely hO h₁)).1
theorem jL : ∀ (s : σ) (a : Act) (x y : World), up Δ Q s .normal a x → F.R s x y → up Δ Q s .normal a y := fun _ _ _ _ h r => vv h r
theorem k7 {i : Nat} {oi : Oper} {v : Value} {Lr : Frag} (hi : ops[i]? = some oi) (hs : Region.noSelect ops = true) (hf : Region.free .any ops ls i = true) (hr : (Region.ready .any ops ls).contains i = true) (hie : i ≠ e) (hr0 : Lr = R ∨ (Lr = L0 ∧ hangs ops ops.size e i = true))
   (hP : Pre R L0 e s0 ls s L) (hw : Region.wanted oi (yielded ops a.tmps) = true) (hy : Yld P Lr (execOp a.eval oi) v)
   (h : AnyL Δ P main fn ops Q nf R L0 e s0 fuel (ls.setIfInBounds i true) s (a.put oi.dst v) L) : AnyL Δ P main fn ops Q nf R L0 e s0 (fuel + 1) ls s a L := by
 intro hD w hO;have hrm : i ∈ Region.ready .any ops ls := by simpa using hr
 refine iM (fun _ _ _ _ h r => m0 h r) jL hi hs hf hr hD (fun ls s w => ?_) (fun ls' hD' hun s' => .inl ⟨hw, fun w' ⟨L', hO', h1, h2, h3⟩ => ?_⟩) ⟨L, hO, hP⟩ (h (hD.step hrm) w hO)
 · refine exists_congr fun L' => and_congr_right fun _ => ?_;unfold Pre;rw [getD_set_ne true hie]
 · have hsub : ∀ t ∈ Lr, t ∈ L' := by
     rcases hr0 with rfl | ⟨rfl, hh⟩
     · exact h2
     · refine h3 ?_;cases he : ls'.getD e true with
       | false => rfl
       | true =>
         have := hD'.hangs _ _ _ hh he;rw [lR this] at hun;cases hun
   obtain ⟨q1, q2⟩ := lO (Δ s') hO' (hy.mono hsub);exact ⟨q1, (Δ s').dd ((Δ s').gr w') fun e he => q2 e (mem_listed he)⟩
theorem qZ {i : Nat} {oi : Oper} (hi : ops[i]? = some oi) (hs : Region.noSelect ops = true) (hf : Region.free .any ops ls i = true) (hr : (Region.ready .any ops ls).contains i = true) (hie : i ≠ e)
   (hP : Pre R L0 e s0 ls s L) (hw : Region.wanted oi (yielded ops a.tmps) = false)
   (h : AnyL Δ P main fn ops Q nf R L0 e s0 fuel (ls.setIfInBounds i true) s (a.put oi.dst undef) L) : AnyL Δ P main fn ops Q nf R L0 e s0 (fuel + 1) ls s a L := by
 intro hD w hO;have hrm : i ∈ Region.ready .any ops ls := by simpa using hr
 refine iM (fun _ _ _ _ h r => m0 h r) jL hi hs hf hr hD (fun ls s w => ?_) (fun ls' hD' hun s' => .inr ⟨hw, rfl⟩) ⟨L, hO, hP⟩ (h (hD.step hrm) w hO);refine exists_congr fun L' => and_congr_right fun _ => ?_;unfold Pre;rw [getD_set_ne true hie]
theorem pH {i : Nat} {o : Oper} (hr : Region.ready .any ops ls = [i]) (hi : ops[i]? = some o) (hw : Region.wanted o (yielded ops a.tmps) = true)
   (h : wpS P (Δ s).New (execOp a.eval o) (fun x L' => onNext o a (fun a' => Pre R L0 e s0 (ls.setIfInBounds i true) s L' ∧ AnyL Δ P main fn ops Q nf R L0 e s0 fuel (ls.setIfInBounds i true) s a' L') x) L) : AnyL Δ P main fn ops Q nf R L0 e s0 (fuel + 1) ls s a L := by
 intro hD w hO;have hrm : i ∈ Region.ready .any ops ls := by simp [hr]
 refine gR hr (by simp) fun j hj => ?_;obtain rfl : j = i := by simpa using hj
 refine .inl ?_;unfold OpC;simp only [hi, hw, if_true];intro w₁ h₁;obtain ⟨x, w', hrun, hg, he, L', hL, hx⟩ := oC (Δ s) ((Δ s).rely hO h₁) h;exact lM (Δ := Δ) (s := s) (KL := fun a' L' => Pre R L0 e s0 (ls.setIfInBounds j true) s L' ∧ AnyL Δ P main fn ops Q nf R L0 e s0 fuel (ls.setIfInBounds j true) s a' L') hrun hL hx fun a' k => ⟨(Δ s).dd hg fun e hm => he e (mem_listed hm), ⟨L', hL, k.1⟩, k.2 (hD.step hrm) _ hL⟩
theorem q6 {i : Nat} {o : Oper} {f : FuncId} {args : Array Operand} {ats : Array TypeId} {Post : σ → Value → Frag → Prop} (hr : Region.ready .any ops ls = [i]) (hi : ops[i]? = some o) (hw : Region.wanted o (yielded ops a.tmps) = true)
   (hop : o.op = .call { callee := .value (.func f), args, argTypes := ats }) (hcall : CallsL Δ P main f (args.map a.eval) nf s L Post)
   (h : ∀ s' v L', Post s' v L' → Pre R L0 e s0 (ls.setIfInBounds i true) s' L' ∧ AnyL Δ P main fn ops Q nf R L0 e s0 fuel (ls.setIfInBounds i true) s' (a.put o.dst v) L') : AnyL Δ P main fn ops Q nf R L0 e s0 (fuel + 1) ls s a L := by
 intro hD w hO;have hrm : i ∈ Region.ready .any ops ls := by simp [hr]
 refine gR hr (by simp) fun j hj => ?_;obtain rfl : j = i := by simpa using hj
 exact .inr ⟨o, f, args, ats, _, hi, hw, hop, hcall w hO, fun s' v w' ⟨L', hL, hp⟩ => ⟨⟨L', hL, (h s' v L' hp).1⟩, (h s' v L' hp).2 (hD.step hrm) _ hL⟩⟩
theorem sW {i j : Nat} (hr : Region.ready .any ops ls = [i, j])
   (h1 : ∀ (w : World), (Δ s).Own L w → Down ops ls → OpX F P main fn ops nf i (fun s' a' w' => (∃ L', (Δ s').Own L' w' ∧ Pre R L0 e s0 (ls.setIfInBounds i true) s' L') ∧ AnyY F P main fn ops (fun ls s w => ∃ L, (Δ s).Own L w ∧ Pre R L0 e s0 ls s L) (up Δ Q) nf fuel (ls.setIfInBounds i true) s' a' w') s a w)
   (h2 : ∀ (w : World), (Δ s).Own L w → Down ops ls → OpX F P main fn ops nf j (fun s' a' w' => (∃ L', (Δ s').Own L' w' ∧ Pre R L0 e s0 (ls.setIfInBounds j true) s' L') ∧ AnyY F P main fn ops (fun ls s w => ∃ L, (Δ s).Own L w ∧ Pre R L0 e s0 ls s L) (up Δ Q) nf fuel (ls.setIfInBounds j true) s' a' w') s a w) :
   AnyL Δ P main fn ops Q nf R L0 e s0 (fuel + 1) ls s a L := by
 intro hD w hO;refine gR hr (by simp) fun k hk => ?_;simp only [List.mem_cons, List.not_mem_nil, or_false] at hk;rcases hk with rfl | rfl
 · exact h1 w hO hD
 · exact h2 w hO hD
theorem vw (h : (L.map (·.1)).Nodup → AnyL Δ P main fn ops Q nf R L0 e s0 fuel ls s a L) : AnyL Δ P main fn ops Q nf R L0 e s0 fuel ls s a L := fun hD w hO => h ((Δ s).nd hO) hD w hO
theorem q8 (hr : Region.ready .any ops ls = []) (h : Q s .normal a L) : AnyL Δ P main fn ops Q nf R L0 e s0 fuel ls s a L := fun _ _ hO => k6 hr ⟨L, hO, h⟩ fuel
end
end Go.Lo
