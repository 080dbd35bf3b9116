/-
  Part 3 of the proof.
  No condition but those that each statement names.
-/
import Derived.Test.YtejkelcaljmnoaaGreatDoorHy02
import Derived.KernelRfl
import Derived.Laws.Externs
set_option maxRecDepth 100000
set_option maxHeartbeats 4000000
set_option linter.unusedVariables false
set_option linter.unusedSimpArgs false
set_option linter.unusedSectionVars false
namespace Go.Lo
open Go.Conc Go.Hx
section
variable {σ : Type} {F : Fam σ} (Δ : ∀ s, Dom (F.R s) (F.D s)) (P : Program) (main : Bool) (fn : FuncId)
def up (Q : σ → Exit → Act → Frag → Prop) : σ → Exit → Act → World → Prop := fun s e a w => ∃ L, (Δ s).Own L w ∧ Q s e a L
def upV (Q : σ → Value → Frag → Prop) : σ → Value → World → Prop := fun s v w => ∃ L, (Δ s).Own L w ∧ Q s v L
def wpL (c : Code) (n : Nat) (s : σ) (Q : σ → Exit → Act → Frag → Prop) (a : Act) (L : Frag) : Prop := ∀ w, (Δ s).Own L w → wpX F P main fn c n s (up Δ Q) a w
def OpsL (ops : Array Oper) (todo : List Nat) (n : Nat) (s : σ) (Q : σ → Exit → Act → Frag → Prop) (a : Act) (L : Frag) : Prop := ∀ w, (Δ s).Own L w → OpsX F P main fn ops todo n s (up Δ Q) a w
def LoopL (c : Code) (n : Nat) (s : σ) (Q : σ → Exit → Act → Frag → Prop) (a : Act) (L : Frag) : Prop := ∀ w, (Δ s).Own L w → LoopX F P main fn c n s (up Δ Q) a w
def CallsL (f : FuncId) (args : Array Value) (n : Nat) (s : σ) (L : Frag) (Post : σ → Value → Frag → Prop) : Prop := ∀ w, (Δ s).Own L w → CallsX F P main f args n s w (upV Δ Post)
end
section
variable {σ : Type}
def thenL (K : σ → Act → Frag → Prop) (Q : σ → Exit → Act → Frag → Prop) : σ → Exit → Act → Frag → Prop
 | s, .normal, a, L => K s a L
 | s, e, a, L => Q s e a L
def inBlockL (id : Nat) (Q : σ → Exit → Act → Frag → Prop) : σ → Exit → Act → Frag → Prop
 | s, .exit id', a, L => if id' = id then Q s .normal a L else Q s (.exit id') a L
 | s, e, a, L => Q s e a L
def bodyL (P : Program) (g : Func) (Post : σ → Value → Frag → Prop) : σ → Exit → Act → Frag → Prop
 | s, .normal, a, L | s, .ret, a, L => a.defers = [] ∧ ∃ v, ResultsC P g a.tmps v ∧ Post s v L
 | _, _, _, _ => False
def onNext (o : Oper) (a : Act) (K : Act → Prop) : Next → Prop
 | .value v => K (a.put o.dst v)
 | .skip => K (a.put o.dst undef)
 | _ => False
end
section
variable {σ : Type} {F : Fam σ} {Δ : ∀ s, Dom (F.R s) (F.D s)} {P : Program} {main : Bool} {fn : FuncId} {Q : σ → Exit → Act → Frag → Prop} {s : σ} {a : Act} {L : Frag}
theorem lQ {K : σ → Act → Frag → Prop} {K' : σ → Act → World → Prop} (h : ∀ s a L w, (Δ s).Own L w → K s a L → K' s a w) {s : σ} {e : Exit} {a : Act} {w : World} (q : up Δ (thenL K Q) s e a w) : ThenX K' (up Δ Q) s e a w := by
 obtain ⟨L, hO, q⟩ := q;cases e <;> first | exact h _ _ _ _ hO q | exact ⟨L, hO, q⟩
theorem cY {Q' : σ → Exit → Act → Frag → Prop} {c : Code} {n : Nat} (h : wpL Δ P main fn c n s Q a L) (hq : ∀ s e a L, Q s e a L → Q' s e a L) : wpL Δ P main fn c n s Q' a L :=
 fun w hO => eI (h w hO) fun s e a w ⟨L, hL, q⟩ => ⟨L, hL, hq _ _ _ _ q⟩
theorem m6 {c : Code} {n n' : Nat} (h : wpL Δ P main fn c n s Q a L) (hn : n ≤ n') : wpL Δ P main fn c n' s Q a L := fun w hO => ta (h w hO) hn
theorem rA {ops : Array Oper} {todo : List Nat} {n n' : Nat} (h : OpsL Δ P main fn ops todo n s Q a L) (hn : n ≤ n') : OpsL Δ P main fn ops todo n' s Q a L := fun w hO => eH (h w hO) hn
theorem yq {c : Code} {n : Nat} (h : (L.map (·.1)).Nodup → wpL Δ P main fn c n s Q a L) : wpL Δ P main fn c n s Q a L := fun w hO => h ((Δ s).nd hO) w hO
theorem vL {ops : Array Oper} {todo : List Nat} {n : Nat} (h : (L.map (·.1)).Nodup → OpsL Δ P main fn ops todo n s Q a L) : OpsL Δ P main fn ops todo n s Q a L := fun w hO => h ((Δ s).nd hO) w hO
theorem vM {x y : Code} {n₁ n₂ : Nat} (h : wpL Δ P main fn x n₁ s (thenL (fun s' a' L' => wpL Δ P main fn y n₂ s' Q a' L') Q) a L) : wpL Δ P main fn (.seq x y) (n₁ + n₂ + 1) s Q a L :=
 fun w hO => bW (eI (h w hO) fun _ _ _ _ q => lQ (fun _ _ _ _ hO k => k _ hO) q)
theorem tA {c : Operand} {x y : Code} {t : Bool} {n : Nat} (hc : a.eval c = .bool t) (h : wpL Δ P main fn (if t then x else y) n s Q a L) : wpL Δ P main fn (.cond c x y) (n + 1) s Q a L := fun w hO => fm hc (h w hO)
theorem rB {id : Nat} {c : Code} {n : Nat} (h : wpL Δ P main fn c n s (inBlockL id Q) a L) : wpL Δ P main fn (.block id c) (n + 2) s Q a L :=
 fun w hO => dV (eI (h w hO) fun s' e a' w' ⟨L', hL, q⟩ => by
   cases e with
   | exit id' =>
     simp only [inBlockL] at q;simp only [Exit.inBlock]
     split
     · rename_i e; rw [if_pos e] at q; exact ⟨L', hL, q⟩
     · rename_i e; rw [if_neg e] at q; exact ⟨L', hL, q⟩
   | _ => exact ⟨L', hL, q⟩)
theorem tB (h : Q s .normal a L) : wpL Δ P main fn .skip 1 s Q a L := fun _ hO => iL (wpC_skip (F.terms s) ⟨L, hO, h⟩)
theorem vN (h : Q s .ret a L) : wpL Δ P main fn .ret 1 s Q a L := fun _ hO => iL (wpC_ret (F.terms s) ⟨L, hO, h⟩)
theorem tC {id : Nat} (h : Q s (.exit id) a L) : wpL Δ P main fn (.exit id) 1 s Q a L := fun _ hO => iL (wpC_exit (F.terms s) ⟨L, hO, h⟩)
theorem rC {c : Code} {n₁ n₂ : Nat} (h : wpL Δ P main fn c n₁ s (thenL (fun s' a' L' => LoopL Δ P main fn c n₂ s' Q a' L') Q) a L) : wpL Δ P main fn (.loop c) (n₁ + n₂ + 1) s Q a L :=
 fun w hO => k6 (eI (h w hO) fun _ _ _ _ q => lQ (fun _ _ _ _ hO k => k _ hO) q)
theorem yr {c : Code} {n₁ n₂ : Nat} (h : wpL Δ P main fn c n₁ s (thenL (fun s' a' L' => LoopL Δ P main fn c n₂ s' Q a' L') Q) a L) : LoopL Δ P main fn c (n₁ + n₂ + 1) s Q a L :=
 fun w hO => oN (eI (h w hO) fun _ _ _ _ q => lQ (fun _ _ _ _ hO k => k _ hO) q)
theorem gD {c : Code} {n n' : Nat} (h : LoopL Δ P main fn c n s Q a L) (hn : n ≤ n') : LoopL Δ P main fn c n' s Q a L :=
 fun w hO b k cs m hb hk hc => (h w hO b k cs m hb hk hc).mono (by omega)
theorem lR {c : Code} {n : Nat} (I : Nat → σ → Act → Frag → Prop) (h : ∀ k s a L, I k s a L → wpL Δ P main fn c n s (thenL (fun s' a' L' => ∃ k', k' < k ∧ I k' s' a' L') Q) a L) :
   ∀ (k : Nat) (s : σ) (a : Act) (L : Frag), I k s a L → LoopL Δ P main fn c ((k + 1) * (n + 1)) s Q a L := by
 intro k
 induction k using Nat.strongRecOn with
 | _ k ih =>
   intro s a L hI;refine gD (yr (n₂ := k * (n + 1)) (cY (h k s a L hI) fun s' e a' L' q => ?_)) (by rw [Nat.succ_mul]; omega);cases e with
   | normal =>
     obtain ⟨k', hk', hi⟩ := q;exact gD (ih k' hk' s' a' L' hi) (Nat.mul_le_mul_right _ hk')
   | _ => exact q
theorem tF {c : Code} {n : Nat} (I : Nat → σ → Act → Frag → Prop) (h : ∀ k s a L, I k s a L → wpL Δ P main fn c n s (thenL (fun s' a' L' => ∃ k', k' < k ∧ I k' s' a' L') Q) a L) (k : Nat) (hI : I k s a L) :
   wpL Δ P main fn (.loop c) ((k + 1) * (n + 1)) s Q a L := by
 refine m6 (rC (n₂ := k * (n + 1)) (cY (h k s a L hI) fun s' e a' L' q => ?_)) (by rw [Nat.succ_mul]; omega);cases e with
 | normal =>
   obtain ⟨k', hk', hi⟩ := q;exact gD (lR I h k' s' a' L' hi) (Nat.mul_le_mul_right _ hk')
 | _ => exact q
theorem oT {id : Nat} {ops : Array Oper} {n : Nat} (h : OpsL Δ P main fn ops (List.range ops.size) n s Q a L) : wpL Δ P main fn (.region id ops false) (n + 1) s Q a L := fun w hO => ba (h w hO)
theorem tG {ops : Array Oper} (h : Q s .normal a L) : OpsL Δ P main fn ops [] 1 s Q a L := fun _ hO => bq ⟨L, hO, h⟩
theorem gi {ops : Array Oper} {i : Nat} {rest : List Nat} {o : Oper} {n : Nat} (ho : ops[i]? = some o) (hw : Region.wanted o (yielded ops a.tmps) = false)
   (h : OpsL Δ P main fn ops rest n s Q (a.put o.dst undef) L) : OpsL Δ P main fn ops (i :: rest) (n + 1) s Q a L := fun w hO => gh ho hw (h w hO)
theorem lS {o : Oper} {w w' : World} {x : Next} {K : Act → World → Prop} {KL : Act → Frag → Prop} {L' : Frag} (hr : (execOp a.eval o).run P w = .ok x w') (hL : (Δ s).Own L' w')
   (h : onNext o a (fun a' => KL a' L') x) (hk : ∀ a', KL a' L' → K a' w') : uponK o a K ((execOp a.eval o).run P w) := by
 rw [hr];cases x <;> simp only [onNext] at h <;> first | exact hk _ h | exact h.elim
theorem k9 {ops : Array Oper} {i : Nat} {rest : List Nat} {o : Oper} {n : Nat} (ho : ops[i]? = some o) (hw : Region.wanted o (yielded ops a.tmps) = true)
   (h : wpS P (Δ s).New (execOp a.eval o) (fun x L' => onNext o a (fun a' => OpsL Δ P main fn ops rest n s Q a' L') x) L) : OpsL Δ P main fn ops (i :: rest) (n + 1) s Q a L := by
 intro w hO;refine iM ho hw fun w₁ h₁ => ?_;have hO₁ := (Δ s).rely hO h₁;obtain ⟨x, w', hr, hg, he, L', hL, hx⟩ := oS (Δ s) hO₁ h;refine lS (Δ := Δ) (s := s) (KL := fun a' L' => OpsL Δ P main fn ops rest n s Q a' L') hr hL hx fun a' k => ⟨(Δ s).dd hg fun e hm => he e (mem_listed hm), k _ hL⟩
theorem rF {f : FuncId} {g : Func} {c : Code} {args : Array Value} {n : Nat} {Post : σ → Value → Frag → Prop} (hf : P.funcs[f]? = some g) (hname : (g.name == "runtime.NumGoroutine") = false) (hb : g.body = some c)
   (h : wpL Δ P main f c n s (bodyL P g Post) { tmps := args ++ Array.replicate (g.ntmps - args.size) undef, defers := [] } L) : CallsL Δ P main f args n s L Post :=
 fun w hO => eC hf hname hb (eI (h w hO) fun s' e a' w' ⟨L', hL, q⟩ => by
   cases e <;> first | exact ⟨q.1, q.2.choose, q.2.choose_spec.1, L', hL, q.2.choose_spec.2⟩ | exact q)
theorem rG {ops : Array Oper} {i : Nat} {rest : List Nat} {o : Oper} {f : FuncId} {args : Array Operand} {ats : Array TypeId} {nf n : Nat} {Post : σ → Value → Frag → Prop}
   (ho : ops[i]? = some o) (hw : Region.wanted o (yielded ops a.tmps) = true) (hop : o.op = .call { callee := .value (.func f), args, argTypes := ats })
   (hcall : CallsL Δ P main f (args.map a.eval) nf s L Post) (hnext : ∀ s' v L', Post s' v L' → OpsL Δ P main fn ops rest n s' Q (a.put o.dst v) L') : OpsL Δ P main fn ops (i :: rest) (n + nf + 3) s Q a L :=
 fun w hO => fI ho hw hop (hcall w hO) fun s' v w' ⟨L', hL, hp⟩ => hnext s' v L' hp w' hL
end
abbrev DM {σ : Type} (F : Fam σ) := ∀ s, Dom (F.R s) (F.D s)
def sizeAt (P : Program) (t : TypeId) : Option Nat := (P.info? t).map (·.size)
def bytesAt (P : Program) (t : TypeId) : Option Nat := (P.info? t).map (·.bytes)
def zeroAt (P : Program) (t : TypeId) : Option Value := (P.info? t).bind (·.zero)
def aggAt (P : Program) (t : TypeId) : Option Bool := (P.underlying t).map fun | .struct _ | .array _ _ => true | _ => false
def fieldOff (P : Program) (s f : Nat) : Option Nat :=
 match P.underlying s with
 | some (.struct fs) => match fs[f]? with
   | some fd => match sizeAt P fd.type with
     | some (_ + 1) => some fd.offset
     | _ => none
   | none => none
 | _ => none
def fieldPart (P : Program) (s f : Nat) : Option (Nat × Nat × Bool) :=
 match P.underlying s with
 | some (.struct fs) => match fs[f]? with
   | some fd => match sizeAt P fd.type, aggAt P fd.type with
     | some n, some g => some (fd.offset, n, g)
     | _, _ => none
   | none => none
 | _ => none
section
variable {α β : Type} {P : Program} {New : Obj → Prop} {L : Frag}
theorem aQ {t : TypeId} {d : TypeDesc} {Q : TypeDesc → Frag → Prop} (h : P.underlying t = some d) : wpS P New (underlying t) Q L = Q d L := by
 show (wpS P New (match P.underlying t with | some d => pure d | none => stuck "no such type") Q L) = Q d L;rw [h]; rfl
theorem cZ {t : TypeId} {i : TypeInfo} {Q : TypeInfo → Frag → Prop} (h : P.info? t = some i) : wpS P New (typeInfo t) Q L = Q i L := by
 show (wpS P New (match P.info? t with | some d => pure d | none => stuck "no such type") Q L) = Q i L;rw [h]; rfl
theorem bM {t n : Nat} {Q : Nat → Frag → Prop} (h : sizeAt P t = some n) : wpS P New (sizeOf t) Q L = Q n L := by
 obtain ⟨i, hi, rfl⟩ := Option.map_eq_some_iff.1 h;unfold sizeOf;rw [au, cZ hi]; rfl
theorem cx {t : Nat} {v : Value} {Q : Value → Frag → Prop} (h : zeroAt P t = some v) : wpS P New (zeroValue t) Q L = Q v L := by
 obtain ⟨i, hi, hz⟩ := Option.bind_eq_some_iff.1 h;unfold zeroValue;rw [au, cZ hi, hz]; rfl
theorem gT {a : Addr} {Q : Addr → Frag → Prop} : wpS P New (Instr.sureAddr (.pointer (some a))) Q L = Q a L := rfl
def At (L : Frag) (b i : Nat) (v : Value) : Prop := ∃ fl cs ty fr, (b, fl, Obj.cells cs ty fr) ∈ L ∧ cs[i]? = some v
theorem At.at {b i n : Nat} {v : Value} {fl : Bool} {cs : Array Value} {ty : TypeId} {fr : Nat × Nat} (h : L[n]? = some (b, fl, .cells cs ty fr)) (hv : cs[i]? = some v) : At L b i v := ⟨fl, cs, ty, fr, List.mem_of_getElem? h, hv⟩
theorem tH {b i : Nat} {v : Value} {Q : Value → Frag → Prop} (h : At L b i v) (hQ : Q v L) : wpS P New (load ⟨b, i, none⟩) Q L := by
 obtain ⟨fl, cs, ty, fr, hm, hv⟩ := h;exact ⟨rfl, fl, _, v, hm, by simpa [cellOf] using hv, hQ⟩
theorem rH {b i n : Nat} {cs : Array Value} {ty : TypeId} {v : Value} {Q : Unit → Frag → Prop} (h : L[n]? = some (b, true, .cells cs ty)) (hi : i < cs.size) (hp : plainV v = true) (hQ : Q () (L.set n (b, true, .cells (cs.setIfInBounds i v) ty))) : wpS P New (store ⟨b, i, none⟩ v) Q L :=
 ⟨rfl, hp, rfl, n, cs, ty, (0, 0), h, hi, by simp [frozenOf], hQ⟩
theorem b8 {o : Obj} {Q : Nat → Frag → Prop} (hN : New o) (hQ : ∀ b, (∀ t ∈ L, t.1 ≠ b) → Q b ((b, true, o) :: L)) : wpS P New (newObj o) Q L := ⟨hN, hQ⟩
theorem dY {r : Nat} {o : Obj} {fl : Bool} {Q : Obj → Frag → Prop} (hm : (r, fl, o) ∈ L) (ho : thing o = true) (hQ : Q o L) : wpS P New (getObj r) Q L := ⟨fl, o, hm, ho, hQ⟩
theorem cT {r n : Nat} {o o' : Obj} {Q : Unit → Frag → Prop} (hn : L[n]? = some (r, true, o')) (ho' : thing o' = true) (ho : thing o = true) (hQ : Q () (L.set n (r, true, o))) : wpS P New (setObj r o) Q L := ⟨ho, n, o', hn, ho', hQ⟩
theorem c9 (b o i : Nat) : (⟨b, o, none⟩ : Addr).add i = ⟨b, o + i, none⟩ := by
 unfold Addr.add
 split
 · subst_vars; rfl
 · rfl
theorem lT {b o : Nat} {cs : Array Value} {ty : TypeId} {fr : Nat × Nat} {fl : Bool} (hm : (b, fl, .cells cs ty fr) ∈ L) {Q : Array Value → Frag → Prop} :
   ∀ (n i : Nat) (acc : Array Value), o + i + n ≤ cs.size → Q (acc ++ cs.extract (o + i) (o + i + n)) L → wpS P New (loadCellsFrom ⟨b, o, none⟩ i n acc) Q L := by
 intro n
 induction n with
 | zero =>
   intro i acc h hQ;have e : cs.extract (o + i) (o + i + 0) = #[] := by apply Array.ext'; simp
   rw [e, Array.append_empty] at hQ;exact hQ
 | succ n ih =>
   intro i acc h hQ;have hi : o + i < cs.size := by omega
   unfold loadCellsFrom;rw [au, c9];refine tH (b := b) (i := o + i) ⟨fl, cs, ty, fr, hm, Array.getElem?_eq_getElem hi⟩ ?_;refine ih (i + 1) _ (by omega) ?_;have e : acc.push cs[o + i] ++ cs.extract (o + (i + 1)) (o + (i + 1) + n) = acc ++ cs.extract (o + i) (o + i + (n + 1)) := by
     apply Array.ext';simp only [Array.toList_append, Array.toList_push, Array.toList_extract, List.append_assoc];congr 1;rw [List.extract_eq_take_drop, List.extract_eq_take_drop];have : cs.toList.drop (o + i) = cs[o + i] :: cs.toList.drop (o + i + 1) := by
       rw [List.drop_eq_getElem_cons (by simpa using hi)]; simp
     rw [this, show o + i + (n + 1) - (o + i) = n + 1 by omega, show o + (i + 1) + n - (o + (i + 1)) = n by omega, List.take_succ_cons, Nat.add_assoc];simp
   rw [e]; exact hQ
theorem kR {b o n : Nat} {cs : Array Value} {ty : TypeId} {fr : Nat × Nat} {fl : Bool} (hm : (b, fl, .cells cs ty fr) ∈ L) {Q : Array Value → Frag → Prop} (h : o + n ≤ cs.size) (hQ : Q (cs.extract o (o + n)) L) : wpS P New (loadCells ⟨b, o, none⟩ n) Q L :=
 lT hm n 0 #[] (by omega) (by simpa using hQ)
def puts (cs : Array Value) (o : Nat) : List Value → Array Value
 | [] => cs
 | v :: vs => puts (cs.setIfInBounds o v) (o + 1) vs
theorem kS {b n : Nat} {ty : TypeId} : ∀ (vs : List Value) (o i : Nat) (cs : Array Value) (L : Frag) {Q : Unit → Frag → Prop}, L[n]? = some (b, true, .cells cs ty) → o + i + vs.length ≤ cs.size → vs.all plainV = true →
   Q () (L.set n (b, true, .cells (puts cs (o + i) vs) ty)) → wpS P New (storeCells ⟨b, o, none⟩ vs i) Q L := by
 intro vs
 induction vs with
 | nil =>
   intro o i cs L Q hn h _ hQ;have e : L.set n (b, true, .cells cs ty) = L := by
     apply List.ext_getElem?;intro j;rw [List.getElem?_set]
     split
     · rename_i e; subst e; obtain ⟨hl, he⟩ := List.getElem?_eq_some_iff.1 hn; simp [hl, he]
     · rfl
   rw [puts, e] at hQ;exact hQ
 | cons v vs ih =>
   intro o i cs L Q hn h hp hQ;simp only [List.length_cons] at h;simp only [List.all_cons, Bool.and_eq_true] at hp;obtain ⟨hl, he⟩ := List.getElem?_eq_some_iff.1 hn;unfold storeCells;rw [au, c9];refine rH (b := b) (i := o + i) hn (by omega) hp.1 ?_;refine ih o (i + 1) (cs.setIfInBounds (o + i) v) _ (by simp [hl]) (by simp; omega) hp.2 ?_;rw [List.set_set];exact hQ
theorem cj {b n o : Nat} {ty : TypeId} {vs : List Value} {cs : Array Value} {Q : Unit → Frag → Prop} (hn : L[n]? = some (b, true, .cells cs ty)) (h : o + vs.length ≤ cs.size) (hp : vs.all plainV = true)
   (hQ : Q () (L.set n (b, true, .cells (puts cs o vs) ty))) : wpS P New (storeCells ⟨b, o, none⟩ vs) Q L := kS vs o 0 cs L hn (by omega) hp hQ
end
def wpQ {α : Type} (P : Program) : Sem α → (α → Prop) → Frag → Prop
 | .pure a, K, _ => K a
 | .load m a k, K, L => m = .plain ∧ ∃ fl o v, (a.block, fl, o) ∈ L ∧ cellOf o a = some v ∧ wpQ P (k v) K L
 | .shape r k, K, L => ∃ fl o, (r, fl, o) ∈ L ∧ wpQ P (k (shapeOf o)) K L
 | .frozen a k, K, L => ∃ fl o, (a.block, fl, o) ∈ L ∧ wpQ P (k (frozenOf o a)) K L
 | .getObj r k, K, L => ∃ fl o, (r, fl, o) ∈ L ∧ thing o = true ∧ wpQ P (k o) K L
 | .choose q k, K, L => q.forced = true ∧ wpQ P (k 0) K L
 | .program k, K, L => wpQ P (k P) K L
 | .mark m k, K, L => okMark m = true ∧ wpQ P k K L
 | .store .., _, _ | .new .., _, _ | .freeze .., _, _ | .setObj .., _, _ | .sys .., _, _ | .halt _, _, _ => False
section
variable {α β : Type} {P : Program}
theorem cP {K K' : α → Prop} (h : ∀ a, K a → K' a) {L L' : Frag} (hL : ∀ t ∈ L, t ∈ L') : ∀ (s : Sem α), wpQ P s K L → wpQ P s K' L' := by
 intro s
 induction s with
 | pure a => exact fun x => h _ x
 | load m a k ih => rintro ⟨h1, fl, o, v, h2, h3, h4⟩; exact ⟨h1, fl, o, v, hL _ h2, h3, ih _ h4⟩
 | shape r k ih => rintro ⟨fl, o, h1, h2⟩; exact ⟨fl, o, hL _ h1, ih _ h2⟩
 | frozen a k ih => rintro ⟨fl, o, h1, h2⟩; exact ⟨fl, o, hL _ h1, ih _ h2⟩
 | getObj r k ih => rintro ⟨fl, o, h1, h2, h3⟩; exact ⟨fl, o, hL _ h1, h2, ih _ h3⟩
 | choose q k ih => rintro ⟨h1, h2⟩; exact ⟨h1, ih _ h2⟩
 | program k ih => exact fun x => ih _ x
 | store m a v k ih => exact fun x => x
 | new o k ih => exact fun x => x
 | freeze a n k ih => exact fun x => x
 | setObj r o k ih => exact fun x => x
 | sys c k ih => exact fun x => x
 | mark m k ih => rintro ⟨h1, h2⟩; exact ⟨h1, ih h2⟩
 | halt x => exact fun x => x
theorem rI {L : Frag} (f : α → Sem β) (K : β → Prop) : ∀ (s : Sem α), wpQ P (s.bind f) K L = wpQ P s (fun a => wpQ P (f a) K L) L := by
 intro s
 induction s with
 | pure a => rfl
 | load m a k ih => simp only [Sem.bind, wpQ, ih]
 | shape r k ih => simp only [Sem.bind, wpQ, ih]
 | frozen a k ih => simp only [Sem.bind, wpQ, ih]
 | getObj r k ih => simp only [Sem.bind, wpQ, ih]
 | choose q k ih => simp only [Sem.bind, wpQ, ih]
 | program k ih => simp only [Sem.bind, wpQ, ih]
 | store m a v k ih => simp only [Sem.bind, wpQ]
 | new o k ih => simp only [Sem.bind, wpQ]
 | freeze a n k ih => simp only [Sem.bind, wpQ]
 | setObj r o k ih => simp only [Sem.bind, wpQ]
 | sys c k ih => simp only [Sem.bind, wpQ]
 | mark m k ih => simp only [Sem.bind, wpQ, ih]
 | halt x => simp only [Sem.bind, wpQ]
theorem ax {L : Frag} (s : Sem α) (f : α → Sem β) (K : β → Prop) : wpQ P (s >>= f) K L = wpQ P s (fun a => wpQ P (f a) K L) L := rI f K s
theorem bP {L : Frag} (a : α) (K : α → Prop) : wpQ P (Pure.pure a) K L = K a := rfl
theorem qd {L : Frag} (c : Prop) [Decidable c] (x y : Sem α) (K : α → Prop) : wpQ P (if c then x else y) K L = if c then wpQ P x K L else wpQ P y K L := by split <;> rfl
theorem bC {New : Obj → Prop} {L : Frag} {K : α → Prop} {Q : α → Frag → Prop} (h : ∀ a, K a → Q a L) : ∀ (s : Sem α), wpQ P s K L → wpS P New s Q L := by
 intro s
 induction s with
 | pure a => exact fun x => h _ x
 | load m a k ih => rintro ⟨h1, fl, o, v, h2, h3, h4⟩; exact ⟨h1, fl, o, v, h2, h3, ih _ h4⟩
 | shape r k ih => rintro ⟨fl, o, h1, h2⟩; exact ⟨fl, o, h1, ih _ h2⟩
 | frozen a k ih => rintro ⟨fl, o, h1, h2⟩; exact ⟨fl, o, h1, ih _ h2⟩
 | getObj r k ih => rintro ⟨fl, o, h1, h2, h3⟩; exact ⟨fl, o, h1, h2, ih _ h3⟩
 | choose q k ih => rintro ⟨h1, h2⟩; exact ⟨fun _ => ih _ h2, fun e => by rw [h1] at e; cases e⟩
 | program k ih => exact fun x => ih _ x
 | store m a v k ih => exact fun x => x.elim
 | new o k ih => exact fun x => x.elim
 | freeze a n k ih => exact fun x => x.elim
 | setObj r o k ih => exact fun x => x.elim
 | sys c k ih => exact fun x => x.elim
 | mark m k ih => rintro ⟨h1, h2⟩; exact ⟨h1, ih h2⟩
 | halt x => exact fun x => x.elim
variable {R : World → World → Prop} {D : World → World → Array Event → Prop}
theorem zw (Δ : Dom R D) {L : Frag} {w : World} (hO : Δ.Own L w) {K : α → Prop} : ∀ (s : Sem α) (es : Array Event), wpQ P s K L → ∃ a es', s.runT P w es = (.ok a w, es ++ es') ∧ (∀ e ∈ es', Δ.Ev w e) ∧ K a := by
 intro s
 induction s with
 | pure a => exact fun es h => ⟨a, #[], by simp [Sem.runT, -Sem.runT_eq], by simp, h⟩
 | load m a k ih =>
   rintro es ⟨rfl, fl, o, v, hm, hv, h⟩;have hb := Δ.has hO hm;have hc := lP hb hv;have hs : a.spot = none := by cases o <;> simp_all [cellOf]
   obtain ⟨x, es', hr, he, hK⟩ := ih v (es.push ⟨.cell a, false, false⟩) h;refine ⟨x, #[⟨.cell a, false, false⟩] ++ es', by simp only [Sem.runT, hc]; rw [show ((Mode.plain == Mode.atomic) = false) from rfl, hr]; simp, fun e hm' => ?_, hK⟩;rcases Array.mem_append.1 hm' with h1 | h1
   · obtain rfl := by simpa using h1
     obtain ⟨b, i, sp⟩ := a;obtain rfl : sp = none := hs;exact Δ.evc hO hm i
   · exact he e h1
 | shape r k ih =>
   rintro es ⟨fl, o, hm, h⟩;have hb := Δ.has hO hm;obtain ⟨x, es', hr, he, hK⟩ := ih _ es h;have e0 : w.shape? r = shapeOf o := by unfold World.shape?; rw [hb]; cases o <;> rfl
   exact ⟨x, es', by simp only [Sem.runT, e0]; exact hr, he, hK⟩
 | frozen a k ih =>
   rintro es ⟨fl, o, hm, h⟩;have hb := Δ.has hO hm;obtain ⟨x, es', hr, he, hK⟩ := ih _ es h;have e0 : w.frozen? a = frozenOf o a := by unfold World.frozen?; rw [hb]; cases o <;> rfl
   exact ⟨x, es', by simp only [Sem.runT, e0]; exact hr, he, hK⟩
 | getObj r k ih =>
   rintro es ⟨fl, o, hm, ho, h⟩;have hb := Δ.has hO hm;obtain ⟨x, es', hr, he, hK⟩ := ih o (es.push ⟨.obj r, false, false⟩) h;refine ⟨x, #[⟨.obj r, false, false⟩] ++ es', by rw [i0 hb ho, hr]; simp, fun e hm' => ?_, hK⟩;rcases Array.mem_append.1 hm' with h1 | h1
   · obtain rfl := by simpa using h1
     exact Δ.evo hO hm
   · exact he e h1
 | choose q k ih =>
   rintro es ⟨hf, h⟩;obtain ⟨x, es', hr, he, hK⟩ := ih _ es h;exact ⟨x, es', by simp only [Sem.runT, hf, if_true]; exact hr, he, hK⟩
 | program k ih =>
   intro es h;obtain ⟨x, es', hr, he, hK⟩ := ih P es h;exact ⟨x, es', by simp only [Sem.runT]; exact hr, he, hK⟩
 | store m a v k ih => exact fun _ x => x.elim
 | new o k ih => exact fun _ x => x.elim
 | freeze a n k ih => exact fun _ x => x.elim
 | setObj r o k ih => exact fun _ x => x.elim
 | sys c k ih => exact fun _ x => x.elim
 | mark m k ih =>
   rintro es ⟨hm, h⟩;obtain ⟨x, es', hr, he, hK⟩ := ih (es.push ⟨.mark m, false, true⟩) h;refine ⟨x, #[⟨.mark m, false, true⟩] ++ es', by simp only [Sem.runT]; rw [hr]; simp, fun e hm' => ?_, hK⟩;rcases Array.mem_append.1 hm' with h1 | h1
   · obtain rfl := by simpa using h1
     exact Δ.nor w m hm
   · exact he e h1
 | halt x => exact fun _ x => x.elim
theorem lU (Δ : Dom R D) {L : Frag} {w : World} (hO : Δ.Own L w) {s : Sem α} {v : α} (h : wpQ P s (· = v) L) : s.run P w = .ok v w ∧ ∀ e ∈ s.events P w #[], Δ.Ev w e := by
 obtain ⟨a, es', hr, he, rfl⟩ := zw Δ hO s #[] h;refine ⟨by rw [← Sem.runT_fst P s w #[], hr], ?_⟩;unfold Sem.events;rw [hr];simpa using he
end
section
variable {α β : Type} {P : Program} {L : Frag}
theorem aL {t : TypeId} {d : TypeDesc} {K : TypeDesc → Prop} (h : P.underlying t = some d) : wpQ P (underlying t) K L = K d := by
 show (wpQ P (match P.underlying t with | some d => pure d | none => stuck "no such type") K L) = K d;rw [h]; rfl
theorem gU {t : TypeId} {i : TypeInfo} {K : TypeInfo → Prop} (h : P.info? t = some i) : wpQ P (typeInfo t) K L = K i := by
 show (wpQ P (match P.info? t with | some d => pure d | none => stuck "no such type") K L) = K i;rw [h]; rfl
theorem cI {t n : Nat} {K : Nat → Prop} (h : sizeAt P t = some n) : wpQ P (sizeOf t) K L = K n := by
 obtain ⟨i, hi, rfl⟩ := Option.map_eq_some_iff.1 h;unfold sizeOf;rw [ax, gU hi]; rfl
theorem gj {t : Nat} {v : Value} {K : Value → Prop} (h : zeroAt P t = some v) : wpQ P (zeroValue t) K L = K v := by
 obtain ⟨i, hi, hz⟩ := Option.bind_eq_some_iff.1 h;unfold zeroValue;rw [ax, gU hi, hz]; rfl
theorem fJ {t : Nat} {g : Bool} {K : Bool → Prop} (h : aggAt P t = some g) : wpQ P (isAgg t) K L = K g := by
 obtain ⟨d, hd, rfl⟩ := Option.map_eq_some_iff.1 h;unfold isAgg;rw [ax, aL hd];cases d <;> rfl
theorem da {a : Addr} {K : Addr → Prop} : wpQ P (Instr.sureAddr (.pointer (some a))) K L = K a := rfl
theorem m7 {b i : Nat} {v : Value} {K : Value → Prop} (h : At L b i v) (hK : K v) : wpQ P (load ⟨b, i, none⟩) K L := by
 obtain ⟨fl, cs, ty, fr, hm, hv⟩ := h;exact ⟨rfl, fl, _, v, hm, by simpa [cellOf] using hv, hK⟩
theorem oU {r : Nat} {o : Obj} {fl : Bool} {K : Obj → Prop} (hm : (r, fl, o) ∈ L) (ho : thing o = true) (hK : K o) : wpQ P (getObj r) K L := ⟨fl, o, hm, ho, hK⟩
theorem fK {b : Nat} {fl : Bool} {cs : Array Value} {t : TypeId} {fr : Nat × Nat} {K : Option (TypeId × Nat) → Prop} (h : (b, fl, .cells cs t fr) ∈ L) (hK : K (some (t, cs.size))) : wpQ P (shape b) K L := ⟨fl, _, h, hK⟩
theorem eV {a : Addr} {fl : Bool} {cs : Array Value} {t : TypeId} {K : Bool → Prop} (h : (a.block, fl, .cells cs t) ∈ L) (hK : K false) : wpQ P (frozen a) K L := ⟨fl, _, h, by simpa [frozenOf, wpQ] using hK⟩
theorem lV {b o : Nat} {cs : Array Value} {ty : TypeId} {fr : Nat × Nat} {fl : Bool} (hm : (b, fl, .cells cs ty fr) ∈ L) {K : Array Value → Prop} :
   ∀ (n i : Nat) (acc : Array Value), o + i + n ≤ cs.size → K (acc ++ cs.extract (o + i) (o + i + n)) → wpQ P (loadCellsFrom ⟨b, o, none⟩ i n acc) K L := by
 intro n
 induction n with
 | zero =>
   intro i acc h hK;have e : cs.extract (o + i) (o + i + 0) = #[] := by apply Array.ext'; simp
   rw [e, Array.append_empty] at hK;exact hK
 | succ n ih =>
   intro i acc h hK;have hi : o + i < cs.size := by omega
   unfold loadCellsFrom;rw [ax, c9];refine m7 (b := b) (i := o + i) ⟨fl, cs, ty, fr, hm, Array.getElem?_eq_getElem hi⟩ ?_;refine ih (i + 1) _ (by omega) ?_;have e : acc.push cs[o + i] ++ cs.extract (o + (i + 1)) (o + (i + 1) + n) = acc ++ cs.extract (o + i) (o + i + (n + 1)) := by
     apply Array.ext';simp only [Array.toList_append, Array.toList_push, Array.toList_extract, List.append_assoc];congr 1;rw [List.extract_eq_take_drop, List.extract_eq_take_drop];have : cs.toList.drop (o + i) = cs[o + i] :: cs.toList.drop (o + i + 1) := by
       rw [List.drop_eq_getElem_cons (by simpa using hi)]; simp
     rw [this, show o + i + (n + 1) - (o + i) = n + 1 by omega, show o + (i + 1) + n - (o + (i + 1)) = n by omega, List.take_succ_cons, Nat.add_assoc];simp
   rw [e]; exact hK
theorem eD {b o n : Nat} {cs : Array Value} {ty : TypeId} {fr : Nat × Nat} {fl : Bool} (hm : (b, fl, .cells cs ty fr) ∈ L) {K : Array Value → Prop} (h : o + n ≤ cs.size) (hK : K (cs.extract o (o + n))) : wpQ P (loadCells ⟨b, o, none⟩ n) K L :=
 lV hm n 0 #[] (by omega) (by simpa using hK)
end
def Yld (P : Program) (L : Frag) (s : Sem Next) (v : Value) : Prop := wpQ P s (· = .value v) L
theorem Yld.mono {P : Program} {L L' : Frag} {s : Sem Next} {v : Value} (h : Yld P L s v) (hL : ∀ t ∈ L, t ∈ L') : Yld P L' s v := cP (fun _ h => h) hL s h
theorem Yld.go {P : Program} {L : Frag} {s : Sem Next} {v : Value} (h : Yld P L s v) {New : Obj → Prop} {Q : Next → Frag → Prop} (hQ : Q (.value v) L) : wpS P New s Q L := bC (fun a e => by rw [e]; exact hQ) s h
section
variable {P : Program} {L : Frag} {ρ : Operand → Value} {d : Option Tmp} {ty : TypeId} {ps : String} {af : Array Edge} {g : Option (Nat × Bool)}
theorem cF {s : Sem Value} {f : Value → Sem Next} {v : Value} (hf : ∀ v, f v = pure (.value v)) (h : ∀ (K : Value → Prop), K v → wpQ P s K L) : Yld P L (s >>= f) v := by
 unfold Yld;rw [ax];exact h _ (by rw [hf]; rfl)
theorem yt {x : Operand} : Yld P L (execOp ρ ⟨d, .move x, ty, ps, af, g⟩) (ρ x) := rfl
theorem tI {x : Operand} : Yld P L (execOp ρ ⟨d, .assign x, ty, ps, af, g⟩) (ρ x) := rfl
theorem yu {c a b : Operand} {t : Bool} (hc : ρ c = .bool t) : Yld P L (execOp ρ ⟨d, .pick c a b, ty, ps, af, g⟩) (if t then ρ a else ρ b) := by
 show wpQ P (asBool (ρ c) >>= fun t => pure (Next.value (if t then ρ a else ρ b))) (· = .value (if t then ρ a else ρ b)) L;rw [hc]; rfl
theorem oV {x : Operand} {a : Addr} (hx : ρ x = .pointer (some a)) : Yld P L (execOp ρ ⟨d, .nilCheck x, ty, ps, af, g⟩) (.pointer (some a)) := by
 unfold Yld;simp only [execOp, hx]; rfl
theorem m8 {x : Operand} {s f b i off : Nat} (hx : ρ x = .pointer (some ⟨b, i, none⟩)) (hf : fieldOff P s f = some off) : Yld P L (execOp ρ ⟨d, .fieldAddr s x f, ty, ps, af, g⟩) (.pointer (some ⟨b, i + off, none⟩)) := by
 refine cF (fun _ => rfl) fun K h => ?_;unfold fieldOff at hf
 split at hf <;> try cases hf
 rename_i fs hu
 split at hf <;> try cases hf
 rename_i fd hfd
 split at hf <;> try cases hf
 rename_i n hn;unfold Instr.fieldAt;rw [ax, aL hu, hx];simp only [hfd];rw [ax, da, ax];unfold fieldPlace;rw [ax, cI hn];simp only [Nat.succ_ne_zero, if_false, Nat.add_eq_zero_iff, Nat.one_ne_zero, and_false];rw [bP, c9];exact h
theorem yv {x : Operand} {t b i : Nat} {v : Value} (hx : ρ x = .pointer (some ⟨b, i, none⟩)) (ht : aggAt P t = some false) (hv : At L b i v) : Yld P L (execOp ρ ⟨d, .load t x, ty, ps, af, g⟩) v := by
 refine cF (fun _ => rfl) fun K h => ?_;unfold Instr.loadAt;rw [hx, ax, da];unfold loadVar;rw [ax, fJ ht];exact m7 hv h
theorem rJ {x : Operand} {t b i n : Nat} {cs : Array Value} {e : TypeId} {fr : Nat × Nat} {fl : Bool} (hx : ρ x = .pointer (some ⟨b, i, none⟩)) (ht : aggAt P t = some true) (hs : sizeAt P t = some n) (hm : (b, fl, .cells cs e fr) ∈ L) (hi : i + n ≤ cs.size) :
   Yld P L (execOp ρ ⟨d, .load t x, ty, ps, af, g⟩) (.agg (cs.extract i (i + n))) := by
 refine cF (fun _ => rfl) fun K h => ?_;unfold Instr.loadAt;rw [hx, ax, da];unfold loadVar;rw [ax, fJ ht];simp only [if_true];rw [ax, cI hs, ax];exact eD hm hi h
theorem oW {x ix : Operand} {t b o sz : Nat} {len : Nat} {e : TypeId} {k : IntKind} {n : Int} (hx : ρ x = .pointer (some ⟨b, o, none⟩)) (hi : ρ ix = .int k n) (hu : P.underlying t = some (.array len e)) (hs : sizeAt P e = some sz) (h0 : 0 ≤ n) (h1 : n < len) :
   Yld P L (execOp ρ ⟨d, .indexAddr t x ix, ty, ps, af, g⟩) (.pointer (some ⟨b, o + n.toNat * sz, none⟩)) := by
 refine cF (fun _ => rfl) fun K h => ?_;unfold Instr.indexAt;rw [hx, hi];simp only [ax, asIntOf, bP, aL hu, da, qd, cI hs, c9];rw [if_pos ⟨h0, h1⟩];exact h
theorem rK {x ix : Operand} {t b o sz : Nat} {len cap : Nat} {e : TypeId} {k : IntKind} {n : Int} (hx : ρ x = .slice (some ⟨b, o, none⟩) len cap) (hi : ρ ix = .int k n) (hu : P.underlying t = some (.slice e)) (hs : sizeAt P e = some sz) (h0 : 0 ≤ n) (h1 : n < len) :
   Yld P L (execOp ρ ⟨d, .indexAddr t x ix, ty, ps, af, g⟩) (.pointer (some ⟨b, o + n.toNat * sz, none⟩)) := by
 refine cF (fun _ => rfl) fun K h => ?_;unfold Instr.indexAt;rw [hx, hi];simp only [ax, asIntOf, bP, aL hu, qd, cI hs, c9];rw [if_pos ⟨h0, h1⟩];exact h
theorem i8 {op : BinOp} {t : TypeId} {x y : Operand} {k k' : IntKind} {a b : Int} : eqGuard op t x y (.int k a) (.int k' b) = pure () := by
 unfold eqGuard;cases op <;> rfl
theorem gm {op : BinOp} {t u : TypeId} {x y : Operand} {k : IntKind} {a b : Int} {v : Value} (hx : ρ x = .int k a) (hy : ρ y = .int k b) (h : binOp op t (.int k a) (.int k b) = pure v) : Yld P L (execOp ρ ⟨d, .binOp op t x y u, ty, ps, af, g⟩) v := by
 refine cF (fun _ => rfl) fun K hQ => ?_;rw [hx, hy, i8];show wpQ P (binOp op t (.int k a) (.int k b)) K L;rw [h]; exact hQ
theorem zx {t u : TypeId} {x y : Operand} {k : IntKind} {a b : Int} (hx : ρ x = .int k a) (hy : ρ y = .int k b) : Yld P L (execOp ρ ⟨d, .binOp .add t x y u, ty, ps, af, g⟩) (.int k (k.wrap (a + b))) := gm hx hy (by simp [binOp, Op.intArith])
theorem zy {t u : TypeId} {x y : Operand} {k : IntKind} {a b : Int} (hx : ρ x = .int k a) (hy : ρ y = .int k b) : Yld P L (execOp ρ ⟨d, .binOp .sub t x y u, ty, ps, af, g⟩) (.int k (k.wrap (a - b))) := gm hx hy (by simp [binOp, Op.intArith])
theorem zz {t u : TypeId} {x y : Operand} {k : IntKind} {a b : Int} (hx : ρ x = .int k a) (hy : ρ y = .int k b) : Yld P L (execOp ρ ⟨d, .binOp .mul t x y u, ty, ps, af, g⟩) (.int k (k.wrap (a * b))) := gm hx hy (by simp [binOp, Op.intArith])
theorem zA {t u : TypeId} {x y : Operand} {k : IntKind} {a b : Int} (hx : ρ x = .int k a) (hy : ρ y = .int k b) (hb : b ≠ 0) : Yld P L (execOp ρ ⟨d, .binOp .rem t x y u, ty, ps, af, g⟩) (.int k (a.tmod b)) := gm hx hy (by simp [binOp, Op.intDiv, hb])
theorem zB {t u : TypeId} {x y : Operand} {k : IntKind} {a b : Int} (hx : ρ x = .int k a) (hy : ρ y = .int k b) : Yld P L (execOp ρ ⟨d, .binOp .eql t x y u, ty, ps, af, g⟩) (.bool (a == b)) := gm hx hy (by simp [binOp, Op.intCmp])
theorem zC {t u : TypeId} {x y : Operand} {k : IntKind} {a b : Int} (hx : ρ x = .int k a) (hy : ρ y = .int k b) : Yld P L (execOp ρ ⟨d, .binOp .neq t x y u, ty, ps, af, g⟩) (.bool (a != b)) := gm hx hy (by simp [binOp, Op.intCmp])
theorem zF {t u : TypeId} {x y : Operand} {k : IntKind} {a b : Int} (hx : ρ x = .int k a) (hy : ρ y = .int k b) : Yld P L (execOp ρ ⟨d, .binOp .lss t x y u, ty, ps, af, g⟩) (.bool (decide (a < b))) := gm hx hy (by simp [binOp, Op.intCmp])
theorem zG {t u : TypeId} {x y : Operand} {k : IntKind} {a b : Int} (hx : ρ x = .int k a) (hy : ρ y = .int k b) : Yld P L (execOp ρ ⟨d, .binOp .leq t x y u, ty, ps, af, g⟩) (.bool (decide (a ≤ b))) := gm hx hy (by simp [binOp, Op.intCmp])
theorem zH {t u : TypeId} {x y : Operand} {k : IntKind} {a b : Int} (hx : ρ x = .int k a) (hy : ρ y = .int k b) : Yld P L (execOp ρ ⟨d, .binOp .gtr t x y u, ty, ps, af, g⟩) (.bool (decide (b < a))) := gm hx hy (by simp [binOp, Op.intCmp])
theorem zI {t u : TypeId} {x y : Operand} {k : IntKind} {a b : Int} (hx : ρ x = .int k a) (hy : ρ y = .int k b) : Yld P L (execOp ρ ⟨d, .binOp .geq t x y u, ty, ps, af, g⟩) (.bool (decide (b ≤ a))) := gm hx hy (by simp [binOp, Op.intCmp])
theorem yw {s t : TypeId} {ds : TypeDesc} {x : Operand} {j k : IntKind} {n : Int} (hx : ρ x = .int j n) (hs : P.underlying s = some ds) (ht : P.underlying t = some (.int k)) : Yld P L (execOp ρ ⟨d, .convert s t x, ty, ps, af, g⟩) (.int k (k.wrap n)) := by
 refine cF (fun _ => rfl) fun K h => ?_;unfold convert;rw [hx, ax, aL hs, ax, aL ht];exact h
theorem zJ {t : TypeId} {x : Operand} {b : Bool} (hx : ρ x = .bool b) : Yld P L (execOp ρ ⟨d, .unOp .not t x, ty, ps, af, g⟩) (.bool !b) := by
 refine cF (fun _ => rfl) fun K h => ?_;rw [hx]; exact h
theorem zK {t : TypeId} {x : Operand} {k : IntKind} {n : Int} (hx : ρ x = .int k n) : Yld P L (execOp ρ ⟨d, .unOp .neg t x, ty, ps, af, g⟩) (.int k (k.wrap (0 - n))) := by
 refine cF (fun _ => rfl) fun K h => ?_;rw [hx]; exact h
theorem rL {x : Operand} {i : Nat} {vs : Array Value} {v : Value} (hx : ρ x = .tuple vs) (hv : vs[i]? = some v) : Yld P L (execOp ρ ⟨d, .extract x i, ty, ps, af, g⟩) v := by
 refine cF (fun _ => rfl) fun K h => ?_;rw [hx];simp only [Instr.extract, hv]; exact h
theorem jI {f : Fn} {c1 c2 : Array Operand} : Yld P L (execOp ρ ⟨d, .makeFunc f c1 c2, ty, ps, af, g⟩) (.func f (c1.map ρ) (c2.map ρ)) := cF (fun _ => rfl) fun _ h => h
theorem m9 {t : TypeId} {x : Operand} {ds : TypeDesc} (ht : P.underlying t = some ds) (hi : ∀ ms, ds ≠ .interface ms) : Yld P L (execOp ρ ⟨d, .makeInterface t x, ty, ps, af, g⟩) (.iface t (ρ x)) := by
 refine cF (fun _ => rfl) fun K h => ?_;unfold Instr.makeInterface;rw [ax, aL ht];cases ds <;> first | exact h | exact absurd rfl (hi _)
theorem eJ {t off : Nat} {cs : Array Value} {v : Value} {K : Value → Prop} (hg : aggAt P t = some false) (hv : cs[off]? = some v) (h : K v) : wpQ P (part t cs off) K L := by
 unfold part;rw [ax, fJ hg];simp only [Bool.false_eq_true, if_false, hv];exact h
theorem vO {x : Operand} {s f off n : Nat} {cs : Array Value} {v : Value} (hx : ρ x = .agg cs) (hf : fieldPart P s f = some (off, n, false)) (hv : cs[off]? = some v) : Yld P L (execOp ρ ⟨d, .field s x f, ty, ps, af, g⟩) v := by
 refine cF (fun _ => rfl) fun K h => ?_;unfold fieldPart at hf
 split at hf <;> try cases hf
 rename_i fs hu
 split at hf <;> try cases hf
 rename_i fd hfd
 split at hf <;> try cases hf
 rename_i h1 h2;unfold Instr.field;rw [ax, aL hu, hx];simp only [hfd];exact eJ h2 hv h
theorem iP {b : Builtin} {args : Array Operand} {ats : Array TypeId} {s : Array Bool → Sem Value} {v : Value} (hb : ∀ cs, builtin b ats ty cs (args.map ρ) = (s cs >>= fun v => pure (.value v))) (h : ∀ cs (K : Value → Prop), K v → wpQ P (s cs) K L) :
   Yld P L (execOp ρ ⟨d, .call ⟨.builtin b, args, ats⟩, ty, ps, af, g⟩) v := by
 show wpQ P (builtin b ats ty _ (args.map ρ)) _ L;rw [hb, ax];exact h _ _ rfl
theorem vP {x : Operand} {ats : Array TypeId} {t : TypeId} {e : TypeId} {base : Option Addr} {len cap : Nat} (hx : ρ x = .slice base len cap) (ha : ats[0]? = some t) (hu : P.underlying t = some (.slice e)) : Yld P L (execOp ρ ⟨d, .call ⟨.builtin .len, #[x], ats⟩, ty, ps, af, g⟩) (.int .i64 len) := by
 refine iP (s := fun _ => Builtin.len_ ats ty (#[x].map ρ)) (fun _ => rfl) fun _ K h => ?_;unfold Builtin.len_;simp only [ha, List.map_toArray, List.map_cons, List.map_nil, hx, List.getElem?_toArray, List.getElem?_cons_zero];rw [ax, aL hu];exact h
theorem tJ {x : Operand} {ats : Array TypeId} {t : TypeId} {s : ByteArray} (hx : ρ x = .string s) (ha : ats[0]? = some t) (hu : P.underlying t = some .string) : Yld P L (execOp ρ ⟨d, .call ⟨.builtin .len, #[x], ats⟩, ty, ps, af, g⟩) (.int .i64 s.size) := by
 refine iP (s := fun _ => Builtin.len_ ats ty (#[x].map ρ)) (fun _ => rfl) fun _ K h => ?_;unfold Builtin.len_;simp only [ha, List.map_toArray, List.map_cons, List.map_nil, hx, List.getElem?_toArray, List.getElem?_cons_zero];rw [ax, aL hu];exact h
theorem zL {x y : Operand} {ats : Array TypeId} {k k' : IntKind} {a b : Int} (hx : ρ x = .int k a) (hy : ρ y = .int k' b) : Yld P L (execOp ρ ⟨d, .call ⟨.builtin .min, #[x, y], ats⟩, ty, ps, af, g⟩) (.int k (if b < a then b else a)) := by
 refine iP (s := fun _ => Builtin.min_ ats ty (#[x, y].map ρ)) (fun _ => rfl) fun _ K h => ?_;unfold Builtin.min_;simp only [List.map_toArray, List.map_cons, List.map_nil, hx, hy, List.foldlM, Builtin.min2];exact h
theorem na {op : BinOp} {t : TypeId} {x y : Operand} {a b : Option Addr} : eqGuard op t x y (.pointer a) (.pointer b) = pure () := by
 unfold eqGuard;cases op <;> rfl
theorem xH {op : BinOp} {t u e : TypeId} {x y : Operand} {a b : Option Addr} {v : Bool} (hop : op = .eql ∨ op = .neq) (hx : ρ x = .pointer a) (hy : ρ y = .pointer b) (hu : P.underlying t = some (.pointer e))
   (h : ∀ (K : Bool → Prop), K v → wpQ P (Op.equal t (.pointer a) (.pointer b)) K L) : Yld P L (execOp ρ ⟨d, .binOp op t x y u, ty, ps, af, g⟩) (.bool (if op = .eql then v else !v)) := by
 refine cF (fun _ => rfl) fun K hQ => ?_;rw [hx, hy, na];show wpQ P (binOp op t (.pointer a) (.pointer b)) K L;rcases hop with rfl | rfl
 · show wpQ P (do pure (.bool (← Op.equal t (.pointer a) (.pointer b)))) K L;rw [ax];exact h _ hQ
 · show wpQ P (do pure (.bool (!(← Op.equal t (.pointer a) (.pointer b))))) K L;rw [ax];exact h _ hQ
theorem dv {t : TypeId} {x y : Value} : Op.equal t x y = Op.equalIn (9999 + 1) t x y := rfl
theorem nc {t e : TypeId} {a : Option Addr} {K : Bool → Prop} (hu : P.underlying t = some (.pointer e)) (h : K a.isNone) : wpQ P (Op.equal t (.pointer a) (.pointer none)) K L := by
 rw [dv, Op.equalIn.eq_def];rw [ax, aL hu];cases a <;> exact h
theorem jJ {a : Addr} {fl : Bool} {cs : Array Value} {t : TypeId} {fr : Nat × Nat} {K : Unit → Prop} (h : (a.block, fl, .cells cs t fr) ∈ L) (hQ : K ()) : wpQ P (noView a) K L := by
 unfold noView viewAt;rw [ax, ax];refine fK h ?_;simp only [Option.isSome_some, if_true];exact hQ
theorem gq {a : Addr} {fl : Bool} {cs : Array Value} {t : TypeId} {K : Bool → Prop} (h : (a.block, fl, .cells cs t) ∈ L) (hQ : K false) : wpQ P (stringish a) K L := by
 unfold stringish;rw [ax];refine eV h ?_;simp only [Bool.false_eq_true, if_false];rw [ax];refine fK h ?_;exact eV (a := { block := a.block, off := cs.size }) h hQ
theorem lW {a b : Addr} {fl fl' : Bool} {cs cs' : Array Value} {t t' : TypeId} {K : Bool → Prop} (h : (a.block, fl, .cells cs t) ∈ L) (h' : (b.block, fl', .cells cs' t') ∈ L) (hQ : K false) : wpQ P (mayBeOne a b) K L := by
 unfold mayBeOne;rw [ax];refine gq h ?_;rw [ax];refine gq h' ?_;simp only [Bool.false_and, Bool.or_false, ax];refine fK h ?_;refine fK h' ?_;exact hQ
theorem jK {t e n : TypeId} {b i b' i' : Nat} {cs cs' : Array Value} {ty1 ty1' : TypeId} {fl fl' : Bool} {K : Bool → Prop} (hu : P.underlying t = some (.pointer e)) (hs : sizeAt P e = some (n + 1))
   (h1 : (b, fl, .cells cs ty1) ∈ L) (h2 : (b', fl', .cells cs' ty1') ∈ L) (h : K (decide ((b, i) = (b', i')))) : wpQ P (Op.equal t (.pointer (some ⟨b, i, none⟩)) (.pointer (some ⟨b', i', none⟩))) K L := by
 rw [dv, Op.equalIn.eq_def];rw [ax, aL hu];show wpQ P (do if (← sizeOf e) ≠ 0 then sameAddr ⟨b, i, none⟩ ⟨b', i', none⟩ else _) K L;rw [ax, cI hs];simp only [ne_eq, Nat.add_eq_zero_iff, Nat.one_ne_zero, and_false, not_false_eq_true, if_true];unfold sameAddr;by_cases hb : b = b'
 · subst hb;simp only [beq_self_eq_true, if_true];have e0 : ((⟨b, i, none⟩ : Addr) == ⟨b, i', none⟩) = decide ((b, i) = (b, i')) := by
     rw [Bool.eq_iff_iff]; simp [Prod.ext_iff]
   rw [e0]; exact h
 · have hne : (b == b') = false := by simpa using hb
   have hd : decide ((b, i) = (b', i')) = false := by simp [hb]
   rw [hd] at h;simp only [hne, Bool.false_eq_true, if_false];rw [ax];refine eV h1 ?_;rw [ax];refine eV h2 ?_;simp only [Bool.and_false, Bool.false_eq_true, if_false];rw [ax];refine jJ h1 ?_;rw [ax];refine jJ h2 ?_;rw [ax];refine lW h1 h2 ?_;exact h
theorem vQ {t u e : TypeId} {x y : Operand} {a : Option Addr} (hx : ρ x = .pointer a) (hy : ρ y = .pointer none) (hu : P.underlying t = some (.pointer e)) : Yld P L (execOp ρ ⟨d, .binOp .eql t x y u, ty, ps, af, g⟩) (.bool a.isNone) :=
 xH (.inl rfl) hx hy hu fun _ h => nc hu h
theorem tK {t u e n : TypeId} {x y : Operand} {b i b' i' : Nat} {cs cs' : Array Value} {ty1 ty1' : TypeId} {fl fl' : Bool} (hx : ρ x = .pointer (some ⟨b, i, none⟩)) (hy : ρ y = .pointer (some ⟨b', i', none⟩)) (hu : P.underlying t = some (.pointer e)) (hs : sizeAt P e = some (n + 1))
   (h1 : (b, fl, .cells cs ty1) ∈ L) (h2 : (b', fl', .cells cs' ty1') ∈ L) : Yld P L (execOp ρ ⟨d, .binOp .eql t x y u, ty, ps, af, g⟩) (.bool (decide ((b, i) = (b', i')))) :=
 xH (.inl rfl) hx hy hu fun _ h => jK hu hs h1 h2 h
theorem vR {op : BinOp} {t u : TypeId} {x y : Operand} {v : Value} {b : Bool} {ms : Array (String × TypeId)} (hop : op = .eql ∨ op = .neq) (hv : (v = .nilIface ∧ b = true) ∨ (∃ s w, v = .iface s w ∧ b = false)) (hx : ρ x = v) (hy : y = .const .nilIface) (hy' : ρ y = .nilIface) (hu : P.underlying t = some (.interface ms)) :
   Yld P L (execOp ρ ⟨d, .binOp op t x y u, ty, ps, af, g⟩) (.bool (if op = .eql then b else !b)) := by
 refine cF (fun _ => rfl) fun K hQ => ?_;have hg : eqGuard op t x y v .nilIface = pure () := by
   unfold eqGuard;rcases hop with rfl | rfl <;> rcases hv with ⟨rfl, _⟩ | ⟨s, w, rfl, _⟩ <;> subst hy <;> simp
 rw [hx, hy', hg];show wpQ P (binOp op t v .nilIface) K L;have he : ∀ (K : Bool → Prop), K b → wpQ P (Op.equal t v .nilIface) K L := fun K hQ => by
   rw [dv, Op.equalIn.eq_def, ax, aL hu];rcases hv with ⟨rfl, rfl⟩ | ⟨s, w, rfl, rfl⟩ <;> exact hQ
 have e1 : binOp op t v .nilIface = if op = .eql then (do pure (.bool (← Op.equal t v .nilIface))) else (do pure (.bool (!(← Op.equal t v .nilIface)))) := by
   rcases hop with rfl | rfl <;> rcases hv with ⟨rfl, _⟩ | ⟨s, w, rfl, _⟩ <;> rfl
 rw [e1];rcases hop with rfl | rfl
 · simp only [if_true, ax]; exact he _ hQ
 · simp only [reduceCtorEq, if_false, ax]; exact he _ hQ
end
section
variable {P : Program} {New : Obj → Prop} {L : Frag} {Q : Next → Frag → Prop} {ρ : Operand → Value} {d : Option Tmp} {ty : TypeId} {ps : String} {af : Array Edge} {g : Option (Nat × Bool)}
theorem bR {v : Value} (h : plainV v = true) : v.cells = #[v] := by cases v <;> first | rfl | cases h
theorem vS {t : TypeId} {x y : Operand} {b i n : Nat} {v : Value} {cs : Array Value} {e : TypeId} (hx : ρ x = .pointer (some ⟨b, i, none⟩)) (hy : ρ y = v) (hs : sizeAt P t = some 1) (hn : L[n]? = some (b, true, .cells cs e)) (hi : i < cs.size) (hp : plainV v = true)
   (hQ : Q .skip (L.set n (b, true, .cells (cs.setIfInBounds i v) e))) : wpS P New (execOp ρ ⟨d, .store t x y, ty, ps, af, g⟩) Q L := by
 show wpS P New (Instr.storeAt t (ρ x) (ρ y) >>= fun _ => pure .skip) Q L;unfold Instr.storeAt storeVar;rw [hx, hy, au, au, gT, au, bM hs, bR hp];simp only [List.size_toArray, List.length_cons, List.length_nil, Nat.zero_add, ne_eq, not_true_eq_false, if_false];refine cj hn (by simp; omega) (by simpa using hp) ?_;exact hQ
theorem oX {t : TypeId} {x y : Operand} {b i n m : Nat} {vs : List Value} {cs : Array Value} {e : TypeId} (hx : ρ x = .pointer (some ⟨b, i, none⟩)) (hy : ρ y = .agg vs.toArray) (hs : sizeAt P t = some m) (hm : vs.length = m) (hn : L[n]? = some (b, true, .cells cs e)) (hi : i + vs.length ≤ cs.size) (hp : vs.all plainV = true)
   (hQ : Q .skip (L.set n (b, true, .cells (puts cs i vs) e))) : wpS P New (execOp ρ ⟨d, .store t x y, ty, ps, af, g⟩) Q L := by
 show wpS P New (Instr.storeAt t (ρ x) (ρ y) >>= fun _ => pure .skip) Q L;unfold Instr.storeAt storeVar;rw [hx, hy, au, au, gT, au, bM hs];simp only [Value.cells, List.size_toArray, hm, ne_eq, not_true_eq_false, if_false];exact cj hn hi hp hQ
theorem vT {t : TypeId} {z : Value} (hz : zeroAt P t = some z) (hN : New (.cells z.cells t)) (hQ : ∀ b, (∀ t ∈ L, t.1 ≠ b) → Q (.value (.pointer (some ⟨b, 0, none⟩))) ((b, true, .cells z.cells t) :: L)) : wpS P New (execOp ρ ⟨d, .alloc t, ty, ps, af, g⟩) Q L := by
 show wpS P New (Instr.alloc t true (.tuple #[]) >>= fun v => pure (.value v)) Q L;unfold Instr.alloc newVar newRow;rw [au, au, cx hz];simp only [au];exact b8 hN hQ
theorem zM {t : TypeId} {x : Operand} {v : Value} (hx : ρ x = v) (hN : New (.cells v.cells t)) (hQ : ∀ b, (∀ t ∈ L, t.1 ≠ b) → Q (.value (.pointer (some ⟨b, 0, none⟩))) ((b, true, .cells v.cells t) :: L)) : wpS P New (execOp ρ ⟨d, .box t x, ty, ps, af, g⟩) Q L := by
 show wpS P New (Instr.box t (ρ x) >>= fun v => pure (.value v)) Q L;unfold Instr.box newVar newRow;rw [hx];simp only [au];exact b8 hN hQ
theorem rM {t : TypeId} (hN : New (.map #[] 0)) (hQ : ∀ b, (∀ t ∈ L, t.1 ≠ b) → Q (.value (.map (some b))) ((b, true, .map #[] 0) :: L)) : wpS P New (execOp ρ ⟨d, .makeMap t none, ty, ps, af, g⟩) Q L := by
 show wpS P New (Instr.makeMap t none >>= fun v => pure (.value v)) Q L;unfold Instr.makeMap;simp only [au, bm];exact b8 hN hQ
theorem kT {t e : TypeId} {x : Operand} {v z : Value} (hx : ρ x = v) (hu : P.underlying t = some (.slice e)) (hs : sizeAt P e = some 1) (hz : zeroAt P e = some z) (hzp : plainV z = true) (hp : plainV v = true) (hN : New (.cells #[v] e))
   (hQ : ∀ b, (∀ t ∈ L, t.1 ≠ b) → Q (.value (.slice (some ⟨b, 0, none⟩) 1 1)) ((b, true, .cells #[v] e) :: L)) : wpS P New (execOp ρ ⟨d, .buildSlice t 1 #[(0, x)], ty, ps, af, g⟩) Q L := by
 simp only [execOp, List.map_toArray, List.map_cons, List.map_nil];unfold Instr.buildSlice newRow;have h0 : Instr.fill (fun i => some (i * 1, 1)) ((Array.range (1 * 1)).map (#[z][· % #[z].size]!)) [(0, v)] = some #[v] := by
   have e1 : (Array.range (1 * 1)).map (#[z][· % #[z].size]!) = #[z] := by
     have : Array.range (1 * 1) = #[0] := by decide
     rw [this]; simp
   rw [e1];simp [Instr.fill, bR hp]
 rw [au, au, aQ hu, hx];simp only [];rw [au, bM hs];simp only [Nat.one_mul, gt_iff_lt, Nat.reduceLT, Nat.reducePow, if_false, Nat.one_ne_zero];rw [au, cx hz, au, bm, bR hzp];simp only [Nat.one_mul] at h0;simp only [h0, au];exact b8 hN hQ
theorem la (n : Nat) : ∀ (r c : Nat), c ≤ n → Builtin.growBy n r c ≤ 2 * n + 192
 | 0, c, h => by unfold Builtin.growBy; omega
 | r + 1, c, h => by
   unfold Builtin.growBy
   split
   · omega
   · rename_i hc;by_cases h2 : c + (c + 768) / 4 ≤ n
     · exact la n r _ h2
     · cases r with
       | zero => unfold Builtin.growBy; omega
       | succ r => unfold Builtin.growBy; rw [if_pos (by omega)]; omega
theorem oY {n c : Nat} (h : c < n) : Builtin.nextslicecap n c ≤ 2 * n + 192 := by
 unfold Builtin.nextslicecap
 split
 · omega
 · split
   · omega
   · exact la n 4 c (by omega)
structure Reads (P : Program) (L : Frag) (sz n : Nat) (x : Value) (vs : Array Value) : Prop where
 r : ∀ (New : Obj → Prop) (Q : Array Value → Frag → Prop), Q vs L → wpS P New (Builtin.firstCells sz n x) Q L
theorem dw {sz n len cap : Nat} : Reads P L sz n (.slice none len cap) #[] := ⟨fun _ _ hQ => hQ⟩
theorem cu {b : Builtin} {args : Array Operand} {ats : Array TypeId} {s : Sem Value} (hb : ∀ cs, builtin b ats ty cs (args.map ρ) = (s >>= fun v => pure (.value v))) (h : wpS P New s (fun v L' => Q (.value v) L') L) : wpS P New (execOp ρ ⟨d, .call ⟨.builtin b, args, ats⟩, ty, ps, af, g⟩) Q L := by
 show wpS P New (builtin b ats ty _ (args.map ρ)) Q L;rw [hb, au];exact h
theorem ng {n : Nat} {Q : Unit → Frag → Prop} (h : Q () L) : wpS P New (askRoom n) Q L := by
 unfold askRoom
 split
 · exact ⟨rfl, h⟩
 · exact h
theorem oZ {x y : Operand} {t u e e2 : TypeId} {sz sLen sCap b o n m : Nat} {yb : Option Addr} {yc : Nat} {vs : Array Value} {cs : Array Value} {e' : TypeId} (hx : ρ x = .slice (some ⟨b, o, none⟩) sLen sCap) (hy : ρ y = .slice yb n yc) (hu : P.underlying t = some (.slice e)) (hv : P.underlying u = some (.slice e2)) (hs : sizeAt P e = some sz)
   (hr : Reads P L sz n (.slice yb n yc) vs) (hc : sLen + n ≤ sCap) (hm : L[m]? = some (b, true, .cells cs e')) (ho : o + sLen * sz + vs.size ≤ cs.size) (hp : vs.toList.all plainV = true)
   (hQ : Q (.value (.slice (some ⟨b, o, none⟩) (sLen + n) sCap)) (L.set m (b, true, .cells (puts cs (o + sLen * sz) vs.toList) e'))) : wpS P New (execOp ρ ⟨d, .call ⟨.builtin .append, #[x, y], #[t, u]⟩, ty, ps, af, g⟩) Q L := by
 refine cu (s := Builtin.append_ #[t, u] ty #[.slice (some ⟨b, o, none⟩) sLen sCap, .slice yb n yc]) (fun _ => by simp [builtin, hx, hy]) ?_;unfold Builtin.append_;simp only [List.getElem?_toArray, List.getElem?_cons_zero, List.getElem?_cons_succ];rw [au, aQ hu];simp only [];rw [au, bM hs];rw [au, aQ hv, au, bm];simp only [Bool.false_eq_true, if_false, Bool.not_false, if_true, Builtin.lenOf];rw [au, bm];simp only [hc, if_true];rw [au];refine hr.r New _ ?_;rw [au, c9];exact cj hm (by simpa using ho) hp hQ
theorem nh {x y : Operand} {t u e e2 : TypeId} {sz by_ sLen sCap n : Nat} {xb yb : Option Addr} {yc : Nat} {ws vs : Array Value} {z : Value} (hx : ρ x = .slice xb sLen sCap) (hy : ρ y = .slice yb n yc) (hu : P.underlying t = some (.slice e)) (hv : P.underlying u = some (.slice e2)) (hs : sizeAt P e = some sz) (hb : bytesAt P e = some (by_ + 1)) (hz0 : zeroAt P e = some z)
   (hw : Reads P L sz sLen (.slice xb sLen sCap) ws) (hr : Reads P L sz n (.slice yb n yc) vs) (hc : sCap < sLen + n) (hbig : (2 * (sLen + n) + 192) * (by_ + 1) ≤ 281474976710656) (hN : ∀ cs, New (.cells cs e))
   (hQ : ∀ b cap, (∀ t ∈ L, t.1 ≠ b) → sLen + n ≤ cap → cap < 9223372036854775808 → Q (.value (.slice (some ⟨b, 0, none⟩) (sLen + n) cap)) ((b, true, .cells (ws ++ vs ++ Builtin.zeroCells z.cells (cap - (sLen + n))) e) :: L)) : wpS P New (execOp ρ ⟨d, .call ⟨.builtin .append, #[x, y], #[t, u]⟩, ty, ps, af, g⟩) Q L := by
 refine cu (s := Builtin.append_ #[t, u] ty #[.slice xb sLen sCap, .slice yb n yc]) (fun _ => by simp [builtin, hx, hy]) ?_;unfold Builtin.append_;simp only [List.getElem?_toArray, List.getElem?_cons_zero, List.getElem?_cons_succ];obtain ⟨inf, hinf, hby⟩ := Option.map_eq_some_iff.1 hb;rw [au, aQ hu];simp only [];rw [au, bM hs];rw [au, aQ hv, au, bm];simp only [Bool.false_eq_true, if_false, Bool.not_false, if_true, Builtin.lenOf];rw [au, bm];have h1 : ¬ (sLen + n ≤ sCap) := by omega
 simp only [h1, if_false];rw [au, cZ hinf];have h2 : ¬ (((sLen + n : Nat) : Int) > IntKind.i64.max ∧ (False ∨ inf.bytes = 0)) := by rw [hby]; rintro ⟨_, h | h⟩ <;> simp at h
 simp only [h2, if_false];rw [au, cZ hinf];have h3 : ¬ (Builtin.nextslicecap (sLen + n) sCap * inf.bytes > 2 ^ 48) := by
   rw [hby];have := Nat.mul_le_mul_right (by_ + 1) (oY hc);omega
 simp only [h3, if_false];rw [au];have hlt : sLen + n < 9223372036854775808 := by
   have : 2 * (sLen + n) + 192 ≤ (2 * (sLen + n) + 192) * (by_ + 1) := Nat.le_mul_of_pos_right _ (by omega);omega
 refine ⟨fun h => by simp [Question.forced] at h, fun _ tp => ?_⟩;have hcap : sLen + n ≤ Question.cut (.appendCap (sLen + n) sCap e) tp ∧ Question.cut (.appendCap (sLen + n) sCap e) tp < 9223372036854775808 := by
   simp only [Question.cut];have := Nat.mod_lt tp (show 2 ^ 63 - (sLen + n) > 0 by omega);omega
 generalize Question.cut (.appendCap (sLen + n) sCap e) tp = cap at hcap ⊢;rw [iO, au, cZ hinf, au];refine ng ?_;rw [au];refine hw.r New _ ?_;rw [au];refine hr.r New _ ?_;rw [au, cx hz0];simp only [newRow, au];exact b8 (hN _) fun b hb => hQ b cap hb hcap.1 hcap.2
end
section
variable {σ : Type} (F : Fam σ) (P : Program) (main : Bool) (fn : FuncId) (ops : Array Oper) (S : Array Bool → σ → World → Prop) (Q : σ → Exit → Act → World → Prop) (nf : Nat)
def AnyY : Nat → Array Bool → σ → Act → World → Prop
 | 0, ls, s, a, w => Region.ready .any ops ls = [] ∧ Q s .normal a w
 | fuel + 1, ls, s, a, w =>
   (Region.ready .any ops ls = [] → Q s .normal a w) ∧
   ∀ i ∈ Region.ready .any ops ls, OpX F P main fn ops nf i (fun s' a' w' => S (ls.setIfInBounds i true) s' w' ∧ AnyY fuel (ls.setIfInBounds i true) s' a' w') s a w
def Down (ls : Array Bool) : Prop := ls.size = ops.size ∧ ∀ j oj, ops[j]? = some oj → ls.getD j true = true → ∀ e ∈ oj.after, Region.binds .any e = true → ls.getD e.on false = true
end
def hangs (ops : Array Oper) : Nat → Nat → Nat → Bool
 | 0, _, _ => false
 | f + 1, e, i => match ops[e]? with
   | some oe => oe.after.any fun ed => Region.binds .any ed && (ed.on == i || hangs ops f ed.on i)
   | none => false
section
variable {ops : Array Oper} {ls : Array Bool}
theorem lX {i : Nat} (h : ls.getD i false = true) : ls.getD i true = true := by
 simp only [Array.getD_eq_getD_getElem?] at *;cases hx : ls[i]? <;> simp_all
theorem Down.hangs (h : Down ops ls) : ∀ (f e i : Nat), Lo.hangs ops f e i = true → ls.getD e true = true → ls.getD i false = true
 | 0, _, _, hh, _ => by simp [Lo.hangs] at hh
 | f + 1, e, i, hh, he => by
   unfold Lo.hangs at hh
   split at hh
   · rename_i oe hoe;obtain ⟨ed, hed, hb⟩ := Array.any_eq_true'.1 hh;simp only [Bool.and_eq_true, Bool.or_eq_true, beq_iff_eq] at hb;have h1 := h.2 e oe hoe he ed hed hb.1;rcases hb.2 with rfl | h2
     · exact h1
     · exact h.hangs f ed.on i h2 (lX h1)
   · cases hh
theorem ni {i j : Nat} {d : Bool} (h : ls.getD j d = true) : (ls.setIfInBounds i true).getD j d = true := by
 simp only [Array.getD_eq_getD_getElem?, Array.getElem?_setIfInBounds] at *
 split
 · split <;> simp_all
 · exact h
theorem Down.step (h : Down ops ls) {i : Nat} (hi : i ∈ Region.ready .any ops ls) : Down ops (ls.setIfInBounds i true) := by
 obtain ⟨hun, oi, hoi, hall⟩ := mem_ready.1 hi;refine ⟨by simpa using h.1, fun j oj hoj hj e he hb => ?_⟩;by_cases hji : i = j
 · subst hji;obtain rfl := Option.some.inj (hoi.symm.trans hoj);exact ni (hall e he hb)
 · refine ni (h.2 j oj hoj ?_ e he hb);simpa [Array.getD_eq_getD_getElem?, Array.getElem?_setIfInBounds, hji] using hj
theorem jL : Down ops (Array.replicate ops.size false) := by
 refine ⟨by simp, fun j oj hoj hj => ?_⟩;have : j < ops.size := (Array.getElem?_eq_some_iff.1 hoj).1;simp [Array.getD_eq_getD_getElem?, this] at hj
end
section
variable {σ : Type} {F : Fam σ} {P : Program} {main : Bool} {fn : FuncId} {ops : Array Oper} {S : Array Bool → σ → World → Prop} {Q : σ → Exit → Act → World → Prop} {nf : Nat}
theorem AnyY.rely (hSR : ∀ ls s x y, S ls s x → F.R s x y → S ls s y) (hQR : ∀ s a x y, Q s .normal a x → F.R s x y → Q s .normal a y) :
   ∀ (fuel : Nat) (ls : Array Bool) (s : σ) (a : Act) (w w₁ : World), AnyY F P main fn ops S Q nf fuel ls s a w → F.R s w w₁ → AnyY F P main fn ops S Q nf fuel ls s a w₁
 | 0, _, _, _, _, _, h, r => ⟨h.1, hQR _ _ _ _ h.2 r⟩
 | fuel + 1, ls, s, a, w, w₁, h, r => ⟨fun e => hQR _ _ _ _ (h.1 e) r, fun i hi => by
     rcases h.2 i hi with this | ⟨o, f, args, ats, Post, h1, h2, h3, h4, h5⟩
     · refine .inl ?_;unfold OpC at *
       split
       · simp_all
       · rename_i o ho;simp only [ho] at this
         split
         · rename_i hw; simp only [hw, if_true] at this; exact fun w₂ h₂ => this w₂ ((F.terms s).trans _ _ _ r h₂)
         · rename_i hw; simp only [hw] at this; exact ⟨hSR _ _ _ _ this.1 r, AnyY.rely hSR hQR fuel _ _ _ _ _ this.2 r⟩
     · exact .inr ⟨o, f, args, ats, Post, h1, h2, h3, mS h4 r, h5⟩⟩
theorem o0 : ∀ (fuel t : Nat) (ls : Array Bool) (s : σ) (a : Act) (w : World), AnyY F P main fn ops S Q nf fuel ls s a w →
   OpsX F P main fn ops (Region.linearise.go .any ops fuel t ls []) (fuel * (nf + 3) + 1) s Q a w := by
 intro fuel
 induction fuel with
 | zero => intro t ls s a w h; simpa [Region.linearise.go] using bq h.2
 | succ fuel ih =>
   intro t ls s a w h;obtain ⟨h₀, h₁⟩ := h;simp only [Region.linearise.go]
   change OpsX F P main fn ops (match (Region.ready .any ops ls)[t % (Region.ready .any ops ls).length]? with
     | some i => Region.linearise.go .any ops fuel (t / (Region.ready .any ops ls).length) (ls.setIfInBounds i true) [i]
     | none => [].reverse) ((fuel + 1) * (nf + 3) + 1) s Q a w
   cases hi : (Region.ready .any ops ls)[t % (Region.ready .any ops ls).length]? with
   | none =>
     have hnil : Region.ready .any ops ls = [] := by
       cases hr : Region.ready .any ops ls with
       | nil => rfl
       | cons x xs =>
         rw [hr] at hi;have hlt : t % (x :: xs).length < (x :: xs).length := Nat.mod_lt _ (by simp);simp at hi;simp at hlt;omega
     exact eH (by simpa using bq (h₀ hnil)) (by omega)
   | some i =>
     simp only [];rw [linearise_go_acc, List.reverse_singleton, List.singleton_append];have := mV (mU (fun s' a' w' x => ih (t / (Region.ready .any ops ls).length) _ s' a' w' x.2) (h₁ i (List.mem_of_getElem? hi)));exact eH this (by rw [Nat.succ_mul]; omega)
theorem vU {j : Nat} {oi oj : Oper} {v : Value} (hj : ops[j]? = some oj) (hap : oi.apart ops oj = true)
   (hsj : ∀ cs b, oj.op ≠ .select cs b) {K : σ → Act → World → Prop} {s : σ} {a : Act} {w : World} (h : OpX F P main fn ops nf j K s (a.put oi.dst v) w) :
   OpX F P main fn ops nf j (fun s' a' w' => (∃ u, a' = a.put oj.dst u) ∧ K s' (a'.put oi.dst v) w') s a w := by
 obtain ⟨h1, h2, h3⟩ := Oper.apart_spec hap;rcases h with h | ⟨o, f, args, ats, Post, g1, g2, g3, g4, g5⟩
 · refine .inl ?_;unfold OpC at *;simp only [hj] at *;rw [wanted_put oj a oi.dst v h1] at h
   split
   · rename_i hw;simp only [hw, if_true] at h;intro w₁ h₁;have h := h w₁ h₁;unfold listed at *;rw [execOp_put oj hsj a oi.dst v h1] at h;generalize (execOp a.eval oj).run P w₁ = r at *;cases r with
     | ok n w' =>
       cases n <;> simp only [uponK] at h ⊢
       case value u => exact ⟨h.1, ⟨u, rfl⟩, by rw [← Act.put_comm a v u h2]; exact h.2⟩
       case skip => exact ⟨h.1, ⟨_, rfl⟩, by rw [← Act.put_comm a v undef h2]; exact h.2⟩
     | halt x w' => simp only [uponK] at h
   · rename_i hw;simp only [hw] at h;exact ⟨⟨_, rfl⟩, by rw [← Act.put_comm a v undef h2]; exact h⟩
 · obtain rfl : oj = o := Option.some.inj (hj.symm.trans g1);refine .inr ⟨oj, f, args, ats, Post, hj, by rw [wanted_put oj a oi.dst v h1] at g2; exact g2, g3, ?_, fun s' u w' hp => ⟨⟨u, rfl⟩, by rw [← Act.put_comm a v u h2]; exact g5 s' u w' hp⟩⟩;have : args.map (a.put oi.dst v).eval = args.map a.eval := by
     apply Array.map_congr_left;intro x hx;refine Act.eval_put fun d hd hxd => h1 d hd ?_;subst hxd;refine List.mem_append_left _ (List.mem_filterMap.2 ⟨.tmp d, ?_, rfl⟩);simp [g3, Op.operands, Call.operands, hx]
   rw [this] at g4;exact g4
def YY (F : Fam σ) (P : Program) (fn : FuncId) (ops : Array Oper) (S : Array Bool → σ → World → Prop) (i : Nat) (oi : Oper) (v : Value) (a : Act) : Prop :=
 ∀ ls, Down ops ls → ls.getD i true = false → YieldsX F P fn ops (S ls) oi v a
theorem o3 (hSR : ∀ ls s x y, S ls s x → F.R s x y → S ls s y) (hQR : ∀ s a x y, Q s .normal a x → F.R s x y → Q s .normal a y) {i : Nat} {oi : Oper} {v : Value} (hi : ops[i]? = some oi)
   (hsel : ∀ (j : Nat) (o : Oper) cs b, ops[j]? = some o → o.op ≠ .select cs b) (hSi : ∀ ls s w, S ls s w ↔ S (ls.setIfInBounds i true) s w) :
   ∀ (fuel : Nat) (ls : Array Bool) (s : σ) (a : Act) (w : World), Down ops ls →
     (∀ j oj, ops[j]? = some oj → j ≠ i → ls.getD j true = false → (∀ e ∈ oj.after, Region.binds .any e = true → e.on ≠ i) → oi.apart ops oj = true) →
     i ∈ Region.ready .any ops ls → YY F P fn ops S i oi v a → S ls s w →
     AnyY F P main fn ops S Q nf fuel (ls.setIfInBounds i true) s (a.put oi.dst v) w → AnyY F P main fn ops S Q nf (fuel + 1) ls s a w := by
 have hK : ∀ fuel ls, ∀ s a x y, (S ls s x ∧ AnyY F P main fn ops S Q nf fuel ls s a x) → F.R s x y → (S ls s y ∧ AnyY F P main fn ops S Q nf fuel ls s a y) :=
   fun fuel ls s a x y h r => ⟨hSR _ _ _ _ h.1 r, AnyY.rely hSR hQR fuel ls s a x y h.2 r⟩
 intro fuel
 induction fuel with
 | zero =>
   intro ls s a w hD _ hr hy hS H;refine ⟨fun h => (by rw [h] at hr; cases hr), fun j hj => ?_⟩;have hun := (mem_ready.1 hr).1;by_cases hji : j = i
   · subst hji; exact (hy ls hD hun).opX (hSR ls) hi (hK _ _) hS ⟨(hSi _ _ _).1 hS, H⟩
   · have := ready_mono hj hji;rw [H.1] at this;cases this
 | succ fuel ih =>
   intro ls s a w hD hfree hr hy hS H;have hun := (mem_ready.1 hr).1;refine ⟨fun h => (by rw [h] at hr; cases hr), fun j hj => ?_⟩;by_cases hji : j = i
   · subst hji; exact (hy ls hD hun).opX (hSR ls) hi (hK _ _) hS ⟨(hSi _ _ _).1 hS, H⟩
   · have h1 := H.2 j (ready_mono hj hji);obtain ⟨hjun, oj, hoj, hall⟩ := mem_ready.1 hj;have hnot : ∀ e ∈ oj.after, Region.binds .any e = true → e.on ≠ i := fun e he hb heq => by
       have h1 := hall e he hb;have h0 := (mem_ready.1 hr).1;rw [heq] at h1;rcases Nat.lt_or_ge i ls.size with h' | h'
       · simp [h'] at h0 h1; rw [h0] at h1; cases h1
       · simp [Array.getElem?_eq_none h'] at h1
     have hap := hfree j oj hoj hji hjun hnot;obtain ⟨g1, g2, g3⟩ := Oper.apart_spec hap;have h2 := vU hoj hap (fun cs b => hsel j oj cs b hoj) h1
     have hfree' : ∀ k ok, ops[k]? = some ok → k ≠ i → (ls.setIfInBounds j true).getD k true = false →
         (∀ e ∈ ok.after, Region.binds .any e = true → e.on ≠ i) → oi.apart ops ok = true := fun k ok hk hki hun hno => by
       refine hfree k ok hk hki ?_ hno;by_cases hjk : j = k
       · subst hjk; exact hjun
       · rw [getD_set_ne true hjk] at hun; exact hun
     have hun' : (ls.setIfInBounds j true).getD i true = false := by rw [getD_set_ne true hji]; exact hun
     refine mU (fun s' a' w' h3 => ?_) h2;obtain ⟨⟨u, rfl⟩, h4, h5⟩ := h3;have hS' : S (ls.setIfInBounds j true) s' w' := by
       rw [hSi, Array.setIfInBounds_comm _ _ hji];exact h4
     refine ⟨hS', ih (ls.setIfInBounds j true) s' _ w' (hD.step hj) hfree' (ready_mono hr (Ne.symm hji)) (fun ls' d' u' s => (hy ls' d' u' s).of_same (execOp_put oi (fun cs b => hsel i oi cs b hi) a oj.dst u g3) (wanted_put oi a oj.dst u g3)) hS' ?_⟩;rw [Array.setIfInBounds_comm _ _ hji];exact h5
theorem iQ (hSR : ∀ ls s x y, S ls s x → F.R s x y → S ls s y) (hQR : ∀ s a x y, Q s .normal a x → F.R s x y → Q s .normal a y) {i : Nat} {oi : Oper} {v : Value} {fuel : Nat} {ls : Array Bool} {s : σ} {a : Act} {w : World} (hi : ops[i]? = some oi)
   (hs : Region.noSelect ops = true) (hf : Region.free .any ops ls i = true) (hr : (Region.ready .any ops ls).contains i = true) (hD : Down ops ls) (hSi : ∀ ls s w, S ls s w ↔ S (ls.setIfInBounds i true) s w)
   (hy : YY F P fn ops S i oi v a) (hS : S ls s w) (h : AnyY F P main fn ops S Q nf fuel (ls.setIfInBounds i true) s (a.put oi.dst v) w) : AnyY F P main fn ops S Q nf (fuel + 1) ls s a w :=
 o3 hSR hQR hi (Region.noSelect_spec hs) hSi fuel ls s a w hD (Region.free_spec hi hf) (by simpa using hr) hy hS h
theorem gV {rs : List Nat} {fuel : Nat} {ls : Array Bool} {s : σ} {a : Act} {w : World} (hr : Region.ready .any ops ls = rs) (hne : rs ≠ [])
   (h : ∀ i ∈ rs, OpX F P main fn ops nf i (fun s' a' w' => S (ls.setIfInBounds i true) s' w' ∧ AnyY F P main fn ops S Q nf fuel (ls.setIfInBounds i true) s' a' w') s a w) : AnyY F P main fn ops S Q nf (fuel + 1) ls s a w :=
 ⟨fun h0 => absurd (hr ▸ h0) hne, hr ▸ h⟩
theorem lb {ls : Array Bool} {s : σ} {a : Act} {w : World} (hr : Region.ready .any ops ls = []) (h : Q s .normal a w) : ∀ fuel, AnyY F P main fn ops S Q nf fuel ls s a w
 | 0 => ⟨hr, h⟩
 | _ + 1 => ⟨fun _ => h, fun i hi => by rw [hr] at hi; cases hi⟩
theorem jM {s : σ} (hd : LetsDraw (F.D s)) {id : Nat} {a : Act} {w : World} (hm : P.follows .mixedOrders = true)
   (h : ∀ w₁, F.R s w w₁ → AnyY F P main fn ops S Q nf ops.size (Array.replicate ops.size false) s a { w₁ with drawn := w₁.drawn + 1 }) : wpX F P main fn (Code.region id ops true) (ops.size * (nf + 3) + 1 + 1) s Q a w :=
 fun b k cs m hb hk hc => Goes.step rfl fun w₁ h₁ => by
   rw [stepG_region_draw];refine ⟨hd _, ?_⟩;have := o0 ops.size (w₁.tape w₁.drawn (.order b.fn id)) _ s a _ (h w₁ h₁) b k cs m hb hk hc;simp only [Region.schedule, hm, Bool.true_or, if_true];exact this
end
section
variable {σ : Type} {F : Fam σ} (Δ : ∀ s, Dom (F.R s) (F.D s)) (P : Program) (main : Bool) (fn : FuncId) (ops : Array Oper) (Q : σ → Exit → Act → Frag → Prop) (nf : Nat)
def Pre (R L0 : Frag) (e : Nat) (s0 : σ) (ls : Array Bool) (s : σ) (L : Frag) : Prop := s = s0 ∧ (∀ t ∈ R, t ∈ L) ∧ (ls.getD e true = false → ∀ t ∈ L0, t ∈ L)
def AnyL (R L0 : Frag) (e : Nat) (s0 : σ) (fuel : Nat) (ls : Array Bool) (s : σ) (a : Act) (L : Frag) : Prop :=
 Down ops ls → ∀ w, (Δ s).Own L w → AnyY F P main fn ops (fun ls s w => ∃ L, (Δ s).Own L w ∧ Pre R L0 e s0 ls s L) (up Δ Q) nf fuel ls s a w
end
section
variable {σ : Type} {F : Fam σ} {Δ : ∀ s, Dom (F.R s) (F.D s)} {P : Program} {main : Bool} {fn : FuncId} {ops : Array Oper} {Q : σ → Exit → Act → Frag → Prop} {nf : Nat} {R L0 : Frag} {e : Nat} {s0 s : σ} {fuel : Nat} {ls : Array Bool} {a : Act} {L : Frag}
theorem nj {ls : Array Bool} {s : σ} {x y : World} (h : ∃ L, (Δ s).Own L x ∧ Pre R L0 e s0 ls s L) (r : F.R s x y) : ∃ L, (Δ s).Own L y ∧ Pre R L0 e s0 ls s L := by
 obtain ⟨L, h1, h2⟩ := h;exact ⟨L, (Δ s).rely h1 r, h2⟩
theorem vV {s : σ} {x : Exit} {a : Act} {w w₁ : World} (h : up Δ Q s x a w) (r : F.R s w w₁) : up Δ Q s x a w₁ := by
 obtain ⟨L, h1, h2⟩ := h;exact ⟨L, (Δ s).rely h1 r, h2⟩
theorem tL (R : Frag) (e : Nat) {id : Nat} (hm : P.follows .mixedOrders = true) (h : AnyL Δ P main fn ops Q nf R L e s ops.size (Array.replicate ops.size false) s a L) : wpL Δ P main fn (.region id ops true) (ops.size * (nf + 3) + 1 + 1) s Q a L := by
 intro w hO;refine jM (S := fun ls s' w => ∃ L', (Δ s').Own L' w ∧ Pre R L e s ls s' L') (Δ s).ld hm fun w₁ h₁ => h jL _ ((Δ s).draw ((Δ s).rely hO h₁)).1
theorem jN : ∀ (s : σ) (a : Act) (x y : World), up Δ Q s .normal a x → F.R s x y → up Δ Q s .normal a y := fun _ _ _ _ h r => vV h r
theorem le {i : Nat} {oi : Oper} {v : Value} {Lr : Frag} (hi : ops[i]? = some oi) (hs : Region.noSelect ops = true) (hf : Region.free .any ops ls i = true) (hr : (Region.ready .any ops ls).contains i = true) (hie : i ≠ e) (hr0 : Lr = R ∨ (Lr = L0 ∧ hangs ops ops.size e i = true))
   (hP : Pre R L0 e s0 ls s L) (hw : Region.wanted oi (yielded ops a.tmps) = true) (hy : Yld P Lr (execOp a.eval oi) v)
   (h : AnyL Δ P main fn ops Q nf R L0 e s0 fuel (ls.setIfInBounds i true) s (a.put oi.dst v) L) : AnyL Δ P main fn ops Q nf R L0 e s0 (fuel + 1) ls s a L := by
 intro hD w hO;have hrm : i ∈ Region.ready .any ops ls := by simpa using hr
 refine iQ (fun _ _ _ _ h r => nj h r) jN hi hs hf hr hD (fun ls s w => ?_) (fun ls' hD' hun s' => .inl ⟨hw, fun w' ⟨L', hO', h1, h2, h3⟩ => ?_⟩) ⟨L, hO, hP⟩ (h (hD.step hrm) w hO)
 · refine exists_congr fun L' => and_congr_right fun _ => ?_;unfold Pre;rw [getD_set_ne true hie]
 · have hsub : ∀ t ∈ Lr, t ∈ L' := by
     rcases hr0 with rfl | ⟨rfl, hh⟩
     · exact h2
     · refine h3 ?_;cases he : ls'.getD e true with
       | false => rfl
       | true =>
         have := hD'.hangs _ _ _ hh he;rw [lX this] at hun;cases hun
   obtain ⟨q1, q2⟩ := lU (Δ s') hO' (hy.mono hsub);exact ⟨q1, (Δ s').dd ((Δ s').gr w') fun e he => q2 e (mem_listed he)⟩
theorem rN {i : Nat} {oi : Oper} (hi : ops[i]? = some oi) (hs : Region.noSelect ops = true) (hf : Region.free .any ops ls i = true) (hr : (Region.ready .any ops ls).contains i = true) (hie : i ≠ e)
   (hP : Pre R L0 e s0 ls s L) (hw : Region.wanted oi (yielded ops a.tmps) = false)
   (h : AnyL Δ P main fn ops Q nf R L0 e s0 fuel (ls.setIfInBounds i true) s (a.put oi.dst undef) L) : AnyL Δ P main fn ops Q nf R L0 e s0 (fuel + 1) ls s a L := by
 intro hD w hO;have hrm : i ∈ Region.ready .any ops ls := by simpa using hr
 refine iQ (fun _ _ _ _ h r => nj h r) jN hi hs hf hr hD (fun ls s w => ?_) (fun ls' hD' hun s' => .inr ⟨hw, rfl⟩) ⟨L, hO, hP⟩ (h (hD.step hrm) w hO);refine exists_congr fun L' => and_congr_right fun _ => ?_;unfold Pre;rw [getD_set_ne true hie]
theorem qe {i : Nat} {o : Oper} (hr : Region.ready .any ops ls = [i]) (hi : ops[i]? = some o) (hw : Region.wanted o (yielded ops a.tmps) = true)
   (h : wpS P (Δ s).New (execOp a.eval o) (fun x L' => onNext o a (fun a' => Pre R L0 e s0 (ls.setIfInBounds i true) s L' ∧ AnyL Δ P main fn ops Q nf R L0 e s0 fuel (ls.setIfInBounds i true) s a' L') x) L) : AnyL Δ P main fn ops Q nf R L0 e s0 (fuel + 1) ls s a L := by
 intro hD w hO;have hrm : i ∈ Region.ready .any ops ls := by simp [hr]
 refine gV hr (by simp) fun j hj => ?_;obtain rfl : j = i := by simpa using hj
 refine .inl ?_;unfold OpC;simp only [hi, hw, if_true];intro w₁ h₁;obtain ⟨x, w', hrun, hg, he, L', hL, hx⟩ := oS (Δ s) ((Δ s).rely hO h₁) h;exact lS (Δ := Δ) (s := s) (KL := fun a' L' => Pre R L0 e s0 (ls.setIfInBounds j true) s L' ∧ AnyL Δ P main fn ops Q nf R L0 e s0 fuel (ls.setIfInBounds j true) s a' L') hrun hL hx fun a' k => ⟨(Δ s).dd hg fun e hm => he e (mem_listed hm), ⟨L', hL, k.1⟩, k.2 (hD.step hrm) _ hL⟩
theorem rO {i : Nat} {o : Oper} {f : FuncId} {args : Array Operand} {ats : Array TypeId} {Post : σ → Value → Frag → Prop} (hr : Region.ready .any ops ls = [i]) (hi : ops[i]? = some o) (hw : Region.wanted o (yielded ops a.tmps) = true)
   (hop : o.op = .call { callee := .value (.func f), args, argTypes := ats }) (hcall : CallsL Δ P main f (args.map a.eval) nf s L Post)
   (h : ∀ s' v L', Post s' v L' → Pre R L0 e s0 (ls.setIfInBounds i true) s' L' ∧ AnyL Δ P main fn ops Q nf R L0 e s0 fuel (ls.setIfInBounds i true) s' (a.put o.dst v) L') : AnyL Δ P main fn ops Q nf R L0 e s0 (fuel + 1) ls s a L := by
 intro hD w hO;have hrm : i ∈ Region.ready .any ops ls := by simp [hr]
 refine gV hr (by simp) fun j hj => ?_;obtain rfl : j = i := by simpa using hj
 exact .inr ⟨o, f, args, ats, _, hi, hw, hop, hcall w hO, fun s' v w' ⟨L', hL, hp⟩ => ⟨⟨L', hL, (h s' v L' hp).1⟩, (h s' v L' hp).2 (hD.step hrm) _ hL⟩⟩
theorem tM {i j : Nat} (hr : Region.ready .any ops ls = [i, j])
   (h1 : ∀ (w : World), (Δ s).Own L w → Down ops ls → OpX F P main fn ops nf i (fun s' a' w' => (∃ L', (Δ s').Own L' w' ∧ Pre R L0 e s0 (ls.setIfInBounds i true) s' L') ∧ AnyY F P main fn ops (fun ls s w => ∃ L, (Δ s).Own L w ∧ Pre R L0 e s0 ls s L) (up Δ Q) nf fuel (ls.setIfInBounds i true) s' a' w') s a w)
   (h2 : ∀ (w : World), (Δ s).Own L w → Down ops ls → OpX F P main fn ops nf j (fun s' a' w' => (∃ L', (Δ s').Own L' w' ∧ Pre R L0 e s0 (ls.setIfInBounds j true) s' L') ∧ AnyY F P main fn ops (fun ls s w => ∃ L, (Δ s).Own L w ∧ Pre R L0 e s0 ls s L) (up Δ Q) nf fuel (ls.setIfInBounds j true) s' a' w') s a w) :
   AnyL Δ P main fn ops Q nf R L0 e s0 (fuel + 1) ls s a L := by
 intro hD w hO;refine gV hr (by simp) fun k hk => ?_;simp only [List.mem_cons, List.not_mem_nil, or_false] at hk;rcases hk with rfl | rfl
 · exact h1 w hO hD
 · exact h2 w hO hD
theorem vW (h : (L.map (·.1)).Nodup → AnyL Δ P main fn ops Q nf R L0 e s0 fuel ls s a L) : AnyL Δ P main fn ops Q nf R L0 e s0 fuel ls s a L := fun hD w hO => h ((Δ s).nd hO) hD w hO
theorem rP (hr : Region.ready .any ops ls = []) (h : Q s .normal a L) : AnyL Δ P main fn ops Q nf R L0 e s0 fuel ls s a L := fun _ _ hO => lb hr ⟨L, hO, h⟩ fuel
end
abbrev Env := List (Nat × Value)
def look : Env → Nat → Option Value
 | [], _ => none
 | (u, v) :: ε, t => if u = t then some v else look ε t
def ev (ε : Env) : Operand → Option Value
 | .tmp t => look ε t
 | .const v => some v
 | .global g => some (.pointer (some ⟨g, 0, none⟩))
 | .func f => some (.func (.func f) #[] #[])
structure Fits (N : Nat) (ε : Env) (a : Act) : Prop where
 sz : a.tmps.size = N
 df : a.defers = []
 at_ : ∀ t v, look ε t = some v → t < N ∧ a.tmps.getD t undef = v
def putE (d : Option Tmp) (v : Value) (ε : Env) : Env := match d with
 | some d => (d, v) :: ε
 | none => ε
def dstOk (N : Nat) : Option Tmp → Bool
 | some d => decide (d < N)
 | none => true
section
variable {N : Nat} {ε : Env} {a : Act}
theorem Fits.ev (h : Fits N ε a) {x : Operand} {v : Value} (hx : Lo.ev ε x = some v) : a.eval x = v := by
 cases x with
 | tmp t => exact (h.at_ t v hx).2
 | const u => exact Option.some.inj hx
 | global g => exact Option.some.inj hx
 | func f => exact Option.some.inj hx
theorem Fits.put (h : Fits N ε a) {d : Option Tmp} (hd : dstOk N d = true) (v : Value) : Fits N (putE d v ε) (a.put d v) := by
 cases d with
 | none => exact h
 | some d =>
   have hd' : d < N := by simpa [dstOk] using hd
   refine ⟨by simpa [Act.put] using h.sz, h.df, fun t u ht => ?_⟩;simp only [putE, look] at ht
   split at ht
   · rename_i e;subst e;refine ⟨hd', ?_⟩;rw [← Option.some.inj ht];simp [Act.put, Array.getD_eq_getD_getElem?, h.sz, hd']
   · rename_i e;obtain ⟨h1, h2⟩ := h.at_ t u ht;refine ⟨h1, ?_⟩;rw [← h2];simp [Act.put, Array.getD_eq_getD_getElem?, Array.getElem?_setIfInBounds, e]
theorem Fits.sub (h : Fits N ε a) {ε' : Env} (hs : ε'.map (fun p => look ε p.1) = ε'.map (fun p => some p.2)) : Fits N ε' a := by
 refine ⟨h.sz, h.df, ?_⟩
 induction ε' with
 | nil => intro t v ht; cases ht
 | cons p ε' ih =>
   simp only [List.map_cons, List.cons.injEq] at hs;intro t v ht;simp only [look] at ht
   split at ht
   · rename_i e;rw [← e, ← Option.some.inj ht];exact h.at_ _ _ hs.1
   · exact ih hs.2 t v ht
end
def wantedE (ops : Array Oper) (N : Nat) (ε : Env) : Option (Nat × Bool) → Option Bool
 | none => some true
 | some (j, want) => match (ops[j]?).bind (·.dst) with
   | some d => match look ε d with
     | some (.bool b) => some (b == want)
     | _ => none
   | none => none
theorem Fits.wanted {N : Nat} {ε : Env} {a : Act} (h : Fits N ε a) {ops : Array Oper} {o : Oper} {b : Bool} (hw : wantedE ops N ε o.guard = some b) : Region.wanted o (yielded ops a.tmps) = b := by
 unfold Region.wanted;unfold wantedE at hw
 split at hw
 · rename_i e; rw [e]; exact Option.some.inj hw
 · rename_i j want e;rw [e]
   split at hw <;> try cases hw
   rename_i d hd
   split at hw <;> try cases hw
   rename_i c hc;obtain ⟨h1, h2⟩ := h.at_ _ _ hc;have h3 : a.tmps[d]? = some (.bool c) := by
     have : d < a.tmps.size := by rw [h.sz]; exact h1
     simp [Array.getD_eq_getD_getElem?, this] at h2;simp [this, h2]
   have h4 : yielded ops a.tmps j = some c := by
     unfold yielded;rw [hd];simp [h3]
   show (yielded ops a.tmps j == some want) = (c == want);rw [h4]; rfl
section
variable {σ : Type}
def thenE (K : σ → Env → Frag → Prop) (Q : σ → Exit → Env → Frag → Prop) : σ → Exit → Env → Frag → Prop
 | s, .normal, a, L => K s a L
 | s, e, a, L => Q s e a L
def inBlockE (id : Nat) (Q : σ → Exit → Env → Frag → Prop) : σ → Exit → Env → Frag → Prop
 | s, .exit id', a, L => if id' = id then Q s .normal a L else Q s (.exit id') a L
 | s, e, a, L => Q s e a L
def resE (g : Func) (ε : Env) : Option Value := match g.results.toList with
 | [] => some (.tuple #[])
 | [.tmp t] => look ε t
 | [.tmp t, .tmp u] => match look ε t, look ε u with
   | some v, some w => some (.tuple #[v, w])
   | _, _ => none
 | _ => none
def bodyE (g : Func) (Post : σ → Value → Frag → Prop) : σ → Exit → Env → Frag → Prop
 | s, .normal, ε, L | s, .ret, ε, L => ∃ v, resE g ε = some v ∧ Post s v L
 | _, _, _, _ => False
end
section
variable {σ : Type} {F : Fam σ} (Δ : ∀ s, Dom (F.R s) (F.D s)) (P : Program) (main : Bool) (fn : FuncId) (N : Nat)
def upE (Q : σ → Exit → Env → Frag → Prop) : σ → Exit → Act → Frag → Prop := fun s e a L => ∃ ε, Fits N ε a ∧ Q s e ε L
def wpE (c : Code) (n : Nat) (s : σ) (Q : σ → Exit → Env → Frag → Prop) (ε : Env) (L : Frag) : Prop := ∀ a, Fits N ε a → wpL Δ P main fn c n s (upE N Q) a L
def OpsE (ops : Array Oper) (todo : List Nat) (n : Nat) (s : σ) (Q : σ → Exit → Env → Frag → Prop) (ε : Env) (L : Frag) : Prop := ∀ a, Fits N ε a → OpsL Δ P main fn ops todo n s (upE N Q) a L
def AnyE (ops : Array Oper) (Q : σ → Exit → Env → Frag → Prop) (nf : Nat) (R L0 : Frag) (e : Nat) (s0 : σ) (fuel : Nat) (ls : Array Bool) (s : σ) (ε : Env) (L : Frag) : Prop := ∀ a, Fits N ε a → AnyL Δ P main fn ops (upE N Q) nf R L0 e s0 fuel ls s a L
end
section
variable {σ : Type} {F : Fam σ} {Δ : ∀ s, Dom (F.R s) (F.D s)} {P : Program} {main : Bool} {fn : FuncId} {N : Nat} {Q : σ → Exit → Env → Frag → Prop} {s : σ} {ε : Env} {L : Frag}
theorem nk {K : σ → Env → Frag → Prop} {K' : σ → Act → Frag → Prop} (h : ∀ s ε a L, Fits N ε a → K s ε L → K' s a L) {s : σ} {e : Exit} {a : Act} {L : Frag} (q : upE N (thenE K Q) s e a L) : thenL K' (upE N Q) s e a L := by
 obtain ⟨ε, hf, q⟩ := q;cases e <;> first | exact h _ _ _ _ hf q | exact ⟨ε, hf, q⟩
theorem nl {Q' : σ → Exit → Env → Frag → Prop} {c : Code} {n : Nat} (h : wpE Δ P main fn N c n s Q ε L) (hq : ∀ s e ε L, Q s e ε L → Q' s e ε L) : wpE Δ P main fn N c n s Q' ε L :=
 fun a ha => cY (h a ha) fun s e a L ⟨ε, hf, q⟩ => ⟨ε, hf, hq _ _ _ _ q⟩
theorem gW {c : Code} {n n' : Nat} (h : wpE Δ P main fn N c n s Q ε L) (hn : n ≤ n') : wpE Δ P main fn N c n' s Q ε L := fun a ha => m6 (h a ha) hn
theorem lf {ops : Array Oper} {todo : List Nat} {n n' : Nat} (h : OpsE Δ P main fn N ops todo n s Q ε L) (hn : n ≤ n') : OpsE Δ P main fn N ops todo n' s Q ε L := fun a ha => rA (h a ha) hn
theorem yx {c : Code} {n : Nat} (h : (L.map (·.1)).Nodup → wpE Δ P main fn N c n s Q ε L) : wpE Δ P main fn N c n s Q ε L := fun a ha => yq fun hn => h hn a ha
theorem jr {ops : Array Oper} {todo : List Nat} {n : Nat} (h : (L.map (·.1)).Nodup → OpsE Δ P main fn N ops todo n s Q ε L) : OpsE Δ P main fn N ops todo n s Q ε L := fun a ha => vL fun hn => h hn a ha
theorem vX {c : Code} {n : Nat} (ε' : Env)  (hs : ε'.map (fun p => look ε p.1) = ε'.map (fun p => some p.2) := by rfl) (h : wpE Δ P main fn N c n s Q ε' L) : wpE Δ P main fn N c n s Q ε L := fun a ha => h a (ha.sub hs)
def kn (ε ε' : Env) : Prop := ε'.map (fun p => look ε p.1) = ε'.map (fun p => some p.2)
theorem a0 {c : Code} {n : Nat} {ε' : Env} (hs : kn ε ε') (h : wpE Δ P main fn N c n s Q ε' L) : wpE Δ P main fn N c n s Q ε L := vX ε' hs h
theorem ar {x y : Code} {n₁ n₂ : Nat} (h : wpE Δ P main fn N x n₁ s (thenE (fun s' ε' L' => wpE Δ P main fn N y n₂ s' Q ε' L') Q) ε L) : wpE Δ P main fn N (.seq x y) (n₁ + n₂ + 1) s Q ε L :=
 fun a ha => vM (cY (h a ha) fun _ _ _ _ q => nk (fun _ _ a _ hf k => k a hf) q)
theorem jO {x y : Code} {n₁ n₂ : Nat} (ε' : Env) (h1 : wpE Δ P main fn N x n₁ s (thenE (fun s' ε'' L' => s = s' ∧ L = L' ∧ kn ε'' ε') Q) ε L) (h2 : wpE Δ P main fn N y n₂ s Q ε' L) : wpE Δ P main fn N x n₁ s (thenE (fun s' ε' L' => wpE Δ P main fn N y n₂ s' Q ε' L') Q) ε L :=
 nl h1 fun s' e ε'' L' q => by
   cases e with
   | normal => obtain ⟨rfl, rfl, hk⟩ := q; exact a0 hk h2
   | _ => exact q
theorem o4 {c : Operand} {x y : Code} (t : Bool) {n : Nat} (hc : ev ε c = some (.bool t)) (h : wpE Δ P main fn N (if t then x else y) n s Q ε L) : wpE Δ P main fn N (.cond c x y) (n + 1) s Q ε L := fun a ha => tA (ha.ev hc) (h a ha)
theorem bi {c : Operand} {x y : Code} {t : Bool} {n m : Nat}   (hc : ev ε c = some (.bool t) := by rfl) (hx : t = true → wpE Δ P main fn N x n s Q ε L) (hy : t = false → wpE Δ P main fn N y m s Q ε L) : wpE Δ P main fn N (.cond c x y) (max n m + 1) s Q ε L := by
 refine o4 t hc ?_;cases t with
 | true => exact gW (hx rfl) (Nat.le_max_left _ _)
 | false => exact gW (hy rfl) (Nat.le_max_right _ _)
theorem aS {c : Operand} {x y : Code} {n : Nat}  (hc : ev ε c = some (.bool true) := by rfl) (h : wpE Δ P main fn N x n s Q ε L) : wpE Δ P main fn N (.cond c x y) (n + 1) s Q ε L := o4 true hc h
theorem ak {c : Operand} {x y : Code} {n : Nat}  (hc : ev ε c = some (.bool false) := by rfl) (h : wpE Δ P main fn N y n s Q ε L) : wpE Δ P main fn N (.cond c x y) (n + 1) s Q ε L := o4 false hc h
theorem aJ {id : Nat} {c : Code} {n : Nat} (h : wpE Δ P main fn N c n s (inBlockE id Q) ε L) : wpE Δ P main fn N (.block id c) (n + 2) s Q ε L :=
 fun a ha => rB (cY (h a ha) fun s' e a' L' ⟨ε', hf, q⟩ => by
   cases e with
   | exit id' =>
     simp only [inBlockE] at q;simp only [inBlockL]
     split
     · rename_i e; rw [if_pos e] at q; exact ⟨ε', hf, q⟩
     · rename_i e; rw [if_neg e] at q; exact ⟨ε', hf, q⟩
   | _ => exact ⟨ε', hf, q⟩)
theorem aC (h : Q s .normal ε L) : wpE Δ P main fn N .skip 1 s Q ε L := fun _ ha => tB ⟨ε, ha, h⟩
theorem aI (h : Q s .ret ε L) : wpE Δ P main fn N .ret 1 s Q ε L := fun _ ha => vN ⟨ε, ha, h⟩
theorem bN {id : Nat} (h : Q s (.exit id) ε L) : wpE Δ P main fn N (.exit id) 1 s Q ε L := fun _ ha => tC ⟨ε, ha, h⟩
theorem ay {id : Nat} {ops : Array Oper} {n : Nat} (h : OpsE Δ P main fn N ops (List.range ops.size) n s Q ε L) : wpE Δ P main fn N (.region id ops false) (n + 1) s Q ε L := fun a ha => oT (h a ha)
theorem ai {id n n₂ : Nat} {ops : Array Oper} {y : Code} (h : OpsE Δ P main fn N ops (List.range ops.size) n s (thenE (fun s' ε' L' => wpE Δ P main fn N y n₂ s' Q ε' L') Q) ε L) : wpE Δ P main fn N (.seq (.region id ops false) y) (n + 1 + n₂ + 1) s Q ε L := ar (ay h)
theorem aa {ops : Array Oper} (h : Q s .normal ε L) : OpsE Δ P main fn N ops [] 1 s Q ε L := fun _ ha => tG ⟨ε, ha, h⟩
theorem bF {c : Code} {n : Nat} (I : Nat → σ → Env → Frag → Prop) (k : Nat) (hI : I k s ε L) (h : ∀ k s ε L, I k s ε L → wpE Δ P main fn N c n s (thenE (fun s' ε' L' => ∃ k', k' < k ∧ I k' s' ε' L') Q) ε L) :
   wpE Δ P main fn N (.loop c) ((k + 1) * (n + 1)) s Q ε L :=
 fun a ha => tF (fun k s a L => ∃ ε, Fits N ε a ∧ I k s ε L) (fun k s a L ⟨ε, hf, hi⟩ => cY (h k s ε L hi a hf) fun _ _ _ _ q => nk (fun _ ε' _ _ hf ⟨k', hk, hi⟩ => ⟨k', hk, ε', hf, hi⟩) q) k ⟨ε, ha, hI⟩
theorem vY {g : Func} {a : Act} {v : Value} (hf : Fits N ε a) (h : resE g ε = some v) : ResultsC P g a.tmps v := by
 unfold resE at h
 split at h
 · rename_i e; rw [← Option.some.inj h]; exact resultsC_none (Array.ext' e) _
 · rename_i t e; rw [← (hf.at_ _ _ h).2]; exact resultsC_tmp (Array.ext' e) _
 · rename_i t u e
   split at h
   · rename_i h1 h2;rw [← Option.some.inj h, ← (hf.at_ _ _ h1).2, ← (hf.at_ _ _ h2).2];exact resultsC_tmp2 (Array.ext' e) _
   · cases h
 · cases h
def argsAt : Nat → List Value → Env
 | _, [] => []
 | k, v :: vs => (k, v) :: argsAt (k + 1) vs
def args (vs : List Value) : Env := argsAt 0 vs
theorem fL : ∀ (vs : List Value) (k t : Nat) (v : Value), look (argsAt k vs) t = some v → k ≤ t ∧ vs[t - k]? = some v
 | [], _, _, _, h => by cases h
 | u :: vs, k, t, v, h => by
   simp only [argsAt, look] at h
   split at h
   · rename_i e; subst e; simpa using h
   · rename_i e;obtain ⟨h1, h2⟩ := fL vs (k + 1) t v h;refine ⟨by omega, ?_⟩;rw [show t - k = (t - (k + 1)) + 1 by omega];simpa using h2
theorem aB (N : Nat) {f : FuncId} {g : Func} {c : Code} {vs : List Value} {n : Nat} {Post : σ → Value → Frag → Prop} (hf : P.funcs[f]? = some g) (hN : g.ntmps = N)  (hname : (g.name == "runtime.NumGoroutine") = false := by rfl) (hb : g.body = some c := by rfl) (hl : Nat.ble vs.length N = true := by rfl) (h : wpE Δ P main f N c n s (bodyE g Post) (args vs) L) : CallsL Δ P main f vs.toArray n s L Post := by
 have hl := Nat.le_of_ble_eq_true hl;subst hN;refine rF hf hname hb (cY (h _ ⟨by simp; omega, rfl, fun t v ht => ?_⟩) fun s' e a' L' ⟨ε', hf, q⟩ => ?_)
 · obtain ⟨_, h2⟩ := fL vs 0 t v ht;have hlt := (List.getElem?_eq_some_iff.1 h2).1;simp only [Nat.sub_zero] at h2 hlt;refine ⟨by omega, ?_⟩;simp only [Array.getD_eq_getD_getElem?, Array.getElem?_append, List.size_toArray, hlt, if_true, List.getElem?_toArray, h2, Option.getD_some]
 · cases e <;> first | exact ⟨hf.df, q.choose, vY hf q.choose_spec.1, q.choose_spec.2⟩ | exact q
def EY (P : Program) (N : Nat) (ε : Env) (L : Frag) (o : Oper) (v : Value) : Prop := ∀ a, Fits N ε a → Yld P L (execOp a.eval o) v
def EO (P : Program) (New : Obj → Prop) (N : Nat) (ε : Env) (L : Frag) (o : Oper) (post : Value → Frag → Prop) : Prop := ∀ a, Fits N ε a → wpS P New (execOp a.eval o) (fun x L' => match x with | .value v => post v L' | .skip => post undef L' | _ => False) L
theorem oy {ops : Array Oper} {i : Nat} {rest : List Nat} {d : Option Tmp} {k : Op} {ot : TypeId} {ps : String} {af : Array Edge} {g : Option (Nat × Bool)} {n : Nat} {v : Value} (ho : ops[i]? = some ⟨d, k, ot, ps, af, g⟩) (hy : EY P N ε L ⟨d, k, ot, ps, af, g⟩ v)  (hw : wantedE ops N ε g = some true := by rfl) (hd : dstOk N d = true := by rfl) (h : OpsE Δ P main fn N ops rest n s Q (putE d v ε) L) : OpsE Δ P main fn N ops (i :: rest) (n + 1) s Q ε L :=
 fun a ha => k9 ho (ha.wanted hw) ((hy a ha).go (h _ (ha.put hd v)))
theorem ou {ops : Array Oper} {i : Nat} {rest : List Nat} {d : Option Tmp} {k : Op} {ot : TypeId} {ps : String} {af : Array Edge} {g : Option (Nat × Bool)} {n : Nat} (ho : ops[i]? = some ⟨d, k, ot, ps, af, g⟩)  (hw : wantedE ops N ε g = some false := by rfl) (hd : dstOk N d = true := by rfl) (h : OpsE Δ P main fn N ops rest n s Q (putE d undef ε) L) : OpsE Δ P main fn N ops (i :: rest) (n + 1) s Q ε L :=
 fun a ha => gi ho (ha.wanted hw) (h _ (ha.put hd undef))
theorem oe {ops : Array Oper} {i : Nat} {rest : List Nat} {d : Option Tmp} {k : Op} {ot : TypeId} {ps : String} {af : Array Edge} {g : Option (Nat × Bool)} {n : Nat} {post : Value → Frag → Prop} (ho : ops[i]? = some ⟨d, k, ot, ps, af, g⟩) (hy : EO P (Δ s).New N ε L ⟨d, k, ot, ps, af, g⟩ post)  (hw : wantedE ops N ε g = some true := by rfl) (hd : dstOk N d = true := by rfl) (h : ∀ v L', post v L' → OpsE Δ P main fn N ops rest n s Q (putE d v ε) L') : OpsE Δ P main fn N ops (i :: rest) (n + 1) s Q ε L :=
 fun a ha => k9 ho (ha.wanted hw) (bO (fun x L' q => by cases x <;> first | exact h _ _ q _ (ha.put hd _) | exact q.elim) _ _ (hy a ha))
theorem oc {ops : Array Oper} {i : Nat} {rest : List Nat} {d : Option Tmp} {k : Op} {ot : TypeId} {ps : String} {af : Array Edge} {g : Option (Nat × Bool)} {f : FuncId} {args : Array Operand} {ats : Array TypeId} {vs : List Value} {nf n : Nat} {Post : σ → Value → Frag → Prop}
   (ho : ops[i]? = some ⟨d, k, ot, ps, af, g⟩) (hop : k = .call { callee := .value (.func f), args, argTypes := ats }) (ha : args.toList.map (ev ε) = vs.map some) (hcall : CallsL Δ P main f vs.toArray nf s L Post)
    (hw : wantedE ops N ε g = some true := by rfl) (hd : dstOk N d = true := by rfl) (h : ∀ s' v L', Post s' v L' → OpsE Δ P main fn N ops rest n s' Q (putE d v ε) L') : OpsE Δ P main fn N ops (i :: rest) (n + nf + 3) s Q ε L := by
 intro a hf;have e : args.map a.eval = vs.toArray := by
   apply Array.ext';simp only [Array.toList_map];have : ∀ (l : List Operand) (vs : List Value), l.map (ev ε) = vs.map some → l.map a.eval = vs := by
     intro l
     induction l with
     | nil => intro vs h; cases vs <;> simp_all
     | cons x l ih =>
       intro vs h;cases vs with
       | nil => simp at h
       | cons v vs =>
         simp only [List.map_cons, List.cons.injEq] at h ⊢;exact ⟨hf.ev h.1, ih vs h.2⟩
   exact this _ _ ha
 exact rG ho (hf.wanted hw) hop (by rw [e]; exact hcall) fun s' v L' hp => h s' v L' hp _ (hf.put hd v)
theorem bj {id : Nat} {ops : Array Oper} (R : Frag) (e : Nat) {nf : Nat}  (hm : P.follows .mixedOrders = true := by first | rfl | kernel_rfl) (h : AnyE Δ P main fn N ops Q nf R L e s ops.size (Array.replicate ops.size false) s ε L) : wpE Δ P main fn N (.region id ops true) (ops.size * (nf + 3) + 1 + 1) s Q ε L :=
 fun a ha => tL R e hm (h a ha)
theorem bk {id : Nat} {ops : Array Oper}  (hm : P.follows .mixedOrders = true := by first | rfl | kernel_rfl) (h : AnyE Δ P main fn N ops Q 0 L L 1000000 s ops.size (Array.replicate ops.size false) s ε L) : wpE Δ P main fn N (.region id ops true) (ops.size * (0 + 3) + 1 + 1) s Q ε L := bj L 1000000 hm h
section
variable {ops : Array Oper} {nf : Nat} {R L0 : Frag} {e : Nat} {s0 : σ} {fuel : Nat} {ls : Array Bool}
theorem ae {R : Frag} (hR : ∀ t ∈ R, t ∈ L) : Pre R L e s ls s L := ⟨rfl, hR, fun _ _ h => h⟩
theorem pI : Pre L L e s ls s L := ⟨rfl, fun _ h => h, fun _ _ h => h⟩
theorem dJ {R L0 : Frag} (hR : ∀ t ∈ R, t ∈ L) (h0 : ∀ t ∈ L0, t ∈ L) : Pre R L0 e s ls s L := ⟨rfl, hR, fun _ => h0⟩
theorem aE {R L0 : Frag} (hR : ∀ t ∈ R, t ∈ L) (h : ls.getD e true = true := by first | rfl | decide) : Pre R L0 e s ls s L := ⟨rfl, hR, fun h' => by rw [h] at h'; cases h'⟩
theorem t0 {i : Nat} {d : Option Tmp} {k : Op} {ot : TypeId} {ps : String} {af : Array Edge} {g : Option (Nat × Bool)} {v : Value} (ho : ops[i]? = some ⟨d, k, ot, ps, af, g⟩) (hy : EY P N ε L0 ⟨d, k, ot, ps, af, g⟩ v) (hP : Pre R L0 e s0 ls s L)
   (hs : Region.noSelect ops = true := by kernel_rfl) (hf : Region.free .any ops ls i = true := by kernel_rfl) (hr : (Region.ready .any ops ls).contains i = true := by kernel_rfl) (hie : i ≠ e := by decide) (hh : hangs ops ops.size e i = true := by kernel_rfl) (hw : wantedE ops N ε g = some true := by rfl) (hd : dstOk N d = true := by rfl) (h : AnyE Δ P main fn N ops Q nf R L0 e s0 fuel (ls.setIfInBounds i true) s (putE d v ε) L) :
   AnyE Δ P main fn N ops Q nf R L0 e s0 (fuel + 1) ls s ε L :=
 fun a ha => le ho hs hf hr hie (.inr ⟨rfl, hh⟩) hP (ha.wanted hw) (hy a ha) (h _ (ha.put hd v))
theorem tr {i : Nat} {d : Option Tmp} {k : Op} {ot : TypeId} {ps : String} {af : Array Edge} {g : Option (Nat × Bool)} {v : Value} (ho : ops[i]? = some ⟨d, k, ot, ps, af, g⟩) (hy : EY P N ε R ⟨d, k, ot, ps, af, g⟩ v) (hP : Pre R L0 e s0 ls s L)
   (hs : Region.noSelect ops = true := by kernel_rfl) (hf : Region.free .any ops ls i = true := by kernel_rfl) (hr : (Region.ready .any ops ls).contains i = true := by kernel_rfl) (hie : i ≠ e := by decide) (hw : wantedE ops N ε g = some true := by rfl) (hd : dstOk N d = true := by rfl) (h : AnyE Δ P main fn N ops Q nf R L0 e s0 fuel (ls.setIfInBounds i true) s (putE d v ε) L) :
   AnyE Δ P main fn N ops Q nf R L0 e s0 (fuel + 1) ls s ε L :=
 fun a ha => le ho hs hf hr hie (.inl rfl) hP (ha.wanted hw) (hy a ha) (h _ (ha.put hd v))
theorem tu {i : Nat} {d : Option Tmp} {k : Op} {ot : TypeId} {ps : String} {af : Array Edge} {g : Option (Nat × Bool)} (ho : ops[i]? = some ⟨d, k, ot, ps, af, g⟩) (hP : Pre R L0 e s0 ls s L)
   (hs : Region.noSelect ops = true := by kernel_rfl) (hf : Region.free .any ops ls i = true := by kernel_rfl) (hr : (Region.ready .any ops ls).contains i = true := by kernel_rfl) (hie : i ≠ e := by decide) (hw : wantedE ops N ε g = some false := by rfl) (hd : dstOk N d = true := by rfl) (h : AnyE Δ P main fn N ops Q nf R L0 e s0 fuel (ls.setIfInBounds i true) s (putE d undef ε) L) :
   AnyE Δ P main fn N ops Q nf R L0 e s0 (fuel + 1) ls s ε L :=
 fun a ha => rN ho hs hf hr hie hP (ha.wanted hw) (h _ (ha.put hd undef))
theorem to {i : Nat} {d : Option Tmp} {k : Op} {ot : TypeId} {ps : String} {af : Array Edge} {g : Option (Nat × Bool)} {v : Value} (ho : ops[i]? = some ⟨d, k, ot, ps, af, g⟩) (hy : EY P N ε L ⟨d, k, ot, ps, af, g⟩ v) (hP : Pre R L0 e s0 (ls.setIfInBounds i true) s L)
   (hr : Region.ready .any ops ls = [i] := by kernel_rfl) (hw : wantedE ops N ε g = some true := by rfl) (hd : dstOk N d = true := by rfl) (h : AnyE Δ P main fn N ops Q nf R L0 e s0 fuel (ls.setIfInBounds i true) s (putE d v ε) L) : AnyE Δ P main fn N ops Q nf R L0 e s0 (fuel + 1) ls s ε L :=
 fun a ha => qe hr ho (ha.wanted hw) ((hy a ha).go ⟨hP, h _ (ha.put hd v)⟩)
theorem te {i : Nat} {d : Option Tmp} {k : Op} {ot : TypeId} {ps : String} {af : Array Edge} {g : Option (Nat × Bool)} {post : Value → Frag → Prop} (ho : ops[i]? = some ⟨d, k, ot, ps, af, g⟩) (hy : EO P (Δ s).New N ε L ⟨d, k, ot, ps, af, g⟩ post)
   (hr : Region.ready .any ops ls = [i] := by kernel_rfl) (hw : wantedE ops N ε g = some true := by rfl) (hd : dstOk N d = true := by rfl) (h : ∀ v L', post v L' → Pre R L0 e s0 (ls.setIfInBounds i true) s L' ∧ AnyE Δ P main fn N ops Q nf R L0 e s0 fuel (ls.setIfInBounds i true) s (putE d v ε) L') : AnyE Δ P main fn N ops Q nf R L0 e s0 (fuel + 1) ls s ε L :=
 fun a ha => qe hr ho (ha.wanted hw) (bO (fun x L' q => by cases x <;> first | exact ⟨(h _ _ q).1, (h _ _ q).2 _ (ha.put hd _)⟩ | exact q.elim) _ _ (hy a ha))
theorem tc {i : Nat} {d : Option Tmp} {k : Op} {ot : TypeId} {ps : String} {af : Array Edge} {g : Option (Nat × Bool)} {f : FuncId} {args : Array Operand} {ats : Array TypeId} {vs : List Value} {Post : σ → Value → Frag → Prop} (ho : ops[i]? = some ⟨d, k, ot, ps, af, g⟩) (hop : k = .call { callee := .value (.func f), args, argTypes := ats }) (ha : args.toList.map (ev ε) = vs.map some) (hcall : CallsL Δ P main f vs.toArray nf s L Post)
   (hr : Region.ready .any ops ls = [i] := by kernel_rfl) (hw : wantedE ops N ε g = some true := by rfl) (hd : dstOk N d = true := by rfl) (h : ∀ s' v L', Post s' v L' → Pre R L0 e s0 (ls.setIfInBounds i true) s' L' ∧ AnyE Δ P main fn N ops Q nf R L0 e s0 fuel (ls.setIfInBounds i true) s' (putE d v ε) L') : AnyE Δ P main fn N ops Q nf R L0 e s0 (fuel + 1) ls s ε L := by
 intro a hf;have e' : args.map a.eval = vs.toArray := by
   apply Array.ext';simp only [Array.toList_map];have : ∀ (l : List Operand) (vs : List Value), l.map (ev ε) = vs.map some → l.map a.eval = vs := by
     intro l
     induction l with
     | nil => intro vs h; cases vs <;> simp_all
     | cons x l ih =>
       intro vs h;cases vs with
       | nil => simp at h
       | cons v vs =>
         simp only [List.map_cons, List.cons.injEq] at h ⊢;exact ⟨hf.ev h.1, ih vs h.2⟩
   exact this _ _ ha
 exact rO hr ho (hf.wanted hw) hop (by rw [e']; exact hcall) fun s' v L' hp => ⟨(h s' v L' hp).1, (h s' v L' hp).2 _ (hf.put hd v)⟩
theorem a7 (h : (L.map (·.1)).Nodup → AnyE Δ P main fn N ops Q nf R L0 e s0 fuel ls s ε L) : AnyE Δ P main fn N ops Q nf R L0 e s0 fuel ls s ε L := fun a ha => vW fun hn => h hn a ha
theorem td  (hr : Region.ready .any ops ls = [] := by kernel_rfl) (h : Q s .normal ε L) : AnyE Δ P main fn N ops Q nf R L0 e s0 fuel ls s ε L := fun _ ha => rP hr ⟨ε, ha, h⟩
end
end
section
variable {P : Program} {N : Nat} {ε : Env} {L : Frag} {d : Option Tmp} {ty : TypeId} {ps : String} {af : Array Edge} {g : Option (Nat × Bool)}
theorem ah {x : Operand} {v : Value} (hx : ev ε x = some v := by rfl) : EY P N ε L ⟨d, .move x, ty, ps, af, g⟩ v := fun _ ha => (ha.ev hx) ▸ yt
theorem aj {x : Operand} {v : Value} (hx : ev ε x = some v := by rfl) : EY P N ε L ⟨d, .assign x, ty, ps, af, g⟩ v := fun _ ha => (ha.ev hx) ▸ tI
theorem aK {x : Operand} {a : Addr} (hx : ev ε x = some (.pointer (some a)) := by rfl) : EY P N ε L ⟨d, .nilCheck x, ty, ps, af, g⟩ (.pointer (some a)) := fun _ ha => oV (ha.ev hx)
theorem aN {c x y : Operand} {t : Bool} {v w : Value} (hc : ev ε c = some (.bool t) := by rfl) (hx : ev ε x = some v := by rfl) (hy : ev ε y = some w := by rfl) : EY P N ε L ⟨d, .pick c x y, ty, ps, af, g⟩ (if t then v else w) := fun _ ha => (ha.ev hx) ▸ (ha.ev hy) ▸ yu (ha.ev hc)
theorem av {x : Operand} {s f b i off : Nat} (hx : ev ε x = some (.pointer (some ⟨b, i, none⟩)) := by rfl) (hf : fieldOff P s f = some off := by kernel_rfl) : EY P N ε L ⟨d, .fieldAddr s x f, ty, ps, af, g⟩ (.pointer (some ⟨b, i + off, none⟩)) := fun _ ha => m8 (ha.ev hx) hf
theorem aG {x : Operand} {t b i : Nat} {v : Value} (hx : ev ε x = some (.pointer (some ⟨b, i, none⟩)) := by rfl) (ht : aggAt P t = some false := by kernel_rfl)
   (hv : At L b i v := by first | exact At.at (n := 0) rfl (by first | rfl | assumption) | exact At.at (n := 1) rfl (by first | rfl | assumption) | exact At.at (n := 2) rfl (by first | rfl | assumption) | exact At.at (n := 3) rfl (by first | rfl | assumption) | exact At.at (n := 4) rfl (by first | rfl | assumption) | exact At.at (n := 5) rfl (by first | rfl | assumption) | exact At.at (n := 6) rfl (by first | rfl | assumption) | assumption) :
   EY P N ε L ⟨d, .load t x, ty, ps, af, g⟩ v := fun _ ha => yv (ha.ev hx) ht hv
theorem a5 {x : Operand} {t b i n : Nat} {cs : Array Value} {e : TypeId} {fr : Nat × Nat} {fl : Bool} (hx : ev ε x = some (.pointer (some ⟨b, i, none⟩)) := by rfl) (ht : aggAt P t = some true) (hs : sizeAt P t = some n) (hm : (b, fl, .cells cs e fr) ∈ L) (hi : i + n ≤ cs.size) :
   EY P N ε L ⟨d, .load t x, ty, ps, af, g⟩ (.agg (cs.extract i (i + n))) := fun _ ha => rJ (ha.ev hx) ht hs hm hi
theorem aW {x ix : Operand} {t b o sz len off : Nat} {e : TypeId} {k : IntKind} {n : Int} (hu : P.underlying t = some (.array len e)) (hs : sizeAt P e = some sz) (hx : ev ε x = some (.pointer (some ⟨b, o, none⟩)) := by rfl) (hi : ev ε ix = some (.int k n) := by rfl) (h0 : 0 ≤ n := by first | decide | omega | assumption) (h1 : n < len := by first | decide | omega | assumption | (simp; done)) (ho : o + n.toNat * sz = off := by ((try simp only [Int.toNat_natCast, Nat.zero_add, Nat.mul_one, Nat.reduceAdd, Nat.reduceMul, Int.reduceToNat, Int.toNat_zero, Int.toNat_one, Nat.zero_mul, Nat.add_zero]); first | done | exact rfl)) :
   EY P N ε L ⟨d, .indexAddr t x ix, ty, ps, af, g⟩ (.pointer (some ⟨b, off, none⟩)) := fun _ ha => ho ▸ oW (ha.ev hx) (ha.ev hi) hu hs h0 h1
theorem bu {x ix : Operand} {t b o sz len cap off : Nat} {e : TypeId} {k : IntKind} {n : Int} (hu : P.underlying t = some (.slice e)) (hs : sizeAt P e = some sz) (hx : ev ε x = some (.slice (some ⟨b, o, none⟩) len cap) := by rfl) (hi : ev ε ix = some (.int k n) := by rfl) (h0 : 0 ≤ n := by first | decide | omega | assumption) (h1 : n < len := by first | decide | omega | assumption | (simp; done)) (ho : o + n.toNat * sz = off := by ((try simp only [Int.toNat_natCast, Nat.zero_add, Nat.mul_one, Nat.reduceAdd, Nat.reduceMul, Int.reduceToNat, Int.toNat_zero, Int.toNat_one, Nat.zero_mul, Nat.add_zero]); first | done | exact rfl)) :
   EY P N ε L ⟨d, .indexAddr t x ix, ty, ps, af, g⟩ (.pointer (some ⟨b, off, none⟩)) := fun _ ha => ho ▸ rK (ha.ev hx) (ha.ev hi) hu hs h0 h1
variable {t u : TypeId} {x y : Operand} {k : IntKind} {a b : Int}
theorem a8 (hx : ev ε x = some (.int k a) := by rfl) (hy : ev ε y = some (.int k b) := by rfl) : EY P N ε L ⟨d, .binOp .add t x y u, ty, ps, af, g⟩ (.int k (k.wrap (a + b))) := fun _ ha => zx (ha.ev hx) (ha.ev hy)
theorem xI (hx : ev ε x = some (.int k a) := by rfl) (hy : ev ε y = some (.int k b) := by rfl) : EY P N ε L ⟨d, .binOp .sub t x y u, ty, ps, af, g⟩ (.int k (k.wrap (a - b))) := fun _ ha => zy (ha.ev hx) (ha.ev hy)
theorem xJ (hx : ev ε x = some (.int k a) := by rfl) (hy : ev ε y = some (.int k b) := by rfl) : EY P N ε L ⟨d, .binOp .mul t x y u, ty, ps, af, g⟩ (.int k (k.wrap (a * b))) := fun _ ha => zz (ha.ev hx) (ha.ev hy)
theorem gX (hx : ev ε x = some (.int k a) := by rfl) (hy : ev ε y = some (.int k b) := by rfl) (hb : b ≠ 0 := by first | decide | omega) : EY P N ε L ⟨d, .binOp .rem t x y u, ty, ps, af, g⟩ (.int k (a.tmod b)) := fun _ ha => zA (ha.ev hx) (ha.ev hy) hb
theorem aA (hx : ev ε x = some (.int k a) := by rfl) (hy : ev ε y = some (.int k b) := by rfl) : EY P N ε L ⟨d, .binOp .eql t x y u, ty, ps, af, g⟩ (.bool (a == b)) := fun _ ha => zB (ha.ev hx) (ha.ev hy)
theorem dZ (hx : ev ε x = some (.int k a) := by rfl) (hy : ev ε y = some (.int k b) := by rfl) : EY P N ε L ⟨d, .binOp .neq t x y u, ty, ps, af, g⟩ (.bool (a != b)) := fun _ ha => zC (ha.ev hx) (ha.ev hy)
theorem ci (hx : ev ε x = some (.int k a) := by rfl) (hy : ev ε y = some (.int k b) := by rfl) : EY P N ε L ⟨d, .binOp .lss t x y u, ty, ps, af, g⟩ (.bool (decide (a < b))) := fun _ ha => zF (ha.ev hx) (ha.ev hy)
theorem np (hx : ev ε x = some (.int k a) := by rfl) (hy : ev ε y = some (.int k b) := by rfl) : EY P N ε L ⟨d, .binOp .leq t x y u, ty, ps, af, g⟩ (.bool (decide (a ≤ b))) := fun _ ha => zG (ha.ev hx) (ha.ev hy)
theorem dK (hx : ev ε x = some (.int k a) := by rfl) (hy : ev ε y = some (.int k b) := by rfl) : EY P N ε L ⟨d, .binOp .gtr t x y u, ty, ps, af, g⟩ (.bool (decide (b < a))) := fun _ ha => zH (ha.ev hx) (ha.ev hy)
theorem d8 (hx : ev ε x = some (.int k a) := by rfl) (hy : ev ε y = some (.int k b) := by rfl) : EY P N ε L ⟨d, .binOp .geq t x y u, ty, ps, af, g⟩ (.bool (decide (b ≤ a))) := fun _ ha => zI (ha.ev hx) (ha.ev hy)
theorem b9 {s' t' : TypeId} {ds : TypeDesc} {j : IntKind} {n : Int} (hx : ev ε x = some (.int j n) := by rfl) (hs : P.underlying s' = some ds := by kernel_rfl) (ht : P.underlying t' = some (.int k) := by kernel_rfl) : EY P N ε L ⟨d, .convert s' t' x, ty, ps, af, g⟩ (.int k (k.wrap n)) := fun _ ha => yw (ha.ev hx) hs ht
theorem bY {c : Bool} (hx : ev ε x = some (.bool c) := by rfl) : EY P N ε L ⟨d, .unOp .not t x, ty, ps, af, g⟩ (.bool !c) := fun _ ha => zJ (ha.ev hx)
theorem zN (hx : ev ε x = some (.int k a) := by rfl) : EY P N ε L ⟨d, .unOp .neg t x, ty, ps, af, g⟩ (.int k (k.wrap (0 - a))) := fun _ ha => zK (ha.ev hx)
theorem bB {i : Nat} {vs : Array Value} {v : Value} (hx : ev ε x = some (.tuple vs) := by rfl) (hv : vs[i]? = some v := by rfl) : EY P N ε L ⟨d, .extract x i, ty, ps, af, g⟩ v := fun _ ha => rL (ha.ev hx) hv
theorem lY {f : Fn} {v : Value} (hx : ev ε x = some v := by rfl) : EY P N ε L ⟨d, .makeFunc f #[] #[x], ty, ps, af, g⟩ (.func f #[] #[v]) := fun _ ha => by
 have := jI (P := P) (L := L) (ρ := Act.eval ‹_›) (d := d) (ty := ty) (ps := ps) (af := af) (g := g) (f := f) (c1 := #[]) (c2 := #[x]);simpa [ha.ev hx] using this
theorem o5 {f : Fn} {v : Value} (hx : ev ε x = some v := by rfl) : EY P N ε L ⟨d, .makeFunc f #[x] #[], ty, ps, af, g⟩ (.func f #[v] #[]) := fun _ ha => by
 have := jI (P := P) (L := L) (ρ := Act.eval ‹_›) (d := d) (ty := ty) (ps := ps) (af := af) (g := g) (f := f) (c1 := #[x]) (c2 := #[]);simpa [ha.ev hx] using this
theorem gY {v : Value} {ds : TypeDesc} (hi : ∀ ms, ds ≠ .interface ms) (hx : ev ε x = some v := by rfl) (ht : P.underlying t = some ds := by kernel_rfl) : EY P N ε L ⟨d, .makeInterface t x, ty, ps, af, g⟩ (.iface t v) := fun _ ha => (ha.ev hx) ▸ m9 ht hi
theorem zO {s' f off n : Nat} {cs : Array Value} {v : Value} (hx : ev ε x = some (.agg cs) := by rfl) (hf : fieldPart P s' f = some (off, n, false) := by kernel_rfl) (hv : cs[off]? = some v := by rfl) : EY P N ε L ⟨d, .field s' x f, ty, ps, af, g⟩ v := fun _ ha => vO (ha.ev hx) hf hv
theorem bt {ats : Array TypeId} {e : TypeId} {base : Option Addr} {len cap : Nat} (hx : ev ε x = some (.slice base len cap) := by rfl) (hu : P.underlying t = some (.slice e) := by kernel_rfl) (ha' : ats[0]? = some t := by rfl) : EY P N ε L ⟨d, .call ⟨.builtin .len, #[x], ats⟩, ty, ps, af, g⟩ (.int .i64 len) := fun _ ha => vP (ha.ev hx) ha' hu
theorem yy {ats : Array TypeId} {s' : ByteArray} (hx : ev ε x = some (.string s') := by rfl) (hu : P.underlying t = some .string := by kernel_rfl) (ha' : ats[0]? = some t := by rfl) : EY P N ε L ⟨d, .call ⟨.builtin .len, #[x], ats⟩, ty, ps, af, g⟩ (.int .i64 s'.size) := fun _ ha => tJ (ha.ev hx) ha' hu
theorem zP {ats : Array TypeId} {k' : IntKind} (hx : ev ε x = some (.int k a) := by rfl) (hy : ev ε y = some (.int k' b) := by rfl) : EY P N ε L ⟨d, .call ⟨.builtin .min, #[x, y], ats⟩, ty, ps, af, g⟩ (.int k (if b < a then b else a)) := fun _ ha => zL (ha.ev hx) (ha.ev hy)
theorem gu {e : TypeId} {p : Option Addr} (hx : ev ε x = some (.pointer p) := by rfl) (hy : ev ε y = some (.pointer none) := by rfl) (hu : P.underlying t = some (.pointer e) := by kernel_rfl) : EY P N ε L ⟨d, .binOp .eql t x y u, ty, ps, af, g⟩ (.bool p.isNone) := fun _ ha => vQ (ha.ev hx) (ha.ev hy) hu
theorem xK {e n b i b' i' : Nat} {cs cs' : Array Value} {ty1 ty1' : TypeId} {fl fl' : Bool} (h1 : (b, fl, .cells cs ty1) ∈ L) (h2 : (b', fl', .cells cs' ty1') ∈ L) (hx : ev ε x = some (.pointer (some ⟨b, i, none⟩)) := by rfl) (hy : ev ε y = some (.pointer (some ⟨b', i', none⟩)) := by rfl) (hu : P.underlying t = some (.pointer e) := by kernel_rfl) (hs : sizeAt P e = some (n + 1) := by kernel_rfl) :
   EY P N ε L ⟨d, .binOp .eql t x y u, ty, ps, af, g⟩ (.bool (decide ((b, i) = (b', i')))) := fun _ ha => tK (ha.ev hx) (ha.ev hy) hu hs h1 h2
theorem dq {op : BinOp} {c : Bool} {ms : Array (String × TypeId)} {v : Value} (hv : (v = .nilIface ∧ c = true) ∨ (∃ s w, v = .iface s w ∧ c = false)) (hop : op = .eql ∨ op = .neq := by first | exact .inl rfl | exact .inr rfl) (hx : ev ε x = some v := by rfl) (hu : P.underlying t = some (.interface ms) := by kernel_rfl) :
   EY P N ε L ⟨d, .binOp op t x (.const .nilIface) u, ty, ps, af, g⟩ (.bool (if op = .eql then c else !c)) := fun _ ha => vR hop hv (ha.ev hx) rfl rfl hu
end
def SetAt (L : Frag) (b i : Nat) (v : Value) (L' : Frag) : Prop := ∃ n cs e, L[n]? = some (b, true, .cells cs e) ∧ i < cs.size ∧ L' = L.set n (b, true, .cells (cs.setIfInBounds i v) e)
theorem SetAt.h {L : Frag} {b i : Nat} {v : Value} {cs : Array Value} {e : TypeId} (hi : i < cs.size) : SetAt ((b, true, .cells cs e) :: L) b i v ((b, true, .cells (cs.setIfInBounds i v) e) :: L) := ⟨0, cs, e, rfl, hi, rfl⟩
theorem SetAt.t {L L' : Frag} {b i : Nat} {v : Value} {x : Nat × Bool × Obj} (h : SetAt L b i v L') : SetAt (x :: L) b i v (x :: L') := by
 obtain ⟨n, cs, e, h1, h2, rfl⟩ := h;exact ⟨n + 1, cs, e, by simpa using h1, h2, rfl⟩
section
variable {σ : Type} {F : Fam σ} {Δ : ∀ s, Dom (F.R s) (F.D s)} {P : Program} {main : Bool} {fn : FuncId} {N : Nat} {Q : σ → Exit → Env → Frag → Prop} {s : σ} {ε : Env} {L L' : Frag} {New : Obj → Prop} {d : Option Tmp} {ty : TypeId} {ps : String} {af : Array Edge} {g : Option (Nat × Bool)}
theorem os {ops : Array Oper} {i : Nat} {rest : List Nat} {d : Option Tmp} {k : Op} {ot : TypeId} {ps : String} {af : Array Edge} {g : Option (Nat × Bool)} {n : Nat} (ho : ops[i]? = some ⟨d, k, ot, ps, af, g⟩) (hy : EO P (Δ s).New N ε L ⟨d, k, ot, ps, af, g⟩ (fun r L'' => r = undef ∧ L'' = L')) (hw : wantedE ops N ε g = some true := by rfl) (hd : dstOk N d = true := by rfl) (h : OpsE Δ P main fn N ops rest n s Q (putE d undef ε) L') : OpsE Δ P main fn N ops (i :: rest) (n + 1) s Q ε L :=
 oe ho hy hw hd (fun _ _ ⟨e1, e2⟩ => by rw [e1, e2]; exact h)
theorem dL {t : TypeId} {z : Value} (hN : New (.cells z.cells t)) (hz : zeroAt P t = some z := by kernel_rfl) : EO P New N ε L ⟨d, .alloc t, ty, ps, af, g⟩ (fun r L'' => ∃ b, (∀ t ∈ L, t.1 ≠ b) ∧ r = .pointer (some ⟨b, 0, none⟩) ∧ L'' = (b, true, .cells z.cells t) :: L) :=
 fun _ _ => vT hz hN fun b hb => ⟨b, hb, rfl, rfl⟩
theorem bS {t : TypeId} {x : Operand} {v : Value} (hN : New (.cells v.cells t)) (hx : ev ε x = some v := by rfl) : EO P New N ε L ⟨d, .box t x, ty, ps, af, g⟩ (fun r L'' => ∃ b, (∀ t ∈ L, t.1 ≠ b) ∧ r = .pointer (some ⟨b, 0, none⟩) ∧ L'' = (b, true, .cells v.cells t) :: L) :=
 fun _ ha => zM (ha.ev hx) hN fun b hb => ⟨b, hb, rfl, rfl⟩
theorem i9 {t e : TypeId} {x : Operand} {v z : Value} (hN : New (.cells #[v] e)) (hx : ev ε x = some v := by rfl) (hu : P.underlying t = some (.slice e) := by kernel_rfl) (hs : sizeAt P e = some 1 := by kernel_rfl) (hz : zeroAt P e = some z := by kernel_rfl) (hzp : plainV z = true := by rfl) (hp : plainV v = true := by rfl) :
   EO P New N ε L ⟨d, .buildSlice t 1 #[(0, x)], ty, ps, af, g⟩ (fun r L'' => ∃ b, (∀ t ∈ L, t.1 ≠ b) ∧ r = .slice (some ⟨b, 0, none⟩) 1 1 ∧ L'' = (b, true, .cells #[v] e) :: L) :=
 fun _ ha => kT (ha.ev hx) hu hs hz hzp hp hN fun b hb => ⟨b, hb, rfl, rfl⟩
def Fun (L : Frag) : Prop := ∀ b fl fl' o o', (b, fl, o) ∈ L → (b, fl', o') ∈ L → fl = fl' ∧ o = o'
theorem bA {L : Frag} (h : (L.map (·.1)).Nodup) : Fun L := by
 intro b fl fl' o o' h1 h2;obtain ⟨i, hi⟩ := List.getElem?_of_mem h1;obtain ⟨j, hj⟩ := List.getElem?_of_mem h2;have e1 : (L.map (·.1))[i]? = some b := by simp [hi]
 have e2 : (L.map (·.1))[j]? = some b := by simp [hj]
 obtain ⟨hl1, he1⟩ := List.getElem?_eq_some_iff.1 e1;obtain ⟨hl2, he2⟩ := List.getElem?_eq_some_iff.1 e2;have hij : i = j := by
   rcases Nat.lt_trichotomy i j with g | g | g
   · exact absurd (he1.trans he2.symm) (List.pairwise_iff_getElem.1 h i j hl1 hl2 g)
   · exact g
   · exact absurd (he2.trans he1.symm) (List.pairwise_iff_getElem.1 h j i hl2 hl1 g)
 subst hij;have := hi.symm.trans hj;simp only [Option.some.injEq, Prod.mk.injEq, true_and] at this;exact this
structure Upd (L : Frag) (b : Nat) (o : Obj) (L' : Frag) : Prop where
 self : (b, true, o) ∈ L'
 ne : ∀ t ∈ L, t.1 ≠ b → t ∈ L'
 fn : Fun L'
structure Add (L : Frag) (b : Nat) (o : Obj) (L' : Frag) : Prop where
 self : (b, true, o) ∈ L'
 sub : ∀ t ∈ L, t ∈ L'
 new : ∀ t ∈ L, t.1 ≠ b
 fn : Fun L'
theorem cB {L : Frag} (hnd : (L.map (·.1)).Nodup) {n b : Nat} {o o' : Obj} (hn : L[n]? = some (b, true, o)) : Upd L b o' (L.set n (b, true, o')) := by
 obtain ⟨hl, he⟩ := List.getElem?_eq_some_iff.1 hn;refine ⟨List.mem_of_getElem? (i := n) (by simp [hl]), fun t ht hne => ?_, bA ?_⟩
 · obtain ⟨i, hi⟩ := List.getElem?_of_mem ht;refine List.mem_of_getElem? (i := i) ?_;rw [List.getElem?_set_ne (fun e => hne ?_)]
   · exact hi
   · subst e; rw [hn] at hi; simp only [Option.some.injEq] at hi; rw [← hi]
 · have : (L.set n (b, true, o')).map (·.1) = L.map (·.1) := by
     apply List.ext_getElem?;intro i;simp only [List.getElem?_map, List.getElem?_set]
     split
     · rename_i e; subst e; simp [hl, he]
     · rfl
   rw [this]; exact hnd
theorem tN {ops : Array Oper} {todo : List Nat} {n : Nat} (h : Fun L → OpsE Δ P main fn N ops todo n s Q ε L) : OpsE Δ P main fn N ops todo n s Q ε L := jr fun hn => h (bA hn)
theorem gZ {c : Code} {n : Nat} (h : Fun L → wpE Δ P main fn N c n s Q ε L) : wpE Δ P main fn N c n s Q ε L := yx fun hn => h (bA hn)
theorem eW {t b i : Nat} {x y : Operand} {v : Value} {cs : Array Value} {e : TypeId} (hx : ev ε x = some (.pointer (some ⟨b, i, none⟩)) := by rfl) (hy : ev ε y = some v := by rfl) (hp : plainV v = true := by rfl) (hs : sizeAt P t = some 1) (hnd : (L.map (·.1)).Nodup) (hm : (b, true, .cells cs e) ∈ L) (hi : i < cs.size) :
   EO P New N ε L ⟨d, .store t x y, ty, ps, af, g⟩ (fun r L'' => r = undef ∧ Upd L b (.cells (cs.setIfInBounds i v) e) L'') := by
 intro a ha;obtain ⟨n, hn⟩ := List.getElem?_of_mem hm;exact vS (ha.ev hx) (ha.ev hy) hs hn hi hp ⟨rfl, cB hnd hn⟩
theorem osm {ops : Array Oper} {i : Nat} {rest : List Nat} {n : Nat} {ot : TypeId} {t b j : Nat} {x y : Operand} {v : Value} {cs : Array Value} {e : TypeId} (ho : ops[i]? = some ⟨d, .store t x y, ot, ps, af, g⟩) (hx : ev ε x = some (.pointer (some ⟨b, j, none⟩)) := by rfl) (hy : ev ε y = some v := by rfl) (hp : plainV v = true := by rfl) (hs : sizeAt P t = some 1) (hm : (b, true, .cells cs e) ∈ L) (hi : j < cs.size)
   (hw : wantedE ops N ε g = some true := by rfl) (hd : dstOk N d = true := by rfl) (h : ∀ L', Upd L b (.cells (cs.setIfInBounds j v) e) L' → OpsE Δ P main fn N ops rest n s Q (putE d undef ε) L') : OpsE Δ P main fn N ops (i :: rest) (n + 1) s Q ε L :=
 jr fun hnd => oe ho (eW hx hy hp hs hnd hm hi) hw hd fun _ L'' ⟨e1, e2⟩ => by rw [e1]; exact h L'' e2
theorem de {b : Nat} {o : Obj} (hL : Fun L) (hb : ∀ t ∈ L, t.1 ≠ b) : Add L b o ((b, true, o) :: L) := by
 refine ⟨List.mem_cons_self, fun t ht => List.mem_cons_of_mem _ ht, hb, ?_⟩;intro b' fl fl' o1 o2 h1 h2;rcases List.mem_cons.1 h1 with e1 | h1 <;> rcases List.mem_cons.1 h2 with e2 | h2
 · simp only [Prod.mk.injEq] at e1 e2; exact ⟨by rw [e1.2.1, e2.2.1], by rw [e1.2.2, e2.2.2]⟩
 · simp only [Prod.mk.injEq] at e1; exact absurd e1.1 (hb _ h2)
 · simp only [Prod.mk.injEq] at e2; exact absurd e2.1 (hb _ h1)
 · exact hL _ _ _ _ _ h1 h2
theorem bI {ops : Array Oper} {i : Nat} {rest : List Nat} {n : Nat} {k : Op} {ot : TypeId} {f : Nat → Value} {ob : Obj} (ho : ops[i]? = some ⟨d, k, ot, ps, af, g⟩) (hy : EO P (Δ s).New N ε L ⟨d, k, ot, ps, af, g⟩ (fun r L'' => ∃ b, (∀ t ∈ L, t.1 ≠ b) ∧ r = f b ∧ L'' = (b, true, ob) :: L))
   (hw : wantedE ops N ε g = some true := by rfl) (hd : dstOk N d = true := by rfl) (h : ∀ b L', Add L b ob L' → OpsE Δ P main fn N ops rest n s Q (putE d (f b) ε) L') : OpsE Δ P main fn N ops (i :: rest) (n + 1) s Q ε L :=
 tN fun hF => oe ho hy hw hd fun _ L'' ⟨b, hb, e1, e2⟩ => by rw [e1]; exact h b L'' (e2 ▸ de hF hb)
theorem nq {ops : Array Oper} {nf : Nat} {R L0 : Frag} {e : Nat} {s0 : σ} {fuel : Nat} {ls : Array Bool} {i : Nat} {k : Op} {ot : TypeId} {f : Nat → Value} {ob : Obj} (ho : ops[i]? = some ⟨d, k, ot, ps, af, g⟩) (hy : EO P (Δ s).New N ε L ⟨d, k, ot, ps, af, g⟩ (fun r L'' => ∃ b, (∀ t ∈ L, t.1 ≠ b) ∧ r = f b ∧ L'' = (b, true, ob) :: L))
   (hr : Region.ready .any ops ls = [i] := by kernel_rfl) (hw : wantedE ops N ε g = some true := by rfl) (hd : dstOk N d = true := by rfl) (h : ∀ b L', Add L b ob L' → Pre R L0 e s0 (ls.setIfInBounds i true) s L' ∧ AnyE Δ P main fn N ops Q nf R L0 e s0 fuel (ls.setIfInBounds i true) s (putE d (f b) ε) L') : AnyE Δ P main fn N ops Q nf R L0 e s0 (fuel + 1) ls s ε L :=
 a7 fun hnd => te ho hy hr hw hd fun _ L'' ⟨b, hb, e1, e2⟩ => by rw [e1]; exact h b L'' (e2 ▸ de (bA hnd) hb)
end
def cutAt (o l m sz : Nat) : Nat := if m = l then o else o + l * sz
section
variable {P : Program} {L : Frag} {K : (Nat × Nat × Nat) → Prop}
theorem cO {k : IntKind} {i : Int} {y : Nat} {c : BoundsCode} {K : Nat → Prop} (h0 : 0 ≤ i) (h1 : i ≤ y) (h : K i.toNat) : wpQ P (Instr.sliceBound (.int k i) y c) K L := by
 unfold Instr.sliceBound;simp only [asIntOf, ax, bP, h0, h1, and_self, if_true];exact h
end
section
variable {P : Program} {N : Nat} {ε : Env} {L : Frag} {d : Option Tmp} {ty : TypeId} {ps : String} {af : Array Edge} {g : Option (Nat × Bool)} {t e : TypeId} {x y z u : Operand} {b o sz len cap : Nat} {k1 k2 k3 : IntKind} {l h m : Int}
theorem hY {v lo hi mx : Option Value} {l h m : Nat} {a : Value} (ha : a = .slice (some ⟨b, o, none⟩) len cap) (hu : P.underlying t = some (.slice e)) (hs : sizeAt P e = some sz) (hb : ∀ (K : Nat × Nat × Nat → Prop), K (l, h, m) → wpQ P (Instr.sliceBounds true len cap lo hi mx) K L) (K : Value → Prop)
   (hK : K (.slice (some ⟨b, cutAt o l m sz, none⟩) (h - l) (m - l))) : wpQ P (Instr.sliceAt t a lo hi mx) K L := by
 unfold Instr.sliceAt;rw [ax, aL hu];show wpQ P (Instr.slice t a lo hi mx) K L;unfold Instr.slice;rw [ax, aL hu, ha];show wpQ P (Instr.sliceBounds true len cap lo hi mx >>= _) K L;rw [ax];refine hb _ ?_;show wpQ P (sizeOf e >>= _) K L;rw [ax, cI hs];have e1 : (if m = l then some (⟨b, o, none⟩ : Addr) else (some (⟨b, o, none⟩ : Addr)).map (·.add (l * sz))) = some ⟨b, cutAt o l m sz, none⟩ := by
   unfold cutAt
   split
   · rfl
   · simp [c9]
 show K (.slice (if m = l then some (⟨b, o, none⟩ : Addr) else (some (⟨b, o, none⟩ : Addr)).map (·.add (l * sz))) (h - l) (m - l));rw [e1]; exact hK
theorem tO (hu : P.underlying t = some (.slice e)) (hs : sizeAt P e = some sz) (hx : ev ε x = some (.slice (some ⟨b, o, none⟩) len cap) := by rfl) (hy : ev ε y = some (.int k1 h) := by rfl) (h0 : 0 ≤ h := by first | decide | omega) (h1 : h ≤ cap := by first | decide | omega) :
   EY P N ε L ⟨d, .slice t x none (some y) none, ty, ps, af, g⟩ (.slice (some ⟨b, cutAt o 0 cap sz, none⟩) (h.toNat - 0) (cap - 0)) := fun _ ha => by
 refine cF (fun _ => rfl) fun K hK => ?_;refine hY (v := none) (ha.ev hx) hu hs (l := 0) (fun K hK => ?_) K hK;simp only [Option.map_some, Option.map_none, ha.ev hy, Instr.sliceBounds];simp only [ax, bP];exact cO h0 h1 hK
theorem tP (hu : P.underlying t = some (.slice e)) (hs : sizeAt P e = some sz) (hx : ev ε x = some (.slice (some ⟨b, o, none⟩) len cap) := by rfl) (hy : ev ε y = some (.int k1 l) := by rfl) (h0 : 0 ≤ l := by first | decide | omega) (h1 : l ≤ len := by first | decide | omega) :
   EY P N ε L ⟨d, .slice t x (some y) none none, ty, ps, af, g⟩ (.slice (some ⟨b, cutAt o l.toNat cap sz, none⟩) (len - l.toNat) (cap - l.toNat)) := fun _ ha => by
 refine cF (fun _ => rfl) fun K hK => ?_;refine hY (v := none) (ha.ev hx) hu hs (h := len) (fun K hK => ?_) K hK;simp only [Option.map_some, Option.map_none, ha.ev hy, Instr.sliceBounds];simp only [ax, bP];exact cO h0 h1 hK
theorem tQ (hu : P.underlying t = some (.slice e)) (hs : sizeAt P e = some sz) (hx : ev ε x = some (.slice (some ⟨b, o, none⟩) len cap) := by rfl) (hy : ev ε y = some (.int k1 l) := by rfl) (hz : ev ε z = some (.int k2 h) := by rfl) (h0 : 0 ≤ l := by first | decide | omega) (h1 : l ≤ h := by first | decide | omega) (h2 : h ≤ cap := by first | decide | omega) :
   EY P N ε L ⟨d, .slice t x (some y) (some z) none, ty, ps, af, g⟩ (.slice (some ⟨b, cutAt o l.toNat cap sz, none⟩) (h.toNat - l.toNat) (cap - l.toNat)) := fun _ ha => by
 refine cF (fun _ => rfl) fun K hK => ?_;refine hY (v := none) (ha.ev hx) hu hs (fun K hK => ?_) K hK;simp only [Option.map_some, Option.map_none, ha.ev hy, ha.ev hz, Instr.sliceBounds];simp only [ax, bP];refine cO (by omega) h2 ?_;exact cO h0 (by omega) hK
theorem tR (hu : P.underlying t = some (.slice e)) (hs : sizeAt P e = some sz) (hx : ev ε x = some (.slice (some ⟨b, o, none⟩) len cap) := by rfl) (hy : ev ε y = some (.int k1 l) := by rfl) (hz : ev ε z = some (.int k2 h) := by rfl) (hw : ev ε u = some (.int k3 m) := by rfl) (h0 : 0 ≤ l := by first | decide | omega) (h1 : l ≤ h := by first | decide | omega) (h2 : h ≤ m := by first | decide | omega) (h3 : m ≤ cap := by first | decide | omega) :
   EY P N ε L ⟨d, .slice t x (some y) (some z) (some u), ty, ps, af, g⟩ (.slice (some ⟨b, cutAt o l.toNat m.toNat sz, none⟩) (h.toNat - l.toNat) (m.toNat - l.toNat)) := fun _ ha => by
 refine cF (fun _ => rfl) fun K hK => ?_;refine hY (v := none) (ha.ev hx) hu hs (fun K hK => ?_) K hK;simp only [Option.map_some, Option.map_none, ha.ev hy, ha.ev hz, ha.ev hw, Instr.sliceBounds];simp only [ax, bP, if_true, Option.isSome_some];refine cO (by omega) h3 ?_;refine cO (by omega) (by omega) ?_;exact cO h0 (by omega) hK
end
section
variable {P : Program} {L : Frag} {sz n b o len cap : Nat} {fl : Bool} {cs : Array Value} {e : TypeId} {fr : Nat × Nat}
theorem bZ (hm : (b, fl, .cells cs e fr) ∈ L) (h : o + n * sz ≤ cs.size) : Reads P L sz n (.slice (some ⟨b, o, none⟩) len cap) (cs.extract o (o + n * sz)) := ⟨fun _ _ hQ => kR hm h hQ⟩
end
theorem bX : ∀ (vs l : List Value) (o : Nat), o + vs.length ≤ l.length → puts l.toArray o vs = (l.take o ++ vs ++ l.drop (o + vs.length)).toArray
 | [], l, o, h => by simp [puts]
 | v :: vs, l, o, h => by
   simp only [List.length_cons] at h;rw [puts, List.setIfInBounds_toArray, bX vs (l.set o v) (o + 1) (by simp; omega)];congr 1;have h1 : (l.set o v).take (o + 1) = l.take o ++ [v] := by
     rw [List.take_set, List.take_succ_eq_append_getElem (by omega), List.set_append_right _ _ (by simp; omega)];simp [Nat.min_eq_left (show o ≤ l.length by omega)]
   have h2 : (l.set o v).drop (o + 1 + vs.length) = l.drop (o + (v :: vs).length) := by
     rw [List.drop_set_of_lt (by omega)];simp only [List.length_cons];congr 1; omega
   rw [h1, h2];simp
section
variable {P : Program} {New : Obj → Prop} {N : Nat} {ε : Env} {L : Frag} {d : Option Tmp} {ty : TypeId} {ps : String} {af : Array Edge} {g : Option (Nat × Bool)} {t u e e2 : TypeId} {x y : Operand}
theorem jP {sz sLen sCap b o n : Nat} {yb : Option Addr} {yc : Nat} {vs cs : Array Value} {e' : TypeId} (hx : ev ε x = some (.slice (some ⟨b, o, none⟩) sLen sCap) := by rfl) (hy : ev ε y = some (.slice yb n yc) := by rfl) (hnd : (L.map (·.1)).Nodup) (hu : P.underlying t = some (.slice e)) (hv : P.underlying u = some (.slice e2)) (hs : sizeAt P e = some sz) (hr : Reads P L sz n (.slice yb n yc) vs) (hc : sLen + n ≤ sCap) (hm : (b, true, .cells cs e') ∈ L) (ho : o + sLen * sz + vs.size ≤ cs.size) (hp : vs.toList.all plainV = true)
     :
   EO P New N ε L ⟨d, .call ⟨.builtin .append, #[x, y], #[t, u]⟩, ty, ps, af, g⟩ (fun r L' => r = .slice (some ⟨b, o, none⟩) (sLen + n) sCap ∧ Upd L b (.cells (puts cs (o + sLen * sz) vs.toList) e') L') := by
 intro a ha;obtain ⟨m, hm'⟩ := List.getElem?_of_mem hm;exact oZ (ha.ev hx) (ha.ev hy) hu hv hs hr hc hm' ho hp ⟨rfl, cB hnd hm'⟩
theorem lg {sz by_ sLen sCap n : Nat} {xb yb : Option Addr} {yc : Nat} {ws vs : Array Value} {z : Value} (hx : ev ε x = some (.slice xb sLen sCap) := by rfl) (hy : ev ε y = some (.slice yb n yc) := by rfl) (hF : Fun L) (hu : P.underlying t = some (.slice e)) (hv : P.underlying u = some (.slice e2)) (hs : sizeAt P e = some sz) (hb : bytesAt P e = some (by_ + 1)) (hz0 : zeroAt P e = some z) (hw : Reads P L sz sLen (.slice xb sLen sCap) ws) (hr : Reads P L sz n (.slice yb n yc) vs) (hc : sCap < sLen + n) (hbig : (2 * (sLen + n) + 192) * (by_ + 1) ≤ 281474976710656) (hN : ∀ cs, New (.cells cs e))
     :
   EO P New N ε L ⟨d, .call ⟨.builtin .append, #[x, y], #[t, u]⟩, ty, ps, af, g⟩ (fun r L' => ∃ b cap, sLen + n ≤ cap ∧ cap < 9223372036854775808 ∧ r = .slice (some ⟨b, 0, none⟩) (sLen + n) cap ∧ Add L b (.cells (ws ++ vs ++ Builtin.zeroCells z.cells (cap - (sLen + n))) e) L') := by
 intro a ha;exact nh (ha.ev hx) (ha.ev hy) hu hv hs hb hz0 hw hr hc hbig hN fun b cap hb h1 h2 => ⟨b, cap, h1, h2, rfl, de hF hb⟩
theorem tS {b o n cap : Nat} {cs : Array Value} {e' : TypeId} {z : Value} (hx : ev ε x = some (.slice (some ⟨b, o, none⟩) n cap) := by rfl) (hnd : (L.map (·.1)).Nodup) (hu : P.underlying t = some (.slice e)) (hz0 : zeroAt P e = some z) (hzp : plainV z = true) (hm : (b, true, .cells cs e') ∈ L) (ho : o + n ≤ cs.size)  :
   EO P New N ε L ⟨d, .call ⟨.builtin .clear, #[x], #[t]⟩, ty, ps, af, g⟩ (fun r L' => r = .tuple #[] ∧ Upd L b (.cells (puts cs o (List.replicate n z)) e') L') := by
 intro a ha;obtain ⟨m, hm'⟩ := List.getElem?_of_mem hm;refine cu (s := Builtin.clear_ #[t] ty #[.slice (some ⟨b, o, none⟩) n cap]) (fun _ => by simp [builtin, ha.ev hx]) ?_;unfold Builtin.clear_;simp only [List.getElem?_toArray, List.getElem?_cons_zero];rw [au, aQ hu];cases n with
 | zero =>
   simp only [au, bm, List.replicate_zero, puts];refine ⟨trivial, ?_⟩;have := cB (o' := .cells cs e') hnd hm';have e0 : L.set m (b, true, .cells cs e') = L := by
     apply List.ext_getElem?;intro j;rw [List.getElem?_set]
     split
     · rename_i e; subst e; obtain ⟨hl, he⟩ := List.getElem?_eq_some_iff.1 hm'; simp [hl, he]
     · rfl
   rw [e0] at this;exact this
 | succ n =>
   have hzc : (Builtin.zeroCells z.cells (n + 1)).toList = List.replicate (n + 1) z := by
     rw [bR hzp];unfold Builtin.zeroCells;apply List.ext_getElem
     · simp
     · intro i h1 h2;simp [Nat.mod_one]
   simp only [au, cx hz0, hzc];refine cj hm' (by simpa using ho) (by simp [hzp]) ?_;exact ⟨rfl, cB hnd hm'⟩
end
section
variable {σ : Type} {F : Fam σ} {Δ : ∀ s, Dom (F.R s) (F.D s)} {P : Program} {main : Bool} {fn : FuncId} {N : Nat} {Q : σ → Exit → Env → Frag → Prop} {s : σ} {ε : Env} {L : Frag}
theorem dP {x y : Code} {n₁ n₂ : Nat} (M : σ → Env → Frag → Prop) (h1 : wpE Δ P main fn N x n₁ s (thenE M Q) ε L) (h2 : ∀ s' ε' L', M s' ε' L' → wpE Δ P main fn N y n₂ s' Q ε' L') : wpE Δ P main fn N (.seq x y) (n₁ + n₂ + 1) s Q ε L :=
 ar (nl h1 fun s' e ε' L' q => by
   cases e with
   | normal => exact h2 _ _ _ q
   | _ => exact q)
end
section
variable {P : Program} {New : Obj → Prop} {L : Frag}
theorem nr {f : FuncId} {fn : Func} {e : Array Value → Sem Value} {args : Array Value} {Q : Next → Frag → Prop} (hf : P.funcs[f]? = some fn) (hname : (fn.name == "runtime.NumGoroutine") = false) (hb : fn.body.isNone = true) (hn : Extern.findNext fn = none) (he : Extern.find fn = some e)
   (h : wpS P New (e args) (fun v L' => Q (.value v) L') L) : wpS P New (callFunc f args) Q L := by
 have h1 : fn.name ≠ "runtime.NumGoroutine" := by simpa using hname
 have h2 : fn.body = none := by simpa using hb
 show wpS P New (match P.funcs[f]? with | none => _ | some fn => _) Q L;rw [hf];simp only [beq_iff_eq, h1, if_false, h2, Option.isNone_none, if_true];rw [au];refine ⟨rfl, ?_⟩;simp only [hn, he];rw [iO, au];exact h
theorem ja {f : FuncId} {fn : Func} {e : Array Value → Sem Value} {args : Array Value} {K : Next → Prop} (hf : P.funcs[f]? = some fn) (hname : (fn.name == "runtime.NumGoroutine") = false) (hb : fn.body.isNone = true) (hn : Extern.findNext fn = none) (he : Extern.find fn = some e)
   (h : wpQ P (e args) (fun v => K (.value v)) L) : wpQ P (callFunc f args) K L := by
 have h1 : fn.name ≠ "runtime.NumGoroutine" := by simpa using hname
 have h2 : fn.body = none := by simpa using hb
 show wpQ P (match P.funcs[f]? with | none => _ | some fn => _) K L;rw [hf];simp only [beq_iff_eq, h1, if_false, h2, Option.isNone_none, if_true];rw [ax];refine ⟨rfl, ?_⟩;simp only [hn, he];show wpQ P (e args >>= _) K L;rw [ax];exact h
theorem hZ {f : FuncId} {fn : Func} {args : Array Value} {K : Next → Prop} (hf : P.funcs[f]? = some fn) (hname : (fn.name == "runtime.NumGoroutine") = false) (hb : fn.body.isNone = false) (h : K (.enter f args)) : wpQ P (callFunc f args) K L := by
 have h1 : fn.name ≠ "runtime.NumGoroutine" := by simpa using hname
 show wpQ P (match P.funcs[f]? with | none => _ | some fn => _) K L;rw [hf];simp only [beq_iff_eq, h1, if_false, hb, Bool.false_eq_true];exact h
end
theorem dW {N : Nat} {ε : Env} {a : Act} (hf : Fits N ε a) : ∀ (l : List Operand) (vs : List Value), l.map (ev ε) = vs.map some → l.map a.eval = vs := by
 intro l
 induction l with
 | nil => intro vs h; cases vs <;> simp_all
 | cons x l ih =>
   intro vs h;cases vs with
   | nil => simp at h
   | cons v vs =>
     simp only [List.map_cons, List.cons.injEq] at h ⊢;exact ⟨hf.ev h.1, ih vs h.2⟩
section
variable {P : Program} {New : Obj → Prop} {N : Nat} {ε : Env} {L : Frag} {d : Option Tmp} {ty : TypeId} {ps : String} {af : Array Edge} {g : Option (Nat × Bool)} {args : Array Operand} {ats : Array TypeId} {vs : List Value}
theorem jQ {f : FuncId} {fn : Func} {e : Array Value → Sem Value} {v : Value} (ha' : args.toList.map (ev ε) = vs.map some := by rfl) (hf : P.funcs[f]? = some fn) (he : Extern.find fn = some e) (hv : wpQ P (e vs.toArray) (· = v) L) (hname : (fn.name == "runtime.NumGoroutine") = false := by rfl) (hb : fn.body.isNone = true := by rfl) (hn : Extern.findNext fn = none := by kernel_rfl) :
   EY P N ε L ⟨d, .call ⟨.value (.func f), args, ats⟩, ty, ps, af, g⟩ v := by
 intro a ha;have e1 : args.map a.eval = vs.toArray := by apply Array.ext'; simpa using dW ha _ _ ha'
 show wpQ P (callFunc f ((#[] ++ args.map a.eval) ++ #[])) _ L;rw [e1];simp only [Array.empty_append, Array.append_empty];exact ja hf hname hb hn he (cP (fun _ h => by rw [h]) (fun _ h => h) _ hv)
theorem tT {f : FuncId} {fn : Func} {e : Array Value → Sem Value} {post : Value → Frag → Prop} (ha' : args.toList.map (ev ε) = vs.map some := by rfl) (hf : P.funcs[f]? = some fn) (he : Extern.find fn = some e) (hv : wpS P New (e vs.toArray) post L) (hname : (fn.name == "runtime.NumGoroutine") = false := by rfl) (hb : fn.body.isNone = true := by rfl) (hn : Extern.findNext fn = none := by kernel_rfl) :
   EO P New N ε L ⟨d, .call ⟨.value (.func f), args, ats⟩, ty, ps, af, g⟩ post := by
 intro a ha;have e1 : args.map a.eval = vs.toArray := by apply Array.ext'; simpa using dW ha _ _ ha'
 show wpS P New (callFunc f ((#[] ++ args.map a.eval) ++ #[])) _ L;rw [e1];simp only [Array.empty_append, Array.append_empty];exact nr hf hname hb hn he hv
theorem jR {x : Operand} {t : TypeId} {rv rc : Value} {nm : String} {f : FuncId} {fn : Func} {e : Array Value → Sem Value} {v : Value} (hx : ev ε x = some (.iface t rv) := by rfl) (ha' : args.toList.map (ev ε) = vs.map some := by rfl) (hm : wpQ P (method (P.types.size + Made.depth) t rv nm) (· = (f, rc)) L) (hf : P.funcs[f]? = some fn) (he : Extern.find fn = some e) (hv : wpQ P (e (rc :: vs).toArray) (· = v) L) (hname : (fn.name == "runtime.NumGoroutine") = false := by rfl) (hb : fn.body.isNone = true := by rfl) (hn : Extern.findNext fn = none := by kernel_rfl) :
   EY P N ε L ⟨d, .call ⟨.invoke x nm, args, ats⟩, ty, ps, af, g⟩ v := by
 intro a ha;have e1 : args.map a.eval = vs.toArray := by apply Array.ext'; simpa using dW ha _ _ ha'
 show wpQ P (invoke (.fn (.method nm) #[]) (#[a.eval x] ++ args.map a.eval)) _ L;rw [e1, ha.ev hx];unfold invoke;have e2 : (#[Value.iface t rv] ++ vs.toArray)[0]? = some (.iface t rv) := by simp
 have e3 : (#[Value.iface t rv] ++ vs.toArray).extract 1 (#[Value.iface t rv] ++ vs.toArray).size = vs.toArray := by apply Array.ext'; simp
 simp only [e2, e3];show wpQ P (method (P.types.size + Made.depth) t rv nm >>= fun (p : FuncId × Value) => callFunc p.1 (#[p.2] ++ vs.toArray)) _ L;rw [ax];refine cP ?_ (fun _ h => h) _ hm;rintro _ rfl;have e4 : #[rc] ++ vs.toArray = (rc :: vs).toArray := by apply Array.ext'; simp
 simp only [e4];exact ja hf hname hb hn he (cP (fun _ h => by rw [h]) (fun _ h => h) _ hv)
end
section
variable {σ : Type} {F : Fam σ} {Δ : ∀ s, Dom (F.R s) (F.D s)} {P : Program} {main : Bool} {fn : FuncId} {s : σ} {a : Act} {L : Frag}
theorem nt {Q : σ → Exit → Act → Frag → Prop} {ops : Array Oper} {i : Nat} {rest : List Nat} {o : Oper} {f : FuncId} {vals : Array Value} {nf n : Nat} {Post : σ → Value → Frag → Prop}
   (ho : ops[i]? = some o) (hw : Region.wanted o (yielded ops a.tmps) = true) (hE : wpQ P (execOp a.eval o) (· = .enter f vals) L) (hcall : CallsL Δ P main f vals nf s L Post) (hnext : ∀ s' v L', Post s' v L' → OpsL Δ P main fn ops rest n s' Q (a.put o.dst v) L') : OpsL Δ P main fn ops (i :: rest) (n + nf + 3) s Q a L := by
 intro w hO b k cs m hb hk hc;obtain ⟨g, c, hf, hname, hbody, hwp⟩ := hcall w hO;have hfin : ∀ v, (b.at a (.inRegion ops (i :: rest) :: k)).finish v = b.at (a.put o.dst v) (.inRegion ops rest :: k) := fun v => by rw [Frame.finish_at, ho]; rfl
 have hleave : ∀ (s' : σ) (a' : Act) (w' : World) (todo : List Item), (a'.defers = [] ∧ ∃ v, ResultsC P g a'.tmps v ∧ upV Δ Post s' v w') →
     Goes P main (F.R s') (F.D s') (F.Stop s') (m + n + 1) (G { (base f).at a' todo with mode := .returning } (b.at a (.inRegion ops (i :: rest) :: k) :: cs)) w' := by
   rintro s' a' w' todo ⟨hd, v, hr, L', hL, hp⟩;refine Goes.step rfl fun w₁ h₁ => ?_;rw [stepG_leave (b := base f) rfl hd hf (hr w₁).1 (hr w₁).2, hfin];exact ⟨(F.terms s').idle _, (hnext s' v L' hp w' hL b k cs m hb hk hc).rely (F.terms s').trans h₁⟩
 have hbodyG : Goes P main (F.R s) (F.D s) (F.Stop s) (m + n + 2 + nf) (G ((base f).at { tmps := vals ++ Array.replicate (g.ntmps - vals.size) undef, defers := [] } [.code c]) (b.at a (.inRegion ops (i :: rest) :: k) :: cs)) w := by
   refine hwp (base f) [] _ (m + n + 2) rfl (by simp [base]) fun s' e a' w' q => ?_;cases e with
   | normal => exact Goes.step rfl fun w₁ h₁ => by rw [stepG_end]; exact ⟨(F.terms s').idle _, (hleave s' a' w' [] q).rely (F.terms s').trans h₁⟩
   | ret => exact fun todo => (hleave s' a' w' todo q).more
   | exit id => exact q.elim
   | goto l => exact q.elim
   | panic ch => exact q.elim
   | outgrown => exact q.elim
 have e : m + (n + nf + 3) = (m + n + 2 + nf) + 1 := by omega
 rw [e];refine Goes.step rfl fun w₁ h₁ => ?_;obtain ⟨q1, q2⟩ := lU (Δ s) ((Δ s).rely hO h₁) hE;rw [stepG_enter ho hw hk q1, enter_at _ hf hbody];exact ⟨(Δ s).dd ((Δ s).gr w₁) fun e he => q2 e (by rw [hb] at he; exact mem_listed he), hbodyG.rely (F.terms s).trans h₁⟩
end
section
variable {σ : Type} {F : Fam σ} {Δ : ∀ s, Dom (F.R s) (F.D s)} {P : Program} {main : Bool} {fn : FuncId} {N : Nat} {Q : σ → Exit → Env → Frag → Prop} {s : σ} {ε : Env} {L : Frag} {d : Option Tmp} {ps : String} {af : Array Edge} {g : Option (Nat × Bool)} {ot : TypeId} {args : Array Operand} {ats : Array TypeId} {vs : List Value}
theorem ov {ops : Array Oper} {i : Nat} {rest : List Nat} {x : Operand} {f : FuncId} {gf : Func} {c1 c2 : List Value} {nf n : Nat} {Post : σ → Value → Frag → Prop} (ho : ops[i]? = some ⟨d, .call ⟨.value x, args, ats⟩, ot, ps, af, g⟩) (hx : ev ε x = some (.func (.func f) c1.toArray c2.toArray) := by rfl) (ha' : args.toList.map (ev ε) = vs.map some := by rfl)
   (hf : P.funcs[f]? = some gf) (hname : (gf.name == "runtime.NumGoroutine") = false := by rfl) (hb : gf.body.isNone = false := by rfl) (hcall : CallsL Δ P main f (c1 ++ vs ++ c2).toArray nf s L Post) (hw : wantedE ops N ε g = some true := by rfl) (hd : dstOk N d = true := by rfl)
   (h : ∀ s' v L', Post s' v L' → OpsE Δ P main fn N ops rest n s' Q (putE d v ε) L') : OpsE Δ P main fn N ops (i :: rest) (n + nf + 3) s Q ε L := by
 intro a ha;have e1 : args.map a.eval = vs.toArray := by apply Array.ext'; simpa using dW ha _ _ ha'
 refine nt ho (ha.wanted hw) ?_ hcall fun s' v L' hp => h s' v L' hp _ (ha.put hd v);show wpQ P (resolve a.eval ⟨.value x, args, ats⟩ ot >>= fun d => invoke d.target d.args) _ L;unfold resolve;simp only [e1, ha.ev hx];show wpQ P (callFunc f ((c1.toArray ++ vs.toArray) ++ c2.toArray)) _ L;have e4 : (c1.toArray ++ vs.toArray) ++ c2.toArray = (c1 ++ vs ++ c2).toArray := by apply Array.ext'; simp
 rw [e4];exact hZ hf hname hb rfl
theorem oi {ops : Array Oper} {i : Nat} {rest : List Nat} {x : Operand} {t : TypeId} {rv rc : Value} {nm : String} {f : FuncId} {gf : Func} {nf n : Nat} {Post : σ → Value → Frag → Prop} (ho : ops[i]? = some ⟨d, .call ⟨.invoke x nm, args, ats⟩, ot, ps, af, g⟩) (hx : ev ε x = some (.iface t rv) := by rfl) (ha' : args.toList.map (ev ε) = vs.map some := by rfl)
   (hm : wpQ P (method (P.types.size + Made.depth) t rv nm) (· = (f, rc)) L) (hf : P.funcs[f]? = some gf) (hname : (gf.name == "runtime.NumGoroutine") = false := by rfl) (hb : gf.body.isNone = false := by rfl) (hcall : CallsL Δ P main f (rc :: vs).toArray nf s L Post) (hw : wantedE ops N ε g = some true := by rfl) (hd : dstOk N d = true := by rfl)
   (h : ∀ s' v L', Post s' v L' → OpsE Δ P main fn N ops rest n s' Q (putE d v ε) L') : OpsE Δ P main fn N ops (i :: rest) (n + nf + 3) s Q ε L := by
 intro a ha;have e1 : args.map a.eval = vs.toArray := by apply Array.ext'; simpa using dW ha _ _ ha'
 refine nt ho (ha.wanted hw) ?_ hcall fun s' v L' hp => h s' v L' hp _ (ha.put hd v);show wpQ P (invoke (.fn (.method nm) #[]) (#[a.eval x] ++ args.map a.eval)) _ L;rw [e1, ha.ev hx];unfold invoke;have e2 : (#[Value.iface t rv] ++ vs.toArray)[0]? = some (.iface t rv) := by simp
 have e3 : (#[Value.iface t rv] ++ vs.toArray).extract 1 (#[Value.iface t rv] ++ vs.toArray).size = vs.toArray := by apply Array.ext'; simp
 simp only [e2, e3];show wpQ P (method (P.types.size + Made.depth) t rv nm >>= fun (p : FuncId × Value) => callFunc p.1 (#[p.2] ++ vs.toArray)) _ L;rw [ax];refine cP ?_ (fun _ h => h) _ hm;rintro _ rfl;have e4 : #[rc] ++ vs.toArray = (rc :: vs).toArray := by apply Array.ext'; simp
 simp only [e4];exact hZ hf hname hb rfl
end
end Go.Lo
