/-
  Part 5 of the proof.
  No condition but those that each statement names.
-/
import Derived.Test.YtejkelcaljmnoaaGreatDoorHy04
import Derived.KernelRfl
import Derived.Laws.Externs
import Derived.Stop.Asserts
import Derived.Test.YtejkelcaljmnoaaGreatDoorChecked
set_option maxRecDepth 100000
set_option linter.unusedVariables false
set_option linter.unusedSimpArgs false
set_option linter.unusedSectionVars false
namespace Go.Lo
open Go.Conc Go.Hx
abbrev Env := List (Nat × Value)
def look : Env → Nat → Option Value
 | [], _ => none
 | (u, v) :: ε, t => if u = t then some v else look ε t
def ev (ε : Env) : Operand → Option Value
 | .tmp t => look ε t
 | .const v => some v
 | .global g => some (.pointer (some ⟨g, 0, none⟩))
 | .func f => some (.func (.func f) #[] #[])
structure Fits (N : Nat) (ε : Env) (a : Act) : Prop where
 sz : a.tmps.size = N
 df : a.defers = []
 at_ : ∀ t v, look ε t = some v → t < N ∧ a.tmps.getD t undef = v
def putE (d : Option Tmp) (v : Value) (ε : Env) : Env := match d with
 | some d => (d, v) :: ε
 | none => ε
def dstOk (N : Nat) : Option Tmp → Bool
 | some d => decide (d < N)
 | none => true
section
variable {N : Nat} {ε : Env} {a : Act}
theorem Fits.ev (h : Fits N ε a) {x : Operand} {v : Value} (hx : Lo.ev ε x = some v) : a.eval x = v := by
 cases x with
 | tmp t => exact (h.at_ t v hx).2
 | const u => exact Option.some.inj hx
 | global g => exact Option.some.inj hx
 | func f => exact Option.some.inj hx
theorem Fits.put (h : Fits N ε a) {d : Option Tmp} (hd : dstOk N d = true) (v : Value) : Fits N (putE d v ε) (a.put d v) := by
 cases d with
 | none => exact h
 | some d =>
   have hd' : d < N := by simpa [dstOk] using hd
   refine ⟨by simpa [Act.put] using h.sz, h.df, fun t u ht => ?_⟩;simp only [putE, look] at ht
   split at ht
   · rename_i e;subst e;refine ⟨hd', ?_⟩;rw [← Option.some.inj ht];simp [Act.put, Array.getD_eq_getD_getElem?, h.sz, hd']
   · rename_i e;obtain ⟨h1, h2⟩ := h.at_ t u ht;refine ⟨h1, ?_⟩;rw [← h2];simp [Act.put, Array.getD_eq_getD_getElem?, Array.getElem?_setIfInBounds, e]
theorem Fits.sub (h : Fits N ε a) {ε' : Env} (hs : ε'.map (fun p => look ε p.1) = ε'.map (fun p => some p.2)) : Fits N ε' a := by
 refine ⟨h.sz, h.df, ?_⟩
 induction ε' with
 | nil => intro t v ht; cases ht
 | cons p ε' ih =>
   simp only [List.map_cons, List.cons.injEq] at hs;intro t v ht;simp only [look] at ht
   split at ht
   · rename_i e;rw [← e, ← Option.some.inj ht];exact h.at_ _ _ hs.1
   · exact ih hs.2 t v ht
end
def wantedE (ops : Array Oper) (N : Nat) (ε : Env) : Option (Nat × Bool) → Option Bool
 | none => some true
 | some (j, want) => match (ops[j]?).bind (·.dst) with
   | some d => match look ε d with
     | some (.bool b) => some (b == want)
     | _ => none
   | none => none
theorem Fits.wanted {N : Nat} {ε : Env} {a : Act} (h : Fits N ε a) {ops : Array Oper} {o : Oper} {b : Bool} (hw : wantedE ops N ε o.guard = some b) : Region.wanted o (yielded ops a.tmps) = b := by
 unfold Region.wanted;unfold wantedE at hw
 split at hw
 · rename_i e; rw [e]; exact Option.some.inj hw
 · rename_i j want e;rw [e]
   split at hw <;> try cases hw
   rename_i d hd
   split at hw <;> try cases hw
   rename_i c hc;obtain ⟨h1, h2⟩ := h.at_ _ _ hc;have h3 : a.tmps[d]? = some (.bool c) := by
     have : d < a.tmps.size := by rw [h.sz]; exact h1
     simp [Array.getD_eq_getD_getElem?, this] at h2;simp [this, h2]
   have h4 : yielded ops a.tmps j = some c := by
     unfold yielded;rw [hd];simp [h3]
   show (yielded ops a.tmps j == some want) = (c == want);rw [h4]; rfl
section
variable {σ : Type}
def thenE (K : σ → Env → Frag → Prop) (Q : σ → Exit → Env → Frag → Prop) : σ → Exit → Env → Frag → Prop
 | s, .normal, a, L => K s a L
 | s, e, a, L => Q s e a L
def inBlockE (id : Nat) (Q : σ → Exit → Env → Frag → Prop) : σ → Exit → Env → Frag → Prop
 | s, .exit id', a, L => if id' = id then Q s .normal a L else Q s (.exit id') a L
 | s, e, a, L => Q s e a L
def resE (g : Func) (ε : Env) : Option Value := match g.results.toList with
 | [] => some (.tuple #[])
 | [.tmp t] => look ε t
 | [.tmp t, .tmp u] => match look ε t, look ε u with
   | some v, some w => some (.tuple #[v, w])
   | _, _ => none
 | _ => none
def bodyE (g : Func) (Post : σ → Value → Frag → Prop) : σ → Exit → Env → Frag → Prop
 | s, .normal, ε, L | s, .ret, ε, L => ∃ v, resE g ε = some v ∧ Post s v L
 | _, _, _, _ => False
end
section
variable {σ : Type} {F : Fam σ} (Δ : ∀ s, Dom (F.R s) (F.D s)) (P : Program) (main : Bool) (fn : FuncId) (N : Nat)
def upE (Q : σ → Exit → Env → Frag → Prop) : σ → Exit → Act → Frag → Prop := fun s e a L => ∃ ε, Fits N ε a ∧ Q s e ε L
def wpE (c : Code) (n : Nat) (s : σ) (Q : σ → Exit → Env → Frag → Prop) (ε : Env) (L : Frag) : Prop := ∀ a, Fits N ε a → wpL Δ P main fn c n s (upE N Q) a L
def OpsE (ops : Array Oper) (todo : List Nat) (n : Nat) (s : σ) (Q : σ → Exit → Env → Frag → Prop) (ε : Env) (L : Frag) : Prop := ∀ a, Fits N ε a → OpsL Δ P main fn ops todo n s (upE N Q) a L
def LoopE (c : Code) (n : Nat) (s : σ) (Q : σ → Exit → Env → Frag → Prop) (ε : Env) (L : Frag) : Prop := ∀ a, Fits N ε a → LoopL Δ P main fn c n s (upE N Q) a L
def AnyE (ops : Array Oper) (Q : σ → Exit → Env → Frag → Prop) (nf : Nat) (R L0 : Frag) (e : Nat) (s0 : σ) (fuel : Nat) (ls : Array Bool) (s : σ) (ε : Env) (L : Frag) : Prop := ∀ a, Fits N ε a → AnyL Δ P main fn ops (upE N Q) nf R L0 e s0 fuel ls s a L
end
section
variable {σ : Type} {F : Fam σ} {Δ : ∀ s, Dom (F.R s) (F.D s)} {P : Program} {main : Bool} {fn : FuncId} {N : Nat} {Q : σ → Exit → Env → Frag → Prop} {s : σ} {ε : Env} {L : Frag}
theorem m3 {K : σ → Env → Frag → Prop} {K' : σ → Act → Frag → Prop} (h : ∀ s ε a L, Fits N ε a → K s ε L → K' s a L) {s : σ} {e : Exit} {a : Act} {L : Frag} (q : upE N (thenE K Q) s e a L) : thenL K' (upE N Q) s e a L := by
 obtain ⟨ε, hf, q⟩ := q;cases e <;> first | exact h _ _ _ _ hf q | exact ⟨ε, hf, q⟩
theorem m4 {Q' : σ → Exit → Env → Frag → Prop} {c : Code} {n : Nat} (h : wpE Δ P main fn N c n s Q ε L) (hq : ∀ s e ε L, Q s e ε L → Q' s e ε L) : wpE Δ P main fn N c n s Q' ε L :=
 fun a ha => de (h a ha) fun s e a L ⟨ε, hf, q⟩ => ⟨ε, hf, hq _ _ _ _ q⟩
theorem gS {c : Code} {n n' : Nat} (h : wpE Δ P main fn N c n s Q ε L) (hn : n ≤ n') : wpE Δ P main fn N c n' s Q ε L := fun a ha => mQ (h a ha) hn
theorem k8 {ops : Array Oper} {todo : List Nat} {n n' : Nat} (h : OpsE Δ P main fn N ops todo n s Q ε L) (hn : n ≤ n') : OpsE Δ P main fn N ops todo n' s Q ε L := fun a ha => qO (h a ha) hn
theorem xX {c : Code} {n : Nat} (h : (L.map (·.1)).Nodup → wpE Δ P main fn N c n s Q ε L) : wpE Δ P main fn N c n s Q ε L := fun a ha => xR fun hn => h hn a ha
theorem jn {ops : Array Oper} {todo : List Nat} {n : Nat} (h : (L.map (·.1)).Nodup → OpsE Δ P main fn N ops todo n s Q ε L) : OpsE Δ P main fn N ops todo n s Q ε L := fun a ha => vj fun hn => h hn a ha
theorem vx {c : Code} {n : Nat} (ε' : Env)  (hs : ε'.map (fun p => look ε p.1) = ε'.map (fun p => some p.2) := by rfl) (h : wpE Δ P main fn N c n s Q ε' L) : wpE Δ P main fn N c n s Q ε L := fun a ha => h a (ha.sub hs)
def kn (ε ε' : Env) : Prop := ε'.map (fun p => look ε p.1) = ε'.map (fun p => some p.2)
theorem a6 {c : Code} {n : Nat} {ε' : Env} (hs : kn ε ε') (h : wpE Δ P main fn N c n s Q ε' L) : wpE Δ P main fn N c n s Q ε L := vx ε' hs h
theorem ae {x y : Code} {n₁ n₂ : Nat} (h : wpE Δ P main fn N x n₁ s (thenE (fun s' ε' L' => wpE Δ P main fn N y n₂ s' Q ε' L') Q) ε L) : wpE Δ P main fn N (.seq x y) (n₁ + n₂ + 1) s Q ε L :=
 fun a ha => vk (de (h a ha) fun _ _ _ _ q => m3 (fun _ _ a _ hf k => k a hf) q)
theorem ft {x y : Code} {n₁ n₂ : Nat} (ε' : Env) (h1 : wpE Δ P main fn N x n₁ s (thenE (fun s' ε'' L' => s = s' ∧ L = L' ∧ kn ε'' ε') Q) ε L) (h2 : wpE Δ P main fn N y n₂ s Q ε' L) : wpE Δ P main fn N x n₁ s (thenE (fun s' ε' L' => wpE Δ P main fn N y n₂ s' Q ε' L') Q) ε L :=
 m4 h1 fun s' e ε'' L' q => by
   cases e with
   | normal => obtain ⟨rfl, rfl, hk⟩ := q; exact a6 hk h2
   | _ => exact q
theorem oM {c : Operand} {x y : Code} (t : Bool) {n : Nat} (hc : ev ε c = some (.bool t)) (h : wpE Δ P main fn N (if t then x else y) n s Q ε L) : wpE Δ P main fn N (.cond c x y) (n + 1) s Q ε L := fun a ha => sL (ha.ev hc) (h a ha)
theorem bl {c : Operand} {x y : Code} {t : Bool} {n m : Nat}   (hc : ev ε c = some (.bool t) := by rfl) (hx : t = true → wpE Δ P main fn N x n s Q ε L) (hy : t = false → wpE Δ P main fn N y m s Q ε L) : wpE Δ P main fn N (.cond c x y) (max n m + 1) s Q ε L := by
 refine oM t hc ?_;cases t with
 | true => exact gS (hx rfl) (Nat.le_max_left _ _)
 | false => exact gS (hy rfl) (Nat.le_max_right _ _)
theorem aW {c : Operand} {x y : Code} {n : Nat}  (hc : ev ε c = some (.bool true) := by rfl) (h : wpE Δ P main fn N x n s Q ε L) : wpE Δ P main fn N (.cond c x y) (n + 1) s Q ε L := oM true hc h
theorem aq {c : Operand} {x y : Code} {n : Nat}  (hc : ev ε c = some (.bool false) := by rfl) (h : wpE Δ P main fn N y n s Q ε L) : wpE Δ P main fn N (.cond c x y) (n + 1) s Q ε L := oM false hc h
theorem aI {id : Nat} {c : Code} {n : Nat} (h : wpE Δ P main fn N c n s (inBlockE id Q) ε L) : wpE Δ P main fn N (.block id c) (n + 2) s Q ε L :=
 fun a ha => qP (de (h a ha) fun s' e a' L' ⟨ε', hf, q⟩ => by
   cases e with
   | exit id' =>
     simp only [inBlockE] at q;simp only [inBlockL]
     split
     · rename_i e; rw [if_pos e] at q; exact ⟨ε', hf, q⟩
     · rename_i e; rw [if_neg e] at q; exact ⟨ε', hf, q⟩
   | _ => exact ⟨ε', hf, q⟩)
theorem aA (h : Q s .normal ε L) : wpE Δ P main fn N .skip 1 s Q ε L := fun _ ha => sM ⟨ε, ha, h⟩
theorem aJ (h : Q s .ret ε L) : wpE Δ P main fn N .ret 1 s Q ε L := fun _ ha => vl ⟨ε, ha, h⟩
theorem bL {id : Nat} (h : Q s (.exit id) ε L) : wpE Δ P main fn N (.exit id) 1 s Q ε L := fun _ ha => sN ⟨ε, ha, h⟩
theorem aa {id : Nat} {ops : Array Oper} {n : Nat} (h : OpsE Δ P main fn N ops (List.range ops.size) n s Q ε L) : wpE Δ P main fn N (.region id ops false) (n + 1) s Q ε L := fun a ha => oD (h a ha)
theorem ah {ops : Array Oper} (h : Q s .normal ε L) : OpsE Δ P main fn N ops [] 1 s Q ε L := fun _ ha => sP ⟨ε, ha, h⟩
theorem bG {c : Code} {n : Nat} (I : Nat → σ → Env → Frag → Prop) (k : Nat) (hI : I k s ε L) (h : ∀ k s ε L, I k s ε L → wpE Δ P main fn N c n s (thenE (fun s' ε' L' => ∃ k', k' < k ∧ I k' s' ε' L') Q) ε L) :
   wpE Δ P main fn N (.loop c) ((k + 1) * (n + 1)) s Q ε L :=
 fun a ha => sO (fun k s a L => ∃ ε, Fits N ε a ∧ I k s ε L) (fun k s a L ⟨ε, hf, hi⟩ => de (h k s ε L hi a hf) fun _ _ _ _ q => m3 (fun _ ε' _ _ hf ⟨k', hk, hi⟩ => ⟨k', hk, ε', hf, hi⟩) q) k ⟨ε, ha, hI⟩
theorem vy {g : Func} {a : Act} {v : Value} (hf : Fits N ε a) (h : resE g ε = some v) : ResultsC P g a.tmps v := by
 unfold resE at h
 split at h
 · rename_i e; rw [← Option.some.inj h]; exact resultsC_none (Array.ext' e) _
 · rename_i t e; rw [← (hf.at_ _ _ h).2]; exact resultsC_tmp (Array.ext' e) _
 · rename_i t u e
   split at h
   · rename_i h1 h2;rw [← Option.some.inj h, ← (hf.at_ _ _ h1).2, ← (hf.at_ _ _ h2).2];exact resultsC_tmp2 (Array.ext' e) _
   · cases h
 · cases h
def argsAt : Nat → List Value → Env
 | _, [] => []
 | k, v :: vs => (k, v) :: argsAt (k + 1) vs
def args (vs : List Value) : Env := argsAt 0 vs
theorem fL : ∀ (vs : List Value) (k t : Nat) (v : Value), look (argsAt k vs) t = some v → k ≤ t ∧ vs[t - k]? = some v
 | [], _, _, _, h => by cases h
 | u :: vs, k, t, v, h => by
   simp only [argsAt, look] at h
   split at h
   · rename_i e; subst e; simpa using h
   · rename_i e;obtain ⟨h1, h2⟩ := fL vs (k + 1) t v h;refine ⟨by omega, ?_⟩;rw [show t - k = (t - (k + 1)) + 1 by omega];simpa using h2
theorem aB (N : Nat) {f : FuncId} {g : Func} {c : Code} {vs : List Value} {n : Nat} {Post : σ → Value → Frag → Prop} (hf : P.funcs[f]? = some g) (hN : g.ntmps = N)  (hname : (g.name == "runtime.NumGoroutine") = false := by rfl) (hb : g.body = some c := by rfl) (hl : Nat.ble vs.length N = true := by rfl) (h : wpE Δ P main f N c n s (bodyE g Post) (args vs) L) : CallsL Δ P main f vs.toArray n s L Post := by
 have hl := Nat.le_of_ble_eq_true hl;subst hN;refine qR hf hname hb (de (h _ ⟨by simp; omega, rfl, fun t v ht => ?_⟩) fun s' e a' L' ⟨ε', hf, q⟩ => ?_)
 · obtain ⟨_, h2⟩ := fL vs 0 t v ht;have hlt := (List.getElem?_eq_some_iff.1 h2).1;simp only [Nat.sub_zero] at h2 hlt;refine ⟨by omega, ?_⟩;simp only [Array.getD_eq_getD_getElem?, Array.getElem?_append, List.size_toArray, hlt, if_true, List.getElem?_toArray, h2, Option.getD_some]
 · cases e <;> first | exact ⟨hf.df, q.choose, vy hf q.choose_spec.1, q.choose_spec.2⟩ | exact q
def EY (P : Program) (N : Nat) (ε : Env) (L : Frag) (o : Oper) (v : Value) : Prop := ∀ a, Fits N ε a → Yld P L (execOp a.eval o) v
def EO (P : Program) (New : Obj → Prop) (N : Nat) (ε : Env) (L : Frag) (o : Oper) (post : Value → Frag → Prop) : Prop := ∀ a, Fits N ε a → wpS P New (execOp a.eval o) (fun x L' => match x with | .value v => post v L' | .skip => post undef L' | _ => False) L
theorem oy {ops : Array Oper} {i : Nat} {rest : List Nat} {d : Option Tmp} {k : Op} {ot : TypeId} {ps : String} {af : Array Edge} {g : Option (Nat × Bool)} {n : Nat} {v : Value} (ho : ops[i]? = some ⟨d, k, ot, ps, af, g⟩) (hy : EY P N ε L ⟨d, k, ot, ps, af, g⟩ v)  (hw : wantedE ops N ε g = some true := by rfl) (hd : dstOk N d = true := by rfl) (h : OpsE Δ P main fn N ops rest n s Q (putE d v ε) L) : OpsE Δ P main fn N ops (i :: rest) (n + 1) s Q ε L :=
 fun a ha => kZ ho (ha.wanted hw) ((hy a ha).go (h _ (ha.put hd v)))
theorem ou {ops : Array Oper} {i : Nat} {rest : List Nat} {d : Option Tmp} {k : Op} {ot : TypeId} {ps : String} {af : Array Edge} {g : Option (Nat × Bool)} {n : Nat} (ho : ops[i]? = some ⟨d, k, ot, ps, af, g⟩)  (hw : wantedE ops N ε g = some false := by rfl) (hd : dstOk N d = true := by rfl) (h : OpsE Δ P main fn N ops rest n s Q (putE d undef ε) L) : OpsE Δ P main fn N ops (i :: rest) (n + 1) s Q ε L :=
 fun a ha => kL ho (ha.wanted hw) (h _ (ha.put hd undef))
theorem oe {ops : Array Oper} {i : Nat} {rest : List Nat} {d : Option Tmp} {k : Op} {ot : TypeId} {ps : String} {af : Array Edge} {g : Option (Nat × Bool)} {n : Nat} {post : Value → Frag → Prop} (ho : ops[i]? = some ⟨d, k, ot, ps, af, g⟩) (hy : EO P (Δ s).New N ε L ⟨d, k, ot, ps, af, g⟩ post)  (hw : wantedE ops N ε g = some true := by rfl) (hd : dstOk N d = true := by rfl) (h : ∀ v L', post v L' → OpsE Δ P main fn N ops rest n s Q (putE d v ε) L') : OpsE Δ P main fn N ops (i :: rest) (n + 1) s Q ε L :=
 fun a ha => kZ ho (ha.wanted hw) (bR (fun x L' q => by cases x <;> first | exact h _ _ q _ (ha.put hd _) | exact q.elim) _ _ (hy a ha))
theorem oc {ops : Array Oper} {i : Nat} {rest : List Nat} {d : Option Tmp} {k : Op} {ot : TypeId} {ps : String} {af : Array Edge} {g : Option (Nat × Bool)} {f : FuncId} {args : Array Operand} {ats : Array TypeId} {vs : List Value} {nf n : Nat} {Post : σ → Value → Frag → Prop}
   (ho : ops[i]? = some ⟨d, k, ot, ps, af, g⟩) (hop : k = .call { callee := .value (.func f), args, argTypes := ats }) (ha : args.toList.map (ev ε) = vs.map some) (hcall : CallsL Δ P main f vs.toArray nf s L Post)
    (hw : wantedE ops N ε g = some true := by rfl) (hd : dstOk N d = true := by rfl) (h : ∀ s' v L', Post s' v L' → OpsE Δ P main fn N ops rest n s' Q (putE d v ε) L') : OpsE Δ P main fn N ops (i :: rest) (n + nf + 3) s Q ε L := by
 intro a hf;have e : args.map a.eval = vs.toArray := by
   apply Array.ext';simp only [Array.toList_map];have : ∀ (l : List Operand) (vs : List Value), l.map (ev ε) = vs.map some → l.map a.eval = vs := by
     intro l
     induction l with
     | nil => intro vs h; cases vs <;> simp_all
     | cons x l ih =>
       intro vs h;cases vs with
       | nil => simp at h
       | cons v vs =>
         simp only [List.map_cons, List.cons.injEq] at h ⊢;exact ⟨hf.ev h.1, ih vs h.2⟩
   exact this _ _ ha
 exact qS ho (hf.wanted hw) hop (by rw [e]; exact hcall) fun s' v L' hp => h s' v L' hp _ (hf.put hd v)
theorem bm {id : Nat} {ops : Array Oper} (R : Frag) (e : Nat) {nf : Nat}  (hm : P.follows .mixedOrders = true := by first | rfl | kernel_rfl) (h : AnyE Δ P main fn N ops Q nf R L e s ops.size (Array.replicate ops.size false) s ε L) : wpE Δ P main fn N (.region id ops true) (ops.size * (nf + 3) + 1 + 1) s Q ε L :=
 fun a ha => sV R e hm (h a ha)
theorem bj {id : Nat} {ops : Array Oper}  (hm : P.follows .mixedOrders = true := by first | rfl | kernel_rfl) (h : AnyE Δ P main fn N ops Q 0 L L 1000000 s ops.size (Array.replicate ops.size false) s ε L) : wpE Δ P main fn N (.region id ops true) (ops.size * (0 + 3) + 1 + 1) s Q ε L := bm L 1000000 hm h
section
variable {ops : Array Oper} {nf : Nat} {R L0 : Frag} {e : Nat} {s0 : σ} {fuel : Nat} {ls : Array Bool}
theorem ai {R : Frag} (hR : ∀ t ∈ R, t ∈ L) : Pre R L e s ls s L := ⟨rfl, hR, fun _ _ h => h⟩
theorem pI : Pre L L e s ls s L := ⟨rfl, fun _ h => h, fun _ _ h => h⟩
theorem dN {R L0 : Frag} (hR : ∀ t ∈ R, t ∈ L) (h0 : ∀ t ∈ L0, t ∈ L) : Pre R L0 e s ls s L := ⟨rfl, hR, fun _ => h0⟩
theorem aE {R L0 : Frag} (hR : ∀ t ∈ R, t ∈ L) (h : ls.getD e true = true := by first | rfl | decide) : Pre R L0 e s ls s L := ⟨rfl, hR, fun h' => by rw [h] at h'; cases h'⟩
theorem t0 {i : Nat} {d : Option Tmp} {k : Op} {ot : TypeId} {ps : String} {af : Array Edge} {g : Option (Nat × Bool)} {v : Value} (ho : ops[i]? = some ⟨d, k, ot, ps, af, g⟩) (hy : EY P N ε L0 ⟨d, k, ot, ps, af, g⟩ v) (hP : Pre R L0 e s0 ls s L)
   (hs : Region.noSelect ops = true := by kernel_rfl) (hf : Region.free .any ops ls i = true := by kernel_rfl) (hr : (Region.ready .any ops ls).contains i = true := by kernel_rfl) (hie : i ≠ e := by decide) (hh : hangs ops ops.size e i = true := by kernel_rfl) (hw : wantedE ops N ε g = some true := by rfl) (hd : dstOk N d = true := by rfl) (h : AnyE Δ P main fn N ops Q nf R L0 e s0 fuel (ls.setIfInBounds i true) s (putE d v ε) L) :
   AnyE Δ P main fn N ops Q nf R L0 e s0 (fuel + 1) ls s ε L :=
 fun a ha => k7 ho hs hf hr hie (.inr ⟨rfl, hh⟩) hP (ha.wanted hw) (hy a ha) (h _ (ha.put hd v))
theorem tr {i : Nat} {d : Option Tmp} {k : Op} {ot : TypeId} {ps : String} {af : Array Edge} {g : Option (Nat × Bool)} {v : Value} (ho : ops[i]? = some ⟨d, k, ot, ps, af, g⟩) (hy : EY P N ε R ⟨d, k, ot, ps, af, g⟩ v) (hP : Pre R L0 e s0 ls s L)
   (hs : Region.noSelect ops = true := by kernel_rfl) (hf : Region.free .any ops ls i = true := by kernel_rfl) (hr : (Region.ready .any ops ls).contains i = true := by kernel_rfl) (hie : i ≠ e := by decide) (hw : wantedE ops N ε g = some true := by rfl) (hd : dstOk N d = true := by rfl) (h : AnyE Δ P main fn N ops Q nf R L0 e s0 fuel (ls.setIfInBounds i true) s (putE d v ε) L) :
   AnyE Δ P main fn N ops Q nf R L0 e s0 (fuel + 1) ls s ε L :=
 fun a ha => k7 ho hs hf hr hie (.inl rfl) hP (ha.wanted hw) (hy a ha) (h _ (ha.put hd v))
theorem tu {i : Nat} {d : Option Tmp} {k : Op} {ot : TypeId} {ps : String} {af : Array Edge} {g : Option (Nat × Bool)} (ho : ops[i]? = some ⟨d, k, ot, ps, af, g⟩) (hP : Pre R L0 e s0 ls s L)
   (hs : Region.noSelect ops = true := by kernel_rfl) (hf : Region.free .any ops ls i = true := by kernel_rfl) (hr : (Region.ready .any ops ls).contains i = true := by kernel_rfl) (hie : i ≠ e := by decide) (hw : wantedE ops N ε g = some false := by rfl) (hd : dstOk N d = true := by rfl) (h : AnyE Δ P main fn N ops Q nf R L0 e s0 fuel (ls.setIfInBounds i true) s (putE d undef ε) L) :
   AnyE Δ P main fn N ops Q nf R L0 e s0 (fuel + 1) ls s ε L :=
 fun a ha => qZ ho hs hf hr hie hP (ha.wanted hw) (h _ (ha.put hd undef))
theorem to {i : Nat} {d : Option Tmp} {k : Op} {ot : TypeId} {ps : String} {af : Array Edge} {g : Option (Nat × Bool)} {v : Value} (ho : ops[i]? = some ⟨d, k, ot, ps, af, g⟩) (hy : EY P N ε L ⟨d, k, ot, ps, af, g⟩ v) (hP : Pre R L0 e s0 (ls.setIfInBounds i true) s L)
   (hr : Region.ready .any ops ls = [i] := by kernel_rfl) (hw : wantedE ops N ε g = some true := by rfl) (hd : dstOk N d = true := by rfl) (h : AnyE Δ P main fn N ops Q nf R L0 e s0 fuel (ls.setIfInBounds i true) s (putE d v ε) L) : AnyE Δ P main fn N ops Q nf R L0 e s0 (fuel + 1) ls s ε L :=
 fun a ha => pH hr ho (ha.wanted hw) ((hy a ha).go ⟨hP, h _ (ha.put hd v)⟩)
theorem te {i : Nat} {d : Option Tmp} {k : Op} {ot : TypeId} {ps : String} {af : Array Edge} {g : Option (Nat × Bool)} {post : Value → Frag → Prop} (ho : ops[i]? = some ⟨d, k, ot, ps, af, g⟩) (hy : EO P (Δ s).New N ε L ⟨d, k, ot, ps, af, g⟩ post)
   (hr : Region.ready .any ops ls = [i] := by kernel_rfl) (hw : wantedE ops N ε g = some true := by rfl) (hd : dstOk N d = true := by rfl) (h : ∀ v L', post v L' → Pre R L0 e s0 (ls.setIfInBounds i true) s L' ∧ AnyE Δ P main fn N ops Q nf R L0 e s0 fuel (ls.setIfInBounds i true) s (putE d v ε) L') : AnyE Δ P main fn N ops Q nf R L0 e s0 (fuel + 1) ls s ε L :=
 fun a ha => pH hr ho (ha.wanted hw) (bR (fun x L' q => by cases x <;> first | exact ⟨(h _ _ q).1, (h _ _ q).2 _ (ha.put hd _)⟩ | exact q.elim) _ _ (hy a ha))
theorem tc {i : Nat} {d : Option Tmp} {k : Op} {ot : TypeId} {ps : String} {af : Array Edge} {g : Option (Nat × Bool)} {f : FuncId} {args : Array Operand} {ats : Array TypeId} {vs : List Value} {Post : σ → Value → Frag → Prop} (ho : ops[i]? = some ⟨d, k, ot, ps, af, g⟩) (hop : k = .call { callee := .value (.func f), args, argTypes := ats }) (ha : args.toList.map (ev ε) = vs.map some) (hcall : CallsL Δ P main f vs.toArray nf s L Post)
   (hr : Region.ready .any ops ls = [i] := by kernel_rfl) (hw : wantedE ops N ε g = some true := by rfl) (hd : dstOk N d = true := by rfl) (h : ∀ s' v L', Post s' v L' → Pre R L0 e s0 (ls.setIfInBounds i true) s' L' ∧ AnyE Δ P main fn N ops Q nf R L0 e s0 fuel (ls.setIfInBounds i true) s' (putE d v ε) L') : AnyE Δ P main fn N ops Q nf R L0 e s0 (fuel + 1) ls s ε L := by
 intro a hf;have e' : args.map a.eval = vs.toArray := by
   apply Array.ext';simp only [Array.toList_map];have : ∀ (l : List Operand) (vs : List Value), l.map (ev ε) = vs.map some → l.map a.eval = vs := by
     intro l
     induction l with
     | nil => intro vs h; cases vs <;> simp_all
     | cons x l ih =>
       intro vs h;cases vs with
       | nil => simp at h
       | cons v vs =>
         simp only [List.map_cons, List.cons.injEq] at h ⊢;exact ⟨hf.ev h.1, ih vs h.2⟩
   exact this _ _ ha
 exact q6 hr ho (hf.wanted hw) hop (by rw [e']; exact hcall) fun s' v L' hp => ⟨(h s' v L' hp).1, (h s' v L' hp).2 _ (hf.put hd v)⟩
theorem ba (h : (L.map (·.1)).Nodup → AnyE Δ P main fn N ops Q nf R L0 e s0 fuel ls s ε L) : AnyE Δ P main fn N ops Q nf R L0 e s0 fuel ls s ε L := fun a ha => vw fun hn => h hn a ha
theorem td  (hr : Region.ready .any ops ls = [] := by kernel_rfl) (h : Q s .normal ε L) : AnyE Δ P main fn N ops Q nf R L0 e s0 fuel ls s ε L := fun _ ha => q8 hr ⟨ε, ha, h⟩
end
end
section
variable {P : Program} {N : Nat} {ε : Env} {L : Frag} {d : Option Tmp} {ty : TypeId} {ps : String} {af : Array Edge} {g : Option (Nat × Bool)}
theorem aj {x : Operand} {v : Value} (hx : ev ε x = some v := by rfl) : EY P N ε L ⟨d, .move x, ty, ps, af, g⟩ v := fun _ ha => (ha.ev hx) ▸ xT
theorem ak {x : Operand} {v : Value} (hx : ev ε x = some v := by rfl) : EY P N ε L ⟨d, .assign x, ty, ps, af, g⟩ v := fun _ ha => (ha.ev hx) ▸ sR
theorem aL {x : Operand} {a : Addr} (hx : ev ε x = some (.pointer (some a)) := by rfl) : EY P N ε L ⟨d, .nilCheck x, ty, ps, af, g⟩ (.pointer (some a)) := fun _ ha => oF (ha.ev hx)
theorem aN {c x y : Operand} {t : Bool} {v w : Value} (hc : ev ε c = some (.bool t) := by rfl) (hx : ev ε x = some v := by rfl) (hy : ev ε y = some w := by rfl) : EY P N ε L ⟨d, .pick c x y, ty, ps, af, g⟩ (if t then v else w) := fun _ ha => (ha.ev hx) ▸ (ha.ev hy) ▸ xU (ha.ev hc)
theorem av {x : Operand} {s f b i off : Nat} (hx : ev ε x = some (.pointer (some ⟨b, i, none⟩)) := by rfl) (hf : fieldOff P s f = some off := by kernel_rfl) : EY P N ε L ⟨d, .fieldAddr s x f, ty, ps, af, g⟩ (.pointer (some ⟨b, i + off, none⟩)) := fun _ ha => mS (ha.ev hx) hf
theorem aC {x : Operand} {t b i : Nat} {v : Value} (hx : ev ε x = some (.pointer (some ⟨b, i, none⟩)) := by rfl) (ht : aggAt P t = some false := by kernel_rfl)
   (hv : At L b i v := by first | exact At.at (n := 0) rfl (by first | rfl | assumption) | exact At.at (n := 1) rfl (by first | rfl | assumption) | exact At.at (n := 2) rfl (by first | rfl | assumption) | exact At.at (n := 3) rfl (by first | rfl | assumption) | exact At.at (n := 4) rfl (by first | rfl | assumption) | exact At.at (n := 5) rfl (by first | rfl | assumption) | exact At.at (n := 6) rfl (by first | rfl | assumption) | assumption) :
   EY P N ε L ⟨d, .load t x, ty, ps, af, g⟩ v := fun _ ha => xV (ha.ev hx) ht hv
theorem a8 {x : Operand} {t b i n : Nat} {cs : Array Value} {e : TypeId} {fr : Nat × Nat} {fl : Bool} (hx : ev ε x = some (.pointer (some ⟨b, i, none⟩)) := by rfl) (ht : aggAt P t = some true) (hs : sizeAt P t = some n) (hm : (b, fl, .cells cs e fr) ∈ L) (hi : i + n ≤ cs.size) :
   EY P N ε L ⟨d, .load t x, ty, ps, af, g⟩ (.agg (cs.extract i (i + n))) := fun _ ha => qV (ha.ev hx) ht hs hm hi
theorem a0 {x ix : Operand} {t b o sz len off : Nat} {e : TypeId} {k : IntKind} {n : Int} (hu : P.underlying t = some (.array len e)) (hs : sizeAt P e = some sz) (hx : ev ε x = some (.pointer (some ⟨b, o, none⟩)) := by rfl) (hi : ev ε ix = some (.int k n) := by rfl) (h0 : 0 ≤ n := by first | decide | omega | assumption) (h1 : n < len := by first | decide | omega | assumption | (simp; done)) (ho : o + n.toNat * sz = off := by ((try simp only [Int.toNat_natCast, Nat.zero_add, Nat.mul_one, Nat.reduceAdd, Nat.reduceMul, Int.reduceToNat, Int.toNat_zero, Int.toNat_one, Nat.zero_mul, Nat.add_zero]); first | done | exact rfl)) :
   EY P N ε L ⟨d, .indexAddr t x ix, ty, ps, af, g⟩ (.pointer (some ⟨b, off, none⟩)) := fun _ ha => ho ▸ oG (ha.ev hx) (ha.ev hi) hu hs h0 h1
theorem bv {x ix : Operand} {t b o sz len cap off : Nat} {e : TypeId} {k : IntKind} {n : Int} (hu : P.underlying t = some (.slice e)) (hs : sizeAt P e = some sz) (hx : ev ε x = some (.slice (some ⟨b, o, none⟩) len cap) := by rfl) (hi : ev ε ix = some (.int k n) := by rfl) (h0 : 0 ≤ n := by first | decide | omega | assumption) (h1 : n < len := by first | decide | omega | assumption | (simp; done)) (ho : o + n.toNat * sz = off := by ((try simp only [Int.toNat_natCast, Nat.zero_add, Nat.mul_one, Nat.reduceAdd, Nat.reduceMul, Int.reduceToNat, Int.toNat_zero, Int.toNat_one, Nat.zero_mul, Nat.add_zero]); first | done | exact rfl)) :
   EY P N ε L ⟨d, .indexAddr t x ix, ty, ps, af, g⟩ (.pointer (some ⟨b, off, none⟩)) := fun _ ha => ho ▸ qW (ha.ev hx) (ha.ev hi) hu hs h0 h1
variable {t u : TypeId} {x y : Operand} {k : IntKind} {a b : Int}
theorem a7 (hx : ev ε x = some (.int k a) := by rfl) (hy : ev ε y = some (.int k b) := by rfl) : EY P N ε L ⟨d, .binOp .add t x y u, ty, ps, af, g⟩ (.int k (k.wrap (a + b))) := fun _ ha => y6 (ha.ev hx) (ha.ev hy)
theorem pJ (hx : ev ε x = some (.int k a) := by rfl) (hy : ev ε y = some (.int k b) := by rfl) : EY P N ε L ⟨d, .binOp .sub t x y u, ty, ps, af, g⟩ (.int k (k.wrap (a - b))) := fun _ ha => y7 (ha.ev hx) (ha.ev hy)
theorem zm (hx : ev ε x = some (.int k a) := by rfl) (hy : ev ε y = some (.int k b) := by rfl) : EY P N ε L ⟨d, .binOp .mul t x y u, ty, ps, af, g⟩ (.int k (k.wrap (a * b))) := fun _ ha => y9 (ha.ev hx) (ha.ev hy)
theorem gT (hx : ev ε x = some (.int k a) := by rfl) (hy : ev ε y = some (.int k b) := by rfl) (hb : b ≠ 0 := by first | decide | omega) : EY P N ε L ⟨d, .binOp .rem t x y u, ty, ps, af, g⟩ (.int k (a.tmod b)) := fun _ ha => za (ha.ev hx) (ha.ev hy) hb
theorem ay (hx : ev ε x = some (.int k a) := by rfl) (hy : ev ε y = some (.int k b) := by rfl) : EY P N ε L ⟨d, .binOp .eql t x y u, ty, ps, af, g⟩ (.bool (a == b)) := fun _ ha => zb (ha.ev hx) (ha.ev hy)
theorem cY (hx : ev ε x = some (.int k a) := by rfl) (hy : ev ε y = some (.int k b) := by rfl) : EY P N ε L ⟨d, .binOp .neq t x y u, ty, ps, af, g⟩ (.bool (a != b)) := fun _ ha => zc (ha.ev hx) (ha.ev hy)
theorem bX (hx : ev ε x = some (.int k a) := by rfl) (hy : ev ε y = some (.int k b) := by rfl) : EY P N ε L ⟨d, .binOp .lss t x y u, ty, ps, af, g⟩ (.bool (decide (a < b))) := fun _ ha => zd (ha.ev hx) (ha.ev hy)
theorem k9 (hx : ev ε x = some (.int k a) := by rfl) (hy : ev ε y = some (.int k b) := by rfl) : EY P N ε L ⟨d, .binOp .leq t x y u, ty, ps, af, g⟩ (.bool (decide (a ≤ b))) := fun _ ha => ze (ha.ev hx) (ha.ev hy)
theorem dj (hx : ev ε x = some (.int k a) := by rfl) (hy : ev ε y = some (.int k b) := by rfl) : EY P N ε L ⟨d, .binOp .gtr t x y u, ty, ps, af, g⟩ (.bool (decide (b < a))) := fun _ ha => zf (ha.ev hx) (ha.ev hy)
theorem d9 (hx : ev ε x = some (.int k a) := by rfl) (hy : ev ε y = some (.int k b) := by rfl) : EY P N ε L ⟨d, .binOp .geq t x y u, ty, ps, af, g⟩ (.bool (decide (b ≤ a))) := fun _ ha => zg (ha.ev hx) (ha.ev hy)
theorem cg {s' t' : TypeId} {ds : TypeDesc} {j : IntKind} {n : Int} (hx : ev ε x = some (.int j n) := by rfl) (hs : P.underlying s' = some ds := by kernel_rfl) (ht : P.underlying t' = some (.int k) := by kernel_rfl) : EY P N ε L ⟨d, .convert s' t' x, ty, ps, af, g⟩ (.int k (k.wrap n)) := fun _ ha => xW (ha.ev hx) hs ht
theorem bY {c : Bool} (hx : ev ε x = some (.bool c) := by rfl) : EY P N ε L ⟨d, .unOp .not t x, ty, ps, af, g⟩ (.bool !c) := fun _ ha => zh (ha.ev hx)
theorem zn (hx : ev ε x = some (.int k a) := by rfl) : EY P N ε L ⟨d, .unOp .neg t x, ty, ps, af, g⟩ (.int k (k.wrap (0 - a))) := fun _ ha => zi (ha.ev hx)
theorem bM {i : Nat} {vs : Array Value} {v : Value} (hx : ev ε x = some (.tuple vs) := by rfl) (hv : vs[i]? = some v := by rfl) : EY P N ε L ⟨d, .extract x i, ty, ps, af, g⟩ v := fun _ ha => qX (ha.ev hx) hv
theorem lS {f : Fn} {v : Value} (hx : ev ε x = some v := by rfl) : EY P N ε L ⟨d, .makeFunc f #[] #[x], ty, ps, af, g⟩ (.func f #[] #[v]) := fun _ ha => by
 have := jG (P := P) (L := L) (ρ := Act.eval ‹_›) (d := d) (ty := ty) (ps := ps) (af := af) (g := g) (f := f) (c1 := #[]) (c2 := #[x]);simpa [ha.ev hx] using this
theorem oN {f : Fn} {v : Value} (hx : ev ε x = some v := by rfl) : EY P N ε L ⟨d, .makeFunc f #[x] #[], ty, ps, af, g⟩ (.func f #[v] #[]) := fun _ ha => by
 have := jG (P := P) (L := L) (ρ := Act.eval ‹_›) (d := d) (ty := ty) (ps := ps) (af := af) (g := g) (f := f) (c1 := #[x]) (c2 := #[]);simpa [ha.ev hx] using this
theorem gU {v : Value} {ds : TypeDesc} (hi : ∀ ms, ds ≠ .interface ms) (hx : ev ε x = some v := by rfl) (ht : P.underlying t = some ds := by kernel_rfl) : EY P N ε L ⟨d, .makeInterface t x, ty, ps, af, g⟩ (.iface t v) := fun _ ha => (ha.ev hx) ▸ mU ht hi
theorem zo {s' f off n : Nat} {cs : Array Value} {v : Value} (hx : ev ε x = some (.agg cs) := by rfl) (hf : fieldPart P s' f = some (off, n, false) := by kernel_rfl) (hv : cs[off]? = some v := by rfl) : EY P N ε L ⟨d, .field s' x f, ty, ps, af, g⟩ v := fun _ ha => vm (ha.ev hx) hf hv
theorem bz {ats : Array TypeId} {e : TypeId} {base : Option Addr} {len cap : Nat} (hx : ev ε x = some (.slice base len cap) := by rfl) (hu : P.underlying t = some (.slice e) := by kernel_rfl) (ha' : ats[0]? = some t := by rfl) : EY P N ε L ⟨d, .call ⟨.builtin .len, #[x], ats⟩, ty, ps, af, g⟩ (.int .i64 len) := fun _ ha => vn (ha.ev hx) ha' hu
theorem xY {ats : Array TypeId} {s' : ByteArray} (hx : ev ε x = some (.string s') := by rfl) (hu : P.underlying t = some .string := by kernel_rfl) (ha' : ats[0]? = some t := by rfl) : EY P N ε L ⟨d, .call ⟨.builtin .len, #[x], ats⟩, ty, ps, af, g⟩ (.int .i64 s'.size) := fun _ ha => sT (ha.ev hx) ha' hu
theorem zp {ats : Array TypeId} {k' : IntKind} (hx : ev ε x = some (.int k a) := by rfl) (hy : ev ε y = some (.int k' b) := by rfl) : EY P N ε L ⟨d, .call ⟨.builtin .min, #[x, y], ats⟩, ty, ps, af, g⟩ (.int k (if b < a then b else a)) := fun _ ha => zk (ha.ev hx) (ha.ev hy)
theorem gj {e : TypeId} {p : Option Addr} (hx : ev ε x = some (.pointer p) := by rfl) (hy : ev ε y = some (.pointer none) := by rfl) (hu : P.underlying t = some (.pointer e) := by kernel_rfl) : EY P N ε L ⟨d, .binOp .eql t x y u, ty, ps, af, g⟩ (.bool p.isNone) := fun _ ha => vo (ha.ev hx) (ha.ev hy) hu
theorem xf {e n b i b' i' : Nat} {cs cs' : Array Value} {ty1 ty1' : TypeId} {fl fl' : Bool} (h1 : (b, fl, .cells cs ty1) ∈ L) (h2 : (b', fl', .cells cs' ty1') ∈ L) (hx : ev ε x = some (.pointer (some ⟨b, i, none⟩)) := by rfl) (hy : ev ε y = some (.pointer (some ⟨b', i', none⟩)) := by rfl) (hu : P.underlying t = some (.pointer e) := by kernel_rfl) (hs : sizeAt P e = some (n + 1) := by kernel_rfl) :
   EY P N ε L ⟨d, .binOp .eql t x y u, ty, ps, af, g⟩ (.bool (decide ((b, i) = (b', i')))) := fun _ ha => sU (ha.ev hx) (ha.ev hy) hu hs h1 h2
theorem dx {op : BinOp} {c : Bool} {ms : Array (String × TypeId)} {v : Value} (hv : (v = .nilIface ∧ c = true) ∨ (∃ s w, v = .iface s w ∧ c = false)) (hop : op = .eql ∨ op = .neq := by first | exact .inl rfl | exact .inr rfl) (hx : ev ε x = some v := by rfl) (hu : P.underlying t = some (.interface ms) := by kernel_rfl) :
   EY P N ε L ⟨d, .binOp op t x (.const .nilIface) u, ty, ps, af, g⟩ (.bool (if op = .eql then c else !c)) := fun _ ha => vq hop hv (ha.ev hx) rfl rfl hu
end
def SetAt (L : Frag) (b i : Nat) (v : Value) (L' : Frag) : Prop := ∃ n cs e, L[n]? = some (b, true, .cells cs e) ∧ i < cs.size ∧ L' = L.set n (b, true, .cells (cs.setIfInBounds i v) e)
theorem SetAt.h {L : Frag} {b i : Nat} {v : Value} {cs : Array Value} {e : TypeId} (hi : i < cs.size) : SetAt ((b, true, .cells cs e) :: L) b i v ((b, true, .cells (cs.setIfInBounds i v) e) :: L) := ⟨0, cs, e, rfl, hi, rfl⟩
theorem SetAt.t {L L' : Frag} {b i : Nat} {v : Value} {x : Nat × Bool × Obj} (h : SetAt L b i v L') : SetAt (x :: L) b i v (x :: L') := by
 obtain ⟨n, cs, e, h1, h2, rfl⟩ := h;exact ⟨n + 1, cs, e, by simpa using h1, h2, rfl⟩
section
variable {σ : Type} {F : Fam σ} {Δ : ∀ s, Dom (F.R s) (F.D s)} {P : Program} {main : Bool} {fn : FuncId} {N : Nat} {Q : σ → Exit → Env → Frag → Prop} {s : σ} {ε : Env} {L L' : Frag} {New : Obj → Prop} {d : Option Tmp} {ty : TypeId} {ps : String} {af : Array Edge} {g : Option (Nat × Bool)}
theorem os {ops : Array Oper} {i : Nat} {rest : List Nat} {d : Option Tmp} {k : Op} {ot : TypeId} {ps : String} {af : Array Edge} {g : Option (Nat × Bool)} {n : Nat} (ho : ops[i]? = some ⟨d, k, ot, ps, af, g⟩) (hy : EO P (Δ s).New N ε L ⟨d, k, ot, ps, af, g⟩ (fun r L'' => r = undef ∧ L'' = L')) (hw : wantedE ops N ε g = some true := by rfl) (hd : dstOk N d = true := by rfl) (h : OpsE Δ P main fn N ops rest n s Q (putE d undef ε) L') : OpsE Δ P main fn N ops (i :: rest) (n + 1) s Q ε L :=
 oe ho hy hw hd (fun _ _ ⟨e1, e2⟩ => by rw [e1, e2]; exact h)
theorem dQ {t : TypeId} {z : Value} (hN : New (.cells z.cells t)) (hz : zeroAt P t = some z := by kernel_rfl) : EO P New N ε L ⟨d, .alloc t, ty, ps, af, g⟩ (fun r L'' => ∃ b, (∀ t ∈ L, t.1 ≠ b) ∧ r = .pointer (some ⟨b, 0, none⟩) ∧ L'' = (b, true, .cells z.cells t) :: L) :=
 fun _ _ => vt hz hN fun b hb => ⟨b, hb, rfl, rfl⟩
theorem bV {t : TypeId} {x : Operand} {v : Value} (hN : New (.cells v.cells t)) (hx : ev ε x = some v := by rfl) : EO P New N ε L ⟨d, .box t x, ty, ps, af, g⟩ (fun r L'' => ∃ b, (∀ t ∈ L, t.1 ≠ b) ∧ r = .pointer (some ⟨b, 0, none⟩) ∧ L'' = (b, true, .cells v.cells t) :: L) :=
 fun _ ha => zl (ha.ev hx) hN fun b hb => ⟨b, hb, rfl, rfl⟩
theorem iY {t e : TypeId} {x : Operand} {v z : Value} (hN : New (.cells #[v] e)) (hx : ev ε x = some v := by rfl) (hu : P.underlying t = some (.slice e) := by kernel_rfl) (hs : sizeAt P e = some 1 := by kernel_rfl) (hz : zeroAt P e = some z := by kernel_rfl) (hzp : plainV z = true := by rfl) (hp : plainV v = true := by rfl) :
   EO P New N ε L ⟨d, .buildSlice t 1 #[(0, x)], ty, ps, af, g⟩ (fun r L'' => ∃ b, (∀ t ∈ L, t.1 ≠ b) ∧ r = .slice (some ⟨b, 0, none⟩) 1 1 ∧ L'' = (b, true, .cells #[v] e) :: L) :=
 fun _ ha => kO (ha.ev hx) hu hs hz hzp hp hN fun b hb => ⟨b, hb, rfl, rfl⟩
def Fun (L : Frag) : Prop := ∀ b fl fl' o o', (b, fl, o) ∈ L → (b, fl', o') ∈ L → fl = fl' ∧ o = o'
theorem bF {L : Frag} (h : (L.map (·.1)).Nodup) : Fun L := by
 intro b fl fl' o o' h1 h2;obtain ⟨i, hi⟩ := List.getElem?_of_mem h1;obtain ⟨j, hj⟩ := List.getElem?_of_mem h2;have e1 : (L.map (·.1))[i]? = some b := by simp [hi]
 have e2 : (L.map (·.1))[j]? = some b := by simp [hj]
 obtain ⟨hl1, he1⟩ := List.getElem?_eq_some_iff.1 e1;obtain ⟨hl2, he2⟩ := List.getElem?_eq_some_iff.1 e2;have hij : i = j := by
   rcases Nat.lt_trichotomy i j with g | g | g
   · exact absurd (he1.trans he2.symm) (List.pairwise_iff_getElem.1 h i j hl1 hl2 g)
   · exact g
   · exact absurd (he2.trans he1.symm) (List.pairwise_iff_getElem.1 h j i hl2 hl1 g)
 subst hij;have := hi.symm.trans hj;simp only [Option.some.injEq, Prod.mk.injEq, true_and] at this;exact this
structure Upd (L : Frag) (b : Nat) (o : Obj) (L' : Frag) : Prop where
 self : (b, true, o) ∈ L'
 ne : ∀ t ∈ L, t.1 ≠ b → t ∈ L'
 fn : Fun L'
structure Add (L : Frag) (b : Nat) (o : Obj) (L' : Frag) : Prop where
 self : (b, true, o) ∈ L'
 sub : ∀ t ∈ L, t ∈ L'
 new : ∀ t ∈ L, t.1 ≠ b
 fn : Fun L'
theorem cH {L : Frag} (hnd : (L.map (·.1)).Nodup) {n b : Nat} {o o' : Obj} (hn : L[n]? = some (b, true, o)) : Upd L b o' (L.set n (b, true, o')) := by
 obtain ⟨hl, he⟩ := List.getElem?_eq_some_iff.1 hn;refine ⟨List.mem_of_getElem? (i := n) (by simp [hl]), fun t ht hne => ?_, bF ?_⟩
 · obtain ⟨i, hi⟩ := List.getElem?_of_mem ht;refine List.mem_of_getElem? (i := i) ?_;rw [List.getElem?_set_ne (fun e => hne ?_)]
   · exact hi
   · subst e; rw [hn] at hi; simp only [Option.some.injEq] at hi; rw [← hi]
 · have : (L.set n (b, true, o')).map (·.1) = L.map (·.1) := by
     apply List.ext_getElem?;intro i;simp only [List.getElem?_map, List.getElem?_set]
     split
     · rename_i e; subst e; simp [hl, he]
     · rfl
   rw [this]; exact hnd
theorem sX {ops : Array Oper} {todo : List Nat} {n : Nat} (h : Fun L → OpsE Δ P main fn N ops todo n s Q ε L) : OpsE Δ P main fn N ops todo n s Q ε L := jn fun hn => h (bF hn)
theorem gV {c : Code} {n : Nat} (h : Fun L → wpE Δ P main fn N c n s Q ε L) : wpE Δ P main fn N c n s Q ε L := xX fun hn => h (bF hn)
theorem fb {t b i : Nat} {x y : Operand} {v : Value} {cs : Array Value} {e : TypeId} (hx : ev ε x = some (.pointer (some ⟨b, i, none⟩)) := by rfl) (hy : ev ε y = some v := by rfl) (hp : plainV v = true := by rfl) (hs : sizeAt P t = some 1) (hnd : (L.map (·.1)).Nodup) (hm : (b, true, .cells cs e) ∈ L) (hi : i < cs.size) :
   EO P New N ε L ⟨d, .store t x y, ty, ps, af, g⟩ (fun r L'' => r = undef ∧ Upd L b (.cells (cs.setIfInBounds i v) e) L'') := by
 intro a ha;obtain ⟨n, hn⟩ := List.getElem?_of_mem hm;exact vr (ha.ev hx) (ha.ev hy) hs hn hi hp ⟨rfl, cH hnd hn⟩
theorem osm {ops : Array Oper} {i : Nat} {rest : List Nat} {n : Nat} {ot : TypeId} {t b j : Nat} {x y : Operand} {v : Value} {cs : Array Value} {e : TypeId} (ho : ops[i]? = some ⟨d, .store t x y, ot, ps, af, g⟩) (hx : ev ε x = some (.pointer (some ⟨b, j, none⟩)) := by rfl) (hy : ev ε y = some v := by rfl) (hp : plainV v = true := by rfl) (hs : sizeAt P t = some 1) (hm : (b, true, .cells cs e) ∈ L) (hi : j < cs.size)
   (hw : wantedE ops N ε g = some true := by rfl) (hd : dstOk N d = true := by rfl) (h : ∀ L', Upd L b (.cells (cs.setIfInBounds j v) e) L' → OpsE Δ P main fn N ops rest n s Q (putE d undef ε) L') : OpsE Δ P main fn N ops (i :: rest) (n + 1) s Q ε L :=
 jn fun hnd => oe ho (fb hx hy hp hs hnd hm hi) hw hd fun _ L'' ⟨e1, e2⟩ => by rw [e1]; exact h L'' e2
theorem dk {b : Nat} {o : Obj} (hL : Fun L) (hb : ∀ t ∈ L, t.1 ≠ b) : Add L b o ((b, true, o) :: L) := by
 refine ⟨List.mem_cons_self, fun t ht => List.mem_cons_of_mem _ ht, hb, ?_⟩;intro b' fl fl' o1 o2 h1 h2;rcases List.mem_cons.1 h1 with e1 | h1 <;> rcases List.mem_cons.1 h2 with e2 | h2
 · simp only [Prod.mk.injEq] at e1 e2; exact ⟨by rw [e1.2.1, e2.2.1], by rw [e1.2.2, e2.2.2]⟩
 · simp only [Prod.mk.injEq] at e1; exact absurd e1.1 (hb _ h2)
 · simp only [Prod.mk.injEq] at e2; exact absurd e2.1 (hb _ h1)
 · exact hL _ _ _ _ _ h1 h2
theorem bN {ops : Array Oper} {i : Nat} {rest : List Nat} {n : Nat} {k : Op} {ot : TypeId} {f : Nat → Value} {ob : Obj} (ho : ops[i]? = some ⟨d, k, ot, ps, af, g⟩) (hy : EO P (Δ s).New N ε L ⟨d, k, ot, ps, af, g⟩ (fun r L'' => ∃ b, (∀ t ∈ L, t.1 ≠ b) ∧ r = f b ∧ L'' = (b, true, ob) :: L))
   (hw : wantedE ops N ε g = some true := by rfl) (hd : dstOk N d = true := by rfl) (h : ∀ b L', Add L b ob L' → OpsE Δ P main fn N ops rest n s Q (putE d (f b) ε) L') : OpsE Δ P main fn N ops (i :: rest) (n + 1) s Q ε L :=
 sX fun hF => oe ho hy hw hd fun _ L'' ⟨b, hb, e1, e2⟩ => by rw [e1]; exact h b L'' (e2 ▸ dk hF hb)
theorem m5 {ops : Array Oper} {nf : Nat} {R L0 : Frag} {e : Nat} {s0 : σ} {fuel : Nat} {ls : Array Bool} {i : Nat} {k : Op} {ot : TypeId} {f : Nat → Value} {ob : Obj} (ho : ops[i]? = some ⟨d, k, ot, ps, af, g⟩) (hy : EO P (Δ s).New N ε L ⟨d, k, ot, ps, af, g⟩ (fun r L'' => ∃ b, (∀ t ∈ L, t.1 ≠ b) ∧ r = f b ∧ L'' = (b, true, ob) :: L))
   (hr : Region.ready .any ops ls = [i] := by kernel_rfl) (hw : wantedE ops N ε g = some true := by rfl) (hd : dstOk N d = true := by rfl) (h : ∀ b L', Add L b ob L' → Pre R L0 e s0 (ls.setIfInBounds i true) s L' ∧ AnyE Δ P main fn N ops Q nf R L0 e s0 fuel (ls.setIfInBounds i true) s (putE d (f b) ε) L') : AnyE Δ P main fn N ops Q nf R L0 e s0 (fuel + 1) ls s ε L :=
 ba fun hnd => te ho hy hr hw hd fun _ L'' ⟨b, hb, e1, e2⟩ => by rw [e1]; exact h b L'' (e2 ▸ dk (bF hnd) hb)
end
def cutAt (o l m sz : Nat) : Nat := if m = l then o else o + l * sz
section
variable {P : Program} {L : Frag} {K : (Nat × Nat × Nat) → Prop}
theorem cN {k : IntKind} {i : Int} {y : Nat} {c : BoundsCode} {K : Nat → Prop} (h0 : 0 ≤ i) (h1 : i ≤ y) (h : K i.toNat) : wpQ P (Instr.sliceBound (.int k i) y c) K L := by
 unfold Instr.sliceBound;simp only [asIntOf, ax, bS, h0, h1, and_self, if_true];exact h
end
section
variable {P : Program} {N : Nat} {ε : Env} {L : Frag} {d : Option Tmp} {ty : TypeId} {ps : String} {af : Array Edge} {g : Option (Nat × Bool)} {t e : TypeId} {x y z u : Operand} {b o sz len cap : Nat} {k1 k2 k3 : IntKind} {l h m : Int}
theorem gW {v lo hi mx : Option Value} {l h m : Nat} {a : Value} (ha : a = .slice (some ⟨b, o, none⟩) len cap) (hu : P.underlying t = some (.slice e)) (hs : sizeAt P e = some sz) (hb : ∀ (K : Nat × Nat × Nat → Prop), K (l, h, m) → wpQ P (Instr.sliceBounds true len cap lo hi mx) K L) (K : Value → Prop)
   (hK : K (.slice (some ⟨b, cutAt o l m sz, none⟩) (h - l) (m - l))) : wpQ P (Instr.sliceAt t a lo hi mx) K L := by
 unfold Instr.sliceAt;rw [ax, aM hu];show wpQ P (Instr.slice t a lo hi mx) K L;unfold Instr.slice;rw [ax, aM hu, ha];show wpQ P (Instr.sliceBounds true len cap lo hi mx >>= _) K L;rw [ax];refine hb _ ?_;show wpQ P (sizeOf e >>= _) K L;rw [ax, cK hs];have e1 : (if m = l then some (⟨b, o, none⟩ : Addr) else (some (⟨b, o, none⟩ : Addr)).map (·.add (l * sz))) = some ⟨b, cutAt o l m sz, none⟩ := by
   unfold cutAt
   split
   · rfl
   · simp [dh]
 show K (.slice (if m = l then some (⟨b, o, none⟩ : Addr) else (some (⟨b, o, none⟩ : Addr)).map (·.add (l * sz))) (h - l) (m - l));rw [e1]; exact hK
theorem sY (hu : P.underlying t = some (.slice e)) (hs : sizeAt P e = some sz) (hx : ev ε x = some (.slice (some ⟨b, o, none⟩) len cap) := by rfl) (hy : ev ε y = some (.int k1 h) := by rfl) (h0 : 0 ≤ h := by first | decide | omega) (h1 : h ≤ cap := by first | decide | omega) :
   EY P N ε L ⟨d, .slice t x none (some y) none, ty, ps, af, g⟩ (.slice (some ⟨b, cutAt o 0 cap sz, none⟩) (h.toNat - 0) (cap - 0)) := fun _ ha => by
 refine cG (fun _ => rfl) fun K hK => ?_;refine gW (v := none) (ha.ev hx) hu hs (l := 0) (fun K hK => ?_) K hK;simp only [Option.map_some, Option.map_none, ha.ev hy, Instr.sliceBounds];simp only [ax, bS];exact cN h0 h1 hK
theorem sZ (hu : P.underlying t = some (.slice e)) (hs : sizeAt P e = some sz) (hx : ev ε x = some (.slice (some ⟨b, o, none⟩) len cap) := by rfl) (hy : ev ε y = some (.int k1 l) := by rfl) (h0 : 0 ≤ l := by first | decide | omega) (h1 : l ≤ len := by first | decide | omega) :
   EY P N ε L ⟨d, .slice t x (some y) none none, ty, ps, af, g⟩ (.slice (some ⟨b, cutAt o l.toNat cap sz, none⟩) (len - l.toNat) (cap - l.toNat)) := fun _ ha => by
 refine cG (fun _ => rfl) fun K hK => ?_;refine gW (v := none) (ha.ev hx) hu hs (h := len) (fun K hK => ?_) K hK;simp only [Option.map_some, Option.map_none, ha.ev hy, Instr.sliceBounds];simp only [ax, bS];exact cN h0 h1 hK
theorem s6 (hu : P.underlying t = some (.slice e)) (hs : sizeAt P e = some sz) (hx : ev ε x = some (.slice (some ⟨b, o, none⟩) len cap) := by rfl) (hy : ev ε y = some (.int k1 l) := by rfl) (hz : ev ε z = some (.int k2 h) := by rfl) (h0 : 0 ≤ l := by first | decide | omega) (h1 : l ≤ h := by first | decide | omega) (h2 : h ≤ cap := by first | decide | omega) :
   EY P N ε L ⟨d, .slice t x (some y) (some z) none, ty, ps, af, g⟩ (.slice (some ⟨b, cutAt o l.toNat cap sz, none⟩) (h.toNat - l.toNat) (cap - l.toNat)) := fun _ ha => by
 refine cG (fun _ => rfl) fun K hK => ?_;refine gW (v := none) (ha.ev hx) hu hs (fun K hK => ?_) K hK;simp only [Option.map_some, Option.map_none, ha.ev hy, ha.ev hz, Instr.sliceBounds];simp only [ax, bS];refine cN (by omega) h2 ?_;exact cN h0 (by omega) hK
theorem s7 (hu : P.underlying t = some (.slice e)) (hs : sizeAt P e = some sz) (hx : ev ε x = some (.slice (some ⟨b, o, none⟩) len cap) := by rfl) (hy : ev ε y = some (.int k1 l) := by rfl) (hz : ev ε z = some (.int k2 h) := by rfl) (hw : ev ε u = some (.int k3 m) := by rfl) (h0 : 0 ≤ l := by first | decide | omega) (h1 : l ≤ h := by first | decide | omega) (h2 : h ≤ m := by first | decide | omega) (h3 : m ≤ cap := by first | decide | omega) :
   EY P N ε L ⟨d, .slice t x (some y) (some z) (some u), ty, ps, af, g⟩ (.slice (some ⟨b, cutAt o l.toNat m.toNat sz, none⟩) (h.toNat - l.toNat) (m.toNat - l.toNat)) := fun _ ha => by
 refine cG (fun _ => rfl) fun K hK => ?_;refine gW (v := none) (ha.ev hx) hu hs (fun K hK => ?_) K hK;simp only [Option.map_some, Option.map_none, ha.ev hy, ha.ev hz, ha.ev hw, Instr.sliceBounds];simp only [ax, bS, if_true, Option.isSome_some];refine cN (by omega) h3 ?_;refine cN (by omega) (by omega) ?_;exact cN h0 (by omega) hK
end
section
variable {P : Program} {L : Frag} {sz n b o len cap : Nat} {fl : Bool} {cs : Array Value} {e : TypeId} {fr : Nat × Nat}
theorem b7 (hm : (b, fl, .cells cs e fr) ∈ L) (h : o + n * sz ≤ cs.size) : Reads P L sz n (.slice (some ⟨b, o, none⟩) len cap) (cs.extract o (o + n * sz)) := ⟨fun _ _ hQ => kM hm h hQ⟩
end
theorem b6 : ∀ (vs l : List Value) (o : Nat), o + vs.length ≤ l.length → puts l.toArray o vs = (l.take o ++ vs ++ l.drop (o + vs.length)).toArray
 | [], l, o, h => by simp [puts]
 | v :: vs, l, o, h => by
   simp only [List.length_cons] at h;rw [puts, List.setIfInBounds_toArray, b6 vs (l.set o v) (o + 1) (by simp; omega)];congr 1;have h1 : (l.set o v).take (o + 1) = l.take o ++ [v] := by
     rw [List.take_set, List.take_succ_eq_append_getElem (by omega), List.set_append_right _ _ (by simp; omega)];simp [Nat.min_eq_left (show o ≤ l.length by omega)]
   have h2 : (l.set o v).drop (o + 1 + vs.length) = l.drop (o + (v :: vs).length) := by
     rw [List.drop_set_of_lt (by omega)];simp only [List.length_cons];congr 1; omega
   rw [h1, h2];simp
section
variable {P : Program} {New : Obj → Prop} {N : Nat} {ε : Env} {L : Frag} {d : Option Tmp} {ty : TypeId} {ps : String} {af : Array Edge} {g : Option (Nat × Bool)} {t u e e2 : TypeId} {x y : Operand}
theorem jM {sz sLen sCap b o n : Nat} {yb : Option Addr} {yc : Nat} {vs cs : Array Value} {e' : TypeId} (hx : ev ε x = some (.slice (some ⟨b, o, none⟩) sLen sCap) := by rfl) (hy : ev ε y = some (.slice yb n yc) := by rfl) (hnd : (L.map (·.1)).Nodup) (hu : P.underlying t = some (.slice e)) (hv : P.underlying u = some (.slice e2)) (hs : sizeAt P e = some sz) (hr : Reads P L sz n (.slice yb n yc) vs) (hc : sLen + n ≤ sCap) (hm : (b, true, .cells cs e') ∈ L) (ho : o + sLen * sz + vs.size ≤ cs.size) (hp : vs.toList.all plainV = true)
     :
   EO P New N ε L ⟨d, .call ⟨.builtin .append, #[x, y], #[t, u]⟩, ty, ps, af, g⟩ (fun r L' => r = .slice (some ⟨b, o, none⟩) (sLen + n) sCap ∧ Upd L b (.cells (puts cs (o + sLen * sz) vs.toList) e') L') := by
 intro a ha;obtain ⟨m, hm'⟩ := List.getElem?_of_mem hm;exact oJ (ha.ev hx) (ha.ev hy) hu hv hs hr hc hm' ho hp ⟨rfl, cH hnd hm'⟩
theorem la {sz by_ sLen sCap n : Nat} {xb yb : Option Addr} {yc : Nat} {ws vs : Array Value} {z : Value} (hx : ev ε x = some (.slice xb sLen sCap) := by rfl) (hy : ev ε y = some (.slice yb n yc) := by rfl) (hF : Fun L) (hu : P.underlying t = some (.slice e)) (hv : P.underlying u = some (.slice e2)) (hs : sizeAt P e = some sz) (hb : bytesAt P e = some (by_ + 1)) (hz0 : zeroAt P e = some z) (hw : Reads P L sz sLen (.slice xb sLen sCap) ws) (hr : Reads P L sz n (.slice yb n yc) vs) (hc : sCap < sLen + n) (hbig : (2 * (sLen + n) + 192) * (by_ + 1) ≤ 281474976710656) (hN : ∀ cs, New (.cells cs e))
     :
   EO P New N ε L ⟨d, .call ⟨.builtin .append, #[x, y], #[t, u]⟩, ty, ps, af, g⟩ (fun r L' => ∃ b cap, sLen + n ≤ cap ∧ cap < 9223372036854775808 ∧ r = .slice (some ⟨b, 0, none⟩) (sLen + n) cap ∧ Add L b (.cells (ws ++ vs ++ Builtin.zeroCells z.cells (cap - (sLen + n))) e) L') := by
 intro a ha;exact mY (ha.ev hx) (ha.ev hy) hu hv hs hb hz0 hw hr hc hbig hN fun b cap hb h1 h2 => ⟨b, cap, h1, h2, rfl, dk hF hb⟩
theorem s8 {b o n cap : Nat} {cs : Array Value} {e' : TypeId} {z : Value} (hx : ev ε x = some (.slice (some ⟨b, o, none⟩) n cap) := by rfl) (hnd : (L.map (·.1)).Nodup) (hu : P.underlying t = some (.slice e)) (hz0 : zeroAt P e = some z) (hzp : plainV z = true) (hm : (b, true, .cells cs e') ∈ L) (ho : o + n ≤ cs.size)  :
   EO P New N ε L ⟨d, .call ⟨.builtin .clear, #[x], #[t]⟩, ty, ps, af, g⟩ (fun r L' => r = .tuple #[] ∧ Upd L b (.cells (puts cs o (List.replicate n z)) e') L') := by
 intro a ha;obtain ⟨m, hm'⟩ := List.getElem?_of_mem hm;refine cx (s := Builtin.clear_ #[t] ty #[.slice (some ⟨b, o, none⟩) n cap]) (fun _ => by simp [builtin, ha.ev hx]) ?_;unfold Builtin.clear_;simp only [List.getElem?_toArray, List.getElem?_cons_zero];rw [ar, aT hu];cases n with
 | zero =>
   simp only [ar, br, List.replicate_zero, puts];refine ⟨trivial, ?_⟩;have := cH (o' := .cells cs e') hnd hm';have e0 : L.set m (b, true, .cells cs e') = L := by
     apply List.ext_getElem?;intro j;rw [List.getElem?_set]
     split
     · rename_i e; subst e; obtain ⟨hl, he⟩ := List.getElem?_eq_some_iff.1 hm'; simp [hl, he]
     · rfl
   rw [e0] at this;exact this
 | succ n =>
   have hzc : (Builtin.zeroCells z.cells (n + 1)).toList = List.replicate (n + 1) z := by
     rw [bU hzp];unfold Builtin.zeroCells;apply List.ext_getElem
     · simp
     · intro i h1 h2;simp [Nat.mod_one]
   simp only [ar, cF hz0, hzc];refine co hm' (by simpa using ho) (by simp [hzp]) ?_;exact ⟨rfl, cH hnd hm'⟩
end
section
variable {σ : Type} {F : Fam σ} {Δ : ∀ s, Dom (F.R s) (F.D s)} {P : Program} {main : Bool} {fn : FuncId} {N : Nat} {Q : σ → Exit → Env → Frag → Prop} {s : σ} {ε : Env} {L : Frag}
theorem dR {x y : Code} {n₁ n₂ : Nat} (M : σ → Env → Frag → Prop) (h1 : wpE Δ P main fn N x n₁ s (thenE M Q) ε L) (h2 : ∀ s' ε' L', M s' ε' L' → wpE Δ P main fn N y n₂ s' Q ε' L') : wpE Δ P main fn N (.seq x y) (n₁ + n₂ + 1) s Q ε L :=
 ae (m4 h1 fun s' e ε' L' q => by
   cases e with
   | normal => exact h2 _ _ _ q
   | _ => exact q)
end
section
variable {P : Program} {New : Obj → Prop} {L : Frag}
theorem m6 {f : FuncId} {fn : Func} {e : Array Value → Sem Value} {args : Array Value} {Q : Next → Frag → Prop} (hf : P.funcs[f]? = some fn) (hname : (fn.name == "runtime.NumGoroutine") = false) (hb : fn.body.isNone = true) (hn : Extern.findNext fn = none) (he : Extern.find fn = some e)
   (h : wpS P New (e args) (fun v L' => Q (.value v) L') L) : wpS P New (callFunc f args) Q L := by
 have h1 : fn.name ≠ "runtime.NumGoroutine" := by simpa using hname
 have h2 : fn.body = none := by simpa using hb
 show wpS P New (match P.funcs[f]? with | none => _ | some fn => _) Q L;rw [hf];simp only [beq_iff_eq, h1, if_false, h2, Option.isNone_none, if_true];rw [ar];refine ⟨rfl, ?_⟩;simp only [hn, he];rw [iK, ar];exact h
theorem iZ {f : FuncId} {fn : Func} {e : Array Value → Sem Value} {args : Array Value} {K : Next → Prop} (hf : P.funcs[f]? = some fn) (hname : (fn.name == "runtime.NumGoroutine") = false) (hb : fn.body.isNone = true) (hn : Extern.findNext fn = none) (he : Extern.find fn = some e)
   (h : wpQ P (e args) (fun v => K (.value v)) L) : wpQ P (callFunc f args) K L := by
 have h1 : fn.name ≠ "runtime.NumGoroutine" := by simpa using hname
 have h2 : fn.body = none := by simpa using hb
 show wpQ P (match P.funcs[f]? with | none => _ | some fn => _) K L;rw [hf];simp only [beq_iff_eq, h1, if_false, h2, Option.isNone_none, if_true];rw [ax];refine ⟨rfl, ?_⟩;simp only [hn, he];show wpQ P (e args >>= _) K L;rw [ax];exact h
theorem gX {f : FuncId} {fn : Func} {args : Array Value} {K : Next → Prop} (hf : P.funcs[f]? = some fn) (hname : (fn.name == "runtime.NumGoroutine") = false) (hb : fn.body.isNone = false) (h : K (.enter f args)) : wpQ P (callFunc f args) K L := by
 have h1 : fn.name ≠ "runtime.NumGoroutine" := by simpa using hname
 show wpQ P (match P.funcs[f]? with | none => _ | some fn => _) K L;rw [hf];simp only [beq_iff_eq, h1, if_false, hb, Bool.false_eq_true];exact h
end
theorem dY {N : Nat} {ε : Env} {a : Act} (hf : Fits N ε a) : ∀ (l : List Operand) (vs : List Value), l.map (ev ε) = vs.map some → l.map a.eval = vs := by
 intro l
 induction l with
 | nil => intro vs h; cases vs <;> simp_all
 | cons x l ih =>
   intro vs h;cases vs with
   | nil => simp at h
   | cons v vs =>
     simp only [List.map_cons, List.cons.injEq] at h ⊢;exact ⟨hf.ev h.1, ih vs h.2⟩
section
variable {P : Program} {New : Obj → Prop} {N : Nat} {ε : Env} {L : Frag} {d : Option Tmp} {ty : TypeId} {ps : String} {af : Array Edge} {g : Option (Nat × Bool)} {args : Array Operand} {ats : Array TypeId} {vs : List Value}
theorem jN {f : FuncId} {fn : Func} {e : Array Value → Sem Value} {v : Value} (ha' : args.toList.map (ev ε) = vs.map some := by rfl) (hf : P.funcs[f]? = some fn) (he : Extern.find fn = some e) (hv : wpQ P (e vs.toArray) (· = v) L) (hname : (fn.name == "runtime.NumGoroutine") = false := by rfl) (hb : fn.body.isNone = true := by rfl) (hn : Extern.findNext fn = none := by kernel_rfl) :
   EY P N ε L ⟨d, .call ⟨.value (.func f), args, ats⟩, ty, ps, af, g⟩ v := by
 intro a ha;have e1 : args.map a.eval = vs.toArray := by apply Array.ext'; simpa using dY ha _ _ ha'
 show wpQ P (callFunc f ((#[] ++ args.map a.eval) ++ #[])) _ L;rw [e1];simp only [Array.empty_append, Array.append_empty];exact iZ hf hname hb hn he (cP (fun _ h => by rw [h]) (fun _ h => h) _ hv)
theorem s9 {f : FuncId} {fn : Func} {e : Array Value → Sem Value} {post : Value → Frag → Prop} (ha' : args.toList.map (ev ε) = vs.map some := by rfl) (hf : P.funcs[f]? = some fn) (he : Extern.find fn = some e) (hv : wpS P New (e vs.toArray) post L) (hname : (fn.name == "runtime.NumGoroutine") = false := by rfl) (hb : fn.body.isNone = true := by rfl) (hn : Extern.findNext fn = none := by kernel_rfl) :
   EO P New N ε L ⟨d, .call ⟨.value (.func f), args, ats⟩, ty, ps, af, g⟩ post := by
 intro a ha;have e1 : args.map a.eval = vs.toArray := by apply Array.ext'; simpa using dY ha _ _ ha'
 show wpS P New (callFunc f ((#[] ++ args.map a.eval) ++ #[])) _ L;rw [e1];simp only [Array.empty_append, Array.append_empty];exact m6 hf hname hb hn he hv
theorem jO {x : Operand} {t : TypeId} {rv rc : Value} {nm : String} {f : FuncId} {fn : Func} {e : Array Value → Sem Value} {v : Value} (hx : ev ε x = some (.iface t rv) := by rfl) (ha' : args.toList.map (ev ε) = vs.map some := by rfl) (hm : wpQ P (method (P.types.size + Made.depth) t rv nm) (· = (f, rc)) L) (hf : P.funcs[f]? = some fn) (he : Extern.find fn = some e) (hv : wpQ P (e (rc :: vs).toArray) (· = v) L) (hname : (fn.name == "runtime.NumGoroutine") = false := by rfl) (hb : fn.body.isNone = true := by rfl) (hn : Extern.findNext fn = none := by kernel_rfl) :
   EY P N ε L ⟨d, .call ⟨.invoke x nm, args, ats⟩, ty, ps, af, g⟩ v := by
 intro a ha;have e1 : args.map a.eval = vs.toArray := by apply Array.ext'; simpa using dY ha _ _ ha'
 show wpQ P (invoke (.fn (.method nm) #[]) (#[a.eval x] ++ args.map a.eval)) _ L;rw [e1, ha.ev hx];unfold invoke;have e2 : (#[Value.iface t rv] ++ vs.toArray)[0]? = some (.iface t rv) := by simp
 have e3 : (#[Value.iface t rv] ++ vs.toArray).extract 1 (#[Value.iface t rv] ++ vs.toArray).size = vs.toArray := by apply Array.ext'; simp
 simp only [e2, e3];show wpQ P (method (P.types.size + Made.depth) t rv nm >>= fun (p : FuncId × Value) => callFunc p.1 (#[p.2] ++ vs.toArray)) _ L;rw [ax];refine cP ?_ (fun _ h => h) _ hm;rintro _ rfl;have e4 : #[rc] ++ vs.toArray = (rc :: vs).toArray := by apply Array.ext'; simp
 simp only [e4];exact iZ hf hname hb hn he (cP (fun _ h => by rw [h]) (fun _ h => h) _ hv)
end
section
variable {σ : Type} {F : Fam σ} {Δ : ∀ s, Dom (F.R s) (F.D s)} {P : Program} {main : Bool} {fn : FuncId} {s : σ} {a : Act} {L : Frag}
theorem m7 {Q : σ → Exit → Act → Frag → Prop} {ops : Array Oper} {i : Nat} {rest : List Nat} {o : Oper} {f : FuncId} {vals : Array Value} {nf n : Nat} {Post : σ → Value → Frag → Prop}
   (ho : ops[i]? = some o) (hw : Region.wanted o (yielded ops a.tmps) = true) (hE : wpQ P (execOp a.eval o) (· = .enter f vals) L) (hcall : CallsL Δ P main f vals nf s L Post) (hnext : ∀ s' v L', Post s' v L' → OpsL Δ P main fn ops rest n s' Q (a.put o.dst v) L') : OpsL Δ P main fn ops (i :: rest) (n + nf + 3) s Q a L := by
 intro w hO b k cs m hb hk hc;obtain ⟨g, c, hf, hname, hbody, hwp⟩ := hcall w hO;have hfin : ∀ v, (b.at a (.inRegion ops (i :: rest) :: k)).finish v = b.at (a.put o.dst v) (.inRegion ops rest :: k) := fun v => by rw [Frame.finish_at, ho]; rfl
 have hleave : ∀ (s' : σ) (a' : Act) (w' : World) (todo : List Item), (a'.defers = [] ∧ ∃ v, ResultsC P g a'.tmps v ∧ upV Δ Post s' v w') →
     Goes P main (F.R s') (F.D s') (F.Stop s') (m + n + 1) (G { (base f).at a' todo with mode := .returning } (b.at a (.inRegion ops (i :: rest) :: k) :: cs)) w' := by
   rintro s' a' w' todo ⟨hd, v, hr, L', hL, hp⟩;refine Goes.step rfl fun w₁ h₁ => ?_;rw [stepG_leave (b := base f) rfl hd hf (hr w₁).1 (hr w₁).2, hfin];exact ⟨(F.terms s').idle _, (hnext s' v L' hp w' hL b k cs m hb hk hc).rely (F.terms s').trans h₁⟩
 have hbodyG : Goes P main (F.R s) (F.D s) (F.Stop s) (m + n + 2 + nf) (G ((base f).at { tmps := vals ++ Array.replicate (g.ntmps - vals.size) undef, defers := [] } [.code c]) (b.at a (.inRegion ops (i :: rest) :: k) :: cs)) w := by
   refine hwp (base f) [] _ (m + n + 2) rfl (by simp [base]) fun s' e a' w' q => ?_;cases e with
   | normal => exact Goes.step rfl fun w₁ h₁ => by rw [stepG_end]; exact ⟨(F.terms s').idle _, (hleave s' a' w' [] q).rely (F.terms s').trans h₁⟩
   | ret => exact fun todo => (hleave s' a' w' todo q).more
   | exit id => exact q.elim
   | goto l => exact q.elim
   | panic ch => exact q.elim
   | outgrown => exact q.elim
 have e : m + (n + nf + 3) = (m + n + 2 + nf) + 1 := by omega
 rw [e];refine Goes.step rfl fun w₁ h₁ => ?_;obtain ⟨q1, q2⟩ := lO (Δ s) ((Δ s).rely hO h₁) hE;rw [stepG_enter ho hw hk q1, enter_at _ hf hbody];exact ⟨(Δ s).dd ((Δ s).gr w₁) fun e he => q2 e (by rw [hb] at he; exact mem_listed he), hbodyG.rely (F.terms s).trans h₁⟩
end
section
variable {σ : Type} {F : Fam σ} {Δ : ∀ s, Dom (F.R s) (F.D s)} {P : Program} {main : Bool} {fn : FuncId} {N : Nat} {Q : σ → Exit → Env → Frag → Prop} {s : σ} {ε : Env} {L : Frag} {d : Option Tmp} {ps : String} {af : Array Edge} {g : Option (Nat × Bool)} {ot : TypeId} {args : Array Operand} {ats : Array TypeId} {vs : List Value}
theorem ov {ops : Array Oper} {i : Nat} {rest : List Nat} {x : Operand} {f : FuncId} {gf : Func} {c1 c2 : List Value} {nf n : Nat} {Post : σ → Value → Frag → Prop} (ho : ops[i]? = some ⟨d, .call ⟨.value x, args, ats⟩, ot, ps, af, g⟩) (hx : ev ε x = some (.func (.func f) c1.toArray c2.toArray) := by rfl) (ha' : args.toList.map (ev ε) = vs.map some := by rfl)
   (hf : P.funcs[f]? = some gf) (hname : (gf.name == "runtime.NumGoroutine") = false := by rfl) (hb : gf.body.isNone = false := by rfl) (hcall : CallsL Δ P main f (c1 ++ vs ++ c2).toArray nf s L Post) (hw : wantedE ops N ε g = some true := by rfl) (hd : dstOk N d = true := by rfl)
   (h : ∀ s' v L', Post s' v L' → OpsE Δ P main fn N ops rest n s' Q (putE d v ε) L') : OpsE Δ P main fn N ops (i :: rest) (n + nf + 3) s Q ε L := by
 intro a ha;have e1 : args.map a.eval = vs.toArray := by apply Array.ext'; simpa using dY ha _ _ ha'
 refine m7 ho (ha.wanted hw) ?_ hcall fun s' v L' hp => h s' v L' hp _ (ha.put hd v);show wpQ P (resolve a.eval ⟨.value x, args, ats⟩ ot >>= fun d => invoke d.target d.args) _ L;unfold resolve;simp only [e1, ha.ev hx];show wpQ P (callFunc f ((c1.toArray ++ vs.toArray) ++ c2.toArray)) _ L;have e4 : (c1.toArray ++ vs.toArray) ++ c2.toArray = (c1 ++ vs ++ c2).toArray := by apply Array.ext'; simp
 rw [e4];exact gX hf hname hb rfl
theorem oi {ops : Array Oper} {i : Nat} {rest : List Nat} {x : Operand} {t : TypeId} {rv rc : Value} {nm : String} {f : FuncId} {gf : Func} {nf n : Nat} {Post : σ → Value → Frag → Prop} (ho : ops[i]? = some ⟨d, .call ⟨.invoke x nm, args, ats⟩, ot, ps, af, g⟩) (hx : ev ε x = some (.iface t rv) := by rfl) (ha' : args.toList.map (ev ε) = vs.map some := by rfl)
   (hm : wpQ P (method (P.types.size + Made.depth) t rv nm) (· = (f, rc)) L) (hf : P.funcs[f]? = some gf) (hname : (gf.name == "runtime.NumGoroutine") = false := by rfl) (hb : gf.body.isNone = false := by rfl) (hcall : CallsL Δ P main f (rc :: vs).toArray nf s L Post) (hw : wantedE ops N ε g = some true := by rfl) (hd : dstOk N d = true := by rfl)
   (h : ∀ s' v L', Post s' v L' → OpsE Δ P main fn N ops rest n s' Q (putE d v ε) L') : OpsE Δ P main fn N ops (i :: rest) (n + nf + 3) s Q ε L := by
 intro a ha;have e1 : args.map a.eval = vs.toArray := by apply Array.ext'; simpa using dY ha _ _ ha'
 refine m7 ho (ha.wanted hw) ?_ hcall fun s' v L' hp => h s' v L' hp _ (ha.put hd v);show wpQ P (invoke (.fn (.method nm) #[]) (#[a.eval x] ++ args.map a.eval)) _ L;rw [e1, ha.ev hx];unfold invoke;have e2 : (#[Value.iface t rv] ++ vs.toArray)[0]? = some (.iface t rv) := by simp
 have e3 : (#[Value.iface t rv] ++ vs.toArray).extract 1 (#[Value.iface t rv] ++ vs.toArray).size = vs.toArray := by apply Array.ext'; simp
 simp only [e2, e3];show wpQ P (method (P.types.size + Made.depth) t rv nm >>= fun (p : FuncId × Value) => callFunc p.1 (#[p.2] ++ vs.toArray)) _ L;rw [ax];refine cP ?_ (fun _ h => h) _ hm;rintro _ rfl;have e4 : #[rc] ++ vs.toArray = (rc :: vs).toArray := by apply Array.ext'; simp
 simp only [e4];exact gX hf hname hb rfl
end
def evR {α : Type} (P : Program) : Sem α → List Value → Option (α × List Addr)
 | .pure a, vs => match vs with | [] => some (a, []) | _ :: _ => none
 | .load m a k, vs => match m, vs with | .plain, v :: vs => (evR P (k v) vs).map fun p => (p.1, a :: p.2) | _, _ => none
 | .program k, vs => evR P (k P) vs
 | .mark m k, vs => if okMark m then evR P k vs else none
 | .choose q k, vs => if q.forced then evR P (k 0) vs else none
 | .store .., _ | .new .., _ | .freeze .., _ | .setObj .., _ | .sys .., _ | .halt _, _ | .shape .., _ | .frozen .., _ | .getObj .., _ => none
section
variable {α : Type} {P : Program} {L : Frag}
def Red (L : Frag) : List Addr → List Value → Prop
 | a :: az, v :: vs => a.spot = none ∧ At L a.block a.off v ∧ Red L az vs
 | [], [] => True
 | _, _ => False
theorem pK {K : α → Prop} : ∀ (s : Sem α) (vs : List Value) (r : α) (az : List Addr), evR P s vs = some (r, az) → Red L az vs → K r → wpQ P s K L := by
 intro s
 induction s with
 | pure a =>
   intro vs r az h hr hK;cases vs with
   | nil => simp only [evR, Option.some.injEq, Prod.mk.injEq] at h; obtain ⟨rfl, rfl⟩ := h; exact hK
   | cons v vs => simp [evR] at h
 | load m a k ih =>
   intro vs r az h hr hK;cases m with
   | plain =>
     cases vs with
     | nil => simp [evR] at h
     | cons v vs =>
       simp only [evR, Option.map_eq_some_iff, Prod.mk.injEq] at h;obtain ⟨⟨r', az'⟩, h1, h2, h3⟩ := h;subst h3;obtain ⟨hs, ⟨fl, cs, ty, fr, hm, hv⟩, hr'⟩ := hr;refine ⟨rfl, fl, _, v, hm, ?_, ih _ _ _ _ h1 hr' (by rw [show r' = r from h2]; exact hK)⟩;obtain ⟨b, i, sp⟩ := a;obtain rfl : sp = none := hs;exact hv
   | _ => simp [evR] at h
 | program k ih => exact fun vs r az h hr hK => ih _ vs r az h hr hK
 | mark m k ih =>
   intro vs r az h hr hK;simp only [evR] at h
   split at h
   · rename_i h1; exact ⟨h1, ih vs r az h hr hK⟩
   · simp at h
 | choose q k ih =>
   intro vs r az h hr hK;simp only [evR] at h
   split at h
   · rename_i h1; exact ⟨h1, ih _ vs r az h hr hK⟩
   · simp at h
 | _ => intro vs r az h; simp [evR] at h
theorem bd {K : α → Prop} {s : Sem α} {r : α} (h : evR P s [] = some (r, [])) (hK : K r) : wpQ P s K L := pK s [] r [] h trivial hK
theorem lT {K : α → Prop} {s : Sem α} {r : α} {v : Value} {b i : Nat} (h : evR P s [v] = some (r, [⟨b, i, none⟩])) (hv : At L b i v) (hK : K r) : wpQ P s K L := pK s _ r _ h ⟨rfl, hv, trivial⟩ hK
end
section
variable {P : Program} {New : Obj → Prop} {N : Nat} {ε : Env} {L : Frag} {d : Option Tmp} {ty : TypeId} {ps : String} {af : Array Edge} {g : Option (Nat × Bool)}
theorem AB {x : Operand} {xt t : TypeId} {ok : Bool} {w v : Value} (hv : evR P (Instr.typeAssert w xt t ok) [] = some (v, [])) (hx : ev ε x = some w := by rfl) : EY P N ε L ⟨d, .typeAssert x xt t ok, ty, ps, af, g⟩ v := fun a ha => by
 refine cG (fun _ => rfl) fun K hK => ?_;rw [ha.ev hx];exact bd hv hK
theorem ta {x : Operand} {xt t s : TypeId} {w z : Value} {want : Array (String × TypeId)} (hu : P.underlying t = some (.interface want)) (h : (P.info? s).map (fun i => (Go.lacking want i.methods).isEmpty) = some false) (hz : (P.info? t).map (·.zero) = some (some z)) (hx : ev ε x = some (.iface s w) := by rfl) : EY P N ε L ⟨d, .typeAssert x xt t true, ty, ps, af, g⟩ (.tuple #[z, .bool false]) := fun a ha => by
 refine cG (fun _ => rfl) fun K hK => ?_;rw [ha.ev hx];obtain ⟨i, hi, hl⟩ := Option.map_eq_some_iff.1 h;obtain ⟨j, hj, hz'⟩ := Option.map_eq_some_iff.1 hz;obtain ⟨m, hm⟩ := Go.missingMethod_some (want := want) (got := i.methods) (fun e => by rw [e] at hl; cases hl);unfold Instr.typeAssert;rw [ax, aM hu];show wpQ P (do match Instr.missingMethod want (← typeInfo s).methods with | none => _ | some m => _) K L;have e1 : wpQ P (typeInfo s) (fun a => a = i) L := by
   unfold typeInfo;rw [ax];show wpQ P (match P.info? s with | some i => _ | none => _) _ L;rw [hi]; exact rfl
 have e2 : wpQ P (zeroValue t) (fun a => a = z) L := by
   unfold zeroValue typeInfo;rw [ax, ax];show wpQ P (match P.info? t with | some i => _ | none => _) _ L;rw [hj];show wpQ P (match j.zero with | some z => _ | none => _) _ L;have hz2 : j.zero = some z := hz';rw [hz2];exact rfl
 rw [ax];refine cP ?_ (fun _ h => h) _ e1;rintro _ rfl;simp only [hm];show wpQ P (do pure (.tuple #[← zeroValue t, .bool false])) K L;rw [ax];refine cP ?_ (fun _ h => h) _ e2;rintro _ rfl;exact hK
theorem m8 {op : BinOp} {t s s' : TypeId} {x y : Operand} {a b : Value} : eqGuard op t x y (.iface s a) (.iface s' b) = pure () := by
 unfold eqGuard;cases op <;> rfl
theorem xg {ρ : Operand → Value} {t u s s' : TypeId} {x y : Operand} {a b : Value} {c : Bool} (hx : ρ x = .iface s a) (hy : ρ y = .iface s' b) (h : ∀ (K : Bool → Prop), K c → wpQ P (Op.equal t (.iface s a) (.iface s' b)) K L) : Yld P L (execOp ρ ⟨d, .binOp .eql t x y u, ty, ps, af, g⟩) (.bool c) := by
 refine cG (fun _ => rfl) fun K hQ => ?_;rw [hx, hy, m8];show wpQ P (do pure (.bool (← Op.equal t (.iface s a) (.iface s' b)))) K L;rw [ax];exact h _ hQ
theorem zq {t u s s' : TypeId} {x y : Operand} {a b : Value} (h : evR P (Op.equal t (.iface s a) (.iface s' b)) [] = some (false, [])) (hx : ev ε x = some (.iface s a) := by rfl) (hy : ev ε y = some (.iface s' b) := by rfl) : EY P N ε L ⟨d, .binOp .eql t x y u, ty, ps, af, g⟩ (.bool false) := fun _ ha =>
 xg (ha.ev hx) (ha.ev hy) fun _ hK => bd h hK
theorem lU {D t e n : TypeId} {b i b' i' : Nat} {cs cs' : Array Value} {ty1 ty1' : TypeId} {fl fl' : Bool} {K : Bool → Prop} (hu : P.underlying t = some (.pointer e)) (hs : sizeAt P e = some (n + 1))
   (h1 : (b, fl, .cells cs ty1) ∈ L) (h2 : (b', fl', .cells cs' ty1') ∈ L) (h : K (decide ((b, i) = (b', i')))) : wpQ P (Op.equalIn (D + 1) t (.pointer (some ⟨b, i, none⟩)) (.pointer (some ⟨b', i', none⟩))) K L := by
 have := jI (K := K) (i := i) (i' := i') hu hs h1 h2 h;rw [cX, Op.equalIn.eq_def, ax, aM hu] at this;rw [Op.equalIn.eq_def, ax, aM hu];exact this
theorem zr {t u s e n : TypeId} {x y : Operand} {b i b' i' : Nat} {cs cs' : Array Value} {ty1 ty1' : TypeId} {fl fl' : Bool} {ms : Array (String × TypeId)} (hx : ev ε x = some (.iface s (.pointer (some ⟨b, i, none⟩))) := by rfl) (hy : ev ε y = some (.iface s (.pointer (some ⟨b', i', none⟩))) := by rfl) (hu : P.underlying t = some (.interface ms)) (hi : (P.info? s).map (·.comparable) = some true) (hp : P.underlying s = some (.pointer e)) (hs : sizeAt P e = some (n + 1))
   (h1 : (b, fl, .cells cs ty1) ∈ L) (h2 : (b', fl', .cells cs' ty1') ∈ L) : EY P N ε L ⟨d, .binOp .eql t x y u, ty, ps, af, g⟩ (.bool (decide ((b, i) = (b', i')))) := fun _ ha =>
 xg (ha.ev hx) (ha.ev hy) fun K hK => by
   obtain ⟨j, hj, hc⟩ := Option.map_eq_some_iff.1 hi;rw [cX, Op.equalIn.eq_def, ax, aM hu];show wpQ P (if s ≠ s then pure false else (do let info ← typeInfo s; if !info.comparable then _ else Op.equalIn 9999 s _ _)) K L;rw [if_neg (by simp), ax];unfold typeInfo;rw [ax];show wpQ P (match P.info? s with | some i => _ | none => _) _ L;rw [hj];show wpQ P (if !j.comparable then _ else _) K L;have hc' : j.comparable = true := hc;rw [hc'];exact lU (D := 9998) hp hs h1 h2 hK
end
section
variable {σ : Type} {F : Fam σ} {Δ : ∀ s, Dom (F.R s) (F.D s)} {P : Program} {main : Bool} {fn : FuncId} {N : Nat} {Q : σ → Exit → Env → Frag → Prop} {s : σ} {ε : Env} {L : Frag}
theorem oeN {ops : Array Oper} {i : Nat} {rest : List Nat} {d : Option Tmp} {k : Op} {ot : TypeId} {ps : String} {af : Array Edge} {g : Option (Nat × Bool)} {n : Nat} {post : Value → Frag → Prop} (ho : ops[i]? = some ⟨d, k, ot, ps, af, g⟩) (hy : (L.map (·.1)).Nodup → EO P (Δ s).New N ε L ⟨d, k, ot, ps, af, g⟩ post) (hw : wantedE ops N ε g = some true := by rfl) (hd : dstOk N d = true := by rfl) (h : ∀ v L', post v L' → OpsE Δ P main fn N ops rest n s Q (putE d v ε) L') : OpsE Δ P main fn N ops (i :: rest) (n + 1) s Q ε L :=
 jn fun hnd => oe ho (hy hnd) hw hd h
end
section
variable {P : Program} {New : Obj → Prop} {N : Nat} {ε : Env} {L : Frag} {d : Option Tmp} {ty : TypeId} {ps : String} {af : Array Edge} {g : Option (Nat × Bool)}
theorem fj {t b i m : Nat} {x y : Operand} {vs : List Value} {cs : Array Value} {e : TypeId} (hx : ev ε x = some (.pointer (some ⟨b, i, none⟩)) := by rfl) (hy : ev ε y = some (.agg vs.toArray) := by rfl) (hp : vs.all plainV = true := by rfl) (hl : vs.length = m := by rfl) (hs : sizeAt P t = some m) (hnd : (L.map (·.1)).Nodup) (hm : (b, true, .cells cs e) ∈ L) (hi : i + vs.length ≤ cs.size) :
   EO P New N ε L ⟨d, .store t x y, ty, ps, af, g⟩ (fun r L'' => r = undef ∧ Upd L b (.cells (puts cs i vs) e) L'') := by
 intro a ha;obtain ⟨n, hn⟩ := List.getElem?_of_mem hm;exact oH (ha.ev hx) (ha.ev hy) hs hl hn hi hp ⟨rfl, cH hnd hn⟩
end
end Go.Lo
namespace Go.Proofs.YtejkelcaljmnoaaGreatDoor
open Go.Lo
theorem dm : sizeAt Tryz.prog 3 = some 1 := by kernel_rfl
theorem aV : aggAt Tryz.prog 3 = some false := by kernel_rfl
theorem tf : sizeAt Tryz.prog 4 = some 1 := by kernel_rfl
theorem xZ : aggAt Tryz.prog 4 = some false := by kernel_rfl
theorem ee : sizeAt Tryz.prog 5 = some 1 := by kernel_rfl
theorem fu : aggAt Tryz.prog 5 = some false := by kernel_rfl
theorem zt : sizeAt Tryz.prog 24 = some 3 := by kernel_rfl
theorem zu : aggAt Tryz.prog 24 = some true := by kernel_rfl
theorem jP : sizeAt Tryz.prog 26 = some 4 := by kernel_rfl
theorem lb : aggAt Tryz.prog 26 = some true := by kernel_rfl
theorem pL : fieldOff Tryz.prog 26 0 = some 0 := by kernel_rfl
theorem fM : fieldOff Tryz.prog 26 1 = some 3 := by kernel_rfl
theorem a9 : sizeAt Tryz.prog 32 = some 1 := by kernel_rfl
theorem cp : aggAt Tryz.prog 32 = some false := by kernel_rfl
theorem gm : sizeAt Tryz.prog 44 = some 1 := by kernel_rfl
theorem pM : aggAt Tryz.prog 44 = some false := by kernel_rfl
theorem zv : sizeAt Tryz.prog 47 = some 8 := by kernel_rfl
theorem zw : aggAt Tryz.prog 47 = some true := by kernel_rfl
theorem eO : sizeAt Tryz.prog 49 = some 15 := by kernel_rfl
theorem zx : aggAt Tryz.prog 49 = some true := by kernel_rfl
theorem cn : fieldOff Tryz.prog 49 0 = some 0 := by kernel_rfl
theorem jo : fieldOff Tryz.prog 49 1 = some 1 := by kernel_rfl
theorem cA : fieldOff Tryz.prog 49 2 = some 2 := by kernel_rfl
theorem pN : fieldOff Tryz.prog 49 3 = some 3 := by kernel_rfl
theorem cB : fieldOff Tryz.prog 49 4 = some 4 := by kernel_rfl
theorem dS : fieldOff Tryz.prog 49 5 = some 5 := by kernel_rfl
theorem fN : fieldOff Tryz.prog 49 6 = some 6 := by kernel_rfl
theorem aY : fieldOff Tryz.prog 49 7 = some 7 := by kernel_rfl
theorem fh : sizeAt Tryz.prog 51 = some 4 := by kernel_rfl
theorem th : aggAt Tryz.prog 51 = some true := by kernel_rfl
theorem jp : fieldOff Tryz.prog 51 0 = some 0 := by kernel_rfl
theorem jq : fieldOff Tryz.prog 51 1 = some 1 := by kernel_rfl
theorem eB : fieldOff Tryz.prog 51 2 = some 2 := by kernel_rfl
theorem lV : fieldOff Tryz.prog 51 3 = some 3 := by kernel_rfl
theorem eg : sizeAt Tryz.prog 91 = some 1 := by kernel_rfl
theorem cZ : aggAt Tryz.prog 91 = some false := by kernel_rfl
theorem bI : sizeAt Tryz.prog 93 = some 1 := by kernel_rfl
theorem c9 : aggAt Tryz.prog 93 = some false := by kernel_rfl
theorem zy : sizeAt Tryz.prog 94 = some 64 := by kernel_rfl
theorem zz : aggAt Tryz.prog 94 = some true := by kernel_rfl
theorem bi : sizeAt Tryz.prog 96 = some 2 := by kernel_rfl
theorem bJ : aggAt Tryz.prog 96 = some true := by kernel_rfl
theorem dJ : fieldOff Tryz.prog 96 0 = some 0 := by kernel_rfl
theorem gY : fieldOff Tryz.prog 96 1 = some 1 := by kernel_rfl
theorem vz : fieldPart Tryz.prog 96 1 = some (1, 1, false) := by kernel_rfl
theorem tj : sizeAt Tryz.prog 97 = some 12 := by kernel_rfl
theorem tl : aggAt Tryz.prog 97 = some true := by kernel_rfl
theorem xh : sizeAt Tryz.prog 99 = some 92 := by kernel_rfl
theorem aD : fieldOff Tryz.prog 99 0 = some 0 := by kernel_rfl
theorem fO : fieldOff Tryz.prog 99 1 = some 15 := by kernel_rfl
theorem dT : fieldOff Tryz.prog 99 2 = some 79 := by kernel_rfl
theorem pO : fieldOff Tryz.prog 99 3 = some 91 := by kernel_rfl
theorem gB : aggAt Tryz.prog 108 = some false := by kernel_rfl
theorem dD : aggAt Tryz.prog 110 = some false := by kernel_rfl
theorem fw : fieldOff Tryz.prog 115 0 = some 0 := by kernel_rfl
theorem eh : fieldOff Tryz.prog 115 1 = some 4 := by kernel_rfl
theorem bO : fieldOff Tryz.prog 115 2 = some 5 := by kernel_rfl
theorem jQ : fieldOff Tryz.prog 115 3 = some 6 := by kernel_rfl
theorem dn : fieldOff Tryz.prog 115 4 = some 7 := by kernel_rfl
theorem ep : fieldOff Tryz.prog 115 5 = some 10 := by kernel_rfl
theorem cr : fieldOff Tryz.prog 115 6 = some 15 := by kernel_rfl
theorem bZ : fieldOff Tryz.prog 115 7 = some 16 := by kernel_rfl
theorem cV : sizeAt Tryz.prog 158 = some 4 := by kernel_rfl
theorem gC : aggAt Tryz.prog 158 = some true := by kernel_rfl
theorem gZ : fieldOff Tryz.prog 158 0 = some 0 := by kernel_rfl
theorem jR : fieldOff Tryz.prog 158 1 = some 1 := by kernel_rfl
theorem m9 : fieldOff Tryz.prog 158 2 = some 2 := by kernel_rfl
theorem jS : fieldOff Tryz.prog 158 3 = some 3 := by kernel_rfl
theorem b4 : aggAt Tryz.prog 168 = some false := by kernel_rfl
theorem x6 : sizeAt Tryz.prog 180 = some 1 := by kernel_rfl
theorem x7 : aggAt Tryz.prog 180 = some false := by kernel_rfl
theorem fc : sizeAt Tryz.prog 196 = some 3 := by kernel_rfl
theorem gD : aggAt Tryz.prog 196 = some true := by kernel_rfl
theorem tn : aggAt Tryz.prog 199 = some false := by kernel_rfl
theorem tq : fieldOff Tryz.prog 210 1 = some 1 := by kernel_rfl
theorem x8 : sizeAt Tryz.prog 275 = some 1 := by kernel_rfl
end Go.Proofs.YtejkelcaljmnoaaGreatDoor
namespace Go.Proofs.YtejkelcaljmnoaaGreatDoor
open Go.Lo Go.Extern Go.Extern.Rtype
abbrev hnd (t : TypeId) : Value := .pointer (some ⟨11, t, none⟩)
abbrev rty (t : TypeId) : Value := .iface 216 (.agg #[hnd t])
theorem zA (a : Addr) : evR Tryz.prog (ReflectliteValue.mk 182 a 0) [] = some (.agg #[hnd 182, .pointer (some a), .int .u64 150], []) := by kernel_rfl
theorem zB (a : Addr) : evR Tryz.prog (ReflectliteValue.mk 180 a 0) [] = some (.agg #[hnd 180, .pointer (some a), .int .u64 150], []) := by kernel_rfl
theorem vA (a : Addr) : evR Tryz.prog (ReflectliteValue.methodAny (ReflectliteValue.valueError "reflectlite.Value.Type" 0) (fun t _ _ _ => ReflectliteType.toType t) #[.agg #[hnd 182, .pointer (some a), .int .u64 150]]) [] = some (rty 182, []) := by kernel_rfl
theorem vB : evR Tryz.prog ((ReflectliteType.abiMethod fun t => (fun a : Nat => Value.int IntKind.u8 (a : Int)) <$> Rtype.kind t) #[hnd 182]) [] = some (.int .u8 22, []) := by kernel_rfl
theorem vC : evR Tryz.prog ((ReflectliteType.abiMethod fun t => (fun a : Nat => Value.int IntKind.u8 (a : Int)) <$> Rtype.kind t) #[hnd 180]) [] = some (.int .u8 22, []) := by kernel_rfl
theorem vD : evR Tryz.prog (ReflectliteType.method ReflectliteType.elem #[.agg #[hnd 182]]) [] = some (rty 180, []) := by kernel_rfl
theorem kP : evR Tryz.prog (ReflectliteType.relation "Implements" ReflectliteType.implements_ #[.agg #[hnd 180], rty 168]) [] = some (.bool true, []) := by kernel_rfl
theorem q9 (v : Value) : evR Tryz.prog (ReflectliteType.typeOf #[.iface 255 v]) [] = some (rty 255, []) := by kernel_rfl
theorem re (v : Value) : evR Tryz.prog (ReflectliteType.typeOf #[.iface 180 v]) [] = some (rty 180, []) := by kernel_rfl
theorem kQ : evR Tryz.prog (ReflectliteType.relation "AssignableTo" ReflectliteType.assignableTo #[.agg #[hnd 255], rty 180]) [] = some (.bool false, []) := by kernel_rfl
theorem kR : evR Tryz.prog (ReflectliteType.relation "AssignableTo" ReflectliteType.assignableTo #[.agg #[hnd 180], rty 180]) [] = some (.bool true, []) := by kernel_rfl
theorem tt (a p : Addr) : evR Tryz.prog (ReflectliteValue.method (ReflectliteValue.valueError "reflectlite.Value.IsNil" 0) ReflectliteValue.isNil #[.agg #[hnd 182, .pointer (some a), .int .u64 150]]) [.pointer (some p)] = some (.bool false, [a]) := by kernel_rfl
theorem tv (a p : Addr) : evR Tryz.prog (ReflectliteValue.method (ReflectliteValue.valueError "reflectlite.Value.Elem" 0) ReflectliteValue.elem #[.agg #[hnd 182, .pointer (some a), .int .u64 150]]) [.pointer (some p)] = some (.agg #[hnd 180, .pointer (some p), .int .u64 406], [a]) := by kernel_rfl
theorem rf (p : Addr) : evR Tryz.prog (ReflectliteValue.parts (.agg #[hnd 180, .pointer (some p), .int .u64 406])) [] = some (some (180, p, 406), []) := by kernel_rfl
theorem tw (p : Addr) : evR Tryz.prog (ReflectliteValue.parts (.agg #[hnd 180, .pointer (some p), .int .u64 150])) [] = some (some (180, p, 150), []) := by kernel_rfl
theorem kS : evR Tryz.prog (ReflectliteType.method (fun t => do noPackHeld "Comparable" t; pure (.bool (← typeInfo t).comparable)) #[.agg #[hnd 255]]) [] = some (.bool true, []) := by kernel_rfl
theorem xi (h : Value) : evR Tryz.prog (Go.method (Tryz.prog.types.size + Made.depth) 216 (.agg #[h]) "Kind") [] = some ((189, h), []) := by kernel_rfl
theorem zC (h : Value) : evR Tryz.prog (Go.method (Tryz.prog.types.size + Made.depth) 216 (.agg #[h]) "Elem") [] = some ((200, .agg #[h]), []) := by kernel_rfl
theorem na (h : Value) : evR Tryz.prog (Go.method (Tryz.prog.types.size + Made.depth) 216 (.agg #[h]) "Implements") [] = some ((201, .agg #[h]), []) := by kernel_rfl
theorem i8 (h : Value) : evR Tryz.prog (Go.method (Tryz.prog.types.size + Made.depth) 216 (.agg #[h]) "AssignableTo") [] = some ((198, .agg #[h]), []) := by kernel_rfl
theorem nc (h : Value) : evR Tryz.prog (Go.method (Tryz.prog.types.size + Made.depth) 216 (.agg #[h]) "Comparable") [] = some ((199, .agg #[h]), []) := by kernel_rfl
section
variable {N : Nat} {ε : Env} {L : Frag} {d : Option Tmp} {ty : TypeId} {ps : String} {af : Array Edge} {g : Option (Nat × Bool)} {x : Operand} {w : Value}
theorem zF (hx : ev ε x = some (.iface 255 w) := by rfl) : EY Tryz.prog N ε L ⟨d, .typeAssert x 168 221 true, ty, ps, af, g⟩ (.tuple #[.nilIface, .bool false]) := ta (z := .nilIface) Tryz.underlying221 (by kernel_rfl) (by kernel_rfl) hx
theorem xj (hx : ev ε x = some (.iface 255 w) := by rfl) : EY Tryz.prog N ε L ⟨d, .typeAssert x 168 224 true, ty, ps, af, g⟩ (.tuple #[.nilIface, .bool false]) := ta (z := .nilIface) Tryz.underlying224 (by kernel_rfl) (by kernel_rfl) hx
theorem xl (hx : ev ε x = some (.iface 255 w) := by rfl) : EY Tryz.prog N ε L ⟨d, .typeAssert x 168 226 true, ty, ps, af, g⟩ (.tuple #[.nilIface, .bool false]) := ta (z := .nilIface) Tryz.underlying226 (by kernel_rfl) (by kernel_rfl) hx
theorem zG (hx : ev ε x = some (.iface 255 w) := by rfl) : EY Tryz.prog N ε L ⟨d, .typeAssert x 168 240 true, ty, ps, af, g⟩ (.tuple #[.nilIface, .bool false]) := ta (z := .nilIface) Tryz.underlying240 (by kernel_rfl) (by kernel_rfl) hx
theorem zH (hx : ev ε x = some (.iface 180 w) := by rfl) : EY Tryz.prog N ε L ⟨d, .typeAssert x 168 240 true, ty, ps, af, g⟩ (.tuple #[.nilIface, .bool false]) := ta (z := .nilIface) Tryz.underlying240 (by kernel_rfl) (by kernel_rfl) hx
end
theorem zI (v : Value) : evR Tryz.prog (Instr.typeAssert (.iface 180 v) 168 224 true) [] = some (.tuple #[.iface 180 v, .bool true], []) := by kernel_rfl
theorem oO (v w : Value) : evR Tryz.prog (Op.equal 168 (.iface 180 v) (.iface 255 w)) [] = some (false, []) := by kernel_rfl
end Go.Proofs.YtejkelcaljmnoaaGreatDoor
namespace Go.Proofs.YtejkelcaljmnoaaGreatDoor
open Go.Conc Go.Hx Go.Lo
theorem aZ : Tryz.prog.follows .mixedOrders = true := by first | rfl | kernel_rfl
def put {α : Type} (f : Nat → α) (i : Nat) (v : α) : Nat → α := fun j => if j = i then v else f j
structure PS where
 id : Nat
 par : Nat
 st : Nat
 stat : Int
 at_ : Nat
 lv : Nat
 used : Nat
 r : Nat → Int
 m : Nat → Int
 f : Nat → Nat × Nat
 til : Int
def pcells (x : PS) : Array Value := List.toArray
 ((.int .i64 x.id :: .int .i64 x.par :: .int .i64 x.st :: .int .i64 x.stat :: .int .i64 x.at_ :: .int .i64 x.lv :: .int .i64 x.used :: ((List.range 8).map (fun i => .int .u16 (x.r i)) ++ ((List.range 64).map (fun i => .int .u8 (x.m i)) ++
   ((List.range 6).flatMap (fun i => [.int .i64 (x.f i).1, .int .i64 (x.f i).2]) ++ [.int .i64 x.til])))) : List Value)
structure KS where
 sl : Nat → Int
 bo : Int
 prog : Value
 procs : Value
 last : Nat
 row : Nat → Value
 by_ : Nat → Value
 wt : Value
 now : Int
def kcells (k : KS) : Array Value :=
 List.toArray ([.int .i64 (k.sl 0), .int .i64 (k.sl 1), .int .i64 (k.sl 2), .int .i64 k.bo, k.prog, k.procs, .int .i64 k.last, k.row 0, k.row 1, k.row 2, k.by_ 0, k.by_ 1, k.by_ 2, k.by_ 3, k.by_ 4, k.wt, .int .i64 k.now] : List Value)
abbrev pb (b : Nat) (x : PS) : Nat × Bool × Obj := (b, true, .cells (pcells x) 99)
abbrev kb (b : Nat) (k : KS) : Nat × Bool × Obj := (b, true, .cells (kcells k) 115)
abbrev ptr (b : Nat) : Value := .pointer (some ⟨b, 0, none⟩)
section
variable (x : PS)
theorem pP (v : Nat) : (pcells x).setIfInBounds 4 (.int .i64 v) = pcells { x with at_ := v } := rfl
theorem rg (v : Nat) : (pcells x).setIfInBounds 6 (.int .i64 v) = pcells { x with used := v } := rfl
theorem vE (v : Nat) : (pcells x).setIfInBounds 0 (.int .i64 v) = pcells { x with id := v } := rfl
theorem bg : (pcells x).size = 92 := rfl
end
theorem bC (k : KS) : (kcells k).size = 17 := rfl
end Go.Proofs.YtejkelcaljmnoaaGreatDoor
