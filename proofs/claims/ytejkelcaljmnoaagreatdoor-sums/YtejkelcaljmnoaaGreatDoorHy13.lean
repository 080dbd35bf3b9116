/-
  Part 13 of the proof.
  No condition but those that each statement names.
-/
import Derived.Test.YtejkelcaljmnoaaGreatDoorHy12
import Derived.KernelRfl
set_option maxRecDepth 100000
set_option linter.unusedVariables false
set_option linter.unusedSimpArgs false
set_option linter.unusedSectionVars false
namespace Go.Lo
open Go.Conc Go.Hx
abbrev Env := List (Nat × Value)
def look : Env → Nat → Option Value
 | [], _ => none
 | (u, v) :: ε, t => if u = t then some v else look ε t
def ev (ε : Env) : Operand → Option Value
 | .tmp t => look ε t
 | .const v => some v
 | .global g => some (.pointer (some ⟨g, 0, none⟩))
 | .func f => some (.func (.func f) #[] #[])
structure Fits (N : Nat) (ε : Env) (a : Act) : Prop where
 sz : a.tmps.size = N
 df : a.defers = []
 at_ : ∀ t v, look ε t = some v → t < N ∧ a.tmps.getD t undef = v
def putE (d : Option Tmp) (v : Value) (ε : Env) : Env := match d with
 | some d => (d, v) :: ε
 | none => ε
def dstOk (N : Nat) : Option Tmp → Bool
 | some d => decide (d < N)
 | none => true
section
variable {N : Nat} {ε : Env} {a : Act}
theorem Fits.ev (h : Fits N ε a) {x : Operand} {v : Value} (hx : Lo.ev ε x = some v) : a.eval x = v := by
 cases x with
 | tmp t => exact (h.at_ t v hx).2
 | const u => exact Option.some.inj hx
 | global g => exact Option.some.inj hx
 | func f => exact Option.some.inj hx
theorem Fits.put (h : Fits N ε a) {d : Option Tmp} (hd : dstOk N d = true) (v : Value) : Fits N (putE d v ε) (a.put d v) := by
 cases d with
 | none => exact h
 | some d =>
   have hd' : d < N := by simpa [dstOk] using hd
   refine ⟨by simpa [Act.put] using h.sz, h.df, fun t u ht => ?_⟩
   simp only [putE, look] at ht
   split at ht
   · rename_i e
     subst e
     refine ⟨hd', ?_⟩
     rw [← Option.some.inj ht]
     simp [Act.put, Array.getD_eq_getD_getElem?, h.sz, hd']
   · rename_i e
     obtain ⟨h1, h2⟩ := h.at_ t u ht
     refine ⟨h1, ?_⟩
     rw [← h2]
     simp [Act.put, Array.getD_eq_getD_getElem?, Array.getElem?_setIfInBounds, e]
theorem Fits.sub (h : Fits N ε a) {ε' : Env} (hs : ε'.map (fun p => look ε p.1) = ε'.map (fun p => some p.2)) : Fits N ε' a := by
 refine ⟨h.sz, h.df, ?_⟩
 induction ε' with
 | nil => intro t v ht; cases ht
 | cons p ε' ih =>
   simp only [List.map_cons, List.cons.injEq] at hs
   intro t v ht
   simp only [look] at ht
   split at ht
   · rename_i e
     rw [← e, ← Option.some.inj ht]
     exact h.at_ _ _ hs.1
   · exact ih hs.2 t v ht
end
def wantedE (ops : Array Oper) (N : Nat) (ε : Env) : Option (Nat × Bool) → Option Bool
 | none => some true
 | some (j, want) => match (ops[j]?).bind (·.dst) with
   | some d => match look ε d with
     | some (.bool b) => some (b == want)
     | _ => none
   | none => none
theorem Fits.wanted {N : Nat} {ε : Env} {a : Act} (h : Fits N ε a) {ops : Array Oper} {o : Oper} {b : Bool} (hw : wantedE ops N ε o.guard = some b) : Region.wanted o (yielded ops a.tmps) = b := by
 unfold Region.wanted
 unfold wantedE at hw
 split at hw
 · rename_i e; rw [e]; exact Option.some.inj hw
 · rename_i j want e
   rw [e]
   split at hw <;> try cases hw
   rename_i d hd
   split at hw <;> try cases hw
   rename_i c hc
   obtain ⟨h1, h2⟩ := h.at_ _ _ hc
   have h3 : a.tmps[d]? = some (.bool c) := by
     have : d < a.tmps.size := by rw [h.sz]; exact h1
     simp [Array.getD_eq_getD_getElem?, this] at h2
     simp [this, h2]
   have h4 : yielded ops a.tmps j = some c := by
     unfold yielded
     rw [hd]
     simp [h3]
   show (yielded ops a.tmps j == some want) = (c == want)
   rw [h4]; rfl
section
variable {σ : Type}
def thenE (K : σ → Env → Frag → Prop) (Q : σ → Exit → Env → Frag → Prop) : σ → Exit → Env → Frag → Prop
 | s, .normal, a, L => K s a L
 | s, e, a, L => Q s e a L
def inBlockE (id : Nat) (Q : σ → Exit → Env → Frag → Prop) : σ → Exit → Env → Frag → Prop
 | s, .exit id', a, L => if id' = id then Q s .normal a L else Q s (.exit id') a L
 | s, e, a, L => Q s e a L
def resE (g : Func) (ε : Env) : Option Value := match g.results.toList with
 | [] => some (.tuple #[])
 | [.tmp t] => look ε t
 | [.tmp t, .tmp u] => match look ε t, look ε u with
   | some v, some w => some (.tuple #[v, w])
   | _, _ => none
 | _ => none
def bodyE (g : Func) (Post : σ → Value → Frag → Prop) : σ → Exit → Env → Frag → Prop
 | s, .normal, ε, L | s, .ret, ε, L => ∃ v, resE g ε = some v ∧ Post s v L
 | _, _, _, _ => False
end
section
variable {σ : Type} {F : Fam σ} (Δ : ∀ s, Dom (F.R s) (F.D s)) (P : Program) (main : Bool) (fn : FuncId) (N : Nat)
def upE (Q : σ → Exit → Env → Frag → Prop) : σ → Exit → Act → Frag → Prop := fun s e a L => ∃ ε, Fits N ε a ∧ Q s e ε L
def wpE (c : Code) (n : Nat) (s : σ) (Q : σ → Exit → Env → Frag → Prop) (ε : Env) (L : Frag) : Prop := ∀ a, Fits N ε a → wpL Δ P main fn c n s (upE N Q) a L
def OpsE (ops : Array Oper) (todo : List Nat) (n : Nat) (s : σ) (Q : σ → Exit → Env → Frag → Prop) (ε : Env) (L : Frag) : Prop := ∀ a, Fits N ε a → OpsL Δ P main fn ops todo n s (upE N Q) a L
def LoopE (c : Code) (n : Nat) (s : σ) (Q : σ → Exit → Env → Frag → Prop) (ε : Env) (L : Frag) : Prop := ∀ a, Fits N ε a → LoopL Δ P main fn c n s (upE N Q) a L
def AnyE (ops : Array Oper) (Q : σ → Exit → Env → Frag → Prop) (nf : Nat) (R L0 : Frag) (e : Nat) (s0 : σ) (fuel : Nat) (ls : Array Bool) (s : σ) (ε : Env) (L : Frag) : Prop := ∀ a, Fits N ε a → AnyL Δ P main fn ops (upE N Q) nf R L0 e s0 fuel ls s a L
end
section
variable {σ : Type} {F : Fam σ} {Δ : ∀ s, Dom (F.R s) (F.D s)} {P : Program} {main : Bool} {fn : FuncId} {N : Nat} {Q : σ → Exit → Env → Frag → Prop} {s : σ} {ε : Env} {L : Frag}
theorem upE_then {K : σ → Env → Frag → Prop} {K' : σ → Act → Frag → Prop} (h : ∀ s ε a L, Fits N ε a → K s ε L → K' s a L) {s : σ} {e : Exit} {a : Act} {L : Frag} (q : upE N (thenE K Q) s e a L) : thenL K' (upE N Q) s e a L := by
 obtain ⟨ε, hf, q⟩ := q
 cases e <;> first | exact h _ _ _ _ hf q | exact ⟨ε, hf, q⟩
theorem wpE_mono {Q' : σ → Exit → Env → Frag → Prop} {c : Code} {n : Nat} (h : wpE Δ P main fn N c n s Q ε L) (hq : ∀ s e ε L, Q s e ε L → Q' s e ε L) : wpE Δ P main fn N c n s Q' ε L :=
 fun a ha => wpL_mono (h a ha) fun s e a L ⟨ε, hf, q⟩ => ⟨ε, hf, hq _ _ _ _ q⟩
theorem wpE_more {c : Code} {n n' : Nat} (h : wpE Δ P main fn N c n s Q ε L) (hn : n ≤ n') : wpE Δ P main fn N c n' s Q ε L := fun a ha => wpL_more (h a ha) hn
theorem opsE_more {ops : Array Oper} {todo : List Nat} {n n' : Nat} (h : OpsE Δ P main fn N ops todo n s Q ε L) (hn : n ≤ n') : OpsE Δ P main fn N ops todo n' s Q ε L := fun a ha => opsL_more (h a ha) hn
theorem wpE_nd {c : Code} {n : Nat} (h : (L.map (·.1)).Nodup → wpE Δ P main fn N c n s Q ε L) : wpE Δ P main fn N c n s Q ε L := fun a ha => wpL_nd fun hn => h hn a ha
theorem opsE_nd {ops : Array Oper} {todo : List Nat} {n : Nat} (h : (L.map (·.1)).Nodup → OpsE Δ P main fn N ops todo n s Q ε L) : OpsE Δ P main fn N ops todo n s Q ε L := fun a ha => opsL_nd fun hn => h hn a ha
theorem wpE_env {c : Code} {n : Nat} (ε' : Env)  (hs : ε'.map (fun p => look ε p.1) = ε'.map (fun p => some p.2) := by rfl) (h : wpE Δ P main fn N c n s Q ε' L) : wpE Δ P main fn N c n s Q ε L := fun a ha => h a (ha.sub hs)
def kn (ε ε' : Env) : Prop := ε'.map (fun p => look ε p.1) = ε'.map (fun p => some p.2)
theorem wpE_kn {c : Code} {n : Nat} {ε' : Env} (hs : kn ε ε') (h : wpE Δ P main fn N c n s Q ε' L) : wpE Δ P main fn N c n s Q ε L := wpE_env ε' hs h
theorem c_seq {x y : Code} {n₁ n₂ : Nat} (h : wpE Δ P main fn N x n₁ s (thenE (fun s' ε' L' => wpE Δ P main fn N y n₂ s' Q ε' L') Q) ε L) : wpE Δ P main fn N (.seq x y) (n₁ + n₂ + 1) s Q ε L :=
 fun a ha => wpL_seq (wpL_mono (h a ha) fun _ _ _ _ q => upE_then (fun _ _ a _ hf k => k a hf) q)
theorem c_cut {x y : Code} {n₁ n₂ : Nat} (ε' : Env) (h1 : wpE Δ P main fn N x n₁ s (thenE (fun s' ε'' L' => s = s' ∧ L = L' ∧ kn ε'' ε') Q) ε L) (h2 : wpE Δ P main fn N y n₂ s Q ε' L) : wpE Δ P main fn N x n₁ s (thenE (fun s' ε' L' => wpE Δ P main fn N y n₂ s' Q ε' L') Q) ε L :=
 wpE_mono h1 fun s' e ε'' L' q => by
   cases e with
   | normal => obtain ⟨rfl, rfl, hk⟩ := q; exact wpE_kn hk h2
   | _ => exact q
theorem c_cond {c : Operand} {x y : Code} (t : Bool) {n : Nat} (hc : ev ε c = some (.bool t)) (h : wpE Δ P main fn N (if t then x else y) n s Q ε L) : wpE Δ P main fn N (.cond c x y) (n + 1) s Q ε L := fun a ha => wpL_cond (ha.ev hc) (h a ha)
theorem c_if {c : Operand} {x y : Code} {t : Bool} {n m : Nat}   (hc : ev ε c = some (.bool t) := by rfl) (hx : t = true → wpE Δ P main fn N x n s Q ε L) (hy : t = false → wpE Δ P main fn N y m s Q ε L) : wpE Δ P main fn N (.cond c x y) (max n m + 1) s Q ε L := by
 refine c_cond t hc ?_
 cases t with
 | true => exact wpE_more (hx rfl) (Nat.le_max_left _ _)
 | false => exact wpE_more (hy rfl) (Nat.le_max_right _ _)
theorem c_true {c : Operand} {x y : Code} {n : Nat}  (hc : ev ε c = some (.bool true) := by rfl) (h : wpE Δ P main fn N x n s Q ε L) : wpE Δ P main fn N (.cond c x y) (n + 1) s Q ε L := c_cond true hc h
theorem c_false {c : Operand} {x y : Code} {n : Nat}  (hc : ev ε c = some (.bool false) := by rfl) (h : wpE Δ P main fn N y n s Q ε L) : wpE Δ P main fn N (.cond c x y) (n + 1) s Q ε L := c_cond false hc h
theorem c_block {id : Nat} {c : Code} {n : Nat} (h : wpE Δ P main fn N c n s (inBlockE id Q) ε L) : wpE Δ P main fn N (.block id c) (n + 2) s Q ε L :=
 fun a ha => wpL_block (wpL_mono (h a ha) fun s' e a' L' ⟨ε', hf, q⟩ => by
   cases e with
   | exit id' =>
     simp only [inBlockE] at q
     simp only [inBlockL]
     split
     · rename_i e; rw [if_pos e] at q; exact ⟨ε', hf, q⟩
     · rename_i e; rw [if_neg e] at q; exact ⟨ε', hf, q⟩
   | _ => exact ⟨ε', hf, q⟩)
theorem c_skip (h : Q s .normal ε L) : wpE Δ P main fn N .skip 1 s Q ε L := fun _ ha => wpL_skip ⟨ε, ha, h⟩
theorem c_ret (h : Q s .ret ε L) : wpE Δ P main fn N .ret 1 s Q ε L := fun _ ha => wpL_ret ⟨ε, ha, h⟩
theorem c_exit {id : Nat} (h : Q s (.exit id) ε L) : wpE Δ P main fn N (.exit id) 1 s Q ε L := fun _ ha => wpL_exit ⟨ε, ha, h⟩
theorem c_region {id : Nat} {ops : Array Oper} {n : Nat} (h : OpsE Δ P main fn N ops (List.range ops.size) n s Q ε L) : wpE Δ P main fn N (.region id ops false) (n + 1) s Q ε L := fun a ha => wpL_region (h a ha)
theorem o_nil {ops : Array Oper} (h : Q s .normal ε L) : OpsE Δ P main fn N ops [] 1 s Q ε L := fun _ ha => opsL_nil ⟨ε, ha, h⟩
theorem c_loop {c : Code} {n : Nat} (I : Nat → σ → Env → Frag → Prop) (k : Nat) (hI : I k s ε L) (h : ∀ k s ε L, I k s ε L → wpE Δ P main fn N c n s (thenE (fun s' ε' L' => ∃ k', k' < k ∧ I k' s' ε' L') Q) ε L) :
   wpE Δ P main fn N (.loop c) ((k + 1) * (n + 1)) s Q ε L :=
 fun a ha => wpL_loop (fun k s a L => ∃ ε, Fits N ε a ∧ I k s ε L) (fun k s a L ⟨ε, hf, hi⟩ => wpL_mono (h k s ε L hi a hf) fun _ _ _ _ q => upE_then (fun _ ε' _ _ hf ⟨k', hk, hi⟩ => ⟨k', hk, ε', hf, hi⟩) q) k ⟨ε, ha, hI⟩
theorem resE_ok {g : Func} {a : Act} {v : Value} (hf : Fits N ε a) (h : resE g ε = some v) : ResultsC P g a.tmps v := by
 unfold resE at h
 split at h
 · rename_i e; rw [← Option.some.inj h]; exact resultsC_none (Array.ext' e) _
 · rename_i t e; rw [← (hf.at_ _ _ h).2]; exact resultsC_tmp (Array.ext' e) _
 · rename_i t u e
   split at h
   · rename_i h1 h2
     rw [← Option.some.inj h, ← (hf.at_ _ _ h1).2, ← (hf.at_ _ _ h2).2]
     exact resultsC_tmp2 (Array.ext' e) _
   · cases h
 · cases h
def argsAt : Nat → List Value → Env
 | _, [] => []
 | k, v :: vs => (k, v) :: argsAt (k + 1) vs
def args (vs : List Value) : Env := argsAt 0 vs
theorem look_args : ∀ (vs : List Value) (k t : Nat) (v : Value), look (argsAt k vs) t = some v → k ≤ t ∧ vs[t - k]? = some v
 | [], _, _, _, h => by cases h
 | u :: vs, k, t, v, h => by
   simp only [argsAt, look] at h
   split at h
   · rename_i e; subst e; simpa using h
   · rename_i e
     obtain ⟨h1, h2⟩ := look_args vs (k + 1) t v h
     refine ⟨by omega, ?_⟩
     rw [show t - k = (t - (k + 1)) + 1 by omega]
     simpa using h2
theorem callsE (N : Nat) {f : FuncId} {g : Func} {c : Code} {vs : List Value} {n : Nat} {Post : σ → Value → Frag → Prop} (hf : P.funcs[f]? = some g) (hN : g.ntmps = N)  (hname : (g.name == "runtime.NumGoroutine") = false := by rfl) (hb : g.body = some c := by rfl) (hl : Nat.ble vs.length N = true := by rfl) (h : wpE Δ P main f N c n s (bodyE g Post) (args vs) L) : CallsL Δ P main f vs.toArray n s L Post := by
 have hl := Nat.le_of_ble_eq_true hl
 subst hN
 refine callsL_of hf hname hb (wpL_mono (h _ ⟨by simp; omega, rfl, fun t v ht => ?_⟩) fun s' e a' L' ⟨ε', hf, q⟩ => ?_)
 · obtain ⟨_, h2⟩ := look_args vs 0 t v ht
   have hlt := (List.getElem?_eq_some_iff.1 h2).1
   simp only [Nat.sub_zero] at h2 hlt
   refine ⟨by omega, ?_⟩
   simp only [Array.getD_eq_getD_getElem?, Array.getElem?_append, List.size_toArray, hlt, if_true, List.getElem?_toArray, h2, Option.getD_some]
 · cases e <;> first | exact ⟨hf.df, q.choose, resE_ok hf q.choose_spec.1, q.choose_spec.2⟩ | exact q
def EY (P : Program) (N : Nat) (ε : Env) (L : Frag) (o : Oper) (v : Value) : Prop := ∀ a, Fits N ε a → Yld P L (execOp a.eval o) v
def EO (P : Program) (New : Obj → Prop) (N : Nat) (ε : Env) (L : Frag) (o : Oper) (post : Value → Frag → Prop) : Prop := ∀ a, Fits N ε a → wpS P New (execOp a.eval o) (fun x L' => match x with | .value v => post v L' | .skip => post undef L' | _ => False) L
theorem oy {ops : Array Oper} {i : Nat} {rest : List Nat} {d : Option Tmp} {k : Op} {ot : TypeId} {ps : String} {af : Array Edge} {g : Option (Nat × Bool)} {n : Nat} {v : Value} (ho : ops[i]? = some ⟨d, k, ot, ps, af, g⟩) (hy : EY P N ε L ⟨d, k, ot, ps, af, g⟩ v)  (hw : wantedE ops N ε g = some true := by rfl) (hd : dstOk N d = true := by rfl) (h : OpsE Δ P main fn N ops rest n s Q (putE d v ε) L) : OpsE Δ P main fn N ops (i :: rest) (n + 1) s Q ε L :=
 fun a ha => opsL_cons ho (ha.wanted hw) ((hy a ha).go (h _ (ha.put hd v)))
theorem ou {ops : Array Oper} {i : Nat} {rest : List Nat} {d : Option Tmp} {k : Op} {ot : TypeId} {ps : String} {af : Array Edge} {g : Option (Nat × Bool)} {n : Nat} (ho : ops[i]? = some ⟨d, k, ot, ps, af, g⟩)  (hw : wantedE ops N ε g = some false := by rfl) (hd : dstOk N d = true := by rfl) (h : OpsE Δ P main fn N ops rest n s Q (putE d undef ε) L) : OpsE Δ P main fn N ops (i :: rest) (n + 1) s Q ε L :=
 fun a ha => opsL_unwanted ho (ha.wanted hw) (h _ (ha.put hd undef))
theorem oe {ops : Array Oper} {i : Nat} {rest : List Nat} {d : Option Tmp} {k : Op} {ot : TypeId} {ps : String} {af : Array Edge} {g : Option (Nat × Bool)} {n : Nat} {post : Value → Frag → Prop} (ho : ops[i]? = some ⟨d, k, ot, ps, af, g⟩) (hy : EO P (Δ s).New N ε L ⟨d, k, ot, ps, af, g⟩ post)  (hw : wantedE ops N ε g = some true := by rfl) (hd : dstOk N d = true := by rfl) (h : ∀ v L', post v L' → OpsE Δ P main fn N ops rest n s Q (putE d v ε) L') : OpsE Δ P main fn N ops (i :: rest) (n + 1) s Q ε L :=
 fun a ha => opsL_cons ho (ha.wanted hw) (wpS_mono (fun x L' q => by cases x <;> first | exact h _ _ q _ (ha.put hd _) | exact q.elim) _ _ (hy a ha))
theorem oc {ops : Array Oper} {i : Nat} {rest : List Nat} {d : Option Tmp} {k : Op} {ot : TypeId} {ps : String} {af : Array Edge} {g : Option (Nat × Bool)} {f : FuncId} {args : Array Operand} {ats : Array TypeId} {vs : List Value} {nf n : Nat} {Post : σ → Value → Frag → Prop}
   (ho : ops[i]? = some ⟨d, k, ot, ps, af, g⟩) (hop : k = .call { callee := .value (.func f), args, argTypes := ats }) (ha : args.toList.map (ev ε) = vs.map some) (hcall : CallsL Δ P main f vs.toArray nf s L Post)
    (hw : wantedE ops N ε g = some true := by rfl) (hd : dstOk N d = true := by rfl) (h : ∀ s' v L', Post s' v L' → OpsE Δ P main fn N ops rest n s' Q (putE d v ε) L') : OpsE Δ P main fn N ops (i :: rest) (n + nf + 3) s Q ε L := by
 intro a hf
 have e : args.map a.eval = vs.toArray := by
   apply Array.ext'
   simp only [Array.toList_map]
   have : ∀ (l : List Operand) (vs : List Value), l.map (ev ε) = vs.map some → l.map a.eval = vs := by
     intro l
     induction l with
     | nil => intro vs h; cases vs <;> simp_all
     | cons x l ih =>
       intro vs h
       cases vs with
       | nil => simp at h
       | cons v vs =>
         simp only [List.map_cons, List.cons.injEq] at h ⊢
         exact ⟨hf.ev h.1, ih vs h.2⟩
   exact this _ _ ha
 exact opsL_call ho (hf.wanted hw) hop (by rw [e]; exact hcall) fun s' v L' hp => h s' v L' hp _ (hf.put hd v)
theorem c_draw {id : Nat} {ops : Array Oper} (R : Frag) (e : Nat) {nf : Nat}  (hm : P.follows .mixedOrders = true := by first | rfl | kernel_rfl) (h : AnyE Δ P main fn N ops Q nf R L e s ops.size (Array.replicate ops.size false) s ε L) : wpE Δ P main fn N (.region id ops true) (ops.size * (nf + 3) + 1 + 1) s Q ε L :=
 fun a ha => wpL_draw R e hm (h a ha)
theorem c_drawq {id : Nat} {ops : Array Oper}  (hm : P.follows .mixedOrders = true := by first | rfl | kernel_rfl) (h : AnyE Δ P main fn N ops Q 0 L L 1000000 s ops.size (Array.replicate ops.size false) s ε L) : wpE Δ P main fn N (.region id ops true) (ops.size * (0 + 3) + 1 + 1) s Q ε L := c_draw L 1000000 hm h
section
variable {ops : Array Oper} {nf : Nat} {R L0 : Frag} {e : Nat} {s0 : σ} {fuel : Nat} {ls : Array Bool}
theorem pre_init {R : Frag} (hR : ∀ t ∈ R, t ∈ L) : Pre R L e s ls s L := ⟨rfl, hR, fun _ _ h => h⟩
theorem pI : Pre L L e s ls s L := ⟨rfl, fun _ h => h, fun _ _ h => h⟩
theorem pre_more {R L0 : Frag} (hR : ∀ t ∈ R, t ∈ L) (h0 : ∀ t ∈ L0, t ∈ L) : Pre R L0 e s ls s L := ⟨rfl, hR, fun _ => h0⟩
theorem pre_late {R L0 : Frag} (hR : ∀ t ∈ R, t ∈ L) (h : ls.getD e true = true := by first | rfl | decide) : Pre R L0 e s ls s L := ⟨rfl, hR, fun h' => by rw [h] at h'; cases h'⟩
theorem t0 {i : Nat} {d : Option Tmp} {k : Op} {ot : TypeId} {ps : String} {af : Array Edge} {g : Option (Nat × Bool)} {v : Value} (ho : ops[i]? = some ⟨d, k, ot, ps, af, g⟩) (hy : EY P N ε L0 ⟨d, k, ot, ps, af, g⟩ v) (hP : Pre R L0 e s0 ls s L)
   (hs : Region.noSelect ops = true := by kernel_rfl) (hf : Region.free .any ops ls i = true := by kernel_rfl) (hr : (Region.ready .any ops ls).contains i = true := by kernel_rfl) (hie : i ≠ e := by decide) (hh : hangs ops ops.size e i = true := by kernel_rfl) (hw : wantedE ops N ε g = some true := by rfl) (hd : dstOk N d = true := by rfl) (h : AnyE Δ P main fn N ops Q nf R L0 e s0 fuel (ls.setIfInBounds i true) s (putE d v ε) L) :
   AnyE Δ P main fn N ops Q nf R L0 e s0 (fuel + 1) ls s ε L :=
 fun a ha => anyL_take ho hs hf hr hie (.inr ⟨rfl, hh⟩) hP (ha.wanted hw) (hy a ha) (h _ (ha.put hd v))
theorem tr {i : Nat} {d : Option Tmp} {k : Op} {ot : TypeId} {ps : String} {af : Array Edge} {g : Option (Nat × Bool)} {v : Value} (ho : ops[i]? = some ⟨d, k, ot, ps, af, g⟩) (hy : EY P N ε R ⟨d, k, ot, ps, af, g⟩ v) (hP : Pre R L0 e s0 ls s L)
   (hs : Region.noSelect ops = true := by kernel_rfl) (hf : Region.free .any ops ls i = true := by kernel_rfl) (hr : (Region.ready .any ops ls).contains i = true := by kernel_rfl) (hie : i ≠ e := by decide) (hw : wantedE ops N ε g = some true := by rfl) (hd : dstOk N d = true := by rfl) (h : AnyE Δ P main fn N ops Q nf R L0 e s0 fuel (ls.setIfInBounds i true) s (putE d v ε) L) :
   AnyE Δ P main fn N ops Q nf R L0 e s0 (fuel + 1) ls s ε L :=
 fun a ha => anyL_take ho hs hf hr hie (.inl rfl) hP (ha.wanted hw) (hy a ha) (h _ (ha.put hd v))
theorem tu {i : Nat} {d : Option Tmp} {k : Op} {ot : TypeId} {ps : String} {af : Array Edge} {g : Option (Nat × Bool)} (ho : ops[i]? = some ⟨d, k, ot, ps, af, g⟩) (hP : Pre R L0 e s0 ls s L)
   (hs : Region.noSelect ops = true := by kernel_rfl) (hf : Region.free .any ops ls i = true := by kernel_rfl) (hr : (Region.ready .any ops ls).contains i = true := by kernel_rfl) (hie : i ≠ e := by decide) (hw : wantedE ops N ε g = some false := by rfl) (hd : dstOk N d = true := by rfl) (h : AnyE Δ P main fn N ops Q nf R L0 e s0 fuel (ls.setIfInBounds i true) s (putE d undef ε) L) :
   AnyE Δ P main fn N ops Q nf R L0 e s0 (fuel + 1) ls s ε L :=
 fun a ha => anyL_skip ho hs hf hr hie hP (ha.wanted hw) (h _ (ha.put hd undef))
theorem to {i : Nat} {d : Option Tmp} {k : Op} {ot : TypeId} {ps : String} {af : Array Edge} {g : Option (Nat × Bool)} {v : Value} (ho : ops[i]? = some ⟨d, k, ot, ps, af, g⟩) (hy : EY P N ε L ⟨d, k, ot, ps, af, g⟩ v) (hP : Pre R L0 e s0 (ls.setIfInBounds i true) s L)
   (hr : Region.ready .any ops ls = [i] := by kernel_rfl) (hw : wantedE ops N ε g = some true := by rfl) (hd : dstOk N d = true := by rfl) (h : AnyE Δ P main fn N ops Q nf R L0 e s0 fuel (ls.setIfInBounds i true) s (putE d v ε) L) : AnyE Δ P main fn N ops Q nf R L0 e s0 (fuel + 1) ls s ε L :=
 fun a ha => anyL_op hr ho (ha.wanted hw) ((hy a ha).go ⟨hP, h _ (ha.put hd v)⟩)
theorem te {i : Nat} {d : Option Tmp} {k : Op} {ot : TypeId} {ps : String} {af : Array Edge} {g : Option (Nat × Bool)} {post : Value → Frag → Prop} (ho : ops[i]? = some ⟨d, k, ot, ps, af, g⟩) (hy : EO P (Δ s).New N ε L ⟨d, k, ot, ps, af, g⟩ post)
   (hr : Region.ready .any ops ls = [i] := by kernel_rfl) (hw : wantedE ops N ε g = some true := by rfl) (hd : dstOk N d = true := by rfl) (h : ∀ v L', post v L' → Pre R L0 e s0 (ls.setIfInBounds i true) s L' ∧ AnyE Δ P main fn N ops Q nf R L0 e s0 fuel (ls.setIfInBounds i true) s (putE d v ε) L') : AnyE Δ P main fn N ops Q nf R L0 e s0 (fuel + 1) ls s ε L :=
 fun a ha => anyL_op hr ho (ha.wanted hw) (wpS_mono (fun x L' q => by cases x <;> first | exact ⟨(h _ _ q).1, (h _ _ q).2 _ (ha.put hd _)⟩ | exact q.elim) _ _ (hy a ha))
theorem tc {i : Nat} {d : Option Tmp} {k : Op} {ot : TypeId} {ps : String} {af : Array Edge} {g : Option (Nat × Bool)} {f : FuncId} {args : Array Operand} {ats : Array TypeId} {vs : List Value} {Post : σ → Value → Frag → Prop} (ho : ops[i]? = some ⟨d, k, ot, ps, af, g⟩) (hop : k = .call { callee := .value (.func f), args, argTypes := ats }) (ha : args.toList.map (ev ε) = vs.map some) (hcall : CallsL Δ P main f vs.toArray nf s L Post)
   (hr : Region.ready .any ops ls = [i] := by kernel_rfl) (hw : wantedE ops N ε g = some true := by rfl) (hd : dstOk N d = true := by rfl) (h : ∀ s' v L', Post s' v L' → Pre R L0 e s0 (ls.setIfInBounds i true) s' L' ∧ AnyE Δ P main fn N ops Q nf R L0 e s0 fuel (ls.setIfInBounds i true) s' (putE d v ε) L') : AnyE Δ P main fn N ops Q nf R L0 e s0 (fuel + 1) ls s ε L := by
 intro a hf
 have e' : args.map a.eval = vs.toArray := by
   apply Array.ext'
   simp only [Array.toList_map]
   have : ∀ (l : List Operand) (vs : List Value), l.map (ev ε) = vs.map some → l.map a.eval = vs := by
     intro l
     induction l with
     | nil => intro vs h; cases vs <;> simp_all
     | cons x l ih =>
       intro vs h
       cases vs with
       | nil => simp at h
       | cons v vs =>
         simp only [List.map_cons, List.cons.injEq] at h ⊢
         exact ⟨hf.ev h.1, ih vs h.2⟩
   exact this _ _ ha
 exact anyL_call hr ho (hf.wanted hw) hop (by rw [e']; exact hcall) fun s' v L' hp => ⟨(h s' v L' hp).1, (h s' v L' hp).2 _ (hf.put hd v)⟩
theorem anyE_nd (h : (L.map (·.1)).Nodup → AnyE Δ P main fn N ops Q nf R L0 e s0 fuel ls s ε L) : AnyE Δ P main fn N ops Q nf R L0 e s0 fuel ls s ε L := fun a ha => anyL_nd fun hn => h hn a ha
theorem td  (hr : Region.ready .any ops ls = [] := by kernel_rfl) (h : Q s .normal ε L) : AnyE Δ P main fn N ops Q nf R L0 e s0 fuel ls s ε L := fun _ ha => anyL_done hr ⟨ε, ha, h⟩
end
end
end Go.Lo
