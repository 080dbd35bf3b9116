/-
  From the walk of a law to its run.
  No condition but those that each statement names.
-/
import Derived.Test.YtbnaccilnilcmaaDoorHx10
import Derived.Conc.Own3
set_option linter.unusedVariables false
set_option linter.unusedSimpArgs false
set_option linter.unusedSectionVars false
namespace Go.Hx
open Go.Conc Go.ConcX

theorem stepG_leave0 {P : Program} {b : Frame} {a : Act} {w : World} {fn : Func} {todo : List Item} {v : Value} (hn : b.kind = .normal) (hd : a.defers = []) (hf : P.funcs[b.fn]? = some fn) (hi : P.inits.idxOf? b.fn = none)
    (hr : (results fn a.tmps).run P w = .ok v w) : ∃ es, stepG P true (G { b.at a todo with mode := .returning } []) w = .ended (.done v) w es ∧ ∀ e ∈ es, e ∈ (results fn a.tmps).events P w #[] :=
  ⟨_, by simp [G, stepG, unwind, doReturn, Frame.at, hn, hd, hf, hi, hr, GStep.after]; rfl, fun _ he => mem_seen (by simpa using he)⟩

theorem top_x [Payload] {P : Program} {Fin : Value → World → Prop} (hFin : ∀ v w w₁, AtRel w w₁ → Fin v w → Fin v w₁) {f : FuncId} {args : Array Value} {n N : Nat} {W : World} (hi : P.inits.idxOf? f = none)
    (h : CallsX (F0 P Fin) P true f args n (N, []) W fun s' v w' => s'.1 = 0 ∧ Fin v w') : ∃ m, Goes P true AtRel (D0 (Shs [])) (StopQ P Fin N []) m (G (Frame.enter P f args .normal) []) W := by
  obtain ⟨g, c, hf, hname, hbody, hwp⟩ := h
  have hleave : ∀ (s' : Nat × List Nat) (a' : Act) (w' : World) (todo : List Item), (a'.defers = [] ∧ ∃ v, ResultsC P g a'.tmps v ∧ s'.1 = 0 ∧ Fin v w') →
      Goes P true AtRel (D0 (Shs s'.2)) (StopQ P Fin s'.1 s'.2) 0 (G { (base f).at a' todo with mode := .returning } []) w' := by
    rintro ⟨q, s'⟩ a' w' todo ⟨hd, v, hr, h0, hp⟩
    simp only at h0
    subst h0
    refine Goes.stop fun w₁ h₁ => ?_
    obtain ⟨es, h2, h3⟩ := stepG_leave0 (P := P) (b := base f) (todo := todo) rfl hd hf hi (hr w₁).1
    refine ⟨rfl, v, es, h2, fun e he => ?_, hFin _ _ _ h₁ hp⟩
    have := h3 e he
    rw [(hr w₁).2] at this
    simp at this
  refine ⟨1 + n, ?_⟩
  rw [enter_at args hf hbody]
  refine hwp (base f) [] [] 1 rfl (by simp [base]) fun s' e a' w' q => ?_
  cases e with
  | normal => exact Goes.step rfl fun w₁ h₁ => by rw [stepG_end]; exact ⟨((F0 P Fin).terms s').idle _, (hleave s' a' w' [] q).rely ((F0 P Fin).terms s').trans h₁⟩
  | ret => exact fun todo => (hleave s' a' w' todo q).more
  | exit id => exact q.elim
  | goto l => exact q.elim
  | panic ch => exact q.elim
  | outgrown => exact q.elim

/-- A law that calls Run N times, run. -/
theorem law_runs [Payload] {P : Program} {Fin : Value → World → Prop} (hFin : ∀ v w w₁, AtRel w w₁ → Fin v w → Fin v w₁) {f : FuncId} {args : Array Value} {n N : Nat} {W : World} (hi : P.inits.idxOf? f = none)
    (h : CallsX (F0 P Fin) P true f args n (N, []) W fun s' v w' => s'.1 = 0 ∧ Fin v w') :
    ∃ k last o w' t', runNT P (k + 1) (solo (G (Frame.enter P f args .normal) []) W) #[] = (.ended o w', t') ∧ runN P k (solo (G (Frame.enter P f args .normal) []) W) = .next last ∧ step P last = .ended o w' ∧ Good P Fin last o w' t' := by
  obtain ⟨m, hG⟩ := top_x hFin hi h
  exact all_runs N [] #[G (Frame.enter P f args .normal) []] _ W none #[] (fun _ => 0) m rfl (leavers_one P _) past0_nil hG
end Go.Hx
