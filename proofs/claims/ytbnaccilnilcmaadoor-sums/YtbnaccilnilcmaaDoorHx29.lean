/-
  The law's configuration.
  No condition but those that each statement names.
-/
import Derived.Test.YtbnaccilnilcmaaDoorHx28
set_option linter.unusedVariables false
set_option linter.unusedSimpArgs false
set_option linter.unusedSectionVars false
namespace Go.Proofs.YtbnaccilnilcmaaDoor
open Go.Conc Go.RowKit Go.Hx

/-- A configuration's cells. -/
abbrev cfg : Array Value := #[.int .i64 2, .int .i64 3, .int .i64 4, .int .i64 51]

theorem bd27 (w : World) : (Instr.build 27 #[(0, .int .i64 2), (1, .int .i64 3), (2, .int .i64 4)]).run Tryd.prog w = .ok (.agg #[.int .i64 2, .int .i64 3, .int .i64 4]) w := by kernel_rfl
theorem bd27e (w : World) (es : Array Event) : (Instr.build 27 #[(0, .int .i64 2), (1, .int .i64 3), (2, .int .i64 4)]).events Tryd.prog w es = es := by kernel_rfl
theorem bd29 (w : World) : (Instr.build 29 #[(0, .agg #[.int .i64 2, .int .i64 3, .int .i64 4]), (1, .int .i64 51)]).run Tryd.prog w = .ok (.agg cfg) w := by kernel_rfl
theorem bd29e (w : World) (es : Array Event) : (Instr.build 29 #[(0, .agg #[.int .i64 2, .int .i64 3, .int .i64 4]), (1, .int .i64 51)]).events Tryd.prog w es = es := by kernel_rfl

set_option maxRecDepth 100000 in
set_option maxHeartbeats 4000000 in
theorem config_s : ∃ k, ∀ (w : World),
    CallsM Tryd.prog true AtRel (D0 NoSh) 10 #[.int .i64 1, .int .i64 2, .int .i64 3, .int .i64 50] k w fun v w' => v = .agg cfg ∧ w.grownBy w' none := by
  obtain ⟨kp, gp⟩ := pick_s
  co_apply Exists.intro
  intro w
  have hF := GR.refl w
  have w2 : IntKind.i64.wrap 2 = 2 := by decide
  have w3 : IntKind.i64.wrap 3 = 3 := by decide
  have w4 : IntKind.i64.wrap 4 = 4 := by decide
  have w5 : IntKind.i64.wrap 51 = 51 := by decide
  have t1 := bd27
  have t2 := bd27e
  have t3 := bd29
  have t4 := bd29e
  have p1 : pk 1 10 = 1 := by decide
  have p2 : pk 2 10 = 2 := by decide
  have p3 : pk 3 10 = 3 := by decide
  have p4 : pk 50 60 = 50 := by decide
  co_apply callsM_of_wpC Tryd.func10 (by rfl) rfl
  simp only [Tryd.ntmps10, List.size_toArray, List.length_cons, List.length_nil, Nat.reduceAdd, Nat.reduceSub, Array.replicate_succ, Array.replicate_zero, List.push_toArray, List.append_toArray, List.nil_append, List.cons_append]
  co_apply wpC_seq (terms0 NoSh)
  co_reg (terms0 NoSh)
  co_opw (GR.rely) hF (skip) (refine d0c ?_; co_evs (exact evP0))
  rename_i wc
  replace hF := hF.alloc 29 #[.int .i64 0, .int .i64 0, .int .i64 0, .int .i64 0]
  co_apply opsC_nil (terms0 NoSh)
  co_then
  co_apply wpC_seq (terms0 NoSh)
  co_reg (terms0 NoSh)
  co_op (GR.rely) hF (co_still (terms0 NoSh))
  co_apply opsC_call (terms0 NoSh) rfl (by rfl) rfl
  · walk_nrm
    exact gp 1 10 (by omega) (by omega) _
  intro v w' hv
  obtain ⟨rfl, hg⟩ := hv
  replace hF := hF.grown hg
  clear hg
  rw [p1]
  walk_nrm
  co_op (GR.rely) hF (co_still (terms0 NoSh))
  co_op (GR.rely) hF (co_still (terms0 NoSh))
  co_apply opsC_call (terms0 NoSh) rfl (by rfl) rfl
  · walk_nrm
    exact gp 2 10 (by omega) (by omega) _
  intro v w' hv
  obtain ⟨rfl, hg⟩ := hv
  replace hF := hF.grown hg
  clear hg
  rw [p2]
  walk_nrm
  co_op (GR.rely) hF (co_still (terms0 NoSh))
  co_op (GR.rely) hF (co_still (terms0 NoSh))
  co_apply opsC_call (terms0 NoSh) rfl (by rfl) rfl
  · walk_nrm
    exact gp 3 10 (by omega) (by omega) _
  intro v w' hv
  obtain ⟨rfl, hg⟩ := hv
  replace hF := hF.grown hg
  clear hg
  rw [p3]
  walk_nrm
  co_op (GR.rely) hF (co_still (terms0 NoSh))
  co_op (GR.rely) hF (co_still (terms0 NoSh))
  co_op (GR.rely) hF (co_still (terms0 NoSh))
  co_apply opsC_call (terms0 NoSh) rfl (by rfl) rfl
  · walk_nrm
    exact gp 50 60 (by omega) (by omega) _
  intro v w' hv
  obtain ⟨rfl, hg⟩ := hv
  replace hF := hF.grown hg
  clear hg
  rw [p4]
  walk_nrm
  co_op (GR.rely) hF (co_still (terms0 NoSh))
  co_op (GR.rely) hF (co_still (terms0 NoSh))
  co_opw (GR.rely) hF (have hc0 := hF.top (i := 0) rfl; have hc1 := hF.top (i := 1) rfl; have hc2 := hF.top (i := 2) rfl; have hc3 := hF.top (i := 3) rfl; have hz0 := hF.topz 0; have hz1 := hF.topz 1; have hz2 := hF.topz 2; have hz3 := hF.topz 3) (refine d0c ?_; intro e he; have hm := mem_listed he; simp [go_sem, *] at hm; (rcases hm with rfl | rfl | rfl | rfl <;> exact evP0))
  clear hc0 hc1 hc2 hc3 hz0 hz1 hz2 hz3
  replace hF := (((hF.set1 0 (.int .i64 2)).set1 1 (.int .i64 3)).set1 2 (.int .i64 4)).set1 3 (.int .i64 51)
  simp only [List.setIfInBounds_toArray, List.set_cons_zero, List.set_cons_succ] at hF
  co_apply opsC_nil (terms0 NoSh)
  co_then
  co_apply wpC_ret (terms0 NoSh)
  refine ⟨rfl, .agg cfg, fun w₁ h₁ => ?_, rfl, hF.g⟩
  replace hF := hF.rely h₁
  have hc0 := hF.top (i := 0) rfl
  have hc1 := hF.top (i := 1) rfl
  have hc2 := hF.top (i := 2) rfl
  have hc3 := hF.top (i := 3) rfl
  refine ⟨?_, ?_⟩
  · simp [results, Tryd.f10, go_sem, *]
  · intro es hes
    refine d0c fun e he => ?_
    have hm := hes e he
    simp [results, Tryd.f10, go_sem, *] at hm
    rcases hm with rfl | rfl | rfl | rfl <;> exact evP0

theorem ix0 (w : World) : (Instr.index 27 (.agg #[.int .i64 2, .int .i64 3, .int .i64 4]) (.int .i64 0)).run Tryd.prog w = .ok (.int .i64 2) w := by kernel_rfl
theorem ix0e (w : World) (es : Array Event) : (Instr.index 27 (.agg #[.int .i64 2, .int .i64 3, .int .i64 4]) (.int .i64 0)).events Tryd.prog w es = es := by kernel_rfl
theorem ix1 (w : World) : (Instr.index 27 (.agg #[.int .i64 2, .int .i64 3, .int .i64 4]) (.int .i64 1)).run Tryd.prog w = .ok (.int .i64 3) w := by kernel_rfl
theorem ix1e (w : World) (es : Array Event) : (Instr.index 27 (.agg #[.int .i64 2, .int .i64 3, .int .i64 4]) (.int .i64 1)).events Tryd.prog w es = es := by kernel_rfl
theorem ix2 (w : World) : (Instr.index 27 (.agg #[.int .i64 2, .int .i64 3, .int .i64 4]) (.int .i64 2)).run Tryd.prog w = .ok (.int .i64 4) w := by kernel_rfl
theorem ix2e (w : World) (es : Array Event) : (Instr.index 27 (.agg #[.int .i64 2, .int .i64 3, .int .i64 4]) (.int .i64 2)).events Tryd.prog w es = es := by kernel_rfl

set_option maxRecDepth 100000 in
set_option maxHeartbeats 4000000 in
theorem isConfig_s : ∃ k, ∀ (w : World),
    CallsC Tryd.prog true AtRel (D0 NoSh) 27 #[.agg cfg] k w fun v w' => v = .bool true ∧ w.grownBy w' none := by
  co_apply Exists.intro
  intro w
  have hF := GR.refl w
  have w1 : IntKind.i64.wrap 1 = 1 := by decide
  have w2 : IntKind.i64.wrap 2 = 2 := by decide
  have w3 : IntKind.i64.wrap 3 = 3 := by decide
  have i0 := ix0
  have i0e := ix0e
  have i1 := ix1
  have i1e := ix1e
  have i2 := ix2
  have i2e := ix2e
  co_apply callsC_of_wpC Tryd.func27 (by rfl) rfl
  simp only [Tryd.ntmps27, List.size_toArray, List.length_cons, List.length_nil, Nat.reduceAdd, Nat.reduceSub, Array.replicate_succ, Array.replicate_zero, List.push_toArray, List.append_toArray, List.nil_append, List.cons_append]
  co_apply wpC_seq (terms0 NoSh)
  co_reg (terms0 NoSh)
  co_opw (GR.rely) hF (skip) (refine d0c ?_; co_evs (exact evP0))
  replace hF := hF.alloc 29 cfg
  co_op (GR.rely) hF (co_still (terms0 NoSh))
  co_apply opsC_nil (terms0 NoSh)
  co_then
  co_apply wpC_seq (terms0 NoSh)
  co_apply wpC_seq (terms0 NoSh)
  co_reg (terms0 NoSh)
  co_op (GR.rely) hF (co_still (terms0 NoSh))
  co_opw (GR.rely) hF (have hc0 := hF.top (i := 0) rfl; have hc1 := hF.top (i := 1) rfl; have hc2 := hF.top (i := 2) rfl) (refine d0c ?_; intro e he; have hm := mem_listed he; simp [go_sem, *] at hm; (rcases hm with rfl | rfl | rfl <;> exact evP0))
  clear hc0 hc1 hc2
  co_op (GR.rely) hF (co_still (terms0 NoSh))
  co_apply opsC_nil (terms0 NoSh)
  co_then
  co_apply wpC_block (terms0 NoSh)
  co_apply wpC_loop1 (terms0 NoSh)
  co_apply wpC_seq (terms0 NoSh)
  co_reg (terms0 NoSh)
  co_op (GR.rely) hF (co_still (terms0 NoSh))
  co_apply opsC_nil (terms0 NoSh)
  co_then
  co_apply wpC_seq (terms0 NoSh)
  co_apply wpC_cond (terms0 NoSh) (t := true)
  focus (exact rfl)
  simp only [if_true, if_false, Bool.false_eq_true, reduceIte]
  co_apply wpC_skip (terms0 NoSh)
  co_then
  co_apply wpC_seq (terms0 NoSh)
  co_apply wpC_block (terms0 NoSh)
  co_apply wpC_seq (terms0 NoSh)
  co_reg (terms0 NoSh)
  co_op (GR.rely) hF (co_still (terms0 NoSh))
  co_op (GR.rely) hF (co_still (terms0 NoSh))
  co_apply opsC_nil (terms0 NoSh)
  co_then
  co_apply wpC_seq (terms0 NoSh)
  co_reg (terms0 NoSh)
  co_op (GR.rely) hF (co_still (terms0 NoSh))
  co_op (GR.rely) hF (co_still (terms0 NoSh))
  co_op (GR.rely) hF (co_still (terms0 NoSh))
  co_op (GR.rely) hF (co_still (terms0 NoSh))
  co_op (GR.rely) hF (co_still (terms0 NoSh))
  co_op (GR.rely) hF (co_still (terms0 NoSh))
  co_apply opsC_nil (terms0 NoSh)
  co_then
  co_apply wpC_cond (terms0 NoSh) (t := false)
  focus (exact rfl)
  simp only [if_true, if_false, Bool.false_eq_true, reduceIte]
  co_apply wpC_skip (terms0 NoSh)
  co_then
  co_reg (terms0 NoSh)
  co_op (GR.rely) hF (co_still (terms0 NoSh))
  co_op (GR.rely) hF (co_still (terms0 NoSh))
  co_apply opsC_nil (terms0 NoSh)
  co_then
  co_apply loopC1 (terms0 NoSh)
  co_apply wpC_seq (terms0 NoSh)
  co_reg (terms0 NoSh)
  co_op (GR.rely) hF (co_still (terms0 NoSh))
  co_apply opsC_nil (terms0 NoSh)
  co_then
  co_apply wpC_seq (terms0 NoSh)
  co_apply wpC_cond (terms0 NoSh) (t := true)
  focus (exact rfl)
  simp only [if_true, if_false, Bool.false_eq_true, reduceIte]
  co_apply wpC_skip (terms0 NoSh)
  co_then
  co_apply wpC_seq (terms0 NoSh)
  co_apply wpC_block (terms0 NoSh)
  co_apply wpC_seq (terms0 NoSh)
  co_reg (terms0 NoSh)
  co_op (GR.rely) hF (co_still (terms0 NoSh))
  co_op (GR.rely) hF (co_still (terms0 NoSh))
  co_apply opsC_nil (terms0 NoSh)
  co_then
  co_apply wpC_seq (terms0 NoSh)
  co_reg (terms0 NoSh)
  co_op (GR.rely) hF (co_still (terms0 NoSh))
  co_op (GR.rely) hF (co_still (terms0 NoSh))
  co_op (GR.rely) hF (co_still (terms0 NoSh))
  co_op (GR.rely) hF (co_still (terms0 NoSh))
  co_op (GR.rely) hF (co_still (terms0 NoSh))
  co_op (GR.rely) hF (co_still (terms0 NoSh))
  co_apply opsC_nil (terms0 NoSh)
  co_then
  co_apply wpC_cond (terms0 NoSh) (t := false)
  focus (exact rfl)
  simp only [if_true, if_false, Bool.false_eq_true, reduceIte]
  co_apply wpC_skip (terms0 NoSh)
  co_then
  co_reg (terms0 NoSh)
  co_op (GR.rely) hF (co_still (terms0 NoSh))
  co_op (GR.rely) hF (co_still (terms0 NoSh))
  co_apply opsC_nil (terms0 NoSh)
  co_then
  co_apply loopC1 (terms0 NoSh)
  co_apply wpC_seq (terms0 NoSh)
  co_reg (terms0 NoSh)
  co_op (GR.rely) hF (co_still (terms0 NoSh))
  co_apply opsC_nil (terms0 NoSh)
  co_then
  co_apply wpC_seq (terms0 NoSh)
  co_apply wpC_cond (terms0 NoSh) (t := true)
  focus (exact rfl)
  simp only [if_true, if_false, Bool.false_eq_true, reduceIte]
  co_apply wpC_skip (terms0 NoSh)
  co_then
  co_apply wpC_seq (terms0 NoSh)
  co_apply wpC_block (terms0 NoSh)
  co_apply wpC_seq (terms0 NoSh)
  co_reg (terms0 NoSh)
  co_op (GR.rely) hF (co_still (terms0 NoSh))
  co_op (GR.rely) hF (co_still (terms0 NoSh))
  co_apply opsC_nil (terms0 NoSh)
  co_then
  co_apply wpC_seq (terms0 NoSh)
  co_reg (terms0 NoSh)
  co_op (GR.rely) hF (co_still (terms0 NoSh))
  co_op (GR.rely) hF (co_still (terms0 NoSh))
  co_op (GR.rely) hF (co_still (terms0 NoSh))
  co_op (GR.rely) hF (co_still (terms0 NoSh))
  co_op (GR.rely) hF (co_still (terms0 NoSh))
  co_op (GR.rely) hF (co_still (terms0 NoSh))
  co_apply opsC_nil (terms0 NoSh)
  co_then
  co_apply wpC_cond (terms0 NoSh) (t := false)
  focus (exact rfl)
  simp only [if_true, if_false, Bool.false_eq_true, reduceIte]
  co_apply wpC_skip (terms0 NoSh)
  co_then
  co_reg (terms0 NoSh)
  co_op (GR.rely) hF (co_still (terms0 NoSh))
  co_op (GR.rely) hF (co_still (terms0 NoSh))
  co_apply opsC_nil (terms0 NoSh)
  co_then
  co_apply loopC0 (terms0 NoSh)
  co_apply wpC_seq (terms0 NoSh)
  co_reg (terms0 NoSh)
  co_op (GR.rely) hF (co_still (terms0 NoSh))
  co_apply opsC_nil (terms0 NoSh)
  co_then
  co_apply wpC_seq (n₂ := 0) (terms0 NoSh)
  co_apply wpC_cond (terms0 NoSh) (t := false)
  focus (exact rfl)
  simp only [if_true, if_false, Bool.false_eq_true, reduceIte]
  co_apply wpC_exit (terms0 NoSh)
  try co_then
  co_apply wpC_seq (terms0 NoSh)
  co_reg (terms0 NoSh)
  co_op (GR.rely) hF (co_still (terms0 NoSh))
  co_opw (GR.rely) hF (have hc3 := hF.top (i := 3) rfl) (refine d0c ?_; co_evs (exact evP0))
  clear hc3
  co_op (GR.rely) hF (co_still (terms0 NoSh))
  co_op (GR.rely) hF (co_still (terms0 NoSh))
  co_op (GR.rely) hF (co_still (terms0 NoSh))
  co_opw (GR.rely) hF (have hc3 := hF.top (i := 3) rfl) (refine d0c ?_; co_evs (exact evP0))
  clear hc3
  co_op (GR.rely) hF (co_still (terms0 NoSh))
  co_op (GR.rely) hF (co_still (terms0 NoSh))
  co_op (GR.rely) hF (co_still (terms0 NoSh))
  co_apply opsC_nil (terms0 NoSh)
  co_then
  co_apply wpC_ret (terms0 NoSh)
  exact ⟨rfl, _, resultsC_tmp (by rfl) _, rfl, hF.g⟩
end Go.Proofs.YtbnaccilnilcmaaDoor
/-
  An image is one by its length.
  No condition but those that each statement names.
-/
namespace Go.Proofs.YtbnaccilnilcmaaDoor
open Go.Conc Go.RowKit Go.Hx

set_option maxRecDepth 100000 in
set_option maxHeartbeats 4000000 in
theorem isImage_s : ∃ k, ∀ (g cap : Nat) (w : World),
    CallsC Tryd.prog true AtRel (D0 NoSh) 28 #[.slice (some ⟨g, 0, none⟩) 44 cap] k w fun v w' => v = .bool true ∧ w.grownBy w' none := by
  co_apply Exists.intro
  intro g cap w
  have hF := GR.refl w
  have w0 : IntKind.i64.wrap 0 = 0 := by decide
  have w44 : IntKind.i64.wrap 44 = 44 := by decide
  have r : (44 : Int).tmod 4 = 0 := by decide
  co_apply callsC_of_wpC Tryd.func28 (by rfl) rfl
  simp only [Tryd.ntmps28, List.size_toArray, List.length_cons, List.length_nil, Nat.reduceAdd, Nat.reduceSub, Array.replicate_succ, Array.replicate_zero, List.push_toArray, List.append_toArray, List.nil_append, List.cons_append]
  co_apply wpC_seq (terms0 NoSh)
  co_reg (terms0 NoSh)
  co_op (GR.rely) hF (co_still (terms0 NoSh))
  co_apply opsC_nil (terms0 NoSh)
  co_then
  co_apply wpC_seq (terms0 NoSh)
  co_reg (terms0 NoSh)
  co_op (GR.rely) hF (co_still (terms0 NoSh))
  co_op (GR.rely) hF (co_still (terms0 NoSh))
  co_op (GR.rely) hF (co_still (terms0 NoSh))
  co_apply opsC_nil (terms0 NoSh)
  co_then
  co_apply wpC_seq (terms0 NoSh)
  co_reg (terms0 NoSh)
  co_op (GR.rely) hF (co_still (terms0 NoSh))
  co_op (GR.rely) hF (co_still (terms0 NoSh))
  co_op (GR.rely) hF (co_still (terms0 NoSh))
  co_op (GR.rely) hF (co_still (terms0 NoSh))
  co_op (GR.rely) hF (co_still (terms0 NoSh))
  co_op (GR.rely) hF (co_still (terms0 NoSh))
  co_op (GR.rely) hF (co_still (terms0 NoSh))
  co_op (GR.rely) hF (co_still (terms0 NoSh))
  co_op (GR.rely) hF (co_still (terms0 NoSh))
  co_op (GR.rely) hF (co_still (terms0 NoSh))
  co_op (GR.rely) hF (co_still (terms0 NoSh))
  co_op (GR.rely) hF (co_still (terms0 NoSh))
  co_apply opsC_nil (terms0 NoSh)
  co_then
  co_apply wpC_ret (terms0 NoSh)
  exact ⟨rfl, _, resultsC_tmp (by rfl) _, rfl, hF.g⟩
end Go.Proofs.YtbnaccilnilcmaaDoor
