/-
  The row of Sums: from what the listed variables read as to the walk's premises; a world that meets the condition; the row.
  No condition but those that each statement names.
-/
import Derived.Test.YtbnaccilnilcmaaDoorHx35
import Derived.Test.YtbnaccilnilcmaaDoorHx36
import Derived.Test.YtbnaccilnilcmaaDoorRows
import Derived.Conc.LeavingOf
import Derived.ChangeSame
import Derived.ChangeVars
import Derived.JoinedOf
import Derived.RowKit
import Derived.RowKitTokens
import Derived.LaidLaws
import Derived.LaidHandle
import Derived.Stop.Joined
set_option linter.unusedVariables false
set_option linter.unusedSimpArgs false
set_option linter.unusedSectionVars false
namespace Go.Proofs.YtbnaccilnilcmaaDoor
open Go.ChangeShapes Go.WideShapes Go.RowKit Go.Conc Go.ConcX Go.Hx

section
variable {H : Type} {enc : TypeId × Value → H}
/-- For a call that starts goroutines, with a condition on the memory beside. -/
theorem leaving_of_change_and {a : Assume} {C : Checked} {os : Os} {f : FuncId} {fn : Func} {s : ChangeSpec} {conds : List PathCond} {apart fresh handsOn again : Bool} {X : World → Array Value → Prop}
    (hX : ∀ (w w' : World) (args : Array Value), w.heap = w'.heap → X w args → X w' args)
    (own : ownKnob C.prog.godebug = none) (started : os.Started) (hfn : C.prog.funcs[f]? = some fn)
    (witness : ∃ (w : World) (tape : Tape) (i : Input), w.os = os ∧ (w.forCall tape i).Shaped C.prog ∧ i.vars = [] ∧ Input.okWide C.prog (w.forCall tape i) .any w.heap.size f i ∧
      ((s.pre enc C.prog fn conds apart (w.forCall tape i).memory i.args ∧ X (w.forCall tape i).memory i.args) ∧ sizedMet enc C.prog fn (OpenSpec.ofChange s) apart (w.forCall tape i).memory i.args) ∧ a.holds C.prog (lone (Frame.enter C.prog f i.args .normal) [] (w.forCall tape i)))
    (runs : ∀ (W : World) (base : Nat) (args : Array Value) (ds gs : List (DataW H)) (before : List MemPlace), W.ShapedOpen C.prog →
      (∀ (j : Nat) t v, fn.params[j]? = some t → args[j]? = some v → Value.okWide C.prog W .any base t v) →
      DataW.Whole enc C.prog fn.params.toList s.vars apart W args.toList ds gs before → X W args →
      ∃ M last o w' t', runNT C.prog (M + 1) (solo (G (Frame.enter C.prog f args .normal) []) W) #[] = (.ended o w', t') ∧ runN C.prog M (solo (G (Frame.enter C.prog f args .normal) []) W) = .next last ∧
        step C.prog last = .ended o w' ∧ Conc.Good C.prog (fun v W' => s.post enc C.prog fn apart fresh handsOn again W args v W') last o w' t') :
    ReturnsInLeavingWide a C os f .any (fun w args => (s.pre enc C.prog fn conds apart w args ∧ X w args) ∧ sizedMet enc C.prog fn (OpenSpec.ofChange s) apart w args) (s.post enc C.prog fn apart fresh handsOn again) := by
  refine returnsInLeavingWide_of_good own started witness ?_
  intro w tape i _ hso _ hok hpre hholds
  obtain ⟨_, _, _, fn', hfn', _, _, _, _, hval⟩ := hok
  have e : fn' = fn := Option.some.inj (hfn'.symm.trans hfn)
  subst e
  obtain ⟨⟨⟨ds, gs, before, hw, hc⟩, hx⟩, hz⟩ := hpre
  have hw' := DataW.Whole.of_heap (w' := w.forCall tape i) (by rfl) hw
  obtain ⟨M, last, o, w', t', h1, h2, h3, h4⟩ := runs (w.forCall tape i) w.heap.size i.args ds gs before hso hval hw' (hX _ _ _ (by rfl) hx)
  exact ⟨M, last, o, w', t', h1, h2, h3, h4.mono fun v hp => ChangeSpec.post_blind hp⟩
end

theorem Tryd.own : ownKnob Tryd.prog.godebug = none := by kernel_rfl
theorem Tryd.et : Tryd.prog.globalNamed "errors.errorType" = some 1 := by kernel_rfl
theorem Tryd.rt : (Tryd.prog.cutTypes.find? (·.1 == "internal/reflectlite.rtype")).map (·.2) = some 151 := by kernel_rfl
theorem Tryd.oneRow : ((List.range Tryd.prog.types.size).filter fun t => Tryd.prog.rowNamed t [101, 114, 114, 111, 114]) = [120] := by kernel_rfl
theorem Tryd.g0 : Tryd.prog.globalNamed "hearth/hearth.errNoInsn" = some 0 := by kernel_rfl
theorem Tryd.g3 : Tryd.prog.globalNamed "hearth/hearth.errNoOperator" = some 3 := by kernel_rfl
theorem Tryd.g4 : Tryd.prog.globalNamed "hearth/hearth.errNoByte" = some 4 := by kernel_rfl
theorem Tryd.t4 : (Tryd.prog.globals[4]?).map (·.type) = some 120 := by kernel_rfl
theorem Tryd.cells189 : Tryd.prog.cellsOf 189 = 1 := by kernel_rfl
theorem Tryd.cells9 : Tryd.prog.cellsOf 9 = 1 := by kernel_rfl
theorem Tryd.star : "*" ++ "errors.errorString" = "*errors.errorString" := by decide
theorem Tryd.row168 (u : TypeId) (h : Tryd.prog.typeName? 3 u = some "*errors.errorString") : u = 168 :=
  typeName_ptr_named (nm := "errors.errorString") (by rw [Tryd.star]; kernel_rfl) (by kernel_rfl) (by decide) u (by rw [Tryd.star]; exact h)

theorem laid_parts {W : World} (h : laidMetH Tryd.prog Rows.sumsRow.laid W) : laidMet Tryd.prog [("hearth/hearth.errNoInsn", Rows.laid_hearth_hearth_errNoInsn), ("hearth/hearth.errNoOperator", Rows.laid_hearth_hearth_errNoOperator), ("hearth/hearth.errNoByte", Rows.laid_hearth_hearth_errNoByte), ("hearth/hearth.errBadCall", Rows.laid_hearth_hearth_errBadCall)] W ∧
    handlesMet Tryd.prog [("errors.errorType", Rows.laid_errors_errorType)] W := h

theorem handle_of_laid {W : World} (h : laidMetH Tryd.prog Rows.sumsRow.laid W) : W.cell? ⟨1, 0, none⟩ = some (.iface 151 (.agg #[.pointer (some ⟨5, 120, none⟩)])) := by
  obtain ⟨name, u, ty, e1, e2, e3, e4, e5⟩ := (laid_parts h).2 _ (List.mem_singleton.2 rfl)
  have en : name = [101, 114, 114, 111, 114] := (Option.some.inj e1).symm
  subst en
  obtain rfl := Option.some.inj (Tryd.rt.symm.trans e2)
  have hm : ty ∈ (List.range Tryd.prog.types.size).filter fun t => Tryd.prog.rowNamed t [101, 114, 114, 111, 114] := List.mem_filter.2 ⟨List.mem_range.2 e3, e4⟩
  rw [Tryd.oneRow] at hm
  obtain rfl := List.mem_singleton.1 hm
  have hh : typeHandle Tryd.prog 120 = .pointer (some ⟨5, 120, none⟩) := by kernel_rfl
  rw [hh] at e5
  simpa using World.var?_cell Tryd.et e5 0

set_option maxRecDepth 100000 in
theorem noByte_of_laid {W : World} (h : laidMetH Tryd.prog Rows.sumsRow.laid W) : ∃ ep, W.cell? ⟨4, 0, none⟩ = some (.iface 168 (.pointer (some ep))) := by
  obtain ⟨ps, ⟨ga, ta, csa, fa, pa, qa, _, _, _, _, ⟨gb, tb, csb, fb, pb, qb, _, _, _, _, ⟨g, t, cs, f, p, q, hg, ht, hv, hd, _, e3⟩, e2⟩, e1⟩, _, hrows⟩ := (laid_parts h).1
  obtain rfl := Option.some.inj (Tryd.g4.symm.trans hg)
  obtain rfl := Option.some.inj (Tryd.t4.symm.trans ht)
  subst e3
  subst e2
  subst e1
  obtain ⟨l⟩ := cs
  have ok : ∀ u v, l = [.iface u v] → Value.okWide Tryd.prog W .any 0 u v := fun u v e => by
    subst e
    exact (hrows 4 0 (by simp [MemPlace.row])).2 u v (by simpa using World.var?_cell hg hv 0)
  obtain ⟨ad, s, rfl, _⟩ := errorString_of_trod Tryd.underlying120 Tryd.row168 Tryd.underlying168 Tryd.underlying189 rfl rfl Tryd.underlying9 Tryd.cells189 Tryd.cells9 hd ok
  exact ⟨ad, by simpa using World.var?_cell hg hv 0⟩

abbrev sI : ByteArray := { data := #[116, 104, 101, 114, 101, 32, 105, 115, 32, 110, 111, 32, 115, 117, 99, 104, 32, 105, 110, 115, 116, 114, 117, 99, 116, 105, 111, 110] }
abbrev sO : ByteArray := { data := #[116, 104, 101, 114, 101, 32, 105, 115, 32, 110, 111, 32, 115, 117, 99, 104, 32, 111, 112, 101, 114, 97, 116, 111, 114] }
abbrev sB : ByteArray := { data := #[116, 104, 101, 114, 101, 32, 105, 115, 32, 110, 111, 32, 115, 117, 99, 104, 32, 98, 121, 116, 101, 32, 111, 102, 32, 109, 101, 109, 111, 114, 121] }
abbrev sC : ByteArray := { data := #[110, 111, 32, 115, 117, 99, 104, 32, 99, 97, 108, 108, 44, 32, 111, 114, 32, 110, 111, 116, 32, 119, 105, 116, 104, 32, 116, 104, 97, 116] }
noncomputable def low : Nat := (World.holding Tryd.prog default ⟨#[], #[], []⟩).heap.size
def lay (h : Array Obj) (g : Nat) (v : Value) : Array Obj := h.modify g fun
  | .cells _ t frozen => .cells #[v] t frozen
  | o => o
/-- A world that meets the condition. -/
noncomputable def laidWorld (os : Os) : World :=
  let w0 := World.holding Tryd.prog os ⟨#[.cells #[.string sI] 189, .cells #[.string sO] 189, .cells #[.string sB] 189, .cells #[.string sC] 189], #[], []⟩
  { w0 with heap := lay (lay (lay (lay (lay w0.heap 0 (.iface 168 (.pointer (some ⟨low, 0, none⟩)))) 3 (.iface 168 (.pointer (some ⟨low + 1, 0, none⟩)))) 4 (.iface 168 (.pointer (some ⟨low + 2, 0, none⟩)))) 2 (.iface 168 (.pointer (some ⟨low + 3, 0, none⟩)))) 1 (.iface 151 (.agg #[.pointer (some ⟨5, 120, none⟩)])) }
set_option maxRecDepth 100000 in
theorem laidWorld_met (os : Os) (args : Array Value) : laidMetH Tryd.prog Rows.sumsRow.laid ((laidWorld os).forCall (fun _ _ => 0) ⟨#[], args, []⟩).memory :=
  laidMetH_of_parts (laidMet_of_run (ps := [.cell 0 0, .cell low 0, .cell 3 0, .cell (low + 1) 0, .cell 4 0, .cell (low + 2) 0, .cell 2 0, .cell (low + 3) 0]) 8 (by kernel_rfl) (by kernel_rfl) (by kernel_rfl)) (by kernel_rfl)

theorem u16_in {n : Int} (h : (Lit.int .u16 n).wf = true) : 0 ≤ n ∧ n < 65536 := by
  simp [Lit.wf, IntKind.min, IntKind.max, IntKind.signed, IntKind.bits] at h
  omega
theorem i64_in {n : Int} (h : (Lit.int .i64 n).wf = true) : -9223372036854775808 ≤ n ∧ n ≤ 9223372036854775807 := by
  simp [Lit.wf, IntKind.min, IntKind.max, IntKind.signed, IntKind.bits] at h
  omega

set_option maxRecDepth 100000 in
theorem sums_lifted (os : Os) (started : os.Started) (H : Type) (enc : TypeId × Value → H) :
    ReturnsInLeavingWide {} Tryd.checked os 3 .any (fun w args => (Rows.sumsSpec.pre enc Tryd.prog Tryd.f3 [] false w args ∧ laidMetH Tryd.prog Rows.sumsRow.laid w) ∧ sizedMet enc Tryd.prog Tryd.f3 (OpenSpec.ofChange Rows.sumsSpec) false w args)
      (Rows.sumsSpec.post enc Tryd.prog Tryd.f3 false true false false) := by
  refine leaving_of_change_and (C := Tryd.checked) (X := fun w _ => laidMetH Tryd.prog Rows.sumsRow.laid w) (fun _ _ _ hh h => h.of_heap hh) Tryd.own started Tryd.func3
    (ChangeSpec.witness_at (enc := enc) (C := Tryd.checked) (os := os) (X := fun w _ => laidMetH Tryd.prog Rows.sumsRow.laid w) false (laidWorld os) #[.int .u16 0, .int .u16 0, .int .i64 0] 8 rfl (by kernel_rfl) (by kernel_rfl) (by kernel_rfl) (by kernel_rfl) (by kernel_rfl) (laidWorld_met os _)) ?_
  intro W base args ds gs before _ hval0 hW hL
  have hval : ∀ (j : Nat) t v, Tryd.f3.params[j]? = some t → args[j]? = some v → Value.okWide Tryd.prog W .any base t v := hval0
  have hW' := hW
  obtain ⟨p, q, hA0, hV0, rfl, hfz, hnd⟩ := hW
  have hA : DataW.TrodAll enc Tryd.prog W 0 (fun _ => true) true Tryd.f3.params.toList args.toList ds p := hA0
  have hV : DataW.TrodVars enc Tryd.prog W (fun _ => true) [] gs q := hV0
  rw [Tryd.params3] at hA hval
  obtain ⟨v0, v1, v2, d0, d1, d2, p0, p1, p2, rfl, rfl, rfl, h0, h1, h2⟩ := trodAll_three hA
  obtain ⟨A, rfl, rfl, rfl, wA⟩ := open_int Tryd.underlying22 (hval 0 22 v0 rfl rfl) h0
  obtain ⟨B, rfl, rfl, rfl, wB⟩ := open_int Tryd.underlying22 (hval 1 22 v1 rfl rfl) h1
  obtain ⟨c, rfl, rfl, rfl, wc⟩ := open_int Tryd.underlying3 (hval 2 3 v2 rfl rfl) h2
  obtain ⟨rfl, rfl⟩ : gs = [] ∧ q = [] := by
    cases gs with
    | nil => exact ⟨rfl, hV⟩
    | cons g r => exact absurd hV (by intro h; cases h)
  obtain ⟨ep, c4⟩ := noByte_of_laid hL
  have c1 := handle_of_laid hL
  have hs4 : 4 < W.heap.size := by
    by_cases hh : 4 < W.heap.size
    · exact hh
    · have hn : W.heap[4]? = none := Array.getElem?_eq_none (by omega)
      simp [World.cell?, hn] at c4
  have e1 : Rows.sumsSpec.fn H ([.lit (.int .u16 A), .lit (.int .u16 B), .lit (.int .i64 c)] ++ []) = { results := [.lit (.bool true)], args := [.lit (.int .u16 A), .lit (.int .u16 B), .lit (.int .i64 c)] } := by simp [Rows.sumsSpec]
  obtain ⟨k, hk⟩ := sums_x (Fin := fun v w' => v = .bool true ∧ W.grownBy w' none)
  obtain ⟨M, last, o, w', t', r1, r2, r3, r4⟩ := law_runs (P := Tryd.prog) (Fin := fun v w' => v = .bool true ∧ W.grownBy w' none) (fun v w w₁ hr h => by
    obtain ⟨d, rfl⟩ := hr
    exact ⟨h.1, h.2.os, h.2.tape, h.2.output, h.2.size, h.2.block⟩) (by kernel_rfl) (hk A B c (u16_in wA) (u16_in wB) (i64_in wc) W ep c4 c1 hs4)
  refine ⟨M, last, o, w', t', r1, r2, r3, r4.mono fun v hF => ?_⟩
  obtain ⟨rfl, hg⟩ := hF
  have hb : Below W.heap.size W w' := ⟨hg.os, hg.tape, hg.output, hg.size, fun k hk => hg.block k hk (by simp)⟩
  refine ⟨_, _, _, [], [], [], hW', ?_, ?_, by rw [e1]; rfl, hb.frame _, fun h => by cases h⟩
  · rw [e1]
    exact trodAll_mk1 (shut_bool Tryd.underlying4 true)
  · rw [e1]
    exact trodAll_mk3 (shut_int Tryd.underlying22 wA) (shut_int Tryd.underlying22 wB) (shut_int Tryd.underlying3 wc)

theorem sums_holds : Rows.SumsSaid :=
  OpenClaim.holds_of_wide_leaving 3 Tryd.f3 rfl rfl rfl rfl rfl rfl rfl ⟨rfl, rfl, rfl, rfl, rfl⟩ rfl rfl rfl rfl rfl (by kernel_rfl) Tryd.func3 (by kernel_rfl)
    (of_decide_eq_true (by kernel_rfl)) (by unfold Func.isWrapper; first | (rw [if_pos (by decide +kernel)]; kernel_rfl) | (rw [if_neg (by decide +kernel)]; exact ⟨rfl, rfl⟩))
    (fun os started H enc _ => sums_lifted os started H enc)
end Go.Proofs.YtbnaccilnilcmaaDoor
