/-
  The tied card of Sums.
  No condition but those that each statement names.
-/
import Derived.Test.YtbnaccilnilcmaaDoorHx37
import Derived.Test.YtbnaccilnilcmaaDoorCards
import Derived.Test.YtbnaccilnilcmaaDoorTie
import Derived.SevenTiedAt
set_option linter.unusedVariables false
set_option linter.unusedSimpArgs false
set_option linter.unusedSectionVars false
namespace Go.Proofs.YtbnaccilnilcmaaDoor
open Go

theorem sums_looks (f : FuncId) (fn : Func) (hf : Tryd.prog.funcNamed Rows.sumsRow.func = some f) (hfn : Tryd.prog.funcs[f]? = some fn) : true = Tryd.prog.looks [] ∧ ∀ (j : Nat) t, fn.params[j]? = some t → Tryd.prog.wantsStandIn t = false := by
  obtain rfl : f = 3 := Option.some.inj ((show Tryd.prog.funcNamed Rows.sumsRow.func = some 3 by kernel_rfl).symm.trans hf) |>.symm
  obtain rfl : fn = Tryd.f3 := (Option.some.inj (Tryd.func3.symm.trans hfn)).symm
  refine ⟨by kernel_rfl, fun j t ht => ?_⟩
  rw [Tryd.params3] at ht
  have h3 : t = 22 ∨ t = 3 := by
    rcases j with _ | _ | _ | j
    · left; simpa using ht.symm
    · left; simpa using ht.symm
    · right; simpa using ht.symm
    · simp at ht
  rcases h3 with rfl | rfl
  · exact (show Tryd.prog.wantsStandIn 22 = false by kernel_rfl)
  · exact (show Tryd.prog.wantsStandIn 3 = false by kernel_rfl)

theorem sums_card_holds : Rows.SumsCardSaid :=
  ⟨Claim7.tied_new_at .later [.handle, .sentinel, .sentinel, .sentinel, .sentinel] true (Claim7.new_of_sixth sums_holds (true, "a4a7bc595896c50d61d86dee41decf7183e8fa90921410d95cb5cc5ce4919235") true rfl ⟨rfl, rfl⟩ (by kernel_rfl) rfl sums_looks) (by kernel_rfl),
    (fun _ h => by cases h), sums_row_tie, (fun h => by cases h), (by kernel_rfl)⟩
end Go.Proofs.YtbnaccilnilcmaaDoor
