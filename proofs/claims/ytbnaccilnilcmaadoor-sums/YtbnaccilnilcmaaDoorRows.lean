/-
  NARROWER THAN 'FOR EVERY INPUT', by the rows' own cells (each row's printed sentence says how): Sums: laid · Fair: laid · Split: laid · Told: laid.
  DERIVED. THE GIVEN ROWS OF THIS SEAT. 4 by the template 'for every input the law returns true; each argument reads behind the call as it read before'; 0 by the template 'total and deterministic' (their statements: YtbnaccilnilcmaaDoorTotals.lean).
  GIVEN WITH THE SEED: the statements are not yours to turn. If you find one false, say at which input.
  Laid BY PROGRAM, IN A SANDBOX (cutbox-rows.mjs): the forced cells as the released guide's own fill.sh prints them over the translation efc63b79af72793a… (all of the seat's roots in one cut). By AI agents, Wed Nov 11 2026. No macro, syntax, notation, axiom, sorry.
-/
import Derived.Test.YtbnaccilnilcmaaDoorChecked
import GoSem.Claim
import GoSem.ClaimJoined
import GoSem.ClaimMapViews
import Derived.JoinedTies
import Derived.KernelRfl
namespace Go.Proofs.YtbnaccilnilcmaaDoor
/- THE CELL 'sum', in the pinned program and in every row, IS THE sha256 OF THE DUMP (.gsa) THAT YtbnaccilnilcmaaDoorProg.lean LOADS. Nothing in Lean hashes anything: it is a label: what it is worth is what the hold of that sum in a sandbox is worth. -/
noncomputable def Tryd.pinned : Pinned := { name := "ytbnaccilnilcmaadoor", sum := "efc63b79af72793a236d12cc1c330c89534980c7a09663997c325289f523548e", checked := Tryd.checked }
namespace Rows
def none {H : Type} : Left H := { results := [], args := [] }

/- WHAT THE LISTED PACKAGE-LEVEL VARIABLES READ AS WHEN THE CALL BEGINS. Each datum BY PROGRAM (the guide's laid-datum.mjs) off the statement by which the dump's own 'gosem.cut.vars' lays the variable. In a bare row this is a premise. The card (YtbnaccilnilcmaaDoorCards.lean) ties it to the program's text. -/
def laid_errors_errorType {H : Type} : DataW H := .iface "internal/reflectlite.rtype" (.agg [.ptr (.lit (.string [101, 114, 114, 111, 114]))])
def laid_hearth_hearth_errNoInsn {H : Type} : DataW H := .iface "*errors.errorString" (.ptr (.agg [.lit (.string [116, 104, 101, 114, 101, 32, 105, 115, 32, 110, 111, 32, 115, 117, 99, 104, 32, 105, 110, 115, 116, 114, 117, 99, 116, 105, 111, 110])]))
def laid_hearth_hearth_errNoOperator {H : Type} : DataW H := .iface "*errors.errorString" (.ptr (.agg [.lit (.string [116, 104, 101, 114, 101, 32, 105, 115, 32, 110, 111, 32, 115, 117, 99, 104, 32, 111, 112, 101, 114, 97, 116, 111, 114])]))
def laid_hearth_hearth_errNoByte {H : Type} : DataW H := .iface "*errors.errorString" (.ptr (.agg [.lit (.string [116, 104, 101, 114, 101, 32, 105, 115, 32, 110, 111, 32, 115, 117, 99, 104, 32, 98, 121, 116, 101, 32, 111, 102, 32, 109, 101, 109, 111, 114, 121])]))
def laid_hearth_hearth_errBadCall {H : Type} : DataW H := .iface "*errors.errorString" (.ptr (.agg [.lit (.string [110, 111, 32, 115, 117, 99, 104, 32, 99, 97, 108, 108, 44, 32, 111, 114, 32, 110, 111, 116, 32, 119, 105, 116, 104, 32, 116, 104, 97, 116])]))

/-- 'hearthkeep.Sums': WHATEVER THE INPUT: true; the input reads as it did. -/
def sumsSpec : ChangeSpec := { name := "sums", fn := fun _ => fun
  | [d1, d2, d3] => { results := [.lit (.bool true)], args := [d1, d2, d3] }
  | _ => none }
def sumsRow : OpenClaim := { program := "ytbnaccilnilcmaadoor", sum := "efc63b79af72793a236d12cc1c330c89534980c7a09663997c325289f523548e", func := "hearth/hearthkeep.Sums", spec := "sums", inPlace := ["(*sync.WaitGroup).Add", "internal/race.ReleaseMerge", "internal/race.Disable", "internal/race.Enable", "internal/synctest.IsInBubble", "internal/synctest.Associate[sync.WaitGroup]", "sync.fatal", "sync/atomic.OrUint64", "sync/atomic.AddUint64", "internal/race.Read", "sync/atomic.LoadUint64", "sync/atomic.StoreUint64", "internal/synctest.Disassociate[sync.WaitGroup]", "sync.runtime_Semrelease", "(*sync.WaitGroup).Done", "internal/reflectlite.ValueOf", "(internal/reflectlite.Value).Type", "(internal/reflectlite.Value).IsNil", "internal/reflectlite.TypeOf", "(internal/reflectlite.Value).Elem", "(internal/reflectlite.Value).Set", "(*sync.WaitGroup).Wait", "internal/race.Acquire", "internal/synctest.IsAssociated[sync.WaitGroup]", "sync/atomic.CompareAndSwapUint64", "internal/race.Write", "sync.runtime_SemacquireWaitGroup"], unfollowed := true, recurses := true, named := ["hearth/hearth.errNoInsn", "hearth/hearth.errBadCall", "hearth/hearth.errNoOperator", "hearth/hearth.errNoByte", "errors.errorType"], leaving := true, apart := false, laid := [("errors.errorType", laid_errors_errorType), ("hearth/hearth.errNoInsn", laid_hearth_hearth_errNoInsn), ("hearth/hearth.errNoOperator", laid_hearth_hearth_errNoOperator), ("hearth/hearth.errNoByte", laid_hearth_hearth_errNoByte), ("hearth/hearth.errBadCall", laid_hearth_hearth_errBadCall)] }
def SumsSaid : Prop := sumsRow.holds Tryd.pinned (OpenSpec.ofChange sumsSpec)

/-- ITS FALSE NEIGHBOUR: 'it returns false'. Refute it at one input. -/
def sumsWrong : ChangeSpec := { name := "sums", fn := fun _ => fun
  | [d1, d2, d3] => { results := [.lit (.bool false)], args := [d1, d2, d3] }
  | _ => none }
def SumsWrongFalsely : Prop := sumsRow.holds Tryd.pinned (OpenSpec.ofChange sumsWrong)

/-- 'hearthkeep.Fair': WHATEVER THE INPUT: true; the input reads as it did. -/
def fairSpec : ChangeSpec := { name := "fair", fn := fun _ => fun
  | [d1, d2, d3, d4, d5, d6] => { results := [.lit (.bool true)], args := [d1, d2, d3, d4, d5, d6] }
  | _ => none }
def fairRow : OpenClaim := { program := "ytbnaccilnilcmaadoor", sum := "efc63b79af72793a236d12cc1c330c89534980c7a09663997c325289f523548e", func := "hearth/hearthkeep.Fair", spec := "fair", inPlace := ["(*sync.WaitGroup).Add", "internal/race.ReleaseMerge", "internal/race.Disable", "internal/race.Enable", "internal/synctest.IsInBubble", "internal/synctest.Associate[sync.WaitGroup]", "sync.fatal", "sync/atomic.OrUint64", "sync/atomic.AddUint64", "internal/race.Read", "sync/atomic.LoadUint64", "sync/atomic.StoreUint64", "internal/synctest.Disassociate[sync.WaitGroup]", "sync.runtime_Semrelease", "(*sync.WaitGroup).Done", "internal/reflectlite.ValueOf", "(internal/reflectlite.Value).Type", "(internal/reflectlite.Value).IsNil", "internal/reflectlite.TypeOf", "(internal/reflectlite.Value).Elem", "(internal/reflectlite.Value).Set", "(*sync.WaitGroup).Wait", "internal/race.Acquire", "internal/synctest.IsAssociated[sync.WaitGroup]", "sync/atomic.CompareAndSwapUint64", "internal/race.Write", "sync.runtime_SemacquireWaitGroup"], unfollowed := true, recurses := true, named := ["hearth/hearth.errNoInsn", "hearth/hearth.errBadCall", "hearth/hearth.errNoOperator", "hearth/hearth.errNoByte", "errors.errorType"], leaving := true, apart := false, laid := [("errors.errorType", laid_errors_errorType), ("hearth/hearth.errNoInsn", laid_hearth_hearth_errNoInsn), ("hearth/hearth.errNoOperator", laid_hearth_hearth_errNoOperator), ("hearth/hearth.errNoByte", laid_hearth_hearth_errNoByte), ("hearth/hearth.errBadCall", laid_hearth_hearth_errBadCall)] }
def FairSaid : Prop := fairRow.holds Tryd.pinned (OpenSpec.ofChange fairSpec)

/-- ITS FALSE NEIGHBOUR: 'it returns false'. Refute it at one input. -/
def fairWrong : ChangeSpec := { name := "fair", fn := fun _ => fun
  | [d1, d2, d3, d4, d5, d6] => { results := [.lit (.bool false)], args := [d1, d2, d3, d4, d5, d6] }
  | _ => none }
def FairWrongFalsely : Prop := fairRow.holds Tryd.pinned (OpenSpec.ofChange fairWrong)

/-- 'hearthkeep.Split': WHATEVER THE INPUT: true; the input reads as it did. -/
def splitSpec : ChangeSpec := { name := "split", fn := fun _ => fun
  | [d1, d2, d3, d4, d5, d6] => { results := [.lit (.bool true)], args := [d1, d2, d3, d4, d5, d6] }
  | _ => none }
def splitRow : OpenClaim := { program := "ytbnaccilnilcmaadoor", sum := "efc63b79af72793a236d12cc1c330c89534980c7a09663997c325289f523548e", func := "hearth/hearthkeep.Split", spec := "split", inPlace := ["(*sync.WaitGroup).Add", "internal/race.ReleaseMerge", "internal/race.Disable", "internal/race.Enable", "internal/synctest.IsInBubble", "internal/synctest.Associate[sync.WaitGroup]", "sync.fatal", "sync/atomic.OrUint64", "sync/atomic.AddUint64", "internal/race.Read", "sync/atomic.LoadUint64", "sync/atomic.StoreUint64", "internal/synctest.Disassociate[sync.WaitGroup]", "sync.runtime_Semrelease", "(*sync.WaitGroup).Done", "internal/reflectlite.ValueOf", "(internal/reflectlite.Value).Type", "(internal/reflectlite.Value).IsNil", "internal/reflectlite.TypeOf", "(internal/reflectlite.Value).Elem", "(internal/reflectlite.Value).Set", "(*sync.WaitGroup).Wait", "internal/race.Acquire", "internal/synctest.IsAssociated[sync.WaitGroup]", "sync/atomic.CompareAndSwapUint64", "internal/race.Write", "sync.runtime_SemacquireWaitGroup"], unfollowed := true, recurses := true, named := ["hearth/hearth.errNoInsn", "hearth/hearth.errBadCall", "hearth/hearth.errNoOperator", "hearth/hearth.errNoByte", "errors.errorType"], leaving := true, apart := false, laid := [("errors.errorType", laid_errors_errorType), ("hearth/hearth.errNoInsn", laid_hearth_hearth_errNoInsn), ("hearth/hearth.errNoOperator", laid_hearth_hearth_errNoOperator), ("hearth/hearth.errNoByte", laid_hearth_hearth_errNoByte), ("hearth/hearth.errBadCall", laid_hearth_hearth_errBadCall)] }
def SplitSaid : Prop := splitRow.holds Tryd.pinned (OpenSpec.ofChange splitSpec)

/-- ITS FALSE NEIGHBOUR: 'it returns false'. Refute it at one input. -/
def splitWrong : ChangeSpec := { name := "split", fn := fun _ => fun
  | [d1, d2, d3, d4, d5, d6] => { results := [.lit (.bool false)], args := [d1, d2, d3, d4, d5, d6] }
  | _ => none }
def SplitWrongFalsely : Prop := splitRow.holds Tryd.pinned (OpenSpec.ofChange splitWrong)

/-- 'hearthkeep.Told': WHATEVER THE INPUT: true; the input reads as it did. -/
def toldSpec : ChangeSpec := { name := "told", fn := fun _ => fun
  | [d1, d2, d3, d4, d5, d6] => { results := [.lit (.bool true)], args := [d1, d2, d3, d4, d5, d6] }
  | _ => none }
def toldRow : OpenClaim := { program := "ytbnaccilnilcmaadoor", sum := "efc63b79af72793a236d12cc1c330c89534980c7a09663997c325289f523548e", func := "hearth/hearthkeep.Told", spec := "told", inPlace := ["(*sync.WaitGroup).Add", "internal/race.ReleaseMerge", "internal/race.Disable", "internal/race.Enable", "internal/synctest.IsInBubble", "internal/synctest.Associate[sync.WaitGroup]", "sync.fatal", "sync/atomic.OrUint64", "sync/atomic.AddUint64", "internal/race.Read", "sync/atomic.LoadUint64", "sync/atomic.StoreUint64", "internal/synctest.Disassociate[sync.WaitGroup]", "sync.runtime_Semrelease", "(*sync.WaitGroup).Done", "internal/reflectlite.ValueOf", "(internal/reflectlite.Value).Type", "(internal/reflectlite.Value).IsNil", "internal/reflectlite.TypeOf", "(internal/reflectlite.Value).Elem", "(internal/reflectlite.Value).Set", "(*sync.WaitGroup).Wait", "internal/race.Acquire", "internal/synctest.IsAssociated[sync.WaitGroup]", "sync/atomic.CompareAndSwapUint64", "internal/race.Write", "sync.runtime_SemacquireWaitGroup"], unfollowed := true, recurses := true, named := ["hearth/hearth.errNoInsn", "hearth/hearth.errBadCall", "hearth/hearth.errNoOperator", "hearth/hearth.errNoByte", "errors.errorType"], leaving := true, apart := false, laid := [("errors.errorType", laid_errors_errorType), ("hearth/hearth.errNoInsn", laid_hearth_hearth_errNoInsn), ("hearth/hearth.errNoOperator", laid_hearth_hearth_errNoOperator), ("hearth/hearth.errNoByte", laid_hearth_hearth_errNoByte), ("hearth/hearth.errBadCall", laid_hearth_hearth_errBadCall)] }
def ToldSaid : Prop := toldRow.holds Tryd.pinned (OpenSpec.ofChange toldSpec)

/-- ITS FALSE NEIGHBOUR: 'it returns false'. Refute it at one input. -/
def toldWrong : ChangeSpec := { name := "told", fn := fun _ => fun
  | [d1, d2, d3, d4, d5, d6] => { results := [.lit (.bool false)], args := [d1, d2, d3, d4, d5, d6] }
  | _ => none }
def ToldWrongFalsely : Prop := toldRow.holds Tryd.pinned (OpenSpec.ofChange toldWrong)

/- THE SECOND FORM. 'bulk': how many values and letters a reading holds, each counted each time it is reached (what is shared counts as often as it is met; a slice's spare places count too). A statement '..UptoSaid' is the law's where the arguments, and the package variables that the reading takes, are together of bulk at most 1048576: NARROWER than '..Said'. Prove '..Said' where nothing that the law and all that it calls make is longer than what came in: it says more and counts as full. Else prove '..UptoSaid'. A law counts once. -/
mutual
def uptoBulk {H : Type} : DataW H → Nat
  | .lit (.string bytes) => bytes.length + 1
  | .lit _ => 1
  | .nil => 1
  | .ptr d => uptoBulk d + 1
  | .slice elems spare => uptoBulkAll elems + uptoBulkAll spare + 1
  | .agg parts => uptoBulkAll parts + 1
  | .iface _ d => uptoBulk d + 1
  | .map entries => uptoBulkEntries entries + 1
  | .held _ => 1
def uptoBulkAll {H : Type} : List (DataW H) → Nat
  | [] => 0
  | d :: r => uptoBulk d + uptoBulkAll r
def uptoBulkEntries {H : Type} : List (Lit × DataW H) → Nat
  | [] => 0
  | x :: r => uptoBulkEntry x + uptoBulkEntries r
def uptoBulkEntry {H : Type} : Lit × DataW H → Nat
  | (.string bytes, d) => bytes.length + uptoBulk d + 1
  | (_, d) => uptoBulk d + 1
 end
def uptoSmall : (H : Type) → List (DataW H) → Bool := fun _ ds => decide (uptoBulkAll ds ≤ 1048576)
def OpenSpec.upto (s : _root_.Go.ChangeSpec) : _root_.Go.OpenSpec := { _root_.Go.OpenSpec.ofChange s with cond := some uptoSmall }

/-- 'hearthkeep.Sums', WHERE WHAT IT READS IS OF BULK AT MOST 1048576: true; the input reads as it did. -/
def sumsUptoRow : OpenClaim := { program := "ytbnaccilnilcmaadoor", sum := "efc63b79af72793a236d12cc1c330c89534980c7a09663997c325289f523548e", func := "hearth/hearthkeep.Sums", spec := "sums", inPlace := ["(*sync.WaitGroup).Add", "internal/race.ReleaseMerge", "internal/race.Disable", "internal/race.Enable", "internal/synctest.IsInBubble", "internal/synctest.Associate[sync.WaitGroup]", "sync.fatal", "sync/atomic.OrUint64", "sync/atomic.AddUint64", "internal/race.Read", "sync/atomic.LoadUint64", "sync/atomic.StoreUint64", "internal/synctest.Disassociate[sync.WaitGroup]", "sync.runtime_Semrelease", "(*sync.WaitGroup).Done", "internal/reflectlite.ValueOf", "(internal/reflectlite.Value).Type", "(internal/reflectlite.Value).IsNil", "internal/reflectlite.TypeOf", "(internal/reflectlite.Value).Elem", "(internal/reflectlite.Value).Set", "(*sync.WaitGroup).Wait", "internal/race.Acquire", "internal/synctest.IsAssociated[sync.WaitGroup]", "sync/atomic.CompareAndSwapUint64", "internal/race.Write", "sync.runtime_SemacquireWaitGroup"], unfollowed := true, recurses := true, named := ["hearth/hearth.errNoInsn", "hearth/hearth.errBadCall", "hearth/hearth.errNoOperator", "hearth/hearth.errNoByte", "errors.errorType"], leaving := true, apart := false, laid := [("errors.errorType", laid_errors_errorType), ("hearth/hearth.errNoInsn", laid_hearth_hearth_errNoInsn), ("hearth/hearth.errNoOperator", laid_hearth_hearth_errNoOperator), ("hearth/hearth.errNoByte", laid_hearth_hearth_errNoByte), ("hearth/hearth.errBadCall", laid_hearth_hearth_errBadCall)], narrowed := true }
def SumsUptoSaid : Prop := sumsUptoRow.holds Tryd.pinned (OpenSpec.upto sumsSpec)

/-- 'hearthkeep.Fair', WHERE WHAT IT READS IS OF BULK AT MOST 1048576: true; the input reads as it did. -/
def fairUptoRow : OpenClaim := { program := "ytbnaccilnilcmaadoor", sum := "efc63b79af72793a236d12cc1c330c89534980c7a09663997c325289f523548e", func := "hearth/hearthkeep.Fair", spec := "fair", inPlace := ["(*sync.WaitGroup).Add", "internal/race.ReleaseMerge", "internal/race.Disable", "internal/race.Enable", "internal/synctest.IsInBubble", "internal/synctest.Associate[sync.WaitGroup]", "sync.fatal", "sync/atomic.OrUint64", "sync/atomic.AddUint64", "internal/race.Read", "sync/atomic.LoadUint64", "sync/atomic.StoreUint64", "internal/synctest.Disassociate[sync.WaitGroup]", "sync.runtime_Semrelease", "(*sync.WaitGroup).Done", "internal/reflectlite.ValueOf", "(internal/reflectlite.Value).Type", "(internal/reflectlite.Value).IsNil", "internal/reflectlite.TypeOf", "(internal/reflectlite.Value).Elem", "(internal/reflectlite.Value).Set", "(*sync.WaitGroup).Wait", "internal/race.Acquire", "internal/synctest.IsAssociated[sync.WaitGroup]", "sync/atomic.CompareAndSwapUint64", "internal/race.Write", "sync.runtime_SemacquireWaitGroup"], unfollowed := true, recurses := true, named := ["hearth/hearth.errNoInsn", "hearth/hearth.errBadCall", "hearth/hearth.errNoOperator", "hearth/hearth.errNoByte", "errors.errorType"], leaving := true, apart := false, laid := [("errors.errorType", laid_errors_errorType), ("hearth/hearth.errNoInsn", laid_hearth_hearth_errNoInsn), ("hearth/hearth.errNoOperator", laid_hearth_hearth_errNoOperator), ("hearth/hearth.errNoByte", laid_hearth_hearth_errNoByte), ("hearth/hearth.errBadCall", laid_hearth_hearth_errBadCall)], narrowed := true }
def FairUptoSaid : Prop := fairUptoRow.holds Tryd.pinned (OpenSpec.upto fairSpec)

/-- 'hearthkeep.Split', WHERE WHAT IT READS IS OF BULK AT MOST 1048576: true; the input reads as it did. -/
def splitUptoRow : OpenClaim := { program := "ytbnaccilnilcmaadoor", sum := "efc63b79af72793a236d12cc1c330c89534980c7a09663997c325289f523548e", func := "hearth/hearthkeep.Split", spec := "split", inPlace := ["(*sync.WaitGroup).Add", "internal/race.ReleaseMerge", "internal/race.Disable", "internal/race.Enable", "internal/synctest.IsInBubble", "internal/synctest.Associate[sync.WaitGroup]", "sync.fatal", "sync/atomic.OrUint64", "sync/atomic.AddUint64", "internal/race.Read", "sync/atomic.LoadUint64", "sync/atomic.StoreUint64", "internal/synctest.Disassociate[sync.WaitGroup]", "sync.runtime_Semrelease", "(*sync.WaitGroup).Done", "internal/reflectlite.ValueOf", "(internal/reflectlite.Value).Type", "(internal/reflectlite.Value).IsNil", "internal/reflectlite.TypeOf", "(internal/reflectlite.Value).Elem", "(internal/reflectlite.Value).Set", "(*sync.WaitGroup).Wait", "internal/race.Acquire", "internal/synctest.IsAssociated[sync.WaitGroup]", "sync/atomic.CompareAndSwapUint64", "internal/race.Write", "sync.runtime_SemacquireWaitGroup"], unfollowed := true, recurses := true, named := ["hearth/hearth.errNoInsn", "hearth/hearth.errBadCall", "hearth/hearth.errNoOperator", "hearth/hearth.errNoByte", "errors.errorType"], leaving := true, apart := false, laid := [("errors.errorType", laid_errors_errorType), ("hearth/hearth.errNoInsn", laid_hearth_hearth_errNoInsn), ("hearth/hearth.errNoOperator", laid_hearth_hearth_errNoOperator), ("hearth/hearth.errNoByte", laid_hearth_hearth_errNoByte), ("hearth/hearth.errBadCall", laid_hearth_hearth_errBadCall)], narrowed := true }
def SplitUptoSaid : Prop := splitUptoRow.holds Tryd.pinned (OpenSpec.upto splitSpec)

/-- 'hearthkeep.Told', WHERE WHAT IT READS IS OF BULK AT MOST 1048576: true; the input reads as it did. -/
def toldUptoRow : OpenClaim := { program := "ytbnaccilnilcmaadoor", sum := "efc63b79af72793a236d12cc1c330c89534980c7a09663997c325289f523548e", func := "hearth/hearthkeep.Told", spec := "told", inPlace := ["(*sync.WaitGroup).Add", "internal/race.ReleaseMerge", "internal/race.Disable", "internal/race.Enable", "internal/synctest.IsInBubble", "internal/synctest.Associate[sync.WaitGroup]", "sync.fatal", "sync/atomic.OrUint64", "sync/atomic.AddUint64", "internal/race.Read", "sync/atomic.LoadUint64", "sync/atomic.StoreUint64", "internal/synctest.Disassociate[sync.WaitGroup]", "sync.runtime_Semrelease", "(*sync.WaitGroup).Done", "internal/reflectlite.ValueOf", "(internal/reflectlite.Value).Type", "(internal/reflectlite.Value).IsNil", "internal/reflectlite.TypeOf", "(internal/reflectlite.Value).Elem", "(internal/reflectlite.Value).Set", "(*sync.WaitGroup).Wait", "internal/race.Acquire", "internal/synctest.IsAssociated[sync.WaitGroup]", "sync/atomic.CompareAndSwapUint64", "internal/race.Write", "sync.runtime_SemacquireWaitGroup"], unfollowed := true, recurses := true, named := ["hearth/hearth.errNoInsn", "hearth/hearth.errBadCall", "hearth/hearth.errNoOperator", "hearth/hearth.errNoByte", "errors.errorType"], leaving := true, apart := false, laid := [("errors.errorType", laid_errors_errorType), ("hearth/hearth.errNoInsn", laid_hearth_hearth_errNoInsn), ("hearth/hearth.errNoOperator", laid_hearth_hearth_errNoOperator), ("hearth/hearth.errNoByte", laid_hearth_hearth_errNoByte), ("hearth/hearth.errBadCall", laid_hearth_hearth_errBadCall)], narrowed := true }
def ToldUptoSaid : Prop := toldUptoRow.holds Tryd.pinned (OpenSpec.upto toldSpec)

end Rows
end Go.Proofs.YtbnaccilnilcmaaDoor
