/-
  The tied card of Sums: for all numbers the law answers true.
  No condition but those that each statement names.
-/
import Derived.Test.YtejkelcaljmnoaaGreatDoorHy50
import Derived.Test.YtejkelcaljmnoaaGreatDoorCards
import Derived.Test.YtejkelcaljmnoaaGreatDoorTie
import Derived.SevenTiedAt
set_option maxRecDepth 100000
set_option linter.unusedVariables false
set_option linter.unusedSimpArgs false
set_option linter.unusedSectionVars false
namespace Go.Proofs.YtejkelcaljmnoaaGreatDoor
open Go.ChangeShapes Go.WideShapes Go.RowKit Go.Conc Go.ConcX Go.Hx Go.Lo
theorem sums_params : Tryz.f4.params = #[32, 32, 3] := by first | rfl | kernel_rfl
theorem sums_lifted (os : Os) (started : os.Started) (H : Type) (enc : TypeId × Value → H) :
   ReturnsInLeavingWide {} Tryz.checked os 4 .any (fun w args => (Rows.sumsSpec.pre enc Tryz.prog Tryz.f4 [] false w args ∧ laidMetH Tryz.prog Rows.sumsRow.laid w) ∧ sizedMet enc Tryz.prog Tryz.f4 (OpenSpec.ofChange Rows.sumsSpec) false w args)
     (Rows.sumsSpec.post enc Tryz.prog Tryz.f4 false true false false) := by
 refine leaving_of_change_and (C := Tryz.checked) (X := fun w _ => laidMetH Tryz.prog Rows.sumsRow.laid w) (fun _ _ _ hh h => h.of_heap hh) Tryz.own started Tryz.func4
   (ChangeSpec.witness_at (enc := enc) (C := Tryz.checked) (os := os) (X := fun w _ => laidMetH Tryz.prog Rows.sumsRow.laid w) false (laidWorld os) #[.int .u16 0, .int .u16 0, .int .i64 0] 8 rfl (by kernel_rfl) (by kernel_rfl) (by kernel_rfl) (by kernel_rfl) (by kernel_rfl) (laidWorld_met os _)) ?_
 intro W base args ds gs before _ hval0 hW hL
 have hval : ∀ (j : Nat) t v, Tryz.f4.params[j]? = some t → args[j]? = some v → Value.okWide Tryz.prog W .any base t v := hval0
 have hW' := hW
 obtain ⟨p, q, hA0, hV0, rfl, hfz, hnd⟩ := hW
 have hA : DataW.TrodAll enc Tryz.prog W 0 (fun _ => true) true Tryz.f4.params.toList args.toList ds p := hA0
 have hV : DataW.TrodVars enc Tryz.prog W (fun _ => true) [] gs q := hV0
 rw [sums_params] at hA hval
 obtain ⟨v0, v1, v2, d0, d1, d2, p0, p1, p2, rfl, rfl, rfl, h0, h1, h2⟩ := trodAll_three hA
 obtain ⟨A, rfl, rfl, rfl, wA⟩ := open_int Tryz.underlying32 (hval 0 32 v0 rfl rfl) h0
 obtain ⟨B, rfl, rfl, rfl, wB⟩ := open_int Tryz.underlying32 (hval 1 32 v1 rfl rfl) h1
 obtain ⟨c, rfl, rfl, rfl, wc⟩ := open_int Tryz.underlying3 (hval 2 3 v2 rfl rfl) h2
 obtain ⟨rfl, rfl⟩ : gs = [] ∧ q = [] := by
   cases gs with
   | nil => exact ⟨rfl, hV⟩
   | cons g r => exact absurd hV (by intro h; cases h)
 obtain ⟨eb, hEr⟩ := laid_errs hL
 have e1 : Rows.sumsSpec.fn H ([.lit (.int .u16 A), .lit (.int .u16 B), .lit (.int .i64 c)] ++ []) = { results := [.lit (.bool true)], args := [.lit (.int .u16 A), .lit (.int .u16 B), .lit (.int .i64 c)] } := by simp [Rows.sumsSpec]
 obtain ⟨k, hk⟩ := sums_x
 obtain ⟨M, last, o, w', t', r1, r2, r3, r4⟩ := law_z (by kernel_rfl) (hk (Fin := FinT W) (W := W) (O := W.heap.size) A B c (base0 W) eb (u16_in wA) (u16_in wB) (i64_in wc) (fun_of_nd (base0_nd W)) hEr)
 refine ⟨M, last, o, w', t', r1, r2, r3, r4.mono fun v hF => ?_⟩
 obtain ⟨rfl, hg⟩ := hF
 have hb : Below W.heap.size W w' := ⟨hg.os, hg.tape, hg.output, hg.size, fun k hk => hg.block k hk (by simp)⟩
 refine ⟨_, _, _, [], [], [], hW', ?_, ?_, by rw [e1]; rfl, hb.frame _, fun h => by cases h⟩
 · rw [e1]
   exact trodAll_mk1 (shut_bool Tryz.underlying4 true)
 · rw [e1]
   exact trodAll_mk3 (shut_int Tryz.underlying32 wA) (shut_int Tryz.underlying32 wB) (shut_int Tryz.underlying3 wc)
theorem sums_holds : Rows.SumsSaid :=
 OpenClaim.holds_of_wide_leaving 4 Tryz.f4 rfl rfl rfl rfl rfl rfl rfl ⟨rfl, rfl, rfl, rfl, rfl⟩ rfl rfl rfl rfl rfl (by kernel_rfl) Tryz.func4 (by kernel_rfl)
   (of_decide_eq_true (by kernel_rfl)) (by unfold Func.isWrapper; first | (rw [if_pos (by decide +kernel)]; kernel_rfl) | (rw [if_neg (by decide +kernel)]; exact ⟨rfl, rfl⟩))
   (fun os started H enc _ => sums_lifted os started H enc)
theorem sums_looks (f : FuncId) (fn : Func) (hf : Tryz.prog.funcNamed Rows.sumsRow.func = some f) (hfn : Tryz.prog.funcs[f]? = some fn) : true = Tryz.prog.looks [] ∧ ∀ (j : Nat) t, fn.params[j]? = some t → Tryz.prog.wantsStandIn t = false := by
 obtain rfl : f = 4 := Option.some.inj ((show Tryz.prog.funcNamed Rows.sumsRow.func = some 4 by kernel_rfl).symm.trans hf) |>.symm
 obtain rfl : fn = Tryz.f4 := (Option.some.inj (Tryz.func4.symm.trans hfn)).symm
 refine ⟨by kernel_rfl, fun j t ht => ?_⟩
 rw [sums_params] at ht
 have h3 : t = 32 ∨ t = 3 := by
   rcases j with _ | _ | _ | j
   · left; simpa using ht.symm
   · left; simpa using ht.symm
   · right; simpa using ht.symm
   · simp at ht
 rcases h3 with rfl | rfl
 · exact (show Tryz.prog.wantsStandIn 32 = false by kernel_rfl)
 · exact (show Tryz.prog.wantsStandIn 3 = false by kernel_rfl)
theorem sums_card_holds : Rows.SumsCardSaid :=
 ⟨Claim7.tied_new_at .later [.handle, .sentinel, .sentinel, .sentinel, .sentinel, .sentinel, .sentinel, .sentinel, .sentinel, .sentinel, .sentinel] true (Claim7.new_of_sixth sums_holds (true, "970ab5c25f0320e171c266797abdef5a6933507ad20a6bbc596f247d4f5ef0e3") true rfl ⟨rfl, rfl⟩ (by kernel_rfl) rfl sums_looks) (by kernel_rfl),
   (fun _ h => by cases h), sums_row_tie, (fun h => by cases h), (by kernel_rfl)⟩
end Go.Proofs.YtejkelcaljmnoaaGreatDoor
