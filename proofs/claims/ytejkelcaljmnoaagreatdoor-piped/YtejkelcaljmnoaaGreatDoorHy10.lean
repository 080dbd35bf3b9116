/-
  The tied card of Piped: for all numbers and texts the law answers true.
  No condition but those that each statement names.
-/
import Derived.Test.YtejkelcaljmnoaaGreatDoorHy09
import Derived.Test.YtejkelcaljmnoaaGreatDoorCards
import Derived.Test.YtejkelcaljmnoaaGreatDoorTie
import Derived.SevenTiedAt
set_option maxRecDepth 100000
set_option maxHeartbeats 4000000
set_option linter.unusedVariables false
set_option linter.unusedSimpArgs false
set_option linter.unusedSectionVars false
namespace Go.Proofs.YtejkelcaljmnoaaGreatDoor
open Go.ChangeShapes Go.WideShapes Go.WideElems Go.RowKit Go.Conc Go.ConcX Go.Hx Go.Lo
theorem fx : Tryz.f8.params = #[3, 3, 3, 3, 9, 3, 3] := by first | rfl | kernel_rfl
theorem qa : Rows.pipedRow.laid = Rows.sumsRow.laid := rfl
theorem mO (os : Os) (started : os.Started) (H : Type) (enc : TypeId × Value → H) :
   ReturnsInLeavingWide {} Tryz.checked os 8 .any (fun w args => (Rows.pipedSpec.pre enc Tryz.prog Tryz.f8 [] false w args ∧ laidMetH Tryz.prog Rows.pipedRow.laid w) ∧ sizedMet enc Tryz.prog Tryz.f8 (OpenSpec.ofChange Rows.pipedSpec) false w args)
     (Rows.pipedSpec.post enc Tryz.prog Tryz.f8 false true false false) := by
 rw [qa]
 refine fB (C := Tryz.checked) (X := fun w _ => laidMetH Tryz.prog Rows.sumsRow.laid w) (fun _ _ _ hh h => h.of_heap hh) Tryz.own started Tryz.func8
   (ChangeSpec.witness_at (enc := enc) (C := Tryz.checked) (os := os) (X := fun w _ => laidMetH Tryz.prog Rows.sumsRow.laid w) false (laidWorld os) #[.int .i64 0, .int .i64 0, .int .i64 0, .int .i64 0, .string ⟨#[]⟩, .int .i64 0, .int .i64 0] 8 rfl (by kernel_rfl) (by kernel_rfl) (by kernel_rfl) (by kernel_rfl) (by kernel_rfl) (lb os _)) ?_
 intro W base args ds gs before _ hval0 hW hL;have hval : ∀ (j : Nat) t v, Tryz.f8.params[j]? = some t → args[j]? = some v → Value.okWide Tryz.prog W .any base t v := hval0;have hW' := hW;obtain ⟨p, q, hA0, hV0, rfl, hfz, hnd⟩ := hW;have hA : DataW.TrodAll enc Tryz.prog W 0 (fun _ => true) true Tryz.f8.params.toList args.toList ds p := hA0;have hV : DataW.TrodVars enc Tryz.prog W (fun _ => true) [] gs q := hV0;obtain ⟨args⟩ := args;have hA1 := hA;rw [fx] at hA hval;obtain ⟨v0, s0, d0, e0, p0, q0, hs0, rfl, rfl, h0, hA⟩ := trodAll_cons hA;obtain ⟨v1, s1, d1, e1, p1, q1, rfl, rfl, rfl, h1, hA⟩ := trodAll_cons hA;obtain ⟨v2, s2, d2, e2, p2, q2, rfl, rfl, rfl, h2, hA⟩ := trodAll_cons hA;obtain ⟨v3, s3, d3, e3, p3, q3, rfl, rfl, rfl, h3, hA⟩ := trodAll_cons hA;obtain ⟨v4, s4, d4, e4, p4, q4, rfl, rfl, rfl, h4, hA⟩ := trodAll_cons hA;obtain ⟨v5, s5, d5, e5, p5, q5, rfl, rfl, rfl, h5, hA⟩ := trodAll_cons hA;obtain ⟨v6, s6, d6, e6, p6, q6, rfl, rfl, rfl, h6, hA⟩ := trodAll_cons hA;obtain ⟨rfl, rfl, rfl⟩ := trodAll_nil hA;have hs1 : args = [v0, v1, v2, v3, v4, v5, v6] := hs0;subst hs1;obtain ⟨A, rfl, _, _, wA⟩ := open_int U3 (hval 0 3 v0 rfl rfl) h0;obtain ⟨B, rfl, _, _, wB⟩ := open_int U3 (hval 1 3 v1 rfl rfl) h1;obtain ⟨c, rfl, _, _, wc⟩ := open_int U3 (hval 2 3 v2 rfl rfl) h2;obtain ⟨d, rfl, _, _, wd⟩ := open_int U3 (hval 3 3 v3 rfl rfl) h3;obtain ⟨l, rfl, hl, hlm⟩ := vu U9 (hval 4 9 v4 rfl rfl) h4;obtain ⟨ti, rfl, _, _, wt⟩ := open_int U3 (hval 5 3 v5 rfl rfl) h5;obtain ⟨vo, rfl, _, _, wo⟩ := open_int U3 (hval 6 3 v6 rfl rfl) h6;obtain ⟨rfl, rfl⟩ : gs = [] ∧ q = [] := by
   cases gs with
   | nil => exact ⟨rfl, hV⟩
   | cons g r => exact absurd hV (by intro h; cases h)
 obtain ⟨eb, hEr⟩ := sL hL;have e1 : Rows.pipedSpec.fn H ([d0, d1, d2, d3, d4, d5, d6] ++ []) = { results := [.lit (.bool true)], args := [d0, d1, d2, d3, d4, d5, d6] } := rfl;have hF := bF (oC W);obtain ⟨k, hk⟩ := x7;obtain ⟨M, last, o, w', t', r1, r2, r3, r4⟩ := Bn (by kernel_rfl) (hk (Fin := FinT W) (W := W) (O := W.heap.size) A B c d l ti vo (base0 W) eb (je wA) (je wB) (je wc) (je wd) (je wt) (je wo) hl hF hEr);refine ⟨M, last, o, w', t', r1, r2, r3, r4.mono fun v hF => ?_⟩;obtain ⟨rfl, hg⟩ := hF;have hb : Below W.heap.size W w' := ⟨hg.os, hg.tape, hg.output, hg.size, fun k hk => hg.block k hk (by simp)⟩;refine ⟨_, _, _, [], p0 ++ (p1 ++ (p2 ++ (p3 ++ (p4 ++ (p5 ++ (p6 ++ [])))))), [], hW', ?_, ?_, by rw [e1]; rfl, hb.frame _, fun h => by cases h⟩
 · rw [e1];exact trodAll_mk1 (shut_bool Tryz.underlying4 true)
 · rw [e1];refine lN (by kernel_rfl) hb ?_ hA1;rw [fx];intro t ht;have h3 : t = 3 ∨ t = 9 := (show ∀ t ∈ ([3, 3, 3, 3, 9, 3, 3] : List Nat), t = 3 ∨ t = 9 by decide) t ht;rcases h3 with rfl | rfl <;> exact ⟨by kernel_rfl, of_decide_eq_true (by kernel_rfl)⟩
theorem oL : Rows.PipedSaid :=
 OpenClaim.holds_of_wide_leaving 8 Tryz.f8 rfl rfl rfl rfl rfl rfl rfl ⟨rfl, rfl, rfl, rfl, rfl⟩ rfl rfl rfl rfl rfl (by kernel_rfl) Tryz.func8 (by kernel_rfl)
   (of_decide_eq_true (by kernel_rfl)) (by unfold Func.isWrapper; first | (rw [if_pos (by decide +kernel)]; kernel_rfl) | (rw [if_neg (by decide +kernel)]; exact ⟨rfl, rfl⟩))
   (fun os started H enc _ => mO os started H enc)
theorem oM (f : FuncId) (fn : Func) (hf : Tryz.prog.funcNamed Rows.pipedRow.func = some f) (hfn : Tryz.prog.funcs[f]? = some fn) : true = Tryz.prog.looks [] ∧ ∀ (j : Nat) t, fn.params[j]? = some t → Tryz.prog.wantsStandIn t = false := by
 obtain rfl : f = 8 := Option.some.inj ((show Tryz.prog.funcNamed Rows.pipedRow.func = some 8 by kernel_rfl).symm.trans hf) |>.symm;obtain rfl : fn = Tryz.f8 := (Option.some.inj (Tryz.func8.symm.trans hfn)).symm;refine ⟨by kernel_rfl, fun j t ht => ?_⟩;have hm : t ∈ Tryz.f8.params := Array.mem_of_getElem? ht;rw [fx] at hm;have h3 : t = 3 ∨ t = 9 := (show ∀ t ∈ ([3, 3, 3, 3, 9, 3, 3] : List Nat), t = 3 ∨ t = 9 by decide) t hm.val;rcases h3 with rfl | rfl
 · exact (show Tryz.prog.wantsStandIn 3 = false by kernel_rfl)
 · exact (show Tryz.prog.wantsStandIn 9 = false by kernel_rfl)
theorem piped_card_holds : Rows.PipedCardSaid :=
 ⟨Claim7.tied_new_at .later [.handle, .sentinel, .sentinel, .sentinel, .sentinel, .sentinel, .sentinel, .sentinel, .sentinel, .sentinel, .sentinel] true (Claim7.new_of_sixth oL (true, "970ab5c25f0320e171c266797abdef5a6933507ad20a6bbc596f247d4f5ef0e3") true rfl ⟨rfl, rfl⟩ (by kernel_rfl) rfl oM) (by kernel_rfl),
   (fun _ h => by cases h), piped_row_tie, (fun h => by cases h), (by kernel_rfl)⟩
end Go.Proofs.YtejkelcaljmnoaaGreatDoor
