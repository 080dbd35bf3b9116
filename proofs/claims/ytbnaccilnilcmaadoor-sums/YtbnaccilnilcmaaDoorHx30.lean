/-
  The image is decoded.
  No condition but those that each statement names.
-/
import Derived.Test.YtbnaccilnilcmaaDoorHx29
import Derived.Test.YtbnaccilnilcmaaDoorHx28
import Derived.Laws.Tables
set_option linter.unusedVariables false
set_option linter.unusedSimpArgs false
set_option linter.unusedSectionVars false
namespace Go.Proofs.YtbnaccilnilcmaaDoor
open Go.Conc Go.RowKit Go.Hx

/-- The image in memory. -/
def Im (g : Nat) (im : List Int) (w : World) : Prop := ∃ (C : Array Value) (fr : Nat × Nat), w.heap[g]? = some (.cells C 5 fr) ∧ ∀ (j : Nat) (v : Int), im[j]? = some v → C[j]? = some (Value.int .u8 v)
theorem Im.cell {g : Nat} {im : List Int} {w : World} (h : Im g im w) {j : Nat} {v : Int} (hv : im[j]? = some v) : w.cell? ⟨g, j, none⟩ = some (.int .u8 v) := by
  obtain ⟨C, fr, h1, h2⟩ := h
  simp [World.cell?, h1, h2 j v hv]
theorem Im.grown {g : Nat} {im : List Int} {w w' : World} (h : Im g im w) (hg : w.grownBy w' none) : Im g im w' := by
  obtain ⟨C, fr, h1, h2⟩ := h
  exact ⟨C, fr, (hg.block g (Array.getElem?_eq_some_iff.1 h1).1 (by simp)).trans h1, h2⟩

/-- What is known while it is decoded. -/
structure Dc (W : World) (g : Nat) (im : List Int) (prog : Value) (q : Nat) (xs : List Value) (w : World) : Prop where
  gr : W.grownBy w none
  im : Im g im w
  row : w.ownsRow W.heap.size 110 4 prog q xs
theorem Dc.rely {W : World} {g : Nat} {im : List Int} {prog : Value} {q : Nat} {xs : List Value} {w w₁ : World} (h : Dc W g im prog q xs w) (r : AtRel w w₁) : Dc W g im prog q xs w₁ := by
  obtain ⟨d, rfl⟩ := r
  exact ⟨⟨h.gr.os, h.gr.tape, h.gr.output, h.gr.size, h.gr.block⟩, h.im, h.row⟩

def Ds (W : World) (g : Nat) (im : List Int) (w : World) : Prop := W.grownBy w none ∧ Im g im w
theorem Ds.rely {W : World} {g : Nat} {im : List Int} {w w₁ : World} (h : Ds W g im w) (r : AtRel w w₁) : Ds W g im w₁ := by
  obtain ⟨d, rfl⟩ := r
  exact ⟨⟨h.1.os, h.1.tape, h.1.output, h.1.size, h.1.block⟩, h.2⟩
theorem info110 : ∃ i z, Tryd.prog.info? 110 = some i ∧ i.zero = some z ∧ i.size = 4 ∧ i.bytes = 4 ∧ z.cells.size = 4 := by
  have h : (Tryd.prog.info? 110).map (fun i => (i.zero.map (·.cells.size), i.size, i.bytes)) = some (some 4, 4, 4) := by kernel_rfl
  obtain ⟨i, hi, h2⟩ := Option.map_eq_some_iff.1 h
  simp only [Prod.mk.injEq] at h2
  obtain ⟨z, hz, h3⟩ := Option.map_eq_some_iff.1 h2.1
  exact ⟨i, z, hi, hz, h2.2.1, h2.2.2, h3⟩

theorem ev_build110 (b0 b1 b2 b3 : Int) (w : World) (es : Array Event) : (Instr.build 110 #[(0, .int .u8 b0), (1, .int .u8 b1), (2, .int .u8 b2), (3, .int .u8 b3)]).events Tryd.prog w es = es := by
  have hz : (zeroValue 110).run Tryd.prog w = .ok (.agg #[.int .u8 0, .int .u8 0, .int .u8 0, .int .u8 0]) w := by kernel_rfl
  have hs : (sizeOf 5).run Tryd.prog w = .ok 1 w := by kernel_rfl
  simp [Instr.build, hz, run_underlying Tryd.underlying110, List.mapM_cons, hs]
  split <;> simp

def dAt (g cap n : Nat) (prog t5 t6 t7 t8 t9 t10 t11 t12 t13 t14 t15 t16 t17 t18 t19 t20 t21 t22 t23 t24 t25 t26 t27 t28 t29 t30 t31 t32 t33 t34 t35 : Value) : Act :=
  { tmps := #[.slice (some ⟨g, 0, none⟩) 44 cap, undef, .slice none 0 0, prog, .int .i64 (n : Int), t5, t6, t7, t8, t9, t10, t11, t12, t13, t14, t15, t16, t17, t18, t19, t20, t21, t22, t23, t24, t25, t26, t27, t28, t29, t30, t31, t32, t33, t34, t35], defers := [] }

set_option maxRecDepth 100000 in
set_option maxHeartbeats 8000000 in
theorem decode_round : ∃ k, ∀ (c R0 R1 R2 T6 : Code) (hc : Tryd.f29.body = some (.seq R0 (.seq R1 (.seq (.seq R2 (.block 0 (.loop c))) T6)))) (g cap q n : Nat) (hn : n = 4 * q) (hq : q < 11) (im : List Int) (b0 b1 b2 b3 : Int) (h0 : im[n]? = some b0) (h1 : im[n + 1]? = some b1) (h2 : im[n + 2]? = some b2) (h3 : im[n + 3]? = some b3)
    (prog : Value) (xs : List Value) (Qx : Exit → Act → World → Prop) (k2 : Nat) (W : World) (hW : Im g im W) (H : ∀ prog' t5 t6 t7 t8 t9 t10 t11 t12 t13 t14 t15 t16 t17 t18 t19 t20 t21 t22 t23 t24 t25 t26 t27 t28 t29 t30 t31 t32 t33 t34 t35 w', Dc W g im prog' (q + 1) (xs ++ [.int .u8 b0, .int .u8 b1, .int .u8 b2, .int .u8 b3]) w' → LoopC Tryd.prog true AtRel (D0 NoSh) 29 c k2 Qx (dAt g cap (n + 4) prog' t5 t6 t7 t8 t9 t10 t11 t12 t13 t14 t15 t16 t17 t18 t19 t20 t21 t22 t23 t24 t25 t26 t27 t28 t29 t30 t31 t32 t33 t34 t35) w') (t5 t6 t7 t8 t9 t10 t11 t12 t13 t14 t15 t16 t17 t18 t19 t20 t21 t22 t23 t24 t25 t26 t27 t28 t29 t30 t31 t32 t33 t34 t35 : Value) (w : World), Dc W g im prog q xs w →
    c.wpC Tryd.prog true AtRel (D0 NoSh) 29 k (Exit.then (fun a' w' => LoopC Tryd.prog true AtRel (D0 NoSh) 29 c k2 Qx a' w') Qx) (dAt g cap n prog t5 t6 t7 t8 t9 t10 t11 t12 t13 t14 t15 t16 t17 t18 t19 t20 t21 t22 t23 t24 t25 t26 t27 t28 t29 t30 t31 t32 t33 t34 t35) w := by
  co_apply Exists.intro
  intro c R0 R1 R2 T6 hc g cap q n hn hq im b0 b1 b2 b3 h0 h1 h2 h3 prog xs Qx k2 W hW H t5 t6 t7 t8 t9 t10 t11 t12 t13 t14 t15 t16 t17 t18 t19 t20 t21 t22 t23 t24 t25 t26 t27 t28 t29 t30 t31 t32 t33 t34 t35 w hF
  simp only [Tryd.f29, Option.some.injEq, Code.seq.injEq, Code.block.injEq, Code.loop.injEq, true_and] at hc
  obtain ⟨_, _, ⟨_, rfl⟩, _⟩ := hc
  unfold dAt
  have hn44 : n + 3 < 44 := by omega
  clear hn
  have q4 : IntKind.i64.wrap ((n : Int) + 4) = (n : Int) + 4 := by simp [IntKind.wrap_i64]; omega
  have q1 : IntKind.i64.wrap ((n : Int) + 1) = (n : Int) + 1 := by simp [IntKind.wrap_i64]; omega
  have q2 : IntKind.i64.wrap ((n : Int) + 2) = (n : Int) + 2 := by simp [IntKind.wrap_i64]; omega
  have q3 : IntKind.i64.wrap ((n : Int) + 3) = (n : Int) + 3 := by simp [IntKind.wrap_i64]; omega
  have l1 : (n : Int) + 4 ≤ 44 := by omega
  co_apply wpC_seq (terms0 NoSh)
  co_apply wpC_seq (terms0 NoSh)
  co_reg (terms0 NoSh)
  co_op (Dc.rely) hF (co_still (terms0 NoSh))
  co_op (Dc.rely) hF (co_still (terms0 NoSh))
  co_op (Dc.rely) hF (co_still (terms0 NoSh))
  co_op (Dc.rely) hF (co_still (terms0 NoSh))
  co_op (Dc.rely) hF (co_still (terms0 NoSh))
  co_apply opsC_nil (terms0 NoSh)
  co_then
  co_apply wpC_cond (terms0 NoSh) (t := true)
  focus (exact rfl)
  simp only [if_true, if_false, Bool.false_eq_true, reduceIte]
  co_apply wpC_skip (terms0 NoSh)
  co_then
  co_apply wpC_seq (terms0 NoSh)
  co_apply wpC_block (terms0 NoSh)
  have l2 : (n : Int) < 44 := by omega
  have l3 : (n : Int) + 1 < 44 := by omega
  have l4 : (n : Int) + 2 < 44 := by omega
  have l5 : (n : Int) + 3 < 44 := by omega
  have m1 : 0 ≤ (n : Int) + 1 := by omega
  have m2 : 0 ≤ (n : Int) + 2 := by omega
  have m3 : 0 ≤ (n : Int) + 3 := by omega
  have tn1 : ((n : Int) + 1).toNat = n + 1 := by omega
  have tn2 : ((n : Int) + 2).toNat = n + 2 := by omega
  have tn3 : ((n : Int) + 3).toNat = n + 3 := by omega
  have bd := fun (w : World) => run_build (P := Tryd.prog) w 110 #[(0, .int .u8 b0), (1, .int .u8 b1), (2, .int .u8 b2), (3, .int .u8 b3)] #[.int .u8 b0, .int .u8 b1, .int .u8 b2, .int .u8 b3] (by kernel_rfl)
  have be := fun (w : World) (es : Array Event) => ev_build110 b0 b1 b2 b3 w es
  co_held (terms0 NoSh) (drawD0 NoSh) drawAt (Ds W g im) Dc.rely hF
  have hS : Ds W g im _ := ⟨hF.gr, hF.im⟩
  co_applyP anyCH_take (terms0 NoSh) (fun _ _ h r => Ds.rely h r) (fun _ _ _ h r => wpC_rely (terms0 NoSh) h r) (i := 0) rfl (by first | kernel_rfl | decide +kernel) (by first | kernel_rfl | decide +kernel) (by first | kernel_rfl | decide +kernel) ( .inl ⟨by rfl, fun _ hw => ⟨run_eq_of ?run1, ?guar1⟩⟩) hS ?rest1
  case run1 =>
    intro K hK
    (skip)
    go_simp
    exact hK
  case guar1 =>
    (skip)
    (co_still (terms0 NoSh))
  try walk_nrm
  co_applyP anyCH_take (terms0 NoSh) (fun _ _ h r => Ds.rely h r) (fun _ _ _ h r => wpC_rely (terms0 NoSh) h r) (i := 1) rfl (by first | kernel_rfl | decide +kernel) (by first | kernel_rfl | decide +kernel) (by first | kernel_rfl | decide +kernel) ( .inl ⟨by rfl, fun _ hw => ⟨run_eq_of ?run2, ?guar2⟩⟩) hS ?rest2
  case run2 =>
    intro K hK
    (skip)
    go_simp
    exact hK
  case guar2 =>
    (skip)
    (co_still (terms0 NoSh))
  try walk_nrm
  co_applyP anyCH_take (terms0 NoSh) (fun _ _ h r => Ds.rely h r) (fun _ _ _ h r => wpC_rely (terms0 NoSh) h r) (i := 2) rfl (by first | kernel_rfl | decide +kernel) (by first | kernel_rfl | decide +kernel) (by first | kernel_rfl | decide +kernel) ( .inl ⟨by rfl, fun _ hw => ⟨run_eq_of ?run3, ?guar3⟩⟩) hS ?rest3
  case run3 =>
    intro K hK
    (skip)
    go_simp
    exact hK
  case guar3 =>
    (skip)
    (co_still (terms0 NoSh))
  try walk_nrm
  co_applyP anyCH_take (terms0 NoSh) (fun _ _ h r => Ds.rely h r) (fun _ _ _ h r => wpC_rely (terms0 NoSh) h r) (i := 3) rfl (by first | kernel_rfl | decide +kernel) (by first | kernel_rfl | decide +kernel) (by first | kernel_rfl | decide +kernel) ( .inl ⟨by rfl, fun _ hw => ⟨run_eq_of ?run4, ?guar4⟩⟩) hS ?rest4
  case run4 =>
    intro K hK
    (skip)
    go_simp
    exact hK
  case guar4 =>
    (skip)
    (co_still (terms0 NoSh))
  try walk_nrm
  co_applyP anyCH_take (terms0 NoSh) (fun _ _ h r => Ds.rely h r) (fun _ _ _ h r => wpC_rely (terms0 NoSh) h r) (i := 4) rfl (by first | kernel_rfl | decide +kernel) (by first | kernel_rfl | decide +kernel) (by first | kernel_rfl | decide +kernel) ( .inl ⟨by rfl, fun _ hw => ⟨run_eq_of ?run5, ?guar5⟩⟩) hS ?rest5
  case run5 =>
    intro K hK
    (have hc := hw.2.cell h0)
    go_simp
    exact hK
  case guar5 =>
    (have hc := hw.2.cell h0)
    (refine d0c ?_; co_evs (exact evP0))
  try walk_nrm
  co_applyP anyCH_take (terms0 NoSh) (fun _ _ h r => Ds.rely h r) (fun _ _ _ h r => wpC_rely (terms0 NoSh) h r) (i := 5) rfl (by first | kernel_rfl | decide +kernel) (by first | kernel_rfl | decide +kernel) (by first | kernel_rfl | decide +kernel) ( .inl ⟨by rfl, fun _ hw => ⟨run_eq_of ?run6, ?guar6⟩⟩) hS ?rest6
  case run6 =>
    intro K hK
    (skip)
    go_simp
    exact hK
  case guar6 =>
    (skip)
    (co_still (terms0 NoSh))
  try walk_nrm
  co_applyP anyCH_take (terms0 NoSh) (fun _ _ h r => Ds.rely h r) (fun _ _ _ h r => wpC_rely (terms0 NoSh) h r) (i := 6) rfl (by first | kernel_rfl | decide +kernel) (by first | kernel_rfl | decide +kernel) (by first | kernel_rfl | decide +kernel) ( .inl ⟨by rfl, fun _ hw => ⟨run_eq_of ?run7, ?guar7⟩⟩) hS ?rest7
  case run7 =>
    intro K hK
    (skip)
    go_simp
    exact hK
  case guar7 =>
    (skip)
    (co_still (terms0 NoSh))
  try walk_nrm
  co_applyP anyCH_take (terms0 NoSh) (fun _ _ h r => Ds.rely h r) (fun _ _ _ h r => wpC_rely (terms0 NoSh) h r) (i := 7) rfl (by first | kernel_rfl | decide +kernel) (by first | kernel_rfl | decide +kernel) (by first | kernel_rfl | decide +kernel) ( .inl ⟨by rfl, fun _ hw => ⟨run_eq_of ?run8, ?guar8⟩⟩) hS ?rest8
  case run8 =>
    intro K hK
    (skip)
    go_simp
    exact hK
  case guar8 =>
    (skip)
    (co_still (terms0 NoSh))
  try walk_nrm
  co_applyP anyCH_take (terms0 NoSh) (fun _ _ h r => Ds.rely h r) (fun _ _ _ h r => wpC_rely (terms0 NoSh) h r) (i := 8) rfl (by first | kernel_rfl | decide +kernel) (by first | kernel_rfl | decide +kernel) (by first | kernel_rfl | decide +kernel) ( .inl ⟨by rfl, fun _ hw => ⟨run_eq_of ?run9, ?guar9⟩⟩) hS ?rest9
  case run9 =>
    intro K hK
    (skip)
    go_simp
    exact hK
  case guar9 =>
    (skip)
    (co_still (terms0 NoSh))
  try walk_nrm
  co_applyP anyCH_take (terms0 NoSh) (fun _ _ h r => Ds.rely h r) (fun _ _ _ h r => wpC_rely (terms0 NoSh) h r) (i := 9) rfl (by first | kernel_rfl | decide +kernel) (by first | kernel_rfl | decide +kernel) (by first | kernel_rfl | decide +kernel) ( .inl ⟨by rfl, fun _ hw => ⟨run_eq_of ?run10, ?guar10⟩⟩) hS ?rest10
  case run10 =>
    intro K hK
    (have hc := hw.2.cell h1)
    go_simp
    exact hK
  case guar10 =>
    (have hc := hw.2.cell h1)
    (refine d0c ?_; co_evs (exact evP0))
  try walk_nrm
  co_applyP anyCH_take (terms0 NoSh) (fun _ _ h r => Ds.rely h r) (fun _ _ _ h r => wpC_rely (terms0 NoSh) h r) (i := 10) rfl (by first | kernel_rfl | decide +kernel) (by first | kernel_rfl | decide +kernel) (by first | kernel_rfl | decide +kernel) ( .inl ⟨by rfl, fun _ hw => ⟨run_eq_of ?run11, ?guar11⟩⟩) hS ?rest11
  case run11 =>
    intro K hK
    (skip)
    go_simp
    exact hK
  case guar11 =>
    (skip)
    (co_still (terms0 NoSh))
  try walk_nrm
  co_applyP anyCH_take (terms0 NoSh) (fun _ _ h r => Ds.rely h r) (fun _ _ _ h r => wpC_rely (terms0 NoSh) h r) (i := 11) rfl (by first | kernel_rfl | decide +kernel) (by first | kernel_rfl | decide +kernel) (by first | kernel_rfl | decide +kernel) ( .inl ⟨by rfl, fun _ hw => ⟨run_eq_of ?run12, ?guar12⟩⟩) hS ?rest12
  case run12 =>
    intro K hK
    (skip)
    go_simp
    exact hK
  case guar12 =>
    (skip)
    (co_still (terms0 NoSh))
  try walk_nrm
  co_applyP anyCH_take (terms0 NoSh) (fun _ _ h r => Ds.rely h r) (fun _ _ _ h r => wpC_rely (terms0 NoSh) h r) (i := 12) rfl (by first | kernel_rfl | decide +kernel) (by first | kernel_rfl | decide +kernel) (by first | kernel_rfl | decide +kernel) ( .inl ⟨by rfl, fun _ hw => ⟨run_eq_of ?run13, ?guar13⟩⟩) hS ?rest13
  case run13 =>
    intro K hK
    (skip)
    go_simp
    exact hK
  case guar13 =>
    (skip)
    (co_still (terms0 NoSh))
  try walk_nrm
  co_applyP anyCH_take (terms0 NoSh) (fun _ _ h r => Ds.rely h r) (fun _ _ _ h r => wpC_rely (terms0 NoSh) h r) (i := 13) rfl (by first | kernel_rfl | decide +kernel) (by first | kernel_rfl | decide +kernel) (by first | kernel_rfl | decide +kernel) ( .inl ⟨by rfl, fun _ hw => ⟨run_eq_of ?run14, ?guar14⟩⟩) hS ?rest14
  case run14 =>
    intro K hK
    (skip)
    go_simp
    exact hK
  case guar14 =>
    (skip)
    (co_still (terms0 NoSh))
  try walk_nrm
  co_applyP anyCH_take (terms0 NoSh) (fun _ _ h r => Ds.rely h r) (fun _ _ _ h r => wpC_rely (terms0 NoSh) h r) (i := 14) rfl (by first | kernel_rfl | decide +kernel) (by first | kernel_rfl | decide +kernel) (by first | kernel_rfl | decide +kernel) ( .inl ⟨by rfl, fun _ hw => ⟨run_eq_of ?run15, ?guar15⟩⟩) hS ?rest15
  case run15 =>
    intro K hK
    (have hc := hw.2.cell h2)
    go_simp
    exact hK
  case guar15 =>
    (have hc := hw.2.cell h2)
    (refine d0c ?_; co_evs (exact evP0))
  try walk_nrm
  co_applyP anyCH_take (terms0 NoSh) (fun _ _ h r => Ds.rely h r) (fun _ _ _ h r => wpC_rely (terms0 NoSh) h r) (i := 15) rfl (by first | kernel_rfl | decide +kernel) (by first | kernel_rfl | decide +kernel) (by first | kernel_rfl | decide +kernel) ( .inl ⟨by rfl, fun _ hw => ⟨run_eq_of ?run16, ?guar16⟩⟩) hS ?rest16
  case run16 =>
    intro K hK
    (skip)
    go_simp
    exact hK
  case guar16 =>
    (skip)
    (co_still (terms0 NoSh))
  try walk_nrm
  co_applyP anyCH_take (terms0 NoSh) (fun _ _ h r => Ds.rely h r) (fun _ _ _ h r => wpC_rely (terms0 NoSh) h r) (i := 16) rfl (by first | kernel_rfl | decide +kernel) (by first | kernel_rfl | decide +kernel) (by first | kernel_rfl | decide +kernel) ( .inl ⟨by rfl, fun _ hw => ⟨run_eq_of ?run17, ?guar17⟩⟩) hS ?rest17
  case run17 =>
    intro K hK
    (skip)
    go_simp
    exact hK
  case guar17 =>
    (skip)
    (co_still (terms0 NoSh))
  try walk_nrm
  co_applyP anyCH_take (terms0 NoSh) (fun _ _ h r => Ds.rely h r) (fun _ _ _ h r => wpC_rely (terms0 NoSh) h r) (i := 17) rfl (by first | kernel_rfl | decide +kernel) (by first | kernel_rfl | decide +kernel) (by first | kernel_rfl | decide +kernel) ( .inl ⟨by rfl, fun _ hw => ⟨run_eq_of ?run18, ?guar18⟩⟩) hS ?rest18
  case run18 =>
    intro K hK
    (skip)
    go_simp
    exact hK
  case guar18 =>
    (skip)
    (co_still (terms0 NoSh))
  try walk_nrm
  co_applyP anyCH_take (terms0 NoSh) (fun _ _ h r => Ds.rely h r) (fun _ _ _ h r => wpC_rely (terms0 NoSh) h r) (i := 18) rfl (by first | kernel_rfl | decide +kernel) (by first | kernel_rfl | decide +kernel) (by first | kernel_rfl | decide +kernel) ( .inl ⟨by rfl, fun _ hw => ⟨run_eq_of ?run19, ?guar19⟩⟩) hS ?rest19
  case run19 =>
    intro K hK
    (skip)
    go_simp
    exact hK
  case guar19 =>
    (skip)
    (co_still (terms0 NoSh))
  try walk_nrm
  co_applyP anyCH_take (terms0 NoSh) (fun _ _ h r => Ds.rely h r) (fun _ _ _ h r => wpC_rely (terms0 NoSh) h r) (i := 19) rfl (by first | kernel_rfl | decide +kernel) (by first | kernel_rfl | decide +kernel) (by first | kernel_rfl | decide +kernel) ( .inl ⟨by rfl, fun _ hw => ⟨run_eq_of ?run20, ?guar20⟩⟩) hS ?rest20
  case run20 =>
    intro K hK
    (have hc := hw.2.cell h3)
    go_simp
    exact hK
  case guar20 =>
    (have hc := hw.2.cell h3)
    (refine d0c ?_; co_evs (exact evP0))
  try walk_nrm
  co_applyP anyCH_take (terms0 NoSh) (fun _ _ h r => Ds.rely h r) (fun _ _ _ h r => wpC_rely (terms0 NoSh) h r) (i := 20) rfl (by first | kernel_rfl | decide +kernel) (by first | kernel_rfl | decide +kernel) (by first | kernel_rfl | decide +kernel) ( .inl ⟨by rfl, fun _ hw => ⟨run_eq_of ?run21, ?guar21⟩⟩) hS ?rest21
  case run21 =>
    intro K hK
    (skip)
    go_simp
    exact hK
  case guar21 =>
    (skip)
    (co_still (terms0 NoSh))
  try walk_nrm
  co_applyP anyCH_all (rs := [21]) (by first | kernel_rfl | decide +kernel) (by decide)
  intro qq hqq
  obtain rfl : qq = 21 := by simpa using hqq
  co_applyP opC_k rfl (by rfl)
  intro wv hR K hK
  replace hF := Dc.rely hF hR
  clear hR
  go_simp
  refine hK _ _ ⟨?_, ?_, ?_⟩
  · refine d0c ?_
    intro e he
    have hm := mem_listed he
    simp [go_sem, *] at hm
  · exact (⟨grown_trans hF.gr (grown_alloc _ _), hF.im.grown (grown_alloc _ _)⟩ : Ds W g im _)
  clear hK K
  have hb : Has wv.heap.size 110 #[.int .u8 b0, .int .u8 b1, .int .u8 b2, .int .u8 b3] (wv.alloc (.cells #[.int .u8 b0, .int .u8 b1, .int .u8 b2, .int .u8 b3] 110)) := Has.new
  have hF2 : Dc W g im prog q xs (wv.alloc (.cells #[.int .u8 b0, .int .u8 b1, .int .u8 b2, .int .u8 b3] 110)) := ⟨grown_trans hF.gr (grown_alloc _ _), hF.im.grown (grown_alloc _ _), World.ownsRow.alloc hF.row _⟩
  have hnb : W.heap.size ≤ wv.heap.size := hF.gr.size
  clear hF
  have hF := hF2
  clear hF2
  try walk_nrm
  co_applyP anyCH_all (rs := [22]) (by first | kernel_rfl | decide +kernel) (by decide)
  intro qq hqq
  obtain rfl : qq = 22 := by simpa using hqq
  co_applyP opC_k rfl (by rfl)
  intro wa hR K hK
  replace hF := Dc.rely hF hR
  replace hb : Has wv.heap.size 110 #[.int .u8 b0, .int .u8 b1, .int .u8 b2, .int .u8 b3] wa := by obtain ⟨d, rfl⟩ := hR; exact hb
  clear hR
  obtain ⟨ti, tz, i1, i2, i3, i4, i5⟩ := info110
  obtain ⟨prog', w', hr, hown, hgr, _, hev⟩ := seqApp (Sh := NoSh) (P := Tryd.prog) (t := 83) (ty := 83) (a := ⟨wv.heap.size, 0, none⟩) (m := 1) (c := 1) (news := [.int .u8 b0, .int .u8 b1, .int .u8 b2, .int .u8 b3]) Tryd.underlying83 i1 i2 i3 i4 i5 (by decide) hF.gr hF.row (by simp)
    (fun j u hu => by rw [show (⟨wv.heap.size, 0, none⟩ : Addr).add j = ⟨wv.heap.size, j, none⟩ from by unfold Addr.add; split <;> simp_all]; exact hb.cell (by simpa using hu)) (by intro u hu; simp at hu; rcases hu with rfl | rfl | rfl | rfl <;> rfl) (by simp [maxLen]; omega) (by omega) (elder0 _) (fun _ _ h => h.elim)
  refine uponK_append (.tmp 12) (.tmp 33) 83 rfl rfl rfl hr ?_
  refine hK _ _ ⟨d0c fun e he => hev e ?_, (⟨hgr, hW.grown hgr⟩ : Ds W g im _), ?_⟩
  · have hm := mem_listed he
    rw [events_append_op (.tmp 12) (.tmp 33) 83 rfl rfl rfl] at hm
    exact hm
  clear hK K hF hev
  have hF : Dc W g im prog' (q + 1) (xs ++ [.int .u8 b0, .int .u8 b1, .int .u8 b2, .int .u8 b3]) w' := ⟨hgr, hW.grown hgr, hown⟩
  clear hS
  have hS : Ds W g im w' := ⟨hF.gr, hF.im⟩
  try walk_nrm
  co_applyP anyCH_take (terms0 NoSh) (fun _ _ h r => Ds.rely h r) (fun _ _ _ h r => wpC_rely (terms0 NoSh) h r) (i := 23) rfl (by first | kernel_rfl | decide +kernel) (by first | kernel_rfl | decide +kernel) (by first | kernel_rfl | decide +kernel) ( .inl ⟨by rfl, fun _ hw => ⟨run_eq_of ?run22, ?guar22⟩⟩) hS ?rest22
  case run22 =>
    intro K hK
    (skip)
    go_simp
    exact hK
  case guar22 =>
    (skip)
    (co_still (terms0 NoSh))
  try walk_nrm
  co_done
  co_reg (terms0 NoSh)
  co_op (Dc.rely) hF (co_still (terms0 NoSh))
  co_op (Dc.rely) hF (co_still (terms0 NoSh))
  co_op (Dc.rely) hF (co_still (terms0 NoSh))
  co_apply opsC_nil (terms0 NoSh)
  co_then
  exact H _ _ _ _ _ _ _ _ _ _ _ _ _ _ _ _ _ _ _ _ _ _ _ _ _ _ _ _ _ _ _ _ _ hF
end Go.Proofs.YtbnaccilnilcmaaDoor
/-
  The image is decoded: the whole function.
  No condition but those that each statement names.
-/
namespace Go.Proofs.YtbnaccilnilcmaaDoor
open Go.Conc Go.RowKit Go.Hx

/-- The first q instructions' cells. -/
def cellsOf (im : List Int) (q : Nat) : List Value := (im.take (4 * q)).map (Value.int .u8)
theorem cellsOf_step {im : List Int} {q : Nat} {b0 b1 b2 b3 : Int} (h0 : im[4 * q]? = some b0) (h1 : im[4 * q + 1]? = some b1) (h2 : im[4 * q + 2]? = some b2) (h3 : im[4 * q + 3]? = some b3) : cellsOf im q ++ [.int .u8 b0, .int .u8 b1, .int .u8 b2, .int .u8 b3] = cellsOf im (q + 1) := by
  have e : 4 * (q + 1) = 4 * q + 1 + 1 + 1 + 1 := by omega
  unfold cellsOf
  rw [e, List.take_add_one, List.take_add_one, List.take_add_one, List.take_add_one, h0, h1, h2, h3]
  simp

set_option maxRecDepth 100000 in
set_option maxHeartbeats 8000000 in
theorem decode_end : ∃ k, ∀ (c R0 R1 R2 T6 : Code) (hc : Tryd.f29.body = some (.seq R0 (.seq R1 (.seq (.seq R2 (.block 0 (.loop c))) T6)))) (g cap : Nat) (im : List Int) (prog : Value) (xs : List Value) (Qx : Exit → Act → World → Prop) (W : World) (t5 t6 t7 t8 t9 t10 t11 t12 t13 t14 t15 t16 t17 t18 t19 t20 t21 t22 t23 t24 t25 t26 t27 t28 t29 t30 t31 t32 t33 t34 t35 : Value)
    (H : ∀ u5 u6 u7 u8 u9 u10 u11 u12 u13 u14 u15 u16 u17 u18 u19 u20 u21 u22 u23 u24 u25 u26 u27 u28 u29 u30 u31 u32 u33 u34 u35 w', Dc W g im prog 11 xs w' → Qx (.exit 0) (dAt g cap 44 prog u5 u6 u7 u8 u9 u10 u11 u12 u13 u14 u15 u16 u17 u18 u19 u20 u21 u22 u23 u24 u25 u26 u27 u28 u29 u30 u31 u32 u33 u34 u35) w') (w : World), Dc W g im prog 11 xs w →
    c.wpC Tryd.prog true AtRel (D0 NoSh) 29 k (Exit.then (fun a' w' => LoopC Tryd.prog true AtRel (D0 NoSh) 29 c 0 Qx a' w') Qx) (dAt g cap 44 prog t5 t6 t7 t8 t9 t10 t11 t12 t13 t14 t15 t16 t17 t18 t19 t20 t21 t22 t23 t24 t25 t26 t27 t28 t29 t30 t31 t32 t33 t34 t35) w := by
  co_apply Exists.intro
  intro c R0 R1 R2 T6 hc g cap im prog xs Qx W t5 t6 t7 t8 t9 t10 t11 t12 t13 t14 t15 t16 t17 t18 t19 t20 t21 t22 t23 t24 t25 t26 t27 t28 t29 t30 t31 t32 t33 t34 t35 H w hF
  simp only [Tryd.f29, Option.some.injEq, Code.seq.injEq, Code.block.injEq, Code.loop.injEq, true_and] at hc
  obtain ⟨_, _, ⟨_, rfl⟩, _⟩ := hc
  unfold dAt
  have w48 : IntKind.i64.wrap 48 = 48 := by decide
  co_apply wpC_seq (n₂ := 0) (terms0 NoSh)
  co_apply wpC_seq (terms0 NoSh)
  co_reg (terms0 NoSh)
  co_op (Dc.rely) hF (co_still (terms0 NoSh))
  co_op (Dc.rely) hF (co_still (terms0 NoSh))
  co_op (Dc.rely) hF (co_still (terms0 NoSh))
  co_op (Dc.rely) hF (co_still (terms0 NoSh))
  co_op (Dc.rely) hF (co_still (terms0 NoSh))
  co_apply opsC_nil (terms0 NoSh)
  co_then
  co_apply wpC_cond (terms0 NoSh) (t := false)
  focus (exact rfl)
  simp only [if_true, if_false, Bool.false_eq_true, reduceIte]
  co_apply wpC_exit (terms0 NoSh)
  try co_then
  exact H _ _ _ _ _ _ _ _ _ _ _ _ _ _ _ _ _ _ _ _ _ _ _ _ _ _ _ _ _ _ _ _ hF

theorem decode_loop (d : Nat) : ∃ k, ∀ (c R0 R1 R2 T6 : Code) (hc : Tryd.f29.body = some (.seq R0 (.seq R1 (.seq (.seq R2 (.block 0 (.loop c))) T6)))) (g cap q : Nat) (hq : q + d = 11) (im : List Int) (hl : im.length = 44) (prog : Value) (Qx : Exit → Act → World → Prop) (W : World) (hW : Im g im W)
    (H : ∀ prog' u5 u6 u7 u8 u9 u10 u11 u12 u13 u14 u15 u16 u17 u18 u19 u20 u21 u22 u23 u24 u25 u26 u27 u28 u29 u30 u31 u32 u33 u34 u35 w', Dc W g im prog' 11 (cellsOf im 11) w' → Qx (.exit 0) (dAt g cap 44 prog' u5 u6 u7 u8 u9 u10 u11 u12 u13 u14 u15 u16 u17 u18 u19 u20 u21 u22 u23 u24 u25 u26 u27 u28 u29 u30 u31 u32 u33 u34 u35) w') (t5 t6 t7 t8 t9 t10 t11 t12 t13 t14 t15 t16 t17 t18 t19 t20 t21 t22 t23 t24 t25 t26 t27 t28 t29 t30 t31 t32 t33 t34 t35 : Value) (w : World), Dc W g im prog q (cellsOf im q) w →
    LoopC Tryd.prog true AtRel (D0 NoSh) 29 c k Qx (dAt g cap (4 * q) prog t5 t6 t7 t8 t9 t10 t11 t12 t13 t14 t15 t16 t17 t18 t19 t20 t21 t22 t23 t24 t25 t26 t27 t28 t29 t30 t31 t32 t33 t34 t35) w := by
  induction d with
  | zero =>
    obtain ⟨k, g0⟩ := decode_end
    refine ⟨k + 0 + 1, fun c R0 R1 R2 T6 hc g cap q hq im hl prog Qx W hW H t5 t6 t7 t8 t9 t10 t11 t12 t13 t14 t15 t16 t17 t18 t19 t20 t21 t22 t23 t24 t25 t26 t27 t28 t29 t30 t31 t32 t33 t34 t35 w hF => ?_⟩
    obtain rfl : q = 11 := by omega
    exact loopC1 (terms0 NoSh) (g0 c R0 R1 R2 T6 hc g cap im prog _ Qx W t5 t6 t7 t8 t9 t10 t11 t12 t13 t14 t15 t16 t17 t18 t19 t20 t21 t22 t23 t24 t25 t26 t27 t28 t29 t30 t31 t32 t33 t34 t35 (fun u5 u6 u7 u8 u9 u10 u11 u12 u13 u14 u15 u16 u17 u18 u19 u20 u21 u22 u23 u24 u25 u26 u27 u28 u29 u30 u31 u32 u33 u34 u35 w' hw => H prog u5 u6 u7 u8 u9 u10 u11 u12 u13 u14 u15 u16 u17 u18 u19 u20 u21 u22 u23 u24 u25 u26 u27 u28 u29 u30 u31 u32 u33 u34 u35 w' hw) w hF)
  | succ d ih =>
    obtain ⟨k2, g2⟩ := ih
    obtain ⟨k, g0⟩ := decode_round
    refine ⟨k + k2 + 1, fun c R0 R1 R2 T6 hc g cap q hq im hl prog Qx W hW H t5 t6 t7 t8 t9 t10 t11 t12 t13 t14 t15 t16 t17 t18 t19 t20 t21 t22 t23 t24 t25 t26 t27 t28 t29 t30 t31 t32 t33 t34 t35 w hF => ?_⟩
    have h0 := List.getElem?_eq_getElem (l := im) (i := 4 * q) (by omega)
    have h1 := List.getElem?_eq_getElem (l := im) (i := 4 * q + 1) (by omega)
    have h2 := List.getElem?_eq_getElem (l := im) (i := 4 * q + 2) (by omega)
    have h3 := List.getElem?_eq_getElem (l := im) (i := 4 * q + 3) (by omega)
    refine loopC1 (terms0 NoSh) (g0 c R0 R1 R2 T6 hc g cap q (4 * q) rfl (by omega) im _ _ _ _ h0 h1 h2 h3 prog _ Qx k2 W hW (fun prog' u5 u6 u7 u8 u9 u10 u11 u12 u13 u14 u15 u16 u17 u18 u19 u20 u21 u22 u23 u24 u25 u26 u27 u28 u29 u30 u31 u32 u33 u34 u35 w' hw => ?_) t5 t6 t7 t8 t9 t10 t11 t12 t13 t14 t15 t16 t17 t18 t19 t20 t21 t22 t23 t24 t25 t26 t27 t28 t29 t30 t31 t32 t33 t34 t35 w hF)
    rw [cellsOf_step h0 h1 h2 h3] at hw
    exact g2 c R0 R1 R2 T6 hc g cap (q + 1) (by omega) im hl prog' Qx W hW H u5 u6 u7 u8 u9 u10 u11 u12 u13 u14 u15 u16 u17 u18 u19 u20 u21 u22 u23 u24 u25 u26 u27 u28 u29 u30 u31 u32 u33 u34 u35 w' hw

set_option maxRecDepth 100000 in
set_option maxHeartbeats 8000000 in
theorem decode_s : ∃ k, ∀ (g cap : Nat) (im : List Int) (hl : im.length = 44) (w : World), Im g im w →
    CallsC Tryd.prog true AtRel (D0 NoSh) 29 #[.slice (some ⟨g, 0, none⟩) 44 cap] k w fun v w' => w.grownBy w' none ∧ w'.ownsRow w.heap.size 110 4 v 11 (im.map (Value.int .u8)) := by
  obtain ⟨k2, g2⟩ := decode_loop 10
  obtain ⟨k, g0⟩ := decode_round
  co_apply Exists.intro
  intro g cap im hl W hW
  have hF : Dc W g im (.slice none 0 0) 0 [] W := ⟨grown_refl W, hW, ⟨rfl, .inl ⟨rfl, rfl⟩⟩⟩
  have h0 := List.getElem?_eq_getElem (l := im) (i := 0) (by omega)
  have h1 := List.getElem?_eq_getElem (l := im) (i := 0 + 1) (by omega)
  have h2 := List.getElem?_eq_getElem (l := im) (i := 0 + 2) (by omega)
  have h3 := List.getElem?_eq_getElem (l := im) (i := 0 + 3) (by omega)
  co_apply callsC_of_wpC Tryd.func29 (by rfl) rfl
  simp only [Tryd.ntmps29, List.size_toArray, List.length_cons, List.length_nil, Nat.reduceAdd, Nat.reduceSub, Array.replicate_succ, Array.replicate_zero, List.push_toArray, List.append_toArray, List.nil_append, List.cons_append]
  co_apply wpC_seq (terms0 NoSh)
  co_reg (terms0 NoSh)
  co_op (Dc.rely) hF (co_still (terms0 NoSh))
  co_apply opsC_nil (terms0 NoSh)
  co_then
  co_apply wpC_seq (terms0 NoSh)
  co_reg (terms0 NoSh)
  co_op (Dc.rely) hF (co_still (terms0 NoSh))
  co_apply opsC_nil (terms0 NoSh)
  co_then
  co_apply wpC_seq (terms0 NoSh)
  co_apply wpC_seq (terms0 NoSh)
  co_reg (terms0 NoSh)
  co_op (Dc.rely) hF (co_still (terms0 NoSh))
  co_apply opsC_nil (terms0 NoSh)
  co_then
  co_apply wpC_block (terms0 NoSh)
  co_apply wpC_loop1 (terms0 NoSh)
  refine g0 _ _ _ _ _ rfl g cap 0 0 rfl (by omega) im _ _ _ _ h0 h1 h2 h3 _ _ _ k2 W hW (fun prog' u5 u6 u7 u8 u9 u10 u11 u12 u13 u14 u15 u16 u17 u18 u19 u20 u21 u22 u23 u24 u25 u26 u27 u28 u29 u30 u31 u32 u33 u34 u35 w' hw => ?_) _ _ _ _ _ _ _ _ _ _ _ _ _ _ _ _ _ _ _ _ _ _ _ _ _ _ _ _ _ _ _ _ hF
  have hw' : Dc W g im prog' 1 (cellsOf im 1) w' := by
    have := cellsOf_step (im := im) (q := 0) h0 h1 h2 h3
    rw [← this]
    exact hw
  refine g2 _ _ _ _ _ rfl g cap 1 (by omega) im hl prog' _ W hW (fun prog'' v5 v6 v7 v8 v9 v10 v11 v12 v13 v14 v15 v16 v17 v18 v19 v20 v21 v22 v23 v24 v25 v26 v27 v28 v29 v30 v31 v32 v33 v34 v35 w'' hw'' => ?_) u5 u6 u7 u8 u9 u10 u11 u12 u13 u14 u15 u16 u17 u18 u19 u20 u21 u22 u23 u24 u25 u26 u27 u28 u29 u30 u31 u32 u33 u34 u35 w' hw'
  co_then
  unfold dAt
  clear hF hw hw'
  have hF := hw''
  co_apply wpC_seq (terms0 NoSh)
  co_reg (terms0 NoSh)
  co_op (Dc.rely) hF (co_still (terms0 NoSh))
  co_op (Dc.rely) hF (co_still (terms0 NoSh))
  co_apply opsC_nil (terms0 NoSh)
  co_then
  co_apply wpC_ret (terms0 NoSh)
  refine ⟨rfl, _, resultsC_tmp (by rfl) _, hF.gr, ?_⟩
  have e : cellsOf im 11 = im.map (Value.int .u8) := by
    unfold cellsOf
    rw [List.take_of_length_le (by omega)]
  rw [← e]
  exact hF.row
end Go.Proofs.YtbnaccilnilcmaaDoor
