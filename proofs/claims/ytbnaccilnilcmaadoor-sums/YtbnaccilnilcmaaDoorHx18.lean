/-
  Who stands alone in the row of its level leaves it.
  No condition but those that each statement names.
-/
import Derived.Test.YtbnaccilnilcmaaDoorHx17
set_option linter.unusedVariables false
set_option linter.unusedSimpArgs false
set_option linter.unusedSectionVars false
namespace Go.Proofs.YtbnaccilnilcmaaDoor
open Go.Conc Go.RowKit Go.Hx

variable {p : Par} {Sh : Loc → Prop} {E Dn : Nat} {a : Ad} {PostB : World → Prop} {Aft : Goroutine → World → Prop}

set_option maxRecDepth 100000 in
set_option maxHeartbeats 4000000 in
theorem leave_x (n : En p Sh E Dn a) : ∃ k, ∀ (kc pc : Array Value) (Q cap : Nat) (qc : Array Value) (hRQ : a.R ≠ Q) (hc1 : 1 ≤ cap) (h0 : qc[0]? = some (.pointer (some ⟨a.P, 0, none⟩))) {st status at_ used : Int} {r m : Nat → Int} (lv : Nat) (hlv : lv < 3) (hp : Pst pc st status at_ lv used r m) (hksz : kc.size = 10) (hrow : kc[6 + lv]? = some (.slice (some ⟨Q, 0, none⟩) 1 cap)) (vs : List Value) (w : World), KM p Sh E Dn a kc pc Q qc w →
      CallsX (tellF Tryd.prog p Sh E Dn PostB Aft) Tryd.prog false 69 #[.pointer (some ⟨a.K, 6, none⟩), .pointer (some ⟨a.P, 0, none⟩)] k vs w fun s' _ w' => s' = vs ∧ KM p Sh E Dn a (kc.setIfInBounds (6 + lv) (.slice (some ⟨Q, 0, none⟩) 0 cap)) pc Q (qc.setIfInBounds 0 (.pointer none)) w' := by
  obtain ⟨n1, g1⟩ := index_c n
  obtain ⟨n2, g2⟩ := delete_c n
  co_apply Exists.intro
  intro kc pc Q cap qc hRQ hc1 h0 st status at_ used r m lv hlv hp hksz hrow vs w hF
  have b1 : (lv : Int) < 3 := by omega
  have w1 : IntKind.i64.wrap 1 = 1 := by decide
  have e3 := fun (w : World) (es : Array Event) => events_store Tryd.prog w es ⟨a.K, 6 + lv, none⟩ (.slice (some ⟨Q, 0, none⟩) 0 cap) .plain rfl
  have e1 := fun (w : World) (es : Array Event) => events_indexAt_array (P := Tryd.prog) (w := w) (es := es) 86 _ 3 ⟨a.K, 6, none⟩ .i64 (lv : Int) Tryd.underlying86 (by omega)
  co_apply callsX_of_wpX Tryd.func69 (by rfl) rfl
  simp only [Tryd.ntmps69, List.size_toArray, List.length_cons, List.length_nil, Nat.reduceAdd, Nat.reduceSub, Array.replicate_succ, Array.replicate_zero, List.push_toArray, List.append_toArray, List.nil_append, List.cons_append]
  co_apply wpX_seqC
  co_held (termsT p Sh E Dn) (drawT p Sh E Dn) (ownDrawT p E Dn) (KM p Sh E Dn a kc pc Q qc) (KM.rely n) hF
  co_applyP anyCH_take (termsT p Sh E Dn) (fun _ _ h r => KM.rely n h r) (fun _ _ _ h r => wpX_rely (F := tellF Tryd.prog p Sh E Dn PostB Aft) (s := vs) h r) (i := 0) rfl (by first | kernel_rfl | decide +kernel) (by first | kernel_rfl | decide +kernel) (by first | kernel_rfl | decide +kernel) ( .inl ⟨by rfl, fun _ hw => ⟨run_eq_of ?run1, ?guar1⟩⟩) hF ?rest1
  case run1 =>
    intro K hK
    (skip)
    go_simp
    exact hK
  case guar1 =>
    (skip)
    (co_still (termsT p Sh E Dn))
  try walk_nrm
  co_applyP anyCH_take (termsT p Sh E Dn) (fun _ _ h r => KM.rely n h r) (fun _ _ _ h r => wpX_rely (F := tellF Tryd.prog p Sh E Dn PostB Aft) (s := vs) h r) (i := 1) rfl (by first | kernel_rfl | decide +kernel) (by first | kernel_rfl | decide +kernel) (by first | kernel_rfl | decide +kernel) ( .inl ⟨by rfl, fun _ hw => ⟨run_eq_of ?run2, ?guar2⟩⟩) hF ?rest2
  case run2 =>
    intro K hK
    (skip)
    go_simp
    exact hK
  case guar2 =>
    (skip)
    (co_still (termsT p Sh E Dn))
  try walk_nrm
  co_applyP anyCH_take (termsT p Sh E Dn) (fun _ _ h r => KM.rely n h r) (fun _ _ _ h r => wpX_rely (F := tellF Tryd.prog p Sh E Dn PostB Aft) (s := vs) h r) (i := 2) rfl (by first | kernel_rfl | decide +kernel) (by first | kernel_rfl | decide +kernel) (by first | kernel_rfl | decide +kernel) ( .inl ⟨by rfl, fun _ hw => ⟨run_eq_of ?run3, ?guar3⟩⟩) hF ?rest3
  case run3 =>
    intro K hK
    (skip)
    go_simp
    exact hK
  case guar3 =>
    (skip)
    (co_still (termsT p Sh E Dn))
  try walk_nrm
  co_applyP anyCH_take (termsT p Sh E Dn) (fun _ _ h r => KM.rely n h r) (fun _ _ _ h r => wpX_rely (F := tellF Tryd.prog p Sh E Dn PostB Aft) (s := vs) h r) (i := 3) rfl (by first | kernel_rfl | decide +kernel) (by first | kernel_rfl | decide +kernel) (by first | kernel_rfl | decide +kernel) ( .inl ⟨by rfl, fun _ hw => ⟨run_eq_of ?run4, ?guar4⟩⟩) hF ?rest4
  case run4 =>
    intro K hK
    (skip)
    go_simp
    exact hK
  case guar4 =>
    (skip)
    (co_still (termsT p Sh E Dn))
  try walk_nrm
  co_applyP anyCH_take (termsT p Sh E Dn) (fun _ _ h r => KM.rely n h r) (fun _ _ _ h r => wpX_rely (F := tellF Tryd.prog p Sh E Dn PostB Aft) (s := vs) h r) (i := 4) rfl (by first | kernel_rfl | decide +kernel) (by first | kernel_rfl | decide +kernel) (by first | kernel_rfl | decide +kernel) ( .inl ⟨by rfl, fun _ hw => ⟨run_eq_of ?run5, ?guar5⟩⟩) hF ?rest5
  case run5 =>
    intro K hK
    (skip)
    go_simp
    exact hK
  case guar5 =>
    (skip)
    (co_still (termsT p Sh E Dn))
  try walk_nrm
  co_applyP anyCH_take (termsT p Sh E Dn) (fun _ _ h r => KM.rely n h r) (fun _ _ _ h r => wpX_rely (F := tellF Tryd.prog p Sh E Dn PostB Aft) (s := vs) h r) (i := 5) rfl (by first | kernel_rfl | decide +kernel) (by first | kernel_rfl | decide +kernel) (by first | kernel_rfl | decide +kernel) ( .inl ⟨by rfl, fun _ hw => ⟨run_eq_of ?run6, ?guar6⟩⟩) hF ?rest6
  case run6 =>
    intro K hK
    (have hc := hw.pp.cell hp.lv)
    go_simp
    exact hK
  case guar6 =>
    (have hc := hw.pp.cell hp.lv)
    (refine dt_read ?_; co_evs (exact hw.evP n _))
  try walk_nrm
  co_applyP anyCH_take (termsT p Sh E Dn) (fun _ _ h r => KM.rely n h r) (fun _ _ _ h r => wpX_rely (F := tellF Tryd.prog p Sh E Dn PostB Aft) (s := vs) h r) (i := 6) rfl (by first | kernel_rfl | decide +kernel) (by first | kernel_rfl | decide +kernel) (by first | kernel_rfl | decide +kernel) ( .inl ⟨by rfl, fun _ hw => ⟨run_eq_of ?run7, ?guar7⟩⟩) hF ?rest7
  case run7 =>
    intro K hK
    (skip)
    go_simp
    exact hK
  case guar7 =>
    (skip)
    (co_still (termsT p Sh E Dn))
  try walk_nrm
  co_applyP anyCH_take (termsT p Sh E Dn) (fun _ _ h r => KM.rely n h r) (fun _ _ _ h r => wpX_rely (F := tellF Tryd.prog p Sh E Dn PostB Aft) (s := vs) h r) (i := 7) rfl (by first | kernel_rfl | decide +kernel) (by first | kernel_rfl | decide +kernel) (by first | kernel_rfl | decide +kernel) ( .inl ⟨by rfl, fun _ hw => ⟨run_eq_of ?run8, ?guar8⟩⟩) hF ?rest8
  case run8 =>
    intro K hK
    (skip)
    go_simp
    exact hK
  case guar8 =>
    (skip)
    (co_still (termsT p Sh E Dn))
  try walk_nrm
  co_applyP anyCH_take (termsT p Sh E Dn) (fun _ _ h r => KM.rely n h r) (fun _ _ _ h r => wpX_rely (F := tellF Tryd.prog p Sh E Dn PostB Aft) (s := vs) h r) (i := 8) rfl (by first | kernel_rfl | decide +kernel) (by first | kernel_rfl | decide +kernel) (by first | kernel_rfl | decide +kernel) ( .inl ⟨by rfl, fun _ hw => ⟨run_eq_of ?run9, ?guar9⟩⟩) hF ?rest9
  case run9 =>
    intro K hK
    (have hc := hw.k.cell hrow)
    go_simp
    exact hK
  case guar9 =>
    (have hc := hw.k.cell hrow)
    (refine dt_read ?_; co_evs (exact hw.evK n _))
  try walk_nrm
  co_applyP anyCH_take (termsT p Sh E Dn) (fun _ _ h r => KM.rely n h r) (fun _ _ _ h r => wpX_rely (F := tellF Tryd.prog p Sh E Dn PostB Aft) (s := vs) h r) (i := 9) rfl (by first | kernel_rfl | decide +kernel) (by first | kernel_rfl | decide +kernel) (by first | kernel_rfl | decide +kernel) ( .inl ⟨by rfl, fun _ hw => ⟨run_eq_of ?run10, ?guar10⟩⟩) hF ?rest10
  case run10 =>
    intro K hK
    (skip)
    go_simp
    exact hK
  case guar10 =>
    (skip)
    (co_still (termsT p Sh E Dn))
  try walk_nrm
  co_done
  co_apply wpX_seqC
  co_reg (termsT p Sh E Dn)
  co_op (KM.rely n) hF (co_still (termsT p Sh E Dn))
  co_op (KM.rely n) hF (co_still (termsT p Sh E Dn))
  co_apply opsC_call (termsT p Sh E Dn) rfl (by rfl) rfl
  · walk_nrm
    exact g1 kc pc Q cap qc h0 _ hF
  intro v w' hv
  obtain ⟨rfl, hM⟩ := hv
  clear hF
  have hF := hM
  clear hM
  walk_nrm
  co_op (KM.rely n) hF (co_still (termsT p Sh E Dn))
  co_apply opsC_nil (termsT p Sh E Dn)
  co_then
  co_apply wpX_seqC
  co_reg (termsT p Sh E Dn)
  co_op (KM.rely n) hF (co_still (termsT p Sh E Dn))
  co_op (KM.rely n) hF (co_still (termsT p Sh E Dn))
  co_apply opsC_nil (termsT p Sh E Dn)
  co_then
  co_apply wpX_cond (t := true)
  focus (exact rfl)
  simp only [if_true, if_false, Bool.false_eq_true, reduceIte]
  co_apply wpX_region_held (S := (fun _ w => ∃ kc' qc', KM p Sh E Dn a kc' pc Q qc' w)) (nf := n2) (drawT p Sh E Dn) (by first | kernel_rfl | rfl)
  intro _ hR
  replace hF := (KM.rely n) ((KM.rely n) hF hR) (ownDrawT p E Dn _)
  clear hR
  simp only [List.size_toArray, List.length_cons, List.length_nil, Nat.reduceAdd, Nat.zero_add]
  have hS : ∃ kc' qc', KM p Sh E Dn a kc' pc Q qc' _ := ⟨_, _, hF⟩
  co_applyP anyX_take (fun _ _ _ h r => h.imp fun _ h => h.imp fun _ h => KM.rely n h r) (fun _ _ _ _ h r => ⟨h.1, h.2.choose, h.2.choose_spec.1, h.2.choose_spec.2.1, KM.rely n h.2.choose_spec.2.2 r⟩) (i := 0) rfl (by first | kernel_rfl | decide +kernel) (by first | kernel_rfl | decide +kernel) (by first | kernel_rfl | decide +kernel) (fun _ => .inl ⟨by rfl, fun _ hw => ⟨run_eq_of ?run11, ?guar11⟩⟩) hS ?rest11
  case run11 =>
    intro K hK
    (skip)
    go_simp
    exact hK
  case guar11 =>
    (skip)
    (co_still (termsT p Sh E Dn))
  try walk_nrm
  co_applyP anyX_take (fun _ _ _ h r => h.imp fun _ h => h.imp fun _ h => KM.rely n h r) (fun _ _ _ _ h r => ⟨h.1, h.2.choose, h.2.choose_spec.1, h.2.choose_spec.2.1, KM.rely n h.2.choose_spec.2.2 r⟩) (i := 1) rfl (by first | kernel_rfl | decide +kernel) (by first | kernel_rfl | decide +kernel) (by first | kernel_rfl | decide +kernel) (fun _ => .inl ⟨by rfl, fun _ hw => ⟨run_eq_of ?run12, ?guar12⟩⟩) hS ?rest12
  case run12 =>
    intro K hK
    (skip)
    go_simp
    exact hK
  case guar12 =>
    (skip)
    (co_still (termsT p Sh E Dn))
  try walk_nrm
  co_applyP anyX_take (fun _ _ _ h r => h.imp fun _ h => h.imp fun _ h => KM.rely n h r) (fun _ _ _ _ h r => ⟨h.1, h.2.choose, h.2.choose_spec.1, h.2.choose_spec.2.1, KM.rely n h.2.choose_spec.2.2 r⟩) (i := 2) rfl (by first | kernel_rfl | decide +kernel) (by first | kernel_rfl | decide +kernel) (by first | kernel_rfl | decide +kernel) (fun _ => .inl ⟨by rfl, fun _ hw => ⟨run_eq_of ?run13, ?guar13⟩⟩) hS ?rest13
  case run13 =>
    intro K hK
    (skip)
    go_simp
    exact hK
  case guar13 =>
    (skip)
    (co_still (termsT p Sh E Dn))
  try walk_nrm
  co_applyP anyX_take (fun _ _ _ h r => h.imp fun _ h => h.imp fun _ h => KM.rely n h r) (fun _ _ _ _ h r => ⟨h.1, h.2.choose, h.2.choose_spec.1, h.2.choose_spec.2.1, KM.rely n h.2.choose_spec.2.2 r⟩) (i := 3) rfl (by first | kernel_rfl | decide +kernel) (by first | kernel_rfl | decide +kernel) (by first | kernel_rfl | decide +kernel) (fun _ => .inl ⟨by rfl, fun _ hw => ⟨run_eq_of ?run14, ?guar14⟩⟩) hS ?rest14
  case run14 =>
    intro K hK
    (skip)
    go_simp
    exact hK
  case guar14 =>
    (skip)
    (co_still (termsT p Sh E Dn))
  try walk_nrm
  co_applyP anyX_take (fun _ _ _ h r => h.imp fun _ h => h.imp fun _ h => KM.rely n h r) (fun _ _ _ _ h r => ⟨h.1, h.2.choose, h.2.choose_spec.1, h.2.choose_spec.2.1, KM.rely n h.2.choose_spec.2.2 r⟩) (i := 4) rfl (by first | kernel_rfl | decide +kernel) (by first | kernel_rfl | decide +kernel) (by first | kernel_rfl | decide +kernel) (fun _ => .inl ⟨by rfl, fun _ hw => ⟨run_eq_of ?run15, ?guar15⟩⟩) hS ?rest15
  case run15 =>
    intro K hK
    (skip)
    go_simp
    exact hK
  case guar15 =>
    (skip)
    (co_still (termsT p Sh E Dn))
  try walk_nrm
  co_applyP anyX_take (fun _ _ _ h r => h.imp fun _ h => h.imp fun _ h => KM.rely n h r) (fun _ _ _ _ h r => ⟨h.1, h.2.choose, h.2.choose_spec.1, h.2.choose_spec.2.1, KM.rely n h.2.choose_spec.2.2 r⟩) (i := 5) rfl (by first | kernel_rfl | decide +kernel) (by first | kernel_rfl | decide +kernel) (by first | kernel_rfl | decide +kernel) (fun _ => .inl ⟨by rfl, fun _ hw => ⟨run_eq_of ?run16, ?guar16⟩⟩) hS ?rest16
  case run16 =>
    intro K hK
    (obtain ⟨_, _, hw⟩ := hw; have hc := hw.pp.cell hp.lv)
    go_simp
    exact hK
  case guar16 =>
    (obtain ⟨_, _, hw⟩ := hw; have hc := hw.pp.cell hp.lv)
    (refine dt_read ?_; co_evs (exact hw.evP n _))
  try walk_nrm
  co_applyP anyX_take (fun _ _ _ h r => h.imp fun _ h => h.imp fun _ h => KM.rely n h r) (fun _ _ _ _ h r => ⟨h.1, h.2.choose, h.2.choose_spec.1, h.2.choose_spec.2.1, KM.rely n h.2.choose_spec.2.2 r⟩) (i := 6) rfl (by first | kernel_rfl | decide +kernel) (by first | kernel_rfl | decide +kernel) (by first | kernel_rfl | decide +kernel) (fun _ => .inl ⟨by rfl, fun _ hw => ⟨run_eq_of ?run17, ?guar17⟩⟩) hS ?rest17
  case run17 =>
    intro K hK
    (skip)
    go_simp
    exact hK
  case guar17 =>
    (skip)
    (co_still (termsT p Sh E Dn))
  try walk_nrm
  co_applyP anyX_take (fun _ _ _ h r => h.imp fun _ h => h.imp fun _ h => KM.rely n h r) (fun _ _ _ _ h r => ⟨h.1, h.2.choose, h.2.choose_spec.1, h.2.choose_spec.2.1, KM.rely n h.2.choose_spec.2.2 r⟩) (i := 7) rfl (by first | kernel_rfl | decide +kernel) (by first | kernel_rfl | decide +kernel) (by first | kernel_rfl | decide +kernel) (fun _ => .inl ⟨by rfl, fun _ hw => ⟨run_eq_of ?run18, ?guar18⟩⟩) hS ?rest18
  case run18 =>
    intro K hK
    (skip)
    go_simp
    exact hK
  case guar18 =>
    (skip)
    (co_still (termsT p Sh E Dn))
  try walk_nrm
  co_applyP anyX_take (fun _ _ _ h r => h.imp fun _ h => h.imp fun _ h => KM.rely n h r) (fun _ _ _ _ h r => ⟨h.1, h.2.choose, h.2.choose_spec.1, h.2.choose_spec.2.1, KM.rely n h.2.choose_spec.2.2 r⟩) (i := 8) rfl (by first | kernel_rfl | decide +kernel) (by first | kernel_rfl | decide +kernel) (by first | kernel_rfl | decide +kernel) (fun _ => .inl ⟨by rfl, fun _ hw => ⟨run_eq_of ?run19, ?guar19⟩⟩) hS ?rest19
  case run19 =>
    intro K hK
    (skip)
    go_simp
    exact hK
  case guar19 =>
    (skip)
    (co_still (termsT p Sh E Dn))
  try walk_nrm
  co_applyP anyX_take (fun _ _ _ h r => h.imp fun _ h => h.imp fun _ h => KM.rely n h r) (fun _ _ _ _ h r => ⟨h.1, h.2.choose, h.2.choose_spec.1, h.2.choose_spec.2.1, KM.rely n h.2.choose_spec.2.2 r⟩) (i := 9) rfl (by first | kernel_rfl | decide +kernel) (by first | kernel_rfl | decide +kernel) (by first | kernel_rfl | decide +kernel) (fun _ => .inl ⟨by rfl, fun _ hw => ⟨run_eq_of ?run20, ?guar20⟩⟩) hS ?rest20
  case run20 =>
    intro K hK
    (skip)
    go_simp
    exact hK
  case guar20 =>
    (skip)
    (co_still (termsT p Sh E Dn))
  try walk_nrm
  co_applyP anyX_take (fun _ _ _ h r => h.imp fun _ h => h.imp fun _ h => KM.rely n h r) (fun _ _ _ _ h r => ⟨h.1, h.2.choose, h.2.choose_spec.1, h.2.choose_spec.2.1, KM.rely n h.2.choose_spec.2.2 r⟩) (i := 11) rfl (by first | kernel_rfl | decide +kernel) (by first | kernel_rfl | decide +kernel) (by first | kernel_rfl | decide +kernel) (fun _ => .inl ⟨by rfl, fun _ hw => ⟨run_eq_of ?run21, ?guar21⟩⟩) hS ?rest21
  case run21 =>
    intro K hK
    (skip)
    go_simp
    exact hK
  case guar21 =>
    (skip)
    (co_still (termsT p Sh E Dn))
  try walk_nrm
  co_applyP anyX_all (rs := [10]) (by first | kernel_rfl | decide +kernel) (by decide)
  intro qq hqq
  obtain rfl : qq = 10 := by simpa using hqq
  refine .inr ⟨_, 78, _, _, (fun s' v w' => s' = vs ∧ v = .slice (some ⟨Q, 0, none⟩) 0 cap ∧ KM p Sh E Dn a kc pc Q (qc.setIfInBounds 0 (.pointer none)) w'), rfl, by rfl, rfl, ?_, ?_⟩
  · walk_nrm
    exact callsX_of (CallsC.mono (g2 kc pc Q cap qc hRQ hc1 h0 _ hF) fun v w h => ⟨rfl, h⟩)
  rintro s' v w' ⟨rfl, rfl, hF⟩
  refine ⟨⟨_, _, hF⟩, ?_⟩
  walk_nrm
  clear hS
  have hS : ∃ kc' qc', KM p Sh E Dn a kc' pc Q qc' _ := ⟨_, _, hF⟩
  co_applyP anyX_take (fun _ _ _ h r => h.imp fun _ h => h.imp fun _ h => KM.rely n h r) (fun _ _ _ _ h r => ⟨h.1, h.2.choose, h.2.choose_spec.1, h.2.choose_spec.2.1, KM.rely n h.2.choose_spec.2.2 r⟩) (i := 12) rfl (by first | kernel_rfl | decide +kernel) (by first | kernel_rfl | decide +kernel) (by first | kernel_rfl | decide +kernel) (fun _ => .inl ⟨by rfl, fun _ hw => ⟨run_eq_of ?run22, ?guar22⟩⟩) hS ?rest22
  case run22 =>
    intro K hK
    (skip)
    go_simp
    exact hK
  case guar22 =>
    (skip)
    (co_still (termsT p Sh E Dn))
  try walk_nrm
  co_applyP anyX_all (rs := [13]) (by first | kernel_rfl | decide +kernel) (by decide)
  intro qq hqq
  obtain rfl : qq = 13 := by simpa using hqq
  refine .inl ?_
  co_applyP opC_k rfl (by rfl)
  intro _ hR K hK
  replace hF := KM.rely n hF hR
  clear hR
  have hc := hF.k.cell hrow
  have hz := hF.k.thaw (6 + lv)
  go_simp
  try (unfold stored; go_simp)
  refine hK _ _ ⟨?_, ⟨_, _, hF.setK n (6 + lv) (.slice (some ⟨Q, 0, none⟩) 0 cap)⟩, ?_⟩
  · refine hF.dtK n ?_
    intro e he
    have hm := mem_listed he
    simp [go_sem, *] at hm
    exact hm
  clear hK K hc hz
  replace hF := hF.setK n (6 + lv) (.slice (some ⟨Q, 0, none⟩) 0 cap)
  refine anyX_done (by first | kernel_rfl | decide +kernel) ?_ _
  try simp only [ThenX]
  try co_then
  exact ⟨rfl, _, resultsC_none (by rfl) _, rfl, hF⟩
end Go.Proofs.YtbnaccilnilcmaaDoor
