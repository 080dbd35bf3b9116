/-
  A process joins the row of its level, where that is nil.
  No condition but those that each statement names.
-/
import Derived.Test.YtbnaccilnilcmaaDoorHx18
import Derived.Test.YtbnaccilnilcmaaDoorHx10
set_option linter.unusedVariables false
set_option linter.unusedSimpArgs false
set_option linter.unusedSectionVars false
namespace Go.Proofs.YtbnaccilnilcmaaDoor
open Go.Conc Go.RowKit Go.Hx

variable {p : Par} {Sh : Loc → Prop} {E Dn : Nat} {a : Ad}

theorem info72 : ∃ i z, Tryd.prog.info? 72 = some i ∧ i.zero = some z ∧ i.size = 1 ∧ i.bytes = 8 ∧ z.cells.size = 1 := by
  have h : (Tryd.prog.info? 72).map (fun i => (i.zero.map (·.cells.size), i.size, i.bytes)) = some (some 1, 1, 8) := by kernel_rfl
  obtain ⟨i, hi, h2⟩ := Option.map_eq_some_iff.1 h
  simp only [Prod.mk.injEq] at h2
  obtain ⟨z, hz, h3⟩ := Option.map_eq_some_iff.1 h2.1
  exact ⟨i, z, hi, hz, h2.2.1, h2.2.2, h3⟩

set_option maxRecDepth 100000 in
set_option maxHeartbeats 4000000 in
theorem join_c0 (n : En p Sh E Dn a) : ∃ k, ∀ (kc pc : Array Value) (Q : Nat) (qc : Array Value) {st status at_ used : Int} {r m : Nat → Int} (lv : Nat) (hlv : lv < 3) (hp : Pst pc st status at_ lv used r m) (hksz : kc.size = 10) (hrow : kc[6 + lv]? = some (.slice none 0 0)) (w : World), KM p Sh E Dn a kc pc Q qc w →
      CallsC Tryd.prog false (RB p E Dn) (DT p Sh E Dn) 51 #[.pointer (some ⟨a.K, 6, none⟩), .pointer (some ⟨a.P, 0, none⟩)] k w fun _ w' => ∃ Q' cap qc', 1 ≤ cap ∧ cap ≤ maxLen ∧ qc'.size = cap ∧ a.R ≠ Q' ∧ p.N0 ≤ Q' ∧ qc'[0]? = some (.pointer (some ⟨a.P, 0, none⟩)) ∧ KM p Sh E Dn a (kc.setIfInBounds (6 + lv) (.slice (some ⟨Q', 0, none⟩) 1 cap)) pc Q' qc' w' := by
  co_apply Exists.intro
  intro kc pc Q qc st status at_ used r m lv hlv hp hksz hrow w hF
  have b1 : (lv : Int) < 3 := by omega
  have e1 := fun (w : World) (es : Array Event) => events_indexAt_array (P := Tryd.prog) (w := w) (es := es) 86 _ 3 ⟨a.K, 6, none⟩ .i64 (lv : Int) Tryd.underlying86 (by omega)
  have e3 := fun (w : World) (es : Array Event) (g l c : Nat) => events_store Tryd.prog w es ⟨a.K, 6 + lv, none⟩ (.slice (some ⟨g, 0, none⟩) l c) .plain rfl
  obtain ⟨ti, tz, t1, t2, t3, t4, t5⟩ := info72
  co_apply callsC_of_wpC Tryd.func51 (by rfl) rfl
  simp only [Tryd.ntmps51, List.size_toArray, List.length_cons, List.length_nil, Nat.reduceAdd, Nat.reduceSub, Array.replicate_succ, Array.replicate_zero, List.push_toArray, List.append_toArray, List.nil_append, List.cons_append]
  co_held (termsT p Sh E Dn) (drawT p Sh E Dn) (ownDrawT p E Dn) (fun w => ∃ kc' Q' qc', KM p Sh E Dn a kc' pc Q' qc' w) (KM.rely n) hF
  have hS : ∃ kc' Q' qc', KM p Sh E Dn a kc' pc Q' qc' _ := ⟨_, _, _, hF⟩
  co_applyP anyCH_take (termsT p Sh E Dn) (fun _ _ h r => h.imp fun _ h => h.imp fun _ h => h.imp fun _ h => KM.rely n h r) (fun _ _ _ h r => by obtain ⟨h1, v, h2, Q', cap, qc', h3, h4, h5, h6, h9, h7, h8⟩ := h; exact ⟨h1, v, h2, Q', cap, qc', h3, h4, h5, h6, h9, h7, KM.rely n h8 r⟩) (i := 0) rfl (by first | kernel_rfl | decide +kernel) (by first | kernel_rfl | decide +kernel) (by first | kernel_rfl | decide +kernel) ( .inl ⟨by rfl, fun _ hw => ⟨run_eq_of ?run1, ?guar1⟩⟩) hS ?rest1
  case run1 =>
    intro K hK
    (skip)
    go_simp
    exact hK
  case guar1 =>
    (skip)
    (co_still (termsT p Sh E Dn))
  try walk_nrm
  co_applyP anyCH_take (termsT p Sh E Dn) (fun _ _ h r => h.imp fun _ h => h.imp fun _ h => h.imp fun _ h => KM.rely n h r) (fun _ _ _ h r => by obtain ⟨h1, v, h2, Q', cap, qc', h3, h4, h5, h6, h9, h7, h8⟩ := h; exact ⟨h1, v, h2, Q', cap, qc', h3, h4, h5, h6, h9, h7, KM.rely n h8 r⟩) (i := 1) rfl (by first | kernel_rfl | decide +kernel) (by first | kernel_rfl | decide +kernel) (by first | kernel_rfl | decide +kernel) ( .inl ⟨by rfl, fun _ hw => ⟨run_eq_of ?run2, ?guar2⟩⟩) hS ?rest2
  case run2 =>
    intro K hK
    (skip)
    go_simp
    exact hK
  case guar2 =>
    (skip)
    (co_still (termsT p Sh E Dn))
  try walk_nrm
  co_applyP anyCH_take (termsT p Sh E Dn) (fun _ _ h r => h.imp fun _ h => h.imp fun _ h => h.imp fun _ h => KM.rely n h r) (fun _ _ _ h r => by obtain ⟨h1, v, h2, Q', cap, qc', h3, h4, h5, h6, h9, h7, h8⟩ := h; exact ⟨h1, v, h2, Q', cap, qc', h3, h4, h5, h6, h9, h7, KM.rely n h8 r⟩) (i := 2) rfl (by first | kernel_rfl | decide +kernel) (by first | kernel_rfl | decide +kernel) (by first | kernel_rfl | decide +kernel) ( .inl ⟨by rfl, fun _ hw => ⟨run_eq_of ?run3, ?guar3⟩⟩) hS ?rest3
  case run3 =>
    intro K hK
    (skip)
    go_simp
    exact hK
  case guar3 =>
    (skip)
    (co_still (termsT p Sh E Dn))
  try walk_nrm
  co_applyP anyCH_take (termsT p Sh E Dn) (fun _ _ h r => h.imp fun _ h => h.imp fun _ h => h.imp fun _ h => KM.rely n h r) (fun _ _ _ h r => by obtain ⟨h1, v, h2, Q', cap, qc', h3, h4, h5, h6, h9, h7, h8⟩ := h; exact ⟨h1, v, h2, Q', cap, qc', h3, h4, h5, h6, h9, h7, KM.rely n h8 r⟩) (i := 3) rfl (by first | kernel_rfl | decide +kernel) (by first | kernel_rfl | decide +kernel) (by first | kernel_rfl | decide +kernel) ( .inl ⟨by rfl, fun _ hw => ⟨run_eq_of ?run4, ?guar4⟩⟩) hS ?rest4
  case run4 =>
    intro K hK
    (skip)
    go_simp
    exact hK
  case guar4 =>
    (skip)
    (co_still (termsT p Sh E Dn))
  try walk_nrm
  co_applyP anyCH_take (termsT p Sh E Dn) (fun _ _ h r => h.imp fun _ h => h.imp fun _ h => h.imp fun _ h => KM.rely n h r) (fun _ _ _ h r => by obtain ⟨h1, v, h2, Q', cap, qc', h3, h4, h5, h6, h9, h7, h8⟩ := h; exact ⟨h1, v, h2, Q', cap, qc', h3, h4, h5, h6, h9, h7, KM.rely n h8 r⟩) (i := 4) rfl (by first | kernel_rfl | decide +kernel) (by first | kernel_rfl | decide +kernel) (by first | kernel_rfl | decide +kernel) ( .inl ⟨by rfl, fun _ hw => ⟨run_eq_of ?run5, ?guar5⟩⟩) hS ?rest5
  case run5 =>
    intro K hK
    (skip)
    go_simp
    exact hK
  case guar5 =>
    (skip)
    (co_still (termsT p Sh E Dn))
  try walk_nrm
  co_applyP anyCH_take (termsT p Sh E Dn) (fun _ _ h r => h.imp fun _ h => h.imp fun _ h => h.imp fun _ h => KM.rely n h r) (fun _ _ _ h r => by obtain ⟨h1, v, h2, Q', cap, qc', h3, h4, h5, h6, h9, h7, h8⟩ := h; exact ⟨h1, v, h2, Q', cap, qc', h3, h4, h5, h6, h9, h7, KM.rely n h8 r⟩) (i := 5) rfl (by first | kernel_rfl | decide +kernel) (by first | kernel_rfl | decide +kernel) (by first | kernel_rfl | decide +kernel) ( .inl ⟨by rfl, fun _ hw => ⟨run_eq_of ?run6, ?guar6⟩⟩) hS ?rest6
  case run6 =>
    intro K hK
    (obtain ⟨_, _, _, hw⟩ := hw; have hc := hw.pp.cell hp.lv)
    go_simp
    exact hK
  case guar6 =>
    (obtain ⟨_, _, _, hw⟩ := hw; have hc := hw.pp.cell hp.lv)
    (refine dt_read ?_; co_evs (exact hw.evP n _))
  try walk_nrm
  co_applyP anyCH_take (termsT p Sh E Dn) (fun _ _ h r => h.imp fun _ h => h.imp fun _ h => h.imp fun _ h => KM.rely n h r) (fun _ _ _ h r => by obtain ⟨h1, v, h2, Q', cap, qc', h3, h4, h5, h6, h9, h7, h8⟩ := h; exact ⟨h1, v, h2, Q', cap, qc', h3, h4, h5, h6, h9, h7, KM.rely n h8 r⟩) (i := 6) rfl (by first | kernel_rfl | decide +kernel) (by first | kernel_rfl | decide +kernel) (by first | kernel_rfl | decide +kernel) ( .inl ⟨by rfl, fun _ hw => ⟨run_eq_of ?run7, ?guar7⟩⟩) hS ?rest7
  case run7 =>
    intro K hK
    (skip)
    go_simp
    exact hK
  case guar7 =>
    (skip)
    (co_still (termsT p Sh E Dn))
  try walk_nrm
  co_applyP anyCH_take (termsT p Sh E Dn) (fun _ _ h r => h.imp fun _ h => h.imp fun _ h => h.imp fun _ h => KM.rely n h r) (fun _ _ _ h r => by obtain ⟨h1, v, h2, Q', cap, qc', h3, h4, h5, h6, h9, h7, h8⟩ := h; exact ⟨h1, v, h2, Q', cap, qc', h3, h4, h5, h6, h9, h7, KM.rely n h8 r⟩) (i := 7) rfl (by first | kernel_rfl | decide +kernel) (by first | kernel_rfl | decide +kernel) (by first | kernel_rfl | decide +kernel) ( .inl ⟨by rfl, fun _ hw => ⟨run_eq_of ?run8, ?guar8⟩⟩) hS ?rest8
  case run8 =>
    intro K hK
    (skip)
    go_simp
    exact hK
  case guar8 =>
    (skip)
    (co_still (termsT p Sh E Dn))
  try walk_nrm
  co_applyP anyCH_take (termsT p Sh E Dn) (fun _ _ h r => h.imp fun _ h => h.imp fun _ h => h.imp fun _ h => KM.rely n h r) (fun _ _ _ h r => by obtain ⟨h1, v, h2, Q', cap, qc', h3, h4, h5, h6, h9, h7, h8⟩ := h; exact ⟨h1, v, h2, Q', cap, qc', h3, h4, h5, h6, h9, h7, KM.rely n h8 r⟩) (i := 8) rfl (by first | kernel_rfl | decide +kernel) (by first | kernel_rfl | decide +kernel) (by first | kernel_rfl | decide +kernel) ( .inl ⟨by rfl, fun _ hw => ⟨run_eq_of ?run9, ?guar9⟩⟩) hS ?rest9
  case run9 =>
    intro K hK
    (skip)
    go_simp
    exact hK
  case guar9 =>
    (skip)
    (co_still (termsT p Sh E Dn))
  try walk_nrm
  co_applyP anyCH_take (termsT p Sh E Dn) (fun _ _ h r => h.imp fun _ h => h.imp fun _ h => h.imp fun _ h => KM.rely n h r) (fun _ _ _ h r => by obtain ⟨h1, v, h2, Q', cap, qc', h3, h4, h5, h6, h9, h7, h8⟩ := h; exact ⟨h1, v, h2, Q', cap, qc', h3, h4, h5, h6, h9, h7, KM.rely n h8 r⟩) (i := 9) rfl (by first | kernel_rfl | decide +kernel) (by first | kernel_rfl | decide +kernel) (by first | kernel_rfl | decide +kernel) ( .inl ⟨by rfl, fun _ hw => ⟨run_eq_of ?run10, ?guar10⟩⟩) hS ?rest10
  case run10 =>
    intro K hK
    (skip)
    go_simp
    exact hK
  case guar10 =>
    (skip)
    (co_still (termsT p Sh E Dn))
  try walk_nrm
  co_applyP anyCH_take (termsT p Sh E Dn) (fun _ _ h r => h.imp fun _ h => h.imp fun _ h => h.imp fun _ h => KM.rely n h r) (fun _ _ _ h r => by obtain ⟨h1, v, h2, Q', cap, qc', h3, h4, h5, h6, h9, h7, h8⟩ := h; exact ⟨h1, v, h2, Q', cap, qc', h3, h4, h5, h6, h9, h7, KM.rely n h8 r⟩) (i := 10) rfl (by first | kernel_rfl | decide +kernel) (by first | kernel_rfl | decide +kernel) (by first | kernel_rfl | decide +kernel) ( .inl ⟨by rfl, fun _ hw => ⟨run_eq_of ?run11, ?guar11⟩⟩) hS ?rest11
  case run11 =>
    intro K hK
    (skip)
    go_simp
    exact hK
  case guar11 =>
    (skip)
    (co_still (termsT p Sh E Dn))
  try walk_nrm
  co_applyP anyCH_take (termsT p Sh E Dn) (fun _ _ h r => h.imp fun _ h => h.imp fun _ h => h.imp fun _ h => KM.rely n h r) (fun _ _ _ h r => by obtain ⟨h1, v, h2, Q', cap, qc', h3, h4, h5, h6, h9, h7, h8⟩ := h; exact ⟨h1, v, h2, Q', cap, qc', h3, h4, h5, h6, h9, h7, KM.rely n h8 r⟩) (i := 11) rfl (by first | kernel_rfl | decide +kernel) (by first | kernel_rfl | decide +kernel) (by first | kernel_rfl | decide +kernel) ( .inl ⟨by rfl, fun _ hw => ⟨run_eq_of ?run12, ?guar12⟩⟩) hS ?rest12
  case run12 =>
    intro K hK
    (obtain ⟨_, _, _, hw⟩ := hw; have hc := hw.pp.cell hp.lv)
    go_simp
    exact hK
  case guar12 =>
    (obtain ⟨_, _, _, hw⟩ := hw; have hc := hw.pp.cell hp.lv)
    (refine dt_read ?_; co_evs (exact hw.evP n _))
  try walk_nrm
  co_applyP anyCH_take (termsT p Sh E Dn) (fun _ _ h r => h.imp fun _ h => h.imp fun _ h => h.imp fun _ h => KM.rely n h r) (fun _ _ _ h r => by obtain ⟨h1, v, h2, Q', cap, qc', h3, h4, h5, h6, h9, h7, h8⟩ := h; exact ⟨h1, v, h2, Q', cap, qc', h3, h4, h5, h6, h9, h7, KM.rely n h8 r⟩) (i := 12) rfl (by first | kernel_rfl | decide +kernel) (by first | kernel_rfl | decide +kernel) (by first | kernel_rfl | decide +kernel) ( .inl ⟨by rfl, fun _ hw => ⟨run_eq_of ?run13, ?guar13⟩⟩) hS ?rest13
  case run13 =>
    intro K hK
    (skip)
    go_simp
    exact hK
  case guar13 =>
    (skip)
    (co_still (termsT p Sh E Dn))
  try walk_nrm
  co_applyP anyCH_take (termsT p Sh E Dn) (fun _ _ h r => h.imp fun _ h => h.imp fun _ h => h.imp fun _ h => KM.rely n h r) (fun _ _ _ h r => by obtain ⟨h1, v, h2, Q', cap, qc', h3, h4, h5, h6, h9, h7, h8⟩ := h; exact ⟨h1, v, h2, Q', cap, qc', h3, h4, h5, h6, h9, h7, KM.rely n h8 r⟩) (i := 13) rfl (by first | kernel_rfl | decide +kernel) (by first | kernel_rfl | decide +kernel) (by first | kernel_rfl | decide +kernel) ( .inl ⟨by rfl, fun _ hw => ⟨run_eq_of ?run14, ?guar14⟩⟩) hS ?rest14
  case run14 =>
    intro K hK
    (skip)
    go_simp
    exact hK
  case guar14 =>
    (skip)
    (co_still (termsT p Sh E Dn))
  try walk_nrm
  co_applyP anyCH_take (termsT p Sh E Dn) (fun _ _ h r => h.imp fun _ h => h.imp fun _ h => h.imp fun _ h => KM.rely n h r) (fun _ _ _ h r => by obtain ⟨h1, v, h2, Q', cap, qc', h3, h4, h5, h6, h9, h7, h8⟩ := h; exact ⟨h1, v, h2, Q', cap, qc', h3, h4, h5, h6, h9, h7, KM.rely n h8 r⟩) (i := 15) rfl (by first | kernel_rfl | decide +kernel) (by first | kernel_rfl | decide +kernel) (by first | kernel_rfl | decide +kernel) ( .inl ⟨by rfl, fun _ hw => ⟨run_eq_of ?run15, ?guar15⟩⟩) hS ?rest15
  case run15 =>
    intro K hK
    (skip)
    go_simp
    exact hK
  case guar15 =>
    (skip)
    (co_still (termsT p Sh E Dn))
  try walk_nrm
  co_applyP anyCH_take (termsT p Sh E Dn) (fun _ _ h r => h.imp fun _ h => h.imp fun _ h => h.imp fun _ h => KM.rely n h r) (fun _ _ _ h r => by obtain ⟨h1, v, h2, Q', cap, qc', h3, h4, h5, h6, h9, h7, h8⟩ := h; exact ⟨h1, v, h2, Q', cap, qc', h3, h4, h5, h6, h9, h7, KM.rely n h8 r⟩) (i := 18) rfl (by first | kernel_rfl | decide +kernel) (by first | kernel_rfl | decide +kernel) (by first | kernel_rfl | decide +kernel) ( .inl ⟨by rfl, fun _ hw => ⟨run_eq_of ?run16, ?guar16⟩⟩) hS ?rest16
  case run16 =>
    intro K hK
    (skip)
    go_simp
    exact hK
  case guar16 =>
    (skip)
    (co_still (termsT p Sh E Dn))
  try walk_nrm
  co_applyP anyCH_all (rs := [14, 16]) (by first | kernel_rfl | decide +kernel) (by decide)
  intro qq hqq
  simp only [List.mem_cons, List.not_mem_nil, or_false] at hqq
  obtain rfl | rfl := hqq
  · co_applyP opC_k rfl (by rfl)
    intro _ hR K hK
    replace hF := KM.rely n hF hR
    clear hR
    have hc := hF.k.cell hrow
    go_simp
    refine hK _ _ ⟨?_, ⟨_, _, _, hF⟩, ?_⟩
    · refine dt_read ?_
      co_evs (exact hF.evK n _)
    clear hK K hc
    try walk_nrm
    co_applyP anyCH_all (rs := [16]) (by first | kernel_rfl | decide +kernel) (by decide)
    intro qq hqq
    obtain rfl : qq = 16 := by simpa using hqq
    co_applyP opC_k rfl (by rfl)
    intro _ hR K hK
    replace hF := KM.rely n hF hR
    clear hR
    have ho := hF.off
    have hN := hF.sz
    go_simp
    refine hK _ _ ⟨hF.dtAlloc n (by decide) ?_, ⟨_, _, _, hF.alloc _⟩, ?_⟩
    · intro e he
      have hm := mem_listed he
      simp [go_sem, *] at hm
    clear hK K
    replace hF := KB.new n hF 72 #[.pointer (some ⟨a.P, 0, none⟩)]
    try walk_nrm
    co_applyP anyCH_all (rs := [17]) (by first | kernel_rfl | decide +kernel) (by decide)
    intro qq hqq
    obtain rfl : qq = 17 := by simpa using hqq
    co_applyP opC_k rfl (by rfl)
    intro _ hR K hK
    replace hF := KB.rely n (by decide) hF hR
    clear hR
    obtain ⟨g, cap, cur, w', hr, hc1, hcm, hcs, hc0, hRg, hNg, hM, hD⟩ := hF.appNil (P := Tryd.prog) (ty := 70) n Tryd.underlying70 t1 t2 t3 t4 t5 hN
    refine uponK_append (.tmp 18) (.tmp 20) 70 rfl rfl rfl hr ?_
    refine hK _ _ ⟨hD _ ?_, ⟨_, _, _, hM⟩, ?_⟩
    · intro e he
      have hm := mem_listed he
      rw [events_append_op (.tmp 18) (.tmp 20) 70 rfl rfl rfl] at hm
      exact hm
    clear hK K hD hF
    have hF := hM
    clear hM
    try walk_nrm
    clear hS
    have hS : ∃ kc' Q' qc', KM p Sh E Dn a kc' pc Q' qc' _ := ⟨_, _, _, hF⟩
    co_applyP anyCH_take (termsT p Sh E Dn) (fun _ _ h r => h.imp fun _ h => h.imp fun _ h => h.imp fun _ h => KM.rely n h r) (fun _ _ _ h r => by obtain ⟨h1, v, h2, Q', cap, qc', h3, h4, h5, h6, h9, h7, h8⟩ := h; exact ⟨h1, v, h2, Q', cap, qc', h3, h4, h5, h6, h9, h7, KM.rely n h8 r⟩) (i := 19) rfl (by first | kernel_rfl | decide +kernel) (by first | kernel_rfl | decide +kernel) (by first | kernel_rfl | decide +kernel) ( .inl ⟨by rfl, fun _ hw => ⟨run_eq_of ?run17, ?guar17⟩⟩) hS ?rest17
    case run17 =>
      intro K hK
      (skip)
      go_simp
      exact hK
    case guar17 =>
      (skip)
      (co_still (termsT p Sh E Dn))
    try walk_nrm
    co_applyP anyCH_all (rs := [20]) (by first | kernel_rfl | decide +kernel) (by decide)
    intro qq hqq
    obtain rfl : qq = 20 := by simpa using hqq
    co_applyP opC_k rfl (by rfl)
    intro _ hR K hK
    replace hF := KM.rely n hF hR
    clear hR
    have hc := hF.k.cell hrow
    have hz := hF.k.thaw (6 + lv)
    go_simp
    try (unfold stored; go_simp)
    refine hK _ _ ⟨?_, ⟨_, _, _, hF.setK n (6 + lv) _⟩, ?_⟩
    · refine hF.dtK n ?_
      intro e he
      have hm := mem_listed he
      simp [go_sem, *] at hm
      exact hm
    clear hK K hc hz
    replace hF := hF.setK n (6 + lv) (.slice (some ⟨g, 0, none⟩) 1 cap)
    refine anyCH_done (by first | kernel_rfl | decide +kernel) ?_ _
    exact ⟨rfl, _, resultsC_none (by rfl) _, g, cap, cur, hc1, hcm, hcs, hRg, hNg, hc0, hF⟩
  · co_applyP opC_k rfl (by rfl)
    intro _ hR K hK
    replace hF := KM.rely n hF hR
    clear hR
    have ho := hF.off
    have hN := hF.sz
    go_simp
    refine hK _ _ ⟨hF.dtAlloc n (by decide) ?_, ⟨_, _, _, hF.alloc _⟩, ?_⟩
    · intro e he
      have hm := mem_listed he
      simp [go_sem, *] at hm
    clear hK K
    replace hF := KB.new n hF 72 #[.pointer (some ⟨a.P, 0, none⟩)]
    try walk_nrm
    co_applyP anyCH_all (rs := [14]) (by first | kernel_rfl | decide +kernel) (by decide)
    intro qq hqq
    obtain rfl : qq = 14 := by simpa using hqq
    co_applyP opC_k rfl (by rfl)
    intro _ hR K hK
    replace hF := KB.rely n (by decide) hF hR
    clear hR
    have hc := hF.m.k.cell hrow
    go_simp
    refine hK _ _ ⟨?_, ⟨_, _, _, hF.m⟩, ?_⟩
    · refine dt_read ?_
      co_evs (exact hF.m.evK n _)
    clear hK K hc
    try walk_nrm
    co_applyP anyCH_all (rs := [17]) (by first | kernel_rfl | decide +kernel) (by decide)
    intro qq hqq
    obtain rfl : qq = 17 := by simpa using hqq
    co_applyP opC_k rfl (by rfl)
    intro _ hR K hK
    replace hF := KB.rely n (by decide) hF hR
    clear hR
    obtain ⟨g, cap, cur, w', hr, hc1, hcm, hcs, hc0, hRg, hNg, hM, hD⟩ := hF.appNil (P := Tryd.prog) (ty := 70) n Tryd.underlying70 t1 t2 t3 t4 t5 hN
    refine uponK_append (.tmp 18) (.tmp 20) 70 rfl rfl rfl hr ?_
    refine hK _ _ ⟨hD _ ?_, ⟨_, _, _, hM⟩, ?_⟩
    · intro e he
      have hm := mem_listed he
      rw [events_append_op (.tmp 18) (.tmp 20) 70 rfl rfl rfl] at hm
      exact hm
    clear hK K hD hF
    have hF := hM
    clear hM
    try walk_nrm
    clear hS
    have hS : ∃ kc' Q' qc', KM p Sh E Dn a kc' pc Q' qc' _ := ⟨_, _, _, hF⟩
    co_applyP anyCH_take (termsT p Sh E Dn) (fun _ _ h r => h.imp fun _ h => h.imp fun _ h => h.imp fun _ h => KM.rely n h r) (fun _ _ _ h r => by obtain ⟨h1, v, h2, Q', cap, qc', h3, h4, h5, h6, h9, h7, h8⟩ := h; exact ⟨h1, v, h2, Q', cap, qc', h3, h4, h5, h6, h9, h7, KM.rely n h8 r⟩) (i := 19) rfl (by first | kernel_rfl | decide +kernel) (by first | kernel_rfl | decide +kernel) (by first | kernel_rfl | decide +kernel) ( .inl ⟨by rfl, fun _ hw => ⟨run_eq_of ?run18, ?guar18⟩⟩) hS ?rest18
    case run18 =>
      intro K hK
      (skip)
      go_simp
      exact hK
    case guar18 =>
      (skip)
      (co_still (termsT p Sh E Dn))
    try walk_nrm
    co_applyP anyCH_all (rs := [20]) (by first | kernel_rfl | decide +kernel) (by decide)
    intro qq hqq
    obtain rfl : qq = 20 := by simpa using hqq
    co_applyP opC_k rfl (by rfl)
    intro _ hR K hK
    replace hF := KM.rely n hF hR
    clear hR
    have hc := hF.k.cell hrow
    have hz := hF.k.thaw (6 + lv)
    go_simp
    try (unfold stored; go_simp)
    refine hK _ _ ⟨?_, ⟨_, _, _, hF.setK n (6 + lv) _⟩, ?_⟩
    · refine hF.dtK n ?_
      intro e he
      have hm := mem_listed he
      simp [go_sem, *] at hm
      exact hm
    clear hK K hc hz
    replace hF := hF.setK n (6 + lv) (.slice (some ⟨g, 0, none⟩) 1 cap)
    refine anyCH_done (by first | kernel_rfl | decide +kernel) ?_ _
    exact ⟨rfl, _, resultsC_none (by rfl) _, g, cap, cur, hc1, hcm, hcs, hRg, hNg, hc0, hF⟩
end Go.Proofs.YtbnaccilnilcmaaDoor
