/-
  A process joins the row of its level, where that has room.
  No condition but those that each statement names.
-/
import Derived.Test.YtbnaccilnilcmaaDoorHx19
import Derived.Test.YtbnaccilnilcmaaDoorHx10
set_option linter.unusedVariables false
set_option linter.unusedSimpArgs false
set_option linter.unusedSectionVars false
namespace Go.Proofs.YtbnaccilnilcmaaDoor
open Go.Conc Go.RowKit Go.Hx

variable {p : Par} {Sh : Loc → Prop} {E Dn : Nat} {a : Ad}

set_option maxRecDepth 100000 in
set_option maxHeartbeats 4000000 in
theorem join_c1 (n : En p Sh E Dn a) : ∃ k, ∀ (kc pc : Array Value) (Q : Nat) (qc : Array Value) {st status at_ used : Int} {r m : Nat → Int} (lv : Nat) (hlv : lv < 3) (hp : Pst pc st status at_ lv used r m) (hksz : kc.size = 10) (cap : Nat) (hrow : kc[6 + lv]? = some (.slice (some ⟨Q, 0, none⟩) 0 cap)) (hQN : p.N0 ≤ Q) (hRQ : a.R ≠ Q) (hc1 : 1 ≤ cap) (hcm : cap ≤ maxLen) (hcs : qc.size = cap) (w : World), KM p Sh E Dn a kc pc Q qc w →
      CallsC Tryd.prog false (RB p E Dn) (DT p Sh E Dn) 51 #[.pointer (some ⟨a.K, 6, none⟩), .pointer (some ⟨a.P, 0, none⟩)] k w fun _ w' => KM p Sh E Dn a (kc.setIfInBounds (6 + lv) (.slice (some ⟨Q, 0, none⟩) 1 cap)) pc Q (qc.setIfInBounds 0 (.pointer (some ⟨a.P, 0, none⟩))) w' := by
  co_apply Exists.intro
  intro kc pc Q qc st status at_ used r m lv hlv hp hksz cap hrow hQN hRQ hc1 hcm hcs w hF
  have b1 : (lv : Int) < 3 := by omega
  have e1 := fun (w : World) (es : Array Event) => events_indexAt_array (P := Tryd.prog) (w := w) (es := es) 86 _ 3 ⟨a.K, 6, none⟩ .i64 (lv : Int) Tryd.underlying86 (by omega)
  have e3 := fun (w : World) (es : Array Event) (g l c : Nat) => events_store Tryd.prog w es ⟨a.K, 6 + lv, none⟩ (.slice (some ⟨g, 0, none⟩) l c) .plain rfl
  obtain ⟨ti, tz, t1, t2, t3, t4, t5⟩ := info72
  co_apply callsC_of_wpC Tryd.func51 (by rfl) rfl
  simp only [Tryd.ntmps51, List.size_toArray, List.length_cons, List.length_nil, Nat.reduceAdd, Nat.reduceSub, Array.replicate_succ, Array.replicate_zero, List.push_toArray, List.append_toArray, List.nil_append, List.cons_append]
  co_held (termsT p Sh E Dn) (drawT p Sh E Dn) (ownDrawT p E Dn) (fun w => ∃ kc' Q' qc', KM p Sh E Dn a kc' pc Q' qc' w) (KM.rely n) hF
  have hS : ∃ kc' Q' qc', KM p Sh E Dn a kc' pc Q' qc' _ := ⟨_, _, _, hF⟩
  co_applyP anyCH_take (termsT p Sh E Dn) (fun _ _ h r => h.imp fun _ h => h.imp fun _ h => h.imp fun _ h => KM.rely n h r) (fun _ _ _ h r => by obtain ⟨h1, v, h2, h8⟩ := h; exact ⟨h1, v, h2, KM.rely n h8 r⟩) (i := 0) rfl (by first | kernel_rfl | decide +kernel) (by first | kernel_rfl | decide +kernel) (by first | kernel_rfl | decide +kernel) ( .inl ⟨by rfl, fun _ hw => ⟨run_eq_of ?run41, ?guar41⟩⟩) hS ?rest41
  case run41 =>
    intro K hK
    (skip)
    go_simp
    exact hK
  case guar41 =>
    (skip)
    (co_still (termsT p Sh E Dn))
  try walk_nrm
  co_applyP anyCH_take (termsT p Sh E Dn) (fun _ _ h r => h.imp fun _ h => h.imp fun _ h => h.imp fun _ h => KM.rely n h r) (fun _ _ _ h r => by obtain ⟨h1, v, h2, h8⟩ := h; exact ⟨h1, v, h2, KM.rely n h8 r⟩) (i := 1) rfl (by first | kernel_rfl | decide +kernel) (by first | kernel_rfl | decide +kernel) (by first | kernel_rfl | decide +kernel) ( .inl ⟨by rfl, fun _ hw => ⟨run_eq_of ?run42, ?guar42⟩⟩) hS ?rest42
  case run42 =>
    intro K hK
    (skip)
    go_simp
    exact hK
  case guar42 =>
    (skip)
    (co_still (termsT p Sh E Dn))
  try walk_nrm
  co_applyP anyCH_take (termsT p Sh E Dn) (fun _ _ h r => h.imp fun _ h => h.imp fun _ h => h.imp fun _ h => KM.rely n h r) (fun _ _ _ h r => by obtain ⟨h1, v, h2, h8⟩ := h; exact ⟨h1, v, h2, KM.rely n h8 r⟩) (i := 2) rfl (by first | kernel_rfl | decide +kernel) (by first | kernel_rfl | decide +kernel) (by first | kernel_rfl | decide +kernel) ( .inl ⟨by rfl, fun _ hw => ⟨run_eq_of ?run43, ?guar43⟩⟩) hS ?rest43
  case run43 =>
    intro K hK
    (skip)
    go_simp
    exact hK
  case guar43 =>
    (skip)
    (co_still (termsT p Sh E Dn))
  try walk_nrm
  co_applyP anyCH_take (termsT p Sh E Dn) (fun _ _ h r => h.imp fun _ h => h.imp fun _ h => h.imp fun _ h => KM.rely n h r) (fun _ _ _ h r => by obtain ⟨h1, v, h2, h8⟩ := h; exact ⟨h1, v, h2, KM.rely n h8 r⟩) (i := 3) rfl (by first | kernel_rfl | decide +kernel) (by first | kernel_rfl | decide +kernel) (by first | kernel_rfl | decide +kernel) ( .inl ⟨by rfl, fun _ hw => ⟨run_eq_of ?run44, ?guar44⟩⟩) hS ?rest44
  case run44 =>
    intro K hK
    (skip)
    go_simp
    exact hK
  case guar44 =>
    (skip)
    (co_still (termsT p Sh E Dn))
  try walk_nrm
  co_applyP anyCH_take (termsT p Sh E Dn) (fun _ _ h r => h.imp fun _ h => h.imp fun _ h => h.imp fun _ h => KM.rely n h r) (fun _ _ _ h r => by obtain ⟨h1, v, h2, h8⟩ := h; exact ⟨h1, v, h2, KM.rely n h8 r⟩) (i := 4) rfl (by first | kernel_rfl | decide +kernel) (by first | kernel_rfl | decide +kernel) (by first | kernel_rfl | decide +kernel) ( .inl ⟨by rfl, fun _ hw => ⟨run_eq_of ?run45, ?guar45⟩⟩) hS ?rest45
  case run45 =>
    intro K hK
    (skip)
    go_simp
    exact hK
  case guar45 =>
    (skip)
    (co_still (termsT p Sh E Dn))
  try walk_nrm
  co_applyP anyCH_take (termsT p Sh E Dn) (fun _ _ h r => h.imp fun _ h => h.imp fun _ h => h.imp fun _ h => KM.rely n h r) (fun _ _ _ h r => by obtain ⟨h1, v, h2, h8⟩ := h; exact ⟨h1, v, h2, KM.rely n h8 r⟩) (i := 5) rfl (by first | kernel_rfl | decide +kernel) (by first | kernel_rfl | decide +kernel) (by first | kernel_rfl | decide +kernel) ( .inl ⟨by rfl, fun _ hw => ⟨run_eq_of ?run46, ?guar46⟩⟩) hS ?rest46
  case run46 =>
    intro K hK
    (obtain ⟨_, _, _, hw⟩ := hw; have hc := hw.pp.cell hp.lv)
    go_simp
    exact hK
  case guar46 =>
    (obtain ⟨_, _, _, hw⟩ := hw; have hc := hw.pp.cell hp.lv)
    (refine dt_read ?_; co_evs (exact hw.evP n _))
  try walk_nrm
  co_applyP anyCH_take (termsT p Sh E Dn) (fun _ _ h r => h.imp fun _ h => h.imp fun _ h => h.imp fun _ h => KM.rely n h r) (fun _ _ _ h r => by obtain ⟨h1, v, h2, h8⟩ := h; exact ⟨h1, v, h2, KM.rely n h8 r⟩) (i := 6) rfl (by first | kernel_rfl | decide +kernel) (by first | kernel_rfl | decide +kernel) (by first | kernel_rfl | decide +kernel) ( .inl ⟨by rfl, fun _ hw => ⟨run_eq_of ?run47, ?guar47⟩⟩) hS ?rest47
  case run47 =>
    intro K hK
    (skip)
    go_simp
    exact hK
  case guar47 =>
    (skip)
    (co_still (termsT p Sh E Dn))
  try walk_nrm
  co_applyP anyCH_take (termsT p Sh E Dn) (fun _ _ h r => h.imp fun _ h => h.imp fun _ h => h.imp fun _ h => KM.rely n h r) (fun _ _ _ h r => by obtain ⟨h1, v, h2, h8⟩ := h; exact ⟨h1, v, h2, KM.rely n h8 r⟩) (i := 7) rfl (by first | kernel_rfl | decide +kernel) (by first | kernel_rfl | decide +kernel) (by first | kernel_rfl | decide +kernel) ( .inl ⟨by rfl, fun _ hw => ⟨run_eq_of ?run48, ?guar48⟩⟩) hS ?rest48
  case run48 =>
    intro K hK
    (skip)
    go_simp
    exact hK
  case guar48 =>
    (skip)
    (co_still (termsT p Sh E Dn))
  try walk_nrm
  co_applyP anyCH_take (termsT p Sh E Dn) (fun _ _ h r => h.imp fun _ h => h.imp fun _ h => h.imp fun _ h => KM.rely n h r) (fun _ _ _ h r => by obtain ⟨h1, v, h2, h8⟩ := h; exact ⟨h1, v, h2, KM.rely n h8 r⟩) (i := 8) rfl (by first | kernel_rfl | decide +kernel) (by first | kernel_rfl | decide +kernel) (by first | kernel_rfl | decide +kernel) ( .inl ⟨by rfl, fun _ hw => ⟨run_eq_of ?run49, ?guar49⟩⟩) hS ?rest49
  case run49 =>
    intro K hK
    (skip)
    go_simp
    exact hK
  case guar49 =>
    (skip)
    (co_still (termsT p Sh E Dn))
  try walk_nrm
  co_applyP anyCH_take (termsT p Sh E Dn) (fun _ _ h r => h.imp fun _ h => h.imp fun _ h => h.imp fun _ h => KM.rely n h r) (fun _ _ _ h r => by obtain ⟨h1, v, h2, h8⟩ := h; exact ⟨h1, v, h2, KM.rely n h8 r⟩) (i := 9) rfl (by first | kernel_rfl | decide +kernel) (by first | kernel_rfl | decide +kernel) (by first | kernel_rfl | decide +kernel) ( .inl ⟨by rfl, fun _ hw => ⟨run_eq_of ?run50, ?guar50⟩⟩) hS ?rest50
  case run50 =>
    intro K hK
    (skip)
    go_simp
    exact hK
  case guar50 =>
    (skip)
    (co_still (termsT p Sh E Dn))
  try walk_nrm
  co_applyP anyCH_take (termsT p Sh E Dn) (fun _ _ h r => h.imp fun _ h => h.imp fun _ h => h.imp fun _ h => KM.rely n h r) (fun _ _ _ h r => by obtain ⟨h1, v, h2, h8⟩ := h; exact ⟨h1, v, h2, KM.rely n h8 r⟩) (i := 10) rfl (by first | kernel_rfl | decide +kernel) (by first | kernel_rfl | decide +kernel) (by first | kernel_rfl | decide +kernel) ( .inl ⟨by rfl, fun _ hw => ⟨run_eq_of ?run51, ?guar51⟩⟩) hS ?rest51
  case run51 =>
    intro K hK
    (skip)
    go_simp
    exact hK
  case guar51 =>
    (skip)
    (co_still (termsT p Sh E Dn))
  try walk_nrm
  co_applyP anyCH_take (termsT p Sh E Dn) (fun _ _ h r => h.imp fun _ h => h.imp fun _ h => h.imp fun _ h => KM.rely n h r) (fun _ _ _ h r => by obtain ⟨h1, v, h2, h8⟩ := h; exact ⟨h1, v, h2, KM.rely n h8 r⟩) (i := 11) rfl (by first | kernel_rfl | decide +kernel) (by first | kernel_rfl | decide +kernel) (by first | kernel_rfl | decide +kernel) ( .inl ⟨by rfl, fun _ hw => ⟨run_eq_of ?run52, ?guar52⟩⟩) hS ?rest52
  case run52 =>
    intro K hK
    (obtain ⟨_, _, _, hw⟩ := hw; have hc := hw.pp.cell hp.lv)
    go_simp
    exact hK
  case guar52 =>
    (obtain ⟨_, _, _, hw⟩ := hw; have hc := hw.pp.cell hp.lv)
    (refine dt_read ?_; co_evs (exact hw.evP n _))
  try walk_nrm
  co_applyP anyCH_take (termsT p Sh E Dn) (fun _ _ h r => h.imp fun _ h => h.imp fun _ h => h.imp fun _ h => KM.rely n h r) (fun _ _ _ h r => by obtain ⟨h1, v, h2, h8⟩ := h; exact ⟨h1, v, h2, KM.rely n h8 r⟩) (i := 12) rfl (by first | kernel_rfl | decide +kernel) (by first | kernel_rfl | decide +kernel) (by first | kernel_rfl | decide +kernel) ( .inl ⟨by rfl, fun _ hw => ⟨run_eq_of ?run53, ?guar53⟩⟩) hS ?rest53
  case run53 =>
    intro K hK
    (skip)
    go_simp
    exact hK
  case guar53 =>
    (skip)
    (co_still (termsT p Sh E Dn))
  try walk_nrm
  co_applyP anyCH_take (termsT p Sh E Dn) (fun _ _ h r => h.imp fun _ h => h.imp fun _ h => h.imp fun _ h => KM.rely n h r) (fun _ _ _ h r => by obtain ⟨h1, v, h2, h8⟩ := h; exact ⟨h1, v, h2, KM.rely n h8 r⟩) (i := 13) rfl (by first | kernel_rfl | decide +kernel) (by first | kernel_rfl | decide +kernel) (by first | kernel_rfl | decide +kernel) ( .inl ⟨by rfl, fun _ hw => ⟨run_eq_of ?run54, ?guar54⟩⟩) hS ?rest54
  case run54 =>
    intro K hK
    (skip)
    go_simp
    exact hK
  case guar54 =>
    (skip)
    (co_still (termsT p Sh E Dn))
  try walk_nrm
  co_applyP anyCH_take (termsT p Sh E Dn) (fun _ _ h r => h.imp fun _ h => h.imp fun _ h => h.imp fun _ h => KM.rely n h r) (fun _ _ _ h r => by obtain ⟨h1, v, h2, h8⟩ := h; exact ⟨h1, v, h2, KM.rely n h8 r⟩) (i := 15) rfl (by first | kernel_rfl | decide +kernel) (by first | kernel_rfl | decide +kernel) (by first | kernel_rfl | decide +kernel) ( .inl ⟨by rfl, fun _ hw => ⟨run_eq_of ?run55, ?guar55⟩⟩) hS ?rest55
  case run55 =>
    intro K hK
    (skip)
    go_simp
    exact hK
  case guar55 =>
    (skip)
    (co_still (termsT p Sh E Dn))
  try walk_nrm
  co_applyP anyCH_take (termsT p Sh E Dn) (fun _ _ h r => h.imp fun _ h => h.imp fun _ h => h.imp fun _ h => KM.rely n h r) (fun _ _ _ h r => by obtain ⟨h1, v, h2, h8⟩ := h; exact ⟨h1, v, h2, KM.rely n h8 r⟩) (i := 18) rfl (by first | kernel_rfl | decide +kernel) (by first | kernel_rfl | decide +kernel) (by first | kernel_rfl | decide +kernel) ( .inl ⟨by rfl, fun _ hw => ⟨run_eq_of ?run56, ?guar56⟩⟩) hS ?rest56
  case run56 =>
    intro K hK
    (skip)
    go_simp
    exact hK
  case guar56 =>
    (skip)
    (co_still (termsT p Sh E Dn))
  try walk_nrm
  co_applyP anyCH_all (rs := [14, 16]) (by first | kernel_rfl | decide +kernel) (by decide)
  intro qq hqq
  simp only [List.mem_cons, List.not_mem_nil, or_false] at hqq
  obtain rfl | rfl := hqq
  · co_applyP opC_k rfl (by rfl)
    intro _ hR K hK
    replace hF := KM.rely n hF hR
    clear hR
    have hc := hF.k.cell hrow
    go_simp
    refine hK _ _ ⟨?_, ⟨_, _, _, hF⟩, ?_⟩
    · refine dt_read ?_
      co_evs (exact hF.evK n _)
    clear hK K hc
    try walk_nrm
    co_applyP anyCH_all (rs := [16]) (by first | kernel_rfl | decide +kernel) (by decide)
    intro qq hqq
    obtain rfl : qq = 16 := by simpa using hqq
    co_applyP opC_k rfl (by rfl)
    intro _ hR K hK
    replace hF := KM.rely n hF hR
    clear hR
    have ho := hF.off
    have hN := hF.sz
    go_simp
    refine hK _ _ ⟨hF.dtAlloc n (by decide) ?_, ⟨_, _, _, hF.alloc _⟩, ?_⟩
    · intro e he
      have hm := mem_listed he
      simp [go_sem, *] at hm
    clear hK K
    replace hF := KB.new n hF 72 #[.pointer (some ⟨a.P, 0, none⟩)]
    try walk_nrm
    co_applyP anyCH_all (rs := [17]) (by first | kernel_rfl | decide +kernel) (by decide)
    intro qq hqq
    obtain rfl : qq = 17 := by simpa using hqq
    co_applyP opC_k rfl (by rfl)
    intro _ hR K hK
    replace hF := KB.rely n (by decide) hF hR
    clear hR
    obtain ⟨hr, hM, hD⟩ := hF.appRoom (P := Tryd.prog) (ty := 70) n Tryd.underlying70 t1 t2 t3 t4 hN hQN hRQ hc1 hcm hcs
    refine uponK_append (.tmp 18) (.tmp 20) 70 rfl rfl rfl hr ?_
    refine hK _ _ ⟨hD _ ?_, ⟨_, _, _, hM⟩, ?_⟩
    · intro e he
      have hm := mem_listed he
      rw [events_append_op (.tmp 18) (.tmp 20) 70 rfl rfl rfl] at hm
      exact hm
    clear hK K hD hF
    have hF := hM
    clear hM
    try walk_nrm
    clear hS
    have hS : ∃ kc' Q' qc', KM p Sh E Dn a kc' pc Q' qc' _ := ⟨_, _, _, hF⟩
    co_applyP anyCH_take (termsT p Sh E Dn) (fun _ _ h r => h.imp fun _ h => h.imp fun _ h => h.imp fun _ h => KM.rely n h r) (fun _ _ _ h r => by obtain ⟨h1, v, h2, h8⟩ := h; exact ⟨h1, v, h2, KM.rely n h8 r⟩) (i := 19) rfl (by first | kernel_rfl | decide +kernel) (by first | kernel_rfl | decide +kernel) (by first | kernel_rfl | decide +kernel) ( .inl ⟨by rfl, fun _ hw => ⟨run_eq_of ?run57, ?guar57⟩⟩) hS ?rest57
    case run57 =>
      intro K hK
      (skip)
      go_simp
      exact hK
    case guar57 =>
      (skip)
      (co_still (termsT p Sh E Dn))
    try walk_nrm
    co_applyP anyCH_all (rs := [20]) (by first | kernel_rfl | decide +kernel) (by decide)
    intro qq hqq
    obtain rfl : qq = 20 := by simpa using hqq
    co_applyP opC_k rfl (by rfl)
    intro _ hR K hK
    replace hF := KM.rely n hF hR
    clear hR
    have hc := hF.k.cell hrow
    have hz := hF.k.thaw (6 + lv)
    go_simp
    try (unfold stored; go_simp)
    refine hK _ _ ⟨?_, ⟨_, _, _, hF.setK n (6 + lv) _⟩, ?_⟩
    · refine hF.dtK n ?_
      intro e he
      have hm := mem_listed he
      simp [go_sem, *] at hm
      exact hm
    clear hK K hc hz
    replace hF := hF.setK n (6 + lv) (.slice (some ⟨Q, 0, none⟩) 1 cap)
    refine anyCH_done (by first | kernel_rfl | decide +kernel) ?_ _
    exact ⟨rfl, _, resultsC_none (by rfl) _, hF⟩
  · co_applyP opC_k rfl (by rfl)
    intro _ hR K hK
    replace hF := KM.rely n hF hR
    clear hR
    have ho := hF.off
    have hN := hF.sz
    go_simp
    refine hK _ _ ⟨hF.dtAlloc n (by decide) ?_, ⟨_, _, _, hF.alloc _⟩, ?_⟩
    · intro e he
      have hm := mem_listed he
      simp [go_sem, *] at hm
    clear hK K
    replace hF := KB.new n hF 72 #[.pointer (some ⟨a.P, 0, none⟩)]
    try walk_nrm
    co_applyP anyCH_all (rs := [14]) (by first | kernel_rfl | decide +kernel) (by decide)
    intro qq hqq
    obtain rfl : qq = 14 := by simpa using hqq
    co_applyP opC_k rfl (by rfl)
    intro _ hR K hK
    replace hF := KB.rely n (by decide) hF hR
    clear hR
    have hc := hF.m.k.cell hrow
    go_simp
    refine hK _ _ ⟨?_, ⟨_, _, _, hF.m⟩, ?_⟩
    · refine dt_read ?_
      co_evs (exact hF.m.evK n _)
    clear hK K hc
    try walk_nrm
    co_applyP anyCH_all (rs := [17]) (by first | kernel_rfl | decide +kernel) (by decide)
    intro qq hqq
    obtain rfl : qq = 17 := by simpa using hqq
    co_applyP opC_k rfl (by rfl)
    intro _ hR K hK
    replace hF := KB.rely n (by decide) hF hR
    clear hR
    obtain ⟨hr, hM, hD⟩ := hF.appRoom (P := Tryd.prog) (ty := 70) n Tryd.underlying70 t1 t2 t3 t4 hN hQN hRQ hc1 hcm hcs
    refine uponK_append (.tmp 18) (.tmp 20) 70 rfl rfl rfl hr ?_
    refine hK _ _ ⟨hD _ ?_, ⟨_, _, _, hM⟩, ?_⟩
    · intro e he
      have hm := mem_listed he
      rw [events_append_op (.tmp 18) (.tmp 20) 70 rfl rfl rfl] at hm
      exact hm
    clear hK K hD hF
    have hF := hM
    clear hM
    try walk_nrm
    clear hS
    have hS : ∃ kc' Q' qc', KM p Sh E Dn a kc' pc Q' qc' _ := ⟨_, _, _, hF⟩
    co_applyP anyCH_take (termsT p Sh E Dn) (fun _ _ h r => h.imp fun _ h => h.imp fun _ h => h.imp fun _ h => KM.rely n h r) (fun _ _ _ h r => by obtain ⟨h1, v, h2, h8⟩ := h; exact ⟨h1, v, h2, KM.rely n h8 r⟩) (i := 19) rfl (by first | kernel_rfl | decide +kernel) (by first | kernel_rfl | decide +kernel) (by first | kernel_rfl | decide +kernel) ( .inl ⟨by rfl, fun _ hw => ⟨run_eq_of ?run58, ?guar58⟩⟩) hS ?rest58
    case run58 =>
      intro K hK
      (skip)
      go_simp
      exact hK
    case guar58 =>
      (skip)
      (co_still (termsT p Sh E Dn))
    try walk_nrm
    co_applyP anyCH_all (rs := [20]) (by first | kernel_rfl | decide +kernel) (by decide)
    intro qq hqq
    obtain rfl : qq = 20 := by simpa using hqq
    co_applyP opC_k rfl (by rfl)
    intro _ hR K hK
    replace hF := KM.rely n hF hR
    clear hR
    have hc := hF.k.cell hrow
    have hz := hF.k.thaw (6 + lv)
    go_simp
    try (unfold stored; go_simp)
    refine hK _ _ ⟨?_, ⟨_, _, _, hF.setK n (6 + lv) _⟩, ?_⟩
    · refine hF.dtK n ?_
      intro e he
      have hm := mem_listed he
      simp [go_sem, *] at hm
      exact hm
    clear hK K hc hz
    replace hF := hF.setK n (6 + lv) (.slice (some ⟨Q, 0, none⟩) 1 cap)
    refine anyCH_done (by first | kernel_rfl | decide +kernel) ?_ _
    exact ⟨rfl, _, resultsC_none (by rfl) _, hF⟩
end Go.Proofs.YtbnaccilnilcmaaDoor
