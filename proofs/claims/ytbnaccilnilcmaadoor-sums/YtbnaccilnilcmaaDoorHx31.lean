/-
  A new process is taken in.
  No condition but those that each statement names.
-/
import Derived.Test.YtbnaccilnilcmaaDoorHx30
import Derived.Test.YtbnaccilnilcmaaDoorHx08
set_option linter.unusedVariables false
set_option linter.unusedSimpArgs false
set_option linter.unusedSectionVars false
namespace Go.Proofs.YtbnaccilnilcmaaDoor
open Go.Conc Go.RowKit Go.Hx

theorem info72s : ∃ i z, Tryd.prog.info? 72 = some i ∧ i.zero = some z ∧ i.size = 1 ∧ i.bytes = 8 ∧ z.cells.size = 1 := by
  have h : (Tryd.prog.info? 72).map (fun i => (i.zero.map (·.cells.size), i.size, i.bytes)) = some (some 1, 1, 8) := by kernel_rfl
  obtain ⟨i, hi, h2⟩ := Option.map_eq_some_iff.1 h
  simp only [Prod.mk.injEq] at h2
  obtain ⟨z, hz, h3⟩ := Option.map_eq_some_iff.1 h2.1
  exact ⟨i, z, hi, hz, h2.2.1, h2.2.2, h3⟩

/-- Onto nil. -/
theorem rowNil {w : World} {nb : Nat} {x : Addr} (h : Has nb 72 #[.pointer (some x)] w) : ∃ g cap cur w', (Builtin.append_ #[70, 70] 70 #[.slice none 0 0, .slice (some ⟨nb, 0, none⟩) 1 1]).run Tryd.prog w = .ok (.slice (some ⟨g, 0, none⟩) 1 cap) w' ∧ 1 ≤ cap ∧ cap ≤ maxLen ∧ cur.size = cap ∧ cur[0]? = some (.pointer (some x)) ∧ w.heap.size ≤ g ∧ Has g 72 cur w' ∧ w.grownBy w' none ∧
    ∀ e ∈ (Builtin.append_ #[70, 70] 70 #[.slice none 0 0, .slice (some ⟨nb, 0, none⟩) 1 1]).events Tryd.prog w #[], EvP NoSh e := by
  obtain ⟨ti, tz, i1, i2, i3, i4, i5⟩ := info72s
  obtain ⟨v', w', hr, hown, hg, hnil, hev⟩ := seqApp (Sh := NoSh) (P := Tryd.prog) (W := w) (t := 70) (ty := 70) (v := .slice none 0 0) (n := 0) (xs := []) (a := ⟨nb, 0, none⟩) (m := 1) (c := 1) (news := [.pointer (some x)]) Tryd.underlying70 i1 i2 i3 i4 i5 (by decide) (grown_refl w) (World.ownsRow_nil _ _ _ _) (by simp)
    (fun j u hu => by
      rcases j with _ | j
      · simp at hu; subst hu; exact h.cell (i := 0) rfl
      · simp at hu) (by intro u hu; simp at hu; subst hu; rfl) (by simp [maxLen]) (by decide) (elder0 _) (fun _ _ h => h.elim)
  rcases hown.2 with ⟨e, _⟩ | ⟨g, cap, cur, rfl, hbg, hgc, hnc, hcm, hcs, htake⟩
  · exact absurd ((hnil.1 e).2) (by decide)
  have hcur : cur[0]? = some (.pointer (some x)) := by
    have : cur.toList.take 1 = [.pointer (some x)] := by simpa using htake
    have h2 : (cur.toList.take 1)[0]? = some (.pointer (some x)) := by rw [this]; rfl
    rw [List.getElem?_take] at h2
    simpa using h2
  exact ⟨g, cap, cur, w', hr, by omega, hcm, by simpa using hcs, hcur, hbg, hgc, hg, hev⟩

/-- Neither a kernel nor a process. -/
def Oth (bs : List (Nat × TypeId × Array Value)) : Prop := ∀ t ∈ bs, t.2.1 ≠ 88 ∧ t.2.1 ≠ 75

theorem GR.setK {W w : World} {K : Nat} {kc : Array Value} {bs : List (Nat × TypeId × Array Value)} (h : GR W ((K, 88, kc) :: bs) w) (ho : ∀ t ∈ bs, t.2.1 ≠ 88) (i : Nat) (v : Value) : GR W ((K, 88, kc.setIfInBounds i v) :: bs) (w.setCell ⟨K, i, none⟩ v) := by
  obtain ⟨h1, h2⟩ := h.b _ (List.mem_cons_self)
  have := h.set (ty := 88) i v h2 (fun t ht e => by
    rcases List.mem_cons.1 ht with rfl | ht
    · rfl
    · exact absurd e (ho t ht)) ⟨kc, h1⟩
  rw [List.map_cons] at this
  simp only [if_true] at this
  rwa [show (bs.map fun t => if t.2.1 = 88 then (t.1, t.2.1, t.2.2.setIfInBounds i v) else t) = bs from by
    conv => rhs; rw [← List.map_id bs]
    exact List.map_congr_left fun t ht => by rw [if_neg (ho t ht)]; rfl] at this
theorem GR.swap {W w : World} {s t : Nat × TypeId × Array Value} {bs : List (Nat × TypeId × Array Value)} (h : GR W (s :: t :: bs) w) : GR W (t :: s :: bs) w := h.sub fun x hx => by
  simp only [List.mem_cons] at hx ⊢
  rcases hx with h | h | h
  · exact .inr (.inl h)
  · exact .inl h
  · exact .inr (.inr h)

set_option maxRecDepth 100000 in
set_option maxHeartbeats 8000000 in
theorem join_s : ∃ k, ∀ (W : World) (K P : Nat) (kc pc : Array Value) (bs : List (Nat × TypeId × Array Value)) (hb : Oth bs) (hlv : pc[5]? = some (.int .i64 0)) (hrow : kc[6]? = some (.slice none 0 0)) (w : World), GR W ((K, 88, kc) :: (P, 75, pc) :: bs) w →
    CallsC Tryd.prog true AtRel (D0 NoSh) 51 #[.pointer (some ⟨K, 6, none⟩), .pointer (some ⟨P, 0, none⟩)] k w fun _ w' => ∃ Q cap qc, 1 ≤ cap ∧ cap ≤ maxLen ∧ qc.size = cap ∧ qc[0]? = some (.pointer (some ⟨P, 0, none⟩)) ∧ (∀ t ∈ bs, t.1 ≠ Q) ∧ GR W ((K, 88, kc.setIfInBounds 6 (.slice (some ⟨Q, 0, none⟩) 1 cap)) :: (P, 75, pc) :: (Q, 72, qc) :: bs) w' := by
  co_apply Exists.intro
  intro W Kb P kc pc bs hb hlv hrow w hF
  have e1 := fun (w : World) (es : Array Event) => events_indexAt_array (P := Tryd.prog) (w := w) (es := es) 86 _ 3 ⟨Kb, 6, none⟩ .i64 0 Tryd.underlying86 (by omega)
  have e3 := fun (w : World) (es : Array Event) (g l c : Nat) => events_store Tryd.prog w es ⟨Kb, 6, none⟩ (.slice (some ⟨g, 0, none⟩) l c) .plain rfl
  co_apply callsC_of_wpC Tryd.func51 (by rfl) rfl
  simp only [Tryd.ntmps51, List.size_toArray, List.length_cons, List.length_nil, Nat.reduceAdd, Nat.reduceSub, Array.replicate_succ, Array.replicate_zero, List.push_toArray, List.append_toArray, List.nil_append, List.cons_append]
  co_held (terms0 NoSh) (drawD0 NoSh) drawAt (fun w => Has P 75 pc w) GR.rely hF
  have hS : Has P 75 pc _ := (hF.b _ (List.mem_cons_of_mem _ (List.mem_cons_self))).1
  co_applyP anyCH_take (terms0 NoSh) (fun _ _ h r => by obtain ⟨d, rfl⟩ := r; exact h) (fun _ _ _ h r => by obtain ⟨h1, v, h2, Q, cap, qc, g1, g2, g3, g4, g5, g6⟩ := h; exact ⟨h1, v, h2, Q, cap, qc, g1, g2, g3, g4, g5, g6.rely r⟩) (i := 0) rfl (by first | kernel_rfl | decide +kernel) (by first | kernel_rfl | decide +kernel) (by first | kernel_rfl | decide +kernel) ( .inl ⟨by rfl, fun _ hw => ⟨run_eq_of ?run1, ?guar1⟩⟩) hS ?rest1
  case run1 =>
    intro K hK
    (skip)
    go_simp
    exact hK
  case guar1 =>
    (skip)
    (co_still (terms0 NoSh))
  try walk_nrm
  co_applyP anyCH_take (terms0 NoSh) (fun _ _ h r => by obtain ⟨d, rfl⟩ := r; exact h) (fun _ _ _ h r => by obtain ⟨h1, v, h2, Q, cap, qc, g1, g2, g3, g4, g5, g6⟩ := h; exact ⟨h1, v, h2, Q, cap, qc, g1, g2, g3, g4, g5, g6.rely r⟩) (i := 1) rfl (by first | kernel_rfl | decide +kernel) (by first | kernel_rfl | decide +kernel) (by first | kernel_rfl | decide +kernel) ( .inl ⟨by rfl, fun _ hw => ⟨run_eq_of ?run2, ?guar2⟩⟩) hS ?rest2
  case run2 =>
    intro K hK
    (skip)
    go_simp
    exact hK
  case guar2 =>
    (skip)
    (co_still (terms0 NoSh))
  try walk_nrm
  co_applyP anyCH_take (terms0 NoSh) (fun _ _ h r => by obtain ⟨d, rfl⟩ := r; exact h) (fun _ _ _ h r => by obtain ⟨h1, v, h2, Q, cap, qc, g1, g2, g3, g4, g5, g6⟩ := h; exact ⟨h1, v, h2, Q, cap, qc, g1, g2, g3, g4, g5, g6.rely r⟩) (i := 2) rfl (by first | kernel_rfl | decide +kernel) (by first | kernel_rfl | decide +kernel) (by first | kernel_rfl | decide +kernel) ( .inl ⟨by rfl, fun _ hw => ⟨run_eq_of ?run3, ?guar3⟩⟩) hS ?rest3
  case run3 =>
    intro K hK
    (skip)
    go_simp
    exact hK
  case guar3 =>
    (skip)
    (co_still (terms0 NoSh))
  try walk_nrm
  co_applyP anyCH_take (terms0 NoSh) (fun _ _ h r => by obtain ⟨d, rfl⟩ := r; exact h) (fun _ _ _ h r => by obtain ⟨h1, v, h2, Q, cap, qc, g1, g2, g3, g4, g5, g6⟩ := h; exact ⟨h1, v, h2, Q, cap, qc, g1, g2, g3, g4, g5, g6.rely r⟩) (i := 3) rfl (by first | kernel_rfl | decide +kernel) (by first | kernel_rfl | decide +kernel) (by first | kernel_rfl | decide +kernel) ( .inl ⟨by rfl, fun _ hw => ⟨run_eq_of ?run4, ?guar4⟩⟩) hS ?rest4
  case run4 =>
    intro K hK
    (skip)
    go_simp
    exact hK
  case guar4 =>
    (skip)
    (co_still (terms0 NoSh))
  try walk_nrm
  co_applyP anyCH_take (terms0 NoSh) (fun _ _ h r => by obtain ⟨d, rfl⟩ := r; exact h) (fun _ _ _ h r => by obtain ⟨h1, v, h2, Q, cap, qc, g1, g2, g3, g4, g5, g6⟩ := h; exact ⟨h1, v, h2, Q, cap, qc, g1, g2, g3, g4, g5, g6.rely r⟩) (i := 4) rfl (by first | kernel_rfl | decide +kernel) (by first | kernel_rfl | decide +kernel) (by first | kernel_rfl | decide +kernel) ( .inl ⟨by rfl, fun _ hw => ⟨run_eq_of ?run5, ?guar5⟩⟩) hS ?rest5
  case run5 =>
    intro K hK
    (skip)
    go_simp
    exact hK
  case guar5 =>
    (skip)
    (co_still (terms0 NoSh))
  try walk_nrm
  co_applyP anyCH_take (terms0 NoSh) (fun _ _ h r => by obtain ⟨d, rfl⟩ := r; exact h) (fun _ _ _ h r => by obtain ⟨h1, v, h2, Q, cap, qc, g1, g2, g3, g4, g5, g6⟩ := h; exact ⟨h1, v, h2, Q, cap, qc, g1, g2, g3, g4, g5, g6.rely r⟩) (i := 5) rfl (by first | kernel_rfl | decide +kernel) (by first | kernel_rfl | decide +kernel) (by first | kernel_rfl | decide +kernel) ( .inl ⟨by rfl, fun _ hw => ⟨run_eq_of ?run6, ?guar6⟩⟩) hS ?rest6
  case run6 =>
    intro K hK
    (have hc := hw.cell hlv)
    go_simp
    exact hK
  case guar6 =>
    (have hc := hw.cell hlv)
    (refine d0c ?_; co_evs (exact evP0))
  try walk_nrm
  co_applyP anyCH_take (terms0 NoSh) (fun _ _ h r => by obtain ⟨d, rfl⟩ := r; exact h) (fun _ _ _ h r => by obtain ⟨h1, v, h2, Q, cap, qc, g1, g2, g3, g4, g5, g6⟩ := h; exact ⟨h1, v, h2, Q, cap, qc, g1, g2, g3, g4, g5, g6.rely r⟩) (i := 6) rfl (by first | kernel_rfl | decide +kernel) (by first | kernel_rfl | decide +kernel) (by first | kernel_rfl | decide +kernel) ( .inl ⟨by rfl, fun _ hw => ⟨run_eq_of ?run7, ?guar7⟩⟩) hS ?rest7
  case run7 =>
    intro K hK
    (skip)
    go_simp
    exact hK
  case guar7 =>
    (skip)
    (co_still (terms0 NoSh))
  try walk_nrm
  co_applyP anyCH_take (terms0 NoSh) (fun _ _ h r => by obtain ⟨d, rfl⟩ := r; exact h) (fun _ _ _ h r => by obtain ⟨h1, v, h2, Q, cap, qc, g1, g2, g3, g4, g5, g6⟩ := h; exact ⟨h1, v, h2, Q, cap, qc, g1, g2, g3, g4, g5, g6.rely r⟩) (i := 7) rfl (by first | kernel_rfl | decide +kernel) (by first | kernel_rfl | decide +kernel) (by first | kernel_rfl | decide +kernel) ( .inl ⟨by rfl, fun _ hw => ⟨run_eq_of ?run8, ?guar8⟩⟩) hS ?rest8
  case run8 =>
    intro K hK
    (skip)
    go_simp
    exact hK
  case guar8 =>
    (skip)
    (co_still (terms0 NoSh))
  try walk_nrm
  co_applyP anyCH_take (terms0 NoSh) (fun _ _ h r => by obtain ⟨d, rfl⟩ := r; exact h) (fun _ _ _ h r => by obtain ⟨h1, v, h2, Q, cap, qc, g1, g2, g3, g4, g5, g6⟩ := h; exact ⟨h1, v, h2, Q, cap, qc, g1, g2, g3, g4, g5, g6.rely r⟩) (i := 8) rfl (by first | kernel_rfl | decide +kernel) (by first | kernel_rfl | decide +kernel) (by first | kernel_rfl | decide +kernel) ( .inl ⟨by rfl, fun _ hw => ⟨run_eq_of ?run9, ?guar9⟩⟩) hS ?rest9
  case run9 =>
    intro K hK
    (skip)
    go_simp
    exact hK
  case guar9 =>
    (skip)
    (co_still (terms0 NoSh))
  try walk_nrm
  co_applyP anyCH_take (terms0 NoSh) (fun _ _ h r => by obtain ⟨d, rfl⟩ := r; exact h) (fun _ _ _ h r => by obtain ⟨h1, v, h2, Q, cap, qc, g1, g2, g3, g4, g5, g6⟩ := h; exact ⟨h1, v, h2, Q, cap, qc, g1, g2, g3, g4, g5, g6.rely r⟩) (i := 9) rfl (by first | kernel_rfl | decide +kernel) (by first | kernel_rfl | decide +kernel) (by first | kernel_rfl | decide +kernel) ( .inl ⟨by rfl, fun _ hw => ⟨run_eq_of ?run10, ?guar10⟩⟩) hS ?rest10
  case run10 =>
    intro K hK
    (skip)
    go_simp
    exact hK
  case guar10 =>
    (skip)
    (co_still (terms0 NoSh))
  try walk_nrm
  co_applyP anyCH_take (terms0 NoSh) (fun _ _ h r => by obtain ⟨d, rfl⟩ := r; exact h) (fun _ _ _ h r => by obtain ⟨h1, v, h2, Q, cap, qc, g1, g2, g3, g4, g5, g6⟩ := h; exact ⟨h1, v, h2, Q, cap, qc, g1, g2, g3, g4, g5, g6.rely r⟩) (i := 10) rfl (by first | kernel_rfl | decide +kernel) (by first | kernel_rfl | decide +kernel) (by first | kernel_rfl | decide +kernel) ( .inl ⟨by rfl, fun _ hw => ⟨run_eq_of ?run11, ?guar11⟩⟩) hS ?rest11
  case run11 =>
    intro K hK
    (skip)
    go_simp
    exact hK
  case guar11 =>
    (skip)
    (co_still (terms0 NoSh))
  try walk_nrm
  co_applyP anyCH_take (terms0 NoSh) (fun _ _ h r => by obtain ⟨d, rfl⟩ := r; exact h) (fun _ _ _ h r => by obtain ⟨h1, v, h2, Q, cap, qc, g1, g2, g3, g4, g5, g6⟩ := h; exact ⟨h1, v, h2, Q, cap, qc, g1, g2, g3, g4, g5, g6.rely r⟩) (i := 11) rfl (by first | kernel_rfl | decide +kernel) (by first | kernel_rfl | decide +kernel) (by first | kernel_rfl | decide +kernel) ( .inl ⟨by rfl, fun _ hw => ⟨run_eq_of ?run12, ?guar12⟩⟩) hS ?rest12
  case run12 =>
    intro K hK
    (have hc := hw.cell hlv)
    go_simp
    exact hK
  case guar12 =>
    (have hc := hw.cell hlv)
    (refine d0c ?_; co_evs (exact evP0))
  try walk_nrm
  co_applyP anyCH_take (terms0 NoSh) (fun _ _ h r => by obtain ⟨d, rfl⟩ := r; exact h) (fun _ _ _ h r => by obtain ⟨h1, v, h2, Q, cap, qc, g1, g2, g3, g4, g5, g6⟩ := h; exact ⟨h1, v, h2, Q, cap, qc, g1, g2, g3, g4, g5, g6.rely r⟩) (i := 12) rfl (by first | kernel_rfl | decide +kernel) (by first | kernel_rfl | decide +kernel) (by first | kernel_rfl | decide +kernel) ( .inl ⟨by rfl, fun _ hw => ⟨run_eq_of ?run13, ?guar13⟩⟩) hS ?rest13
  case run13 =>
    intro K hK
    (skip)
    go_simp
    exact hK
  case guar13 =>
    (skip)
    (co_still (terms0 NoSh))
  try walk_nrm
  co_applyP anyCH_take (terms0 NoSh) (fun _ _ h r => by obtain ⟨d, rfl⟩ := r; exact h) (fun _ _ _ h r => by obtain ⟨h1, v, h2, Q, cap, qc, g1, g2, g3, g4, g5, g6⟩ := h; exact ⟨h1, v, h2, Q, cap, qc, g1, g2, g3, g4, g5, g6.rely r⟩) (i := 13) rfl (by first | kernel_rfl | decide +kernel) (by first | kernel_rfl | decide +kernel) (by first | kernel_rfl | decide +kernel) ( .inl ⟨by rfl, fun _ hw => ⟨run_eq_of ?run14, ?guar14⟩⟩) hS ?rest14
  case run14 =>
    intro K hK
    (skip)
    go_simp
    exact hK
  case guar14 =>
    (skip)
    (co_still (terms0 NoSh))
  try walk_nrm
  co_applyP anyCH_take (terms0 NoSh) (fun _ _ h r => by obtain ⟨d, rfl⟩ := r; exact h) (fun _ _ _ h r => by obtain ⟨h1, v, h2, Q, cap, qc, g1, g2, g3, g4, g5, g6⟩ := h; exact ⟨h1, v, h2, Q, cap, qc, g1, g2, g3, g4, g5, g6.rely r⟩) (i := 15) rfl (by first | kernel_rfl | decide +kernel) (by first | kernel_rfl | decide +kernel) (by first | kernel_rfl | decide +kernel) ( .inl ⟨by rfl, fun _ hw => ⟨run_eq_of ?run15, ?guar15⟩⟩) hS ?rest15
  case run15 =>
    intro K hK
    (skip)
    go_simp
    exact hK
  case guar15 =>
    (skip)
    (co_still (terms0 NoSh))
  try walk_nrm
  co_applyP anyCH_take (terms0 NoSh) (fun _ _ h r => by obtain ⟨d, rfl⟩ := r; exact h) (fun _ _ _ h r => by obtain ⟨h1, v, h2, Q, cap, qc, g1, g2, g3, g4, g5, g6⟩ := h; exact ⟨h1, v, h2, Q, cap, qc, g1, g2, g3, g4, g5, g6.rely r⟩) (i := 18) rfl (by first | kernel_rfl | decide +kernel) (by first | kernel_rfl | decide +kernel) (by first | kernel_rfl | decide +kernel) ( .inl ⟨by rfl, fun _ hw => ⟨run_eq_of ?run16, ?guar16⟩⟩) hS ?rest16
  case run16 =>
    intro K hK
    (skip)
    go_simp
    exact hK
  case guar16 =>
    (skip)
    (co_still (terms0 NoSh))
  try walk_nrm
  co_applyP anyCH_all (rs := [14, 16]) (by first | kernel_rfl | decide +kernel) (by decide)
  intro qq hqq
  simp only [List.mem_cons, List.not_mem_nil, or_false] at hqq
  obtain rfl | rfl := hqq
  · skip
    co_applyP opC_k rfl (by rfl)
    intro _ hR K hK
    replace hF := GR.rely hF hR
    clear hR
    have hc := hF.cell (nb := Kb) (ty := 88) (cs := kc) (by simp) hrow
    go_simp
    refine hK _ _ ⟨?_, (hF.b (P, 75, pc) (by simp)).1, ?_⟩
    · refine d0c ?_
      co_evs (exact evP0)
    clear hK K hc
    try walk_nrm
    co_applyP anyCH_all (rs := [16]) (by first | kernel_rfl | decide +kernel) (by decide)
    intro qq hqq
    obtain rfl : qq = 16 := by simpa using hqq
    co_applyP opC_k rfl (by rfl)
    intro wv hR K hK
    replace hF := GR.rely hF hR
    clear hR
    go_simp
    refine hK _ _ ⟨?_, ((hF.alloc 72 #[.pointer (some ⟨P, 0, none⟩)]).b (P, 75, pc) (by simp)).1, ?_⟩
    · refine d0c ?_
      intro e he
      have hm := mem_listed he
      simp [go_sem, *] at hm
    clear hK K
    replace hF := hF.alloc 72 #[.pointer (some ⟨P, 0, none⟩)]
    try walk_nrm
    co_applyP anyCH_all (rs := [17]) (by first | kernel_rfl | decide +kernel) (by decide)
    intro qq hqq
    obtain rfl : qq = 17 := by simpa using hqq
    co_applyP opC_k rfl (by rfl)
    intro _ hR K hK
    replace hF := GR.rely hF hR
    clear hR
    obtain ⟨g, cap, cur, w', hr, hc1, hcm, hcs, hc0, hgs, hgh, hgr, hev⟩ := rowNil (hF.b _ (List.mem_cons_self)).1
    refine uponK_append (.tmp 18) (.tmp 20) 70 rfl rfl rfl hr ?_
    have hne : ∀ t ∈ bs, t.1 ≠ g := fun t ht => Nat.ne_of_lt (Nat.lt_of_lt_of_le (hF.b t (by simp [ht])).1.lt hgs)
    have hF2 := hF.grown hgr
    have hWg : W.heap.size ≤ g := Nat.le_trans hF.g.size hgs
    refine hK _ _ ⟨d0c fun e he => hev e ?_, (hF2.b (P, 75, pc) (by simp)).1, ?_⟩
    · have hm := mem_listed he
      rw [events_append_op (.tmp 18) (.tmp 20) 70 rfl rfl rfl] at hm
      exact hm
    clear hK K hev hF
    have hF : GR W ((Kb, 88, kc) :: (P, 75, pc) :: (g, 72, cur) :: bs) w' := ⟨hF2.g, fun t ht => by
      simp only [List.mem_cons] at ht
      rcases ht with rfl | rfl | rfl | ht
      · exact hF2.b _ (by simp)
      · exact hF2.b _ (by simp)
      · exact ⟨hgh, hWg⟩
      · exact hF2.b t (by simp [ht])⟩
    clear hF2
    try walk_nrm
    clear hS
    have hS : Has P 75 pc w' := (hF.b (P, 75, pc) (by simp)).1
    co_applyP anyCH_take (terms0 NoSh) (fun _ _ h r => by obtain ⟨d, rfl⟩ := r; exact h) (fun _ _ _ h r => by obtain ⟨h1, v, h2, Q, cap, qc, g1, g2, g3, g4, g5, g6⟩ := h; exact ⟨h1, v, h2, Q, cap, qc, g1, g2, g3, g4, g5, g6.rely r⟩) (i := 19) rfl (by first | kernel_rfl | decide +kernel) (by first | kernel_rfl | decide +kernel) (by first | kernel_rfl | decide +kernel) ( .inl ⟨by rfl, fun _ hw => ⟨run_eq_of ?run17, ?guar17⟩⟩) hS ?rest17
    case run17 =>
      intro K hK
      (skip)
      go_simp
      exact hK
    case guar17 =>
      (skip)
      (co_still (terms0 NoSh))
    try walk_nrm
    co_applyP anyCH_all (rs := [20]) (by first | kernel_rfl | decide +kernel) (by decide)
    intro qq hqq
    obtain rfl : qq = 20 := by simpa using hqq
    co_applyP opC_k rfl (by rfl)
    intro _ hR K hK
    replace hF := GR.rely hF hR
    clear hR
    have hc := hF.cell (nb := Kb) (ty := 88) (cs := kc) (by simp) hrow
    have hz := hF.thaw (nb := Kb) (ty := 88) (cs := kc) (by simp) 6
    have hF3 := GR.setK hF (fun t ht => by
      simp only [List.mem_cons] at ht
      rcases ht with rfl | rfl | ht
      · simp
      · simp
      · exact (hb t ht).1) 6 (.slice (some ⟨g, 0, none⟩) 1 cap)
    go_simp
    try (unfold stored; go_simp)
    refine hK _ _ ⟨?_, (hF3.b (P, 75, pc) (by simp)).1, ?_⟩
    · refine d0c ?_
      co_evs (exact evP0)
    clear hK K hc hz
    refine anyCH_done (by first | kernel_rfl | decide +kernel) ?_ _
    exact ⟨rfl, _, resultsC_none (by rfl) _, g, cap, cur, hc1, hcm, hcs, hc0, hne, hF3⟩
  · skip
    co_applyP opC_k rfl (by rfl)
    intro wv hR K hK
    replace hF := GR.rely hF hR
    clear hR
    go_simp
    refine hK _ _ ⟨?_, ((hF.alloc 72 #[.pointer (some ⟨P, 0, none⟩)]).b (P, 75, pc) (by simp)).1, ?_⟩
    · refine d0c ?_
      intro e he
      have hm := mem_listed he
      simp [go_sem, *] at hm
    clear hK K
    replace hF := hF.alloc 72 #[.pointer (some ⟨P, 0, none⟩)]
    try walk_nrm
    co_applyP anyCH_all (rs := [14]) (by first | kernel_rfl | decide +kernel) (by decide)
    intro qq hqq
    obtain rfl : qq = 14 := by simpa using hqq
    co_applyP opC_k rfl (by rfl)
    intro _ hR K hK
    replace hF := GR.rely hF hR
    clear hR
    have hc := hF.cell (nb := Kb) (ty := 88) (cs := kc) (by simp) hrow
    go_simp
    refine hK _ _ ⟨?_, (hF.b (P, 75, pc) (by simp)).1, ?_⟩
    · refine d0c ?_
      co_evs (exact evP0)
    clear hK K hc
    try walk_nrm
    co_applyP anyCH_all (rs := [17]) (by first | kernel_rfl | decide +kernel) (by decide)
    intro qq hqq
    obtain rfl : qq = 17 := by simpa using hqq
    co_applyP opC_k rfl (by rfl)
    intro _ hR K hK
    replace hF := GR.rely hF hR
    clear hR
    obtain ⟨g, cap, cur, w', hr, hc1, hcm, hcs, hc0, hgs, hgh, hgr, hev⟩ := rowNil (hF.b _ (List.mem_cons_self)).1
    refine uponK_append (.tmp 18) (.tmp 20) 70 rfl rfl rfl hr ?_
    have hne : ∀ t ∈ bs, t.1 ≠ g := fun t ht => Nat.ne_of_lt (Nat.lt_of_lt_of_le (hF.b t (by simp [ht])).1.lt hgs)
    have hF2 := hF.grown hgr
    have hWg : W.heap.size ≤ g := Nat.le_trans hF.g.size hgs
    refine hK _ _ ⟨d0c fun e he => hev e ?_, (hF2.b (P, 75, pc) (by simp)).1, ?_⟩
    · have hm := mem_listed he
      rw [events_append_op (.tmp 18) (.tmp 20) 70 rfl rfl rfl] at hm
      exact hm
    clear hK K hev hF
    have hF : GR W ((Kb, 88, kc) :: (P, 75, pc) :: (g, 72, cur) :: bs) w' := ⟨hF2.g, fun t ht => by
      simp only [List.mem_cons] at ht
      rcases ht with rfl | rfl | rfl | ht
      · exact hF2.b _ (by simp)
      · exact hF2.b _ (by simp)
      · exact ⟨hgh, hWg⟩
      · exact hF2.b t (by simp [ht])⟩
    clear hF2
    try walk_nrm
    clear hS
    have hS : Has P 75 pc w' := (hF.b (P, 75, pc) (by simp)).1
    co_applyP anyCH_take (terms0 NoSh) (fun _ _ h r => by obtain ⟨d, rfl⟩ := r; exact h) (fun _ _ _ h r => by obtain ⟨h1, v, h2, Q, cap, qc, g1, g2, g3, g4, g5, g6⟩ := h; exact ⟨h1, v, h2, Q, cap, qc, g1, g2, g3, g4, g5, g6.rely r⟩) (i := 19) rfl (by first | kernel_rfl | decide +kernel) (by first | kernel_rfl | decide +kernel) (by first | kernel_rfl | decide +kernel) ( .inl ⟨by rfl, fun _ hw => ⟨run_eq_of ?run18, ?guar18⟩⟩) hS ?rest18
    case run18 =>
      intro K hK
      (skip)
      go_simp
      exact hK
    case guar18 =>
      (skip)
      (co_still (terms0 NoSh))
    try walk_nrm
    co_applyP anyCH_all (rs := [20]) (by first | kernel_rfl | decide +kernel) (by decide)
    intro qq hqq
    obtain rfl : qq = 20 := by simpa using hqq
    co_applyP opC_k rfl (by rfl)
    intro _ hR K hK
    replace hF := GR.rely hF hR
    clear hR
    have hc := hF.cell (nb := Kb) (ty := 88) (cs := kc) (by simp) hrow
    have hz := hF.thaw (nb := Kb) (ty := 88) (cs := kc) (by simp) 6
    have hF3 := GR.setK hF (fun t ht => by
      simp only [List.mem_cons] at ht
      rcases ht with rfl | rfl | ht
      · simp
      · simp
      · exact (hb t ht).1) 6 (.slice (some ⟨g, 0, none⟩) 1 cap)
    go_simp
    try (unfold stored; go_simp)
    refine hK _ _ ⟨?_, (hF3.b (P, 75, pc) (by simp)).1, ?_⟩
    · refine d0c ?_
      co_evs (exact evP0)
    clear hK K hc hz
    refine anyCH_done (by first | kernel_rfl | decide +kernel) ?_ _
    exact ⟨rfl, _, resultsC_none (by rfl) _, g, cap, cur, hc1, hcm, hcs, hc0, hne, hF3⟩

theorem GR.setP {W w : World} {K P : Nat} {kc pc : Array Value} {bs : List (Nat × TypeId × Array Value)} (h : GR W ((K, 88, kc) :: (P, 75, pc) :: bs) w) (ho : Oth bs) (i : Nat) (v : Value) : GR W ((K, 88, kc) :: (P, 75, pc.setIfInBounds i v) :: bs) (w.setCell ⟨P, i, none⟩ v) := by
  obtain ⟨h1, h2⟩ := h.b (P, 75, pc) (by simp)
  have := h.set (ty := 75) i v h2 (fun t ht e => by
    simp only [List.mem_cons] at ht
    rcases ht with rfl | rfl | ht
    · simp at e
    · rfl
    · exact absurd e (ho t ht).2) ⟨pc, h1⟩
  rw [List.map_cons, List.map_cons] at this
  simp only [if_true] at this
  rw [show (bs.map fun t => if t.2.1 = 75 then (t.1, t.2.1, t.2.2.setIfInBounds i v) else t) = bs from by
    conv => rhs; rw [← List.map_id bs]
    exact List.map_congr_left fun t ht => by rw [if_neg (ho t ht).2]; rfl] at this
  simpa using this

set_option maxRecDepth 100000 in
set_option maxHeartbeats 8000000 in
theorem add_s : ∃ k, ∀ (W : World) (K P : Nat) (kc pc : Array Value) (bs : List (Nat × TypeId × Array Value)) (hb : Oth bs) (hlv : pc[5]? = some (.int .i64 0)) (hst : pc[2]? = some (.int .i64 0)) (hpr : kc[5]? = some (.slice none 0 0)) (hrow : kc[6]? = some (.slice none 0 0)) (w : World), GR W ((K, 88, kc) :: (P, 75, pc) :: bs) w →
    CallsC Tryd.prog true AtRel (D0 NoSh) 30 #[.pointer (some ⟨K, 0, none⟩), .pointer (some ⟨P, 0, none⟩)] k w fun _ w' => ∃ R rcap rc Q cap qc, (1 ≤ rcap ∧ rc.size = rcap ∧ rc[0]? = some (.pointer (some ⟨P, 0, none⟩))) ∧ (1 ≤ cap ∧ cap ≤ maxLen ∧ qc.size = cap ∧ qc[0]? = some (.pointer (some ⟨P, 0, none⟩))) ∧ R ≠ Q ∧
      GR W ((K, 88, (kc.setIfInBounds 5 (.slice (some ⟨R, 0, none⟩) 1 rcap)).setIfInBounds 6 (.slice (some ⟨Q, 0, none⟩) 1 cap)) :: (P, 75, pc.setIfInBounds 2 (.int .i64 1)) :: (Q, 72, qc) :: (R, 72, rc) :: bs) w' := by
  obtain ⟨kj, gj⟩ := join_s
  co_apply Exists.intro
  intro W Kb P kc pc bs hb hlv hst hpr hrow w hF
  have e3 := fun (w : World) (es : Array Event) (g l c : Nat) => events_store Tryd.prog w es ⟨Kb, 5, none⟩ (.slice (some ⟨g, 0, none⟩) l c) .plain rfl
  co_apply callsC_of_wpC Tryd.func30 (by rfl) rfl
  simp only [Tryd.ntmps30, List.size_toArray, List.length_cons, List.length_nil, Nat.reduceAdd, Nat.reduceSub, Array.replicate_succ, Array.replicate_zero, List.push_toArray, List.append_toArray, List.nil_append, List.cons_append]
  co_apply wpC_seq (terms0 NoSh)
  co_reg (terms0 NoSh)
  co_op (GR.rely) hF (co_still (terms0 NoSh))
  co_op (GR.rely) hF (co_still (terms0 NoSh))
  co_op (GR.rely) hF (co_still (terms0 NoSh))
  co_op (GR.rely) hF (co_still (terms0 NoSh))
  co_opw (GR.rely) hF (have hc := hF.cell (nb := Kb) (ty := 88) (cs := kc) (by simp) hpr) (refine d0c ?_; co_evs (exact evP0))
  clear hc
  co_op (GR.rely) hF (co_still (terms0 NoSh))
  co_opw (GR.rely) hF (skip) (refine d0c ?_; co_evs (exact evP0))
  replace hF := hF.alloc 72 #[.pointer (some ⟨P, 0, none⟩)]
  co_apply opsC_cons_k rfl (by rfl)
  intro _ hR K hK
  replace hF := GR.rely hF hR
  clear hR
  obtain ⟨R, rcap, rc, w', hr, hr1, hrm, hrs, hr0, hgs, hgh, hgr, hev⟩ := rowNil (hF.b _ (List.mem_cons_self)).1
  refine uponK_append (.tmp 8) (.tmp 10) 70 rfl rfl rfl hr ?_
  have hF2 := hF.grown hgr
  have hWg : W.heap.size ≤ R := Nat.le_trans hF.g.size hgs
  refine hK _ _ ⟨d0c fun e he => hev e ?_, ?_⟩
  · have hm := mem_listed he
    rw [events_append_op (.tmp 8) (.tmp 10) 70 rfl rfl rfl] at hm
    exact hm
  clear hK K hev hF
  have hF : GR W ((Kb, 88, kc) :: (P, 75, pc) :: (R, 72, rc) :: bs) w' := ⟨hF2.g, fun t ht => by
    simp only [List.mem_cons] at ht
    rcases ht with rfl | rfl | rfl | ht
    · exact hF2.b _ (by simp)
    · exact hF2.b _ (by simp)
    · exact ⟨hgh, hWg⟩
    · exact hF2.b t (by simp [ht])⟩
  have hbR : Oth ((R, 72, rc) :: bs) := fun t ht => by
    rcases List.mem_cons.1 ht with rfl | ht
    · exact ⟨by simp, by simp⟩
    · exact hb t ht
  clear hF2
  try walk_nrm
  co_op (GR.rely) hF (co_still (terms0 NoSh))
  co_op (GR.rely) hF (co_still (terms0 NoSh))
  co_opw (GR.rely) hF (have hc := hF.cell (nb := Kb) (ty := 88) (cs := kc) (by simp) hpr; have hz := hF.thaw (nb := Kb) (ty := 88) (cs := kc) (by simp) 5) (refine d0c ?_; co_evs (exact evP0))
  clear hc hz
  replace hF := GR.setK hF (fun t ht => by
    rcases List.mem_cons.1 ht with rfl | ht
    · simp
    · exact (hbR t ht).1) 5 (.slice (some ⟨R, 0, none⟩) 1 rcap)
  co_apply opsC_nil (terms0 NoSh)
  co_then
  co_apply wpC_seq (terms0 NoSh)
  co_reg (terms0 NoSh)
  co_op (GR.rely) hF (co_still (terms0 NoSh))
  co_op (GR.rely) hF (co_still (terms0 NoSh))
  co_op (GR.rely) hF (co_still (terms0 NoSh))
  co_op (GR.rely) hF (co_still (terms0 NoSh))
  co_opw (GR.rely) hF (have hc := hF.cell (nb := P) (ty := 75) (cs := pc) (by simp) hst; have hz := hF.thaw (nb := P) (ty := 75) (cs := pc) (by simp) 2) (refine d0c ?_; co_evs (exact evP0))
  clear hc hz
  replace hF := GR.setP hF hbR 2 (.int .i64 1)
  co_apply opsC_nil (terms0 NoSh)
  co_then
  co_reg (terms0 NoSh)
  co_op (GR.rely) hF (co_still (terms0 NoSh))
  co_op (GR.rely) hF (co_still (terms0 NoSh))
  co_op (GR.rely) hF (co_still (terms0 NoSh))
  co_op (GR.rely) hF (co_still (terms0 NoSh))
  co_apply opsC_call (terms0 NoSh) rfl (by rfl) rfl
  · walk_nrm
    exact gj W Kb P _ _ _ hbR (by rw [set_ne hlv (by decide)]) (by rw [set_ne hrow (by decide)]) _ hF
  intro v w' hv
  obtain ⟨Q, cap, qc, h1, h2, h3, h4, h5, h6⟩ := hv
  walk_nrm
  co_apply opsC_nil (terms0 NoSh)
  exact ⟨rfl, _, resultsC_none (by rfl) _, R, rcap, rc, Q, cap, qc, ⟨hr1, hrs, hr0⟩, ⟨h1, h2, h3, h4⟩, h5 (R, 72, rc) (by simp), h6⟩
end Go.Proofs.YtbnaccilnilcmaaDoor
