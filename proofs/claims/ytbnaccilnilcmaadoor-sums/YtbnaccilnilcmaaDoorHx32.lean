/-
  A kernel is made.
  No condition but those that each statement names.
-/
import Derived.Test.YtbnaccilnilcmaaDoorHx31
import Derived.Test.YtbnaccilnilcmaaDoorHx11
import Derived.Test.YtbnaccilnilcmaaDoorHx10
set_option linter.unusedVariables false
set_option linter.unusedSimpArgs false
set_option linter.unusedSectionVars false
namespace Go.Proofs.YtbnaccilnilcmaaDoor
open Go.Conc Go.RowKit Go.Hx Go.ConcX

/-- A new process's cells; a new kernel's. -/
def proc0 : Array Value := #[.int .i64 1, .int .i64 0, .int .i64 0, .int .i64 0, .int .i64 0, .int .i64 0, .int .i64 0] ++ Array.replicate 8 (.int .u16 0) ++ Array.replicate 64 (.int .u8 0)
abbrev kern0 (prog : Value) : Array Value := #[.int .i64 2, .int .i64 3, .int .i64 4, .int .i64 51, prog, .slice none 0 0, .slice none 0 0, .slice none 0 0, .slice none 0 0, .int .i64 0]

theorem bd88 (x : Option Addr) (l c : Nat) (w : World) : (Instr.build 88 #[(0, .agg cfg), (1, .slice x l c)]).run Tryd.prog w = .ok (.agg (kern0 (.slice x l c))) w := run_build (P := Tryd.prog) w 88 #[(0, .agg cfg), (1, .slice x l c)] (kern0 (.slice x l c)) (by kernel_rfl)
theorem bd88e (x : Option Addr) (l c : Nat) (w : World) (es : Array Event) : (Instr.build 88 #[(0, .agg cfg), (1, .slice x l c)]).events Tryd.prog w es = es := by kernel_rfl
theorem bd42 (w : World) : (Instr.build 42 #[(0, .int .i64 1)]).run Tryd.prog w = .ok (.agg #[.int .i64 1, .int .i64 0, .int .i64 0, .int .i64 0, .int .i64 0, .int .i64 0, .int .i64 0, .int .u16 0, .int .u16 0, .int .u16 0, .int .u16 0, .int .u16 0, .int .u16 0, .int .u16 0, .int .u16 0]) w := by kernel_rfl
theorem bd42e (w : World) (es : Array Event) : (Instr.build 42 #[(0, .int .i64 1)]).events Tryd.prog w es = es := by kernel_rfl
theorem bd75 (w : World) : (Instr.build 75 #[(0, .agg #[.int .i64 1, .int .i64 0, .int .i64 0, .int .i64 0, .int .i64 0, .int .i64 0, .int .i64 0, .int .u16 0, .int .u16 0, .int .u16 0, .int .u16 0, .int .u16 0, .int .u16 0, .int .u16 0, .int .u16 0])]).run Tryd.prog w = .ok (.agg proc0) w := by kernel_rfl
theorem bd75e (w : World) (es : Array Event) : (Instr.build 75 #[(0, .agg #[.int .i64 1, .int .i64 0, .int .i64 0, .int .i64 0, .int .i64 0, .int .i64 0, .int .i64 0, .int .u16 0, .int .u16 0, .int .u16 0, .int .u16 0, .int .u16 0, .int .u16 0, .int .u16 0, .int .u16 0])]).events Tryd.prog w es = es := by kernel_rfl

variable {Fin : Value → World → Prop}

theorem ownsRow_rely {w w₁ : World} {base : Nat} {e : TypeId} {size : Nat} {v : Value} {n : Nat} {xs : List Value} (h : w.ownsRow base e size v n xs) (r : AtRel w w₁) : w₁.ownsRow base e size v n xs := by obtain ⟨d, rfl⟩ := r; exact h

/-- What is known while a kernel is made. -/
structure Mk (W : World) (g : Nat) (im : List Int) (bs : List (Nat × TypeId × Array Value)) (w : World) : Prop where
  gr : GR W bs w
  im : Im g im w
theorem Im.at {g : Nat} {im : List Int} {w : World} (h : Im g im w) (d : Nat) : Im g im (w.at d) := h
theorem Mk.rely {W : World} {g : Nat} {im : List Int} {bs : List (Nat × TypeId × Array Value)} {w w₁ : World} (h : Mk W g im bs w) (r : AtRel w w₁) : Mk W g im bs w₁ := ⟨h.gr.rely r, by obtain ⟨d, rfl⟩ := r; exact h.im⟩
theorem Mk.grown {W : World} {g : Nat} {im : List Int} {bs : List (Nat × TypeId × Array Value)} {w w' : World} (h : Mk W g im bs w) (hg : w.grownBy w' none) : Mk W g im bs w' := ⟨h.gr.grown hg, h.im.grown hg⟩
theorem Mk.alloc {W : World} {g : Nat} {im : List Int} {bs : List (Nat × TypeId × Array Value)} {w : World} (h : Mk W g im bs w) (ty : TypeId) (cs : Array Value) : Mk W g im ((w.heap.size, ty, cs) :: bs) (w.alloc (.cells cs ty)) := ⟨h.gr.alloc ty cs, h.im.grown (grown_alloc _ _)⟩

set_option maxRecDepth 100000 in
set_option maxHeartbeats 8000000 in
theorem New_x : ∃ k, ∀ (nn g cap : Nat) (im : List Int) (hl : im.length = 44) (w : World), Im g im w →
    CallsX (F0 Tryd.prog Fin) Tryd.prog true 15 #[.agg cfg, .slice (some ⟨g, 0, none⟩) 44 cap] k (nn, []) w fun s' v w' => s' = (nn, []) ∧ ∃ K P G gcap gc R rcap rc Q qcap qc, v = .tuple #[.pointer (some ⟨K, 0, none⟩), .int .i64 0] ∧
      (1 ≤ rcap ∧ rc.size = rcap ∧ rc[0]? = some (.pointer (some ⟨P, 0, none⟩))) ∧ (1 ≤ qcap ∧ qcap ≤ maxLen ∧ qc.size = qcap ∧ qc[0]? = some (.pointer (some ⟨P, 0, none⟩))) ∧ R ≠ Q ∧ (∀ i : Nat, i < 44 → gc[i]? = (im.map (Value.int .u8))[i]?) ∧
      GR w [(K, 88, ((kern0 (.slice (some ⟨G, 0, none⟩) 11 gcap)).setIfInBounds 5 (.slice (some ⟨R, 0, none⟩) 1 rcap)).setIfInBounds 6 (.slice (some ⟨Q, 0, none⟩) 1 qcap)), (P, 75, proc0.setIfInBounds 2 (.int .i64 1)), (Q, 72, qc), (R, 72, rc), (G, 110, gc)] w' := by
  obtain ⟨k27, g27⟩ := isConfig_s
  obtain ⟨k28, g28⟩ := isImage_s
  obtain ⟨k29, g29⟩ := decode_s
  obtain ⟨k30, g30⟩ := add_s
  co_apply Exists.intro
  intro nn g cap im hl W hI
  have hF : Mk W g im [] W := ⟨GR.refl W, hI⟩
  co_apply callsX_of_wpX Tryd.func15 (by rfl) rfl
  simp only [Tryd.ntmps15, List.size_toArray, List.length_cons, List.length_nil, Nat.reduceAdd, Nat.reduceSub, Array.replicate_succ, Array.replicate_zero, List.push_toArray, List.append_toArray, List.nil_append, List.cons_append]
  co_apply wpX_seq
  co_apply wpX_region
  simp only [List.size_toArray, List.length_cons, List.length_nil, Nat.reduceAdd, Nat.zero_add, List.range, List.range.loop]
  co_apply opsX_cons_k rfl (by rfl)
  intro _ hR K hK
  replace hF := (Mk.rely) hF hR
  clear hR
  skip
  go_simp
  try (unfold stored; go_simp)
  refine hK _ _ ⟨?_, ?_⟩
  · (refine d0_of ?_; intro e he; have hm := mem_listed he; simp [go_sem, *] at hm; try (first | (subst hm; exact evP0) | (rcases hm with rfl | rfl <;> exact evP0) | (rcases hm with rfl | rfl | rfl <;> exact evP0) | (rcases hm with rfl | rfl | rfl | rfl <;> exact evP0)))
  clear hK K
  try walk_nrm
  rename_i wb
  replace hF := hF.alloc 29 cfg
  co_apply opsX_cons_k rfl (by rfl)
  intro _ hR K hK
  replace hF := (Mk.rely) hF hR
  clear hR
  skip
  go_simp
  try (unfold stored; go_simp)
  refine hK _ _ ⟨?_, ?_⟩
  · (rw [listed_nil (by simp [go_sem, *])]; exact d0_of (by simp))
  clear hK K
  try walk_nrm
  co_apply opsX_cons_k rfl (by rfl)
  intro _ hR K hK
  replace hF := (Mk.rely) hF hR
  clear hR
  skip
  go_simp
  try (unfold stored; go_simp)
  refine hK _ _ ⟨?_, ?_⟩
  · (rw [listed_nil (by simp [go_sem, *])]; exact d0_of (by simp))
  clear hK K
  try walk_nrm
  co_apply opsX_nil
  try simp only [ThenX]
  try co_then
  co_apply wpX_seq
  co_apply wpX_seq
  co_apply wpX_region
  simp only [List.size_toArray, List.length_cons, List.length_nil, Nat.reduceAdd, Nat.zero_add, List.range, List.range.loop]
  co_apply opsX_cons_k rfl (by rfl)
  intro _ hR K hK
  replace hF := (Mk.rely) hF hR
  clear hR
  have hc0 := hF.gr.top (i := 0) rfl; have hc1 := hF.gr.top (i := 1) rfl; have hc2 := hF.gr.top (i := 2) rfl; have hc3 := hF.gr.top (i := 3) rfl
  go_simp
  try (unfold stored; go_simp)
  refine hK _ _ ⟨?_, ?_⟩
  · (refine d0_of ?_; intro e he; have hm := mem_listed he; simp [go_sem, *] at hm; try (first | (subst hm; exact evP0) | (rcases hm with rfl | rfl <;> exact evP0) | (rcases hm with rfl | rfl | rfl <;> exact evP0) | (rcases hm with rfl | rfl | rfl | rfl <;> exact evP0)))
  clear hK K
  try walk_nrm
  clear hc0 hc1 hc2 hc3
  co_apply opsX_call rfl (by rfl) rfl
  · walk_nrm
    exact callsX_of (Post := fun s' v w' => s' = (nn, []) ∧ v = .bool true ∧ World.grownBy _ w' none) (CallsC.mono (g27 _) fun v w h => ⟨rfl, h⟩)
  intro s' v w' hv
  obtain ⟨rfl, rfl, hg⟩ := hv
  replace hF := hF.grown hg
  clear hg
  walk_nrm
  co_apply opsX_cons_k rfl (by rfl)
  intro _ hR K hK
  replace hF := (Mk.rely) hF hR
  clear hR
  skip
  go_simp
  try (unfold stored; go_simp)
  refine hK _ _ ⟨?_, ?_⟩
  · (rw [listed_nil (by simp [go_sem, *])]; exact d0_of (by simp))
  clear hK K
  try walk_nrm
  co_apply opsX_nil
  try simp only [ThenX]
  try co_then
  co_apply wpX_cond (t := false)
  focus (exact rfl)
  simp only [if_true, if_false, Bool.false_eq_true, reduceIte]
  co_apply wpX_of
  co_apply wpC_skip (terms0 NoSh)
  try simp only [ThenX]
  try co_then
  co_apply wpX_seq
  co_apply wpX_seq
  co_apply wpX_region
  simp only [List.size_toArray, List.length_cons, List.length_nil, Nat.reduceAdd, Nat.zero_add, List.range, List.range.loop]
  co_apply opsX_cons_k rfl (by rfl)
  intro _ hR K hK
  replace hF := (Mk.rely) hF hR
  clear hR
  skip
  go_simp
  try (unfold stored; go_simp)
  refine hK _ _ ⟨?_, ?_⟩
  · (rw [listed_nil (by simp [go_sem, *])]; exact d0_of (by simp))
  clear hK K
  try walk_nrm
  co_apply opsX_call rfl (by rfl) rfl
  · walk_nrm
    exact callsX_of (Post := fun s' v w' => s' = (nn, []) ∧ v = .bool true ∧ World.grownBy _ w' none) (CallsC.mono (g28 g cap _) fun v w h => ⟨rfl, h⟩)
  intro s' v w' hv
  obtain ⟨rfl, rfl, hg⟩ := hv
  replace hF := hF.grown hg
  clear hg
  walk_nrm
  co_apply opsX_cons_k rfl (by rfl)
  intro _ hR K hK
  replace hF := (Mk.rely) hF hR
  clear hR
  skip
  go_simp
  try (unfold stored; go_simp)
  refine hK _ _ ⟨?_, ?_⟩
  · (rw [listed_nil (by simp [go_sem, *])]; exact d0_of (by simp))
  clear hK K
  try walk_nrm
  co_apply opsX_nil
  try simp only [ThenX]
  try co_then
  co_apply wpX_cond (t := false)
  focus (exact rfl)
  simp only [if_true, if_false, Bool.false_eq_true, reduceIte]
  co_apply wpX_of
  co_apply wpC_skip (terms0 NoSh)
  try simp only [ThenX]
  try co_then
  co_apply wpX_seq
  co_apply wpX_region_held (S := fun s w => s = (nn, []) ∧ Mk W g im [(wb.heap.size, 29, cfg)] w) (nf := k29) (drawD0 NoSh) (by first | kernel_rfl | rfl)
  intro _ hR
  replace hF := Mk.rely (Mk.rely hF hR) (drawAt _)
  clear hR
  simp only [List.size_toArray, List.length_cons, List.length_nil, Nat.reduceAdd, Nat.zero_add]
  have hS : ((nn, []) : Nat × List Nat) = (nn, []) ∧ Mk W g im [(wb.heap.size, 29, cfg)] _ := ⟨rfl, hF⟩
  have hbe := bd88e
  have hbr := bd88
  co_applyP anyX_take (S := fun s w => s = (nn, []) ∧ Mk W g im [(wb.heap.size, 29, cfg)] w) (fun _ _ _ h r => ⟨h.1, Mk.rely h.2 r⟩) (fun _ _ _ _ h r => wpX_rely h r) (i := 0) rfl (by first | kernel_rfl | decide +kernel) (by first | kernel_rfl | decide +kernel) (by first | kernel_rfl | decide +kernel) (fun _ => .inl ⟨by rfl, fun _ hw => ⟨run_eq_of ?run1, ?guar1⟩⟩) hS ?rest1
  case run1 =>
    intro K hK
    (obtain ⟨hs, hw⟩ := hw; subst hs; have hc0 := hw.gr.top (i := 0) rfl; have hc1 := hw.gr.top (i := 1) rfl; have hc2 := hw.gr.top (i := 2) rfl; have hc3 := hw.gr.top (i := 3) rfl)
    go_simp
    exact hK
  case guar1 =>
    (obtain ⟨hs, hw⟩ := hw; subst hs; have hc0 := hw.gr.top (i := 0) rfl; have hc1 := hw.gr.top (i := 1) rfl; have hc2 := hw.gr.top (i := 2) rfl; have hc3 := hw.gr.top (i := 3) rfl)
    (refine d0_of ?_; intro e he; have hm := mem_listed he; simp [go_sem, *] at hm; (rcases hm with rfl | rfl | rfl | rfl <;> exact evP0))
  try walk_nrm
  co_applyP anyX_take (S := fun s w => s = (nn, []) ∧ Mk W g im [(wb.heap.size, 29, cfg)] w) (fun _ _ _ h r => ⟨h.1, Mk.rely h.2 r⟩) (fun _ _ _ _ h r => wpX_rely h r) (i := 1) rfl (by first | kernel_rfl | decide +kernel) (by first | kernel_rfl | decide +kernel) (by first | kernel_rfl | decide +kernel) (fun _ => .inl ⟨by rfl, fun _ hw => ⟨run_eq_of ?run2, ?guar2⟩⟩) hS ?rest2
  case run2 =>
    intro K hK
    (skip)
    go_simp
    exact hK
  case guar2 =>
    (skip)
    ((rw [listed_nil (by simp [go_sem, *])]; exact d0_of (by simp)))
  try walk_nrm
  co_applyP anyX_all (rs := [2]) (by first | kernel_rfl | decide +kernel) (by decide)
  intro qq hqq
  obtain rfl : qq = 2 := by simpa using hqq
  refine .inr ⟨_, 29, _, _, (fun s' v w' => s' = (nn, []) ∧ Mk W g im [(wb.heap.size, 29, cfg)] w' ∧ w'.ownsRow W.heap.size 110 4 v 11 (im.map (Value.int .u8)) ∧ ∃ x l c, v = .slice x l c), rfl, by rfl, rfl, ?_, ?_⟩
  · walk_nrm
    refine callsX_of (Post := fun s' v w' => s' = (nn, []) ∧ Mk W g im [(wb.heap.size, 29, cfg)] w' ∧ w'.ownsRow W.heap.size 110 4 v 11 (im.map (Value.int .u8)) ∧ ∃ x l c, v = .slice x l c) (CallsC.mono (g29 g cap im hl _ hF.im) fun v w h => ⟨rfl, hF.grown h.1, ⟨h.2.1, h.2.2.imp id ?_⟩, ?_⟩)
    · rintro ⟨g', cap', cur, e1, e2, e3⟩
      exact ⟨g', cap', cur, e1, Nat.le_trans hF.gr.g.size e2, e3⟩
    · rcases h.2.2 with ⟨rfl, _⟩ | ⟨g', cap', cur, rfl, _⟩
      · exact ⟨_, _, _, rfl⟩
      · exact ⟨_, _, _, rfl⟩
  rintro s' v w' ⟨rfl, hF', hown, x, l, c, rfl⟩
  clear hF
  have hF := hF'
  clear hF'
  refine ⟨⟨rfl, hF⟩, ?_⟩
  clear hS
  have hS : ((nn, []) : Nat × List Nat) = (nn, []) ∧ Mk W g im [(wb.heap.size, 29, cfg)] _ := ⟨rfl, hF⟩
  walk_nrm
  co_applyP anyX_take (S := fun s w => s = (nn, []) ∧ Mk W g im [(wb.heap.size, 29, cfg)] w) (fun _ _ _ h r => ⟨h.1, Mk.rely h.2 r⟩) (fun _ _ _ _ h r => wpX_rely h r) (i := 3) rfl (by first | kernel_rfl | decide +kernel) (by first | kernel_rfl | decide +kernel) (by first | kernel_rfl | decide +kernel) (fun _ => .inl ⟨by rfl, fun _ hw => ⟨run_eq_of ?run3, ?guar3⟩⟩) hS ?rest3
  case run3 =>
    intro K hK
    (skip)
    go_simp
    exact hK
  case guar3 =>
    (skip)
    ((rw [listed_nil (by simp [go_sem, *])]; exact d0_of (by simp)))
  try walk_nrm
  co_applyP anyX_all (rs := [4]) (by first | kernel_rfl | decide +kernel) (by decide)
  intro qq hqq
  obtain rfl : qq = 4 := by simpa using hqq
  refine .inl ?_
  co_applyP opC_k rfl (by rfl)
  intro wk hR K hK
  replace hF := Mk.rely hF hR
  replace hown := ownsRow_rely hown hR
  clear hR
  go_simp
  refine hK _ _ ⟨?_, ⟨rfl, hF.grown (grown_alloc _ _)⟩, ?_⟩
  · refine d0_of ?_
    intro e he
    have hm := mem_listed he
    simp [go_sem, *] at hm
  clear hK K
  clear hS
  have hS : ((nn, []) : Nat × List Nat) = (nn, []) ∧ Mk W g im [(wb.heap.size, 29, cfg)] (wk.alloc (.cells (kern0 (.slice x l c)) 88)) := ⟨rfl, hF.grown (grown_alloc _ _)⟩
  have hF2 : Mk W g im [(wk.heap.size, 88, kern0 (.slice x l c))] (wk.alloc (.cells (kern0 (.slice x l c)) 88)) := ⟨(hF.gr.alloc 88 (kern0 (.slice x l c))).sub (by simp), hF.im.grown (grown_alloc _ _)⟩
  replace hown := World.ownsRow.alloc hown (.cells (kern0 (.slice x l c)) 88)
  clear hF
  have hF := hF2
  clear hF2
  try walk_nrm
  co_applyP anyX_take (S := fun s w => s = (nn, []) ∧ Mk W g im [(wb.heap.size, 29, cfg)] w) (fun _ _ _ h r => ⟨h.1, Mk.rely h.2 r⟩) (fun _ _ _ _ h r => wpX_rely h r) (i := 5) rfl (by first | kernel_rfl | decide +kernel) (by first | kernel_rfl | decide +kernel) (by first | kernel_rfl | decide +kernel) (fun _ => .inl ⟨by rfl, fun _ hw => ⟨run_eq_of ?run4, ?guar4⟩⟩) hS ?rest4
  case run4 =>
    intro K hK
    (skip)
    go_simp
    exact hK
  case guar4 =>
    (skip)
    ((rw [listed_nil (by simp [go_sem, *])]; exact d0_of (by simp)))
  try walk_nrm
  refine anyX_done (by first | kernel_rfl | decide +kernel) ?_ _
  try simp only [ThenX]
  try co_then
  obtain ⟨G, gcap, gc, hxe, hGn, hGh, hGl⟩ : ∃ G gcap gc, Value.slice x l c = .slice (some ⟨G, 0, none⟩) 11 gcap ∧ W.heap.size ≤ G ∧ Has G 110 gc (wk.alloc (.cells (kern0 (.slice x l c)) 88)) ∧ ∀ i : Nat, i < 44 → gc[i]? = (im.map (Value.int .u8))[i]? := by
    rcases hown.2 with ⟨_, e⟩ | ⟨G, gcap, cur, e1, e2, e3, _, _, _, e7⟩
    · omega
    · refine ⟨G, gcap, cur, e1, e2, e3, fun i hi => ?_⟩
      rw [← e7, List.getElem?_take, if_pos (by omega)]
      simp
  rw [hxe] at hF ⊢
  have hF2 : GR W [(wk.heap.size, 88, kern0 (.slice (some ⟨G, 0, none⟩) 11 gcap)), (G, 110, gc)] (wk.alloc (.cells (kern0 (.slice (some ⟨G, 0, none⟩) 11 gcap)) 88)) := ⟨hF.gr.g, fun t ht => by
    simp only [List.mem_cons, List.not_mem_nil, or_false] at ht
    rcases ht with rfl | rfl
    · exact hF.gr.b _ (by simp)
    · rw [hxe] at hGh; exact ⟨hGh, hGn⟩⟩
  clear hF hS hown hGh hxe
  have hF := hF2
  clear hF2
  have t1 := bd42
  have t2 := bd42e
  have t3 := bd75
  have t4 := bd75e
  co_apply wpX_seq
  co_apply wpX_region
  simp only [List.size_toArray, List.length_cons, List.length_nil, Nat.reduceAdd, Nat.zero_add, List.range, List.range.loop]
  co_apply opsX_cons_k rfl (by rfl)
  intro _ hR K hK
  replace hF := (GR.rely) hF hR
  clear hR
  skip
  go_simp
  try (unfold stored; go_simp)
  refine hK _ _ ⟨?_, ?_⟩
  · (rw [listed_nil (by simp [go_sem, *])]; exact d0_of (by simp))
  clear hK K
  try walk_nrm
  co_apply opsX_cons_k rfl (by rfl)
  intro _ hR K hK
  replace hF := (GR.rely) hF hR
  clear hR
  skip
  go_simp
  try (unfold stored; go_simp)
  refine hK _ _ ⟨?_, ?_⟩
  · (rw [listed_nil (by simp [go_sem, *])]; exact d0_of (by simp))
  clear hK K
  try walk_nrm
  co_apply opsX_cons_k rfl (by rfl)
  intro _ hR K hK
  replace hF := (GR.rely) hF hR
  clear hR
  skip
  go_simp
  try (unfold stored; go_simp)
  refine hK _ _ ⟨?_, ?_⟩
  · (rw [listed_nil (by simp [go_sem, *])]; exact d0_of (by simp))
  clear hK K
  try walk_nrm
  co_apply opsX_cons_k rfl (by rfl)
  intro _ hR K hK
  replace hF := (GR.rely) hF hR
  clear hR
  skip
  go_simp
  try (unfold stored; go_simp)
  refine hK _ _ ⟨?_, ?_⟩
  · (refine d0_of ?_; intro e he; have hm := mem_listed he; simp [go_sem, *] at hm; try (first | (subst hm; exact evP0) | (rcases hm with rfl | rfl <;> exact evP0) | (rcases hm with rfl | rfl | rfl <;> exact evP0) | (rcases hm with rfl | rfl | rfl | rfl <;> exact evP0)))
  clear hK K
  try walk_nrm
  rename_i wp
  replace hF := GR.swap (hF.alloc 75 proc0)
  co_apply opsX_call rfl (by rfl) rfl
  · walk_nrm
    exact callsX_of (Post := fun s' v w' => s' = (nn, []) ∧ ∃ R rcap rc Q cap qc, (1 ≤ rcap ∧ rc.size = rcap ∧ rc[0]? = some (.pointer (some ⟨wp.heap.size, 0, none⟩))) ∧ (1 ≤ cap ∧ cap ≤ maxLen ∧ qc.size = cap ∧ qc[0]? = some (.pointer (some ⟨wp.heap.size, 0, none⟩))) ∧ R ≠ Q ∧ GR W ((wk.heap.size, 88, ((kern0 (.slice (some ⟨G, 0, none⟩) 11 gcap)).setIfInBounds 5 (.slice (some ⟨R, 0, none⟩) 1 rcap)).setIfInBounds 6 (.slice (some ⟨Q, 0, none⟩) 1 cap)) :: (wp.heap.size, 75, proc0.setIfInBounds 2 (.int .i64 1)) :: (Q, 72, qc) :: (R, 72, rc) :: [(G, 110, gc)]) w') (CallsC.mono (g30 W wk.heap.size wp.heap.size _ proc0 [(G, 110, gc)] (by intro t ht; simp at ht; subst ht; exact ⟨by simp, by simp⟩) rfl rfl rfl rfl _ hF) fun v w h => ⟨rfl, h⟩)
  intro s' v w' hv
  obtain ⟨rfl, R, rcap, rc, Q, qcap, qc, h1, h2, h3, h4⟩ := hv
  clear hF
  have hF := h4
  clear h4
  walk_nrm
  co_apply opsX_nil
  try simp only [ThenX]
  try co_then
  co_apply wpX_seq
  co_apply wpX_region
  simp only [List.size_toArray, List.length_cons, List.length_nil, Nat.reduceAdd, Nat.zero_add, List.range, List.range.loop]
  co_apply opsX_cons_k rfl (by rfl)
  intro _ hR K hK
  replace hF := (GR.rely) hF hR
  clear hR
  skip
  go_simp
  try (unfold stored; go_simp)
  refine hK _ _ ⟨?_, ?_⟩
  · (rw [listed_nil (by simp [go_sem, *])]; exact d0_of (by simp))
  clear hK K
  try walk_nrm
  co_apply opsX_cons_k rfl (by rfl)
  intro _ hR K hK
  replace hF := (GR.rely) hF hR
  clear hR
  skip
  go_simp
  try (unfold stored; go_simp)
  refine hK _ _ ⟨?_, ?_⟩
  · (rw [listed_nil (by simp [go_sem, *])]; exact d0_of (by simp))
  clear hK K
  try walk_nrm
  co_apply opsX_cons_k rfl (by rfl)
  intro _ hR K hK
  replace hF := (GR.rely) hF hR
  clear hR
  skip
  go_simp
  try (unfold stored; go_simp)
  refine hK _ _ ⟨?_, ?_⟩
  · (rw [listed_nil (by simp [go_sem, *])]; exact d0_of (by simp))
  clear hK K
  try walk_nrm
  co_apply opsX_nil
  try simp only [ThenX]
  try co_then
  co_apply wpX_of
  co_apply wpC_ret (terms0 NoSh)
  exact ⟨rfl, _, resultsC_tmp2 (t := 4) (u := 5) (by rfl) _, rfl, _, _, G, gcap, gc, R, rcap, rc, Q, qcap, qc, rfl, h1, h2, h3, hGl, hF⟩
end Go.Proofs.YtbnaccilnilcmaaDoor
/-
  The law's kernel: of an image that is a string.
  No condition but those that each statement names.
-/
namespace Go.Proofs.YtbnaccilnilcmaaDoor
open Go.Conc Go.RowKit Go.Hx Go.ConcX

variable {Fin : Value → World → Prop}

theorem GR.down {V W w : World} {bs : List (Nat × TypeId × Array Value)} (h : GR W bs w) (hg : V.grownBy W none) : GR V bs w := ⟨grown_trans hg h.g, fun t ht => ⟨(h.b t ht).1, Nat.le_trans hg.size (h.b t ht).2⟩⟩

/-- The image's numbers. -/
def nums (l : List UInt8) : List Int := l.map fun b => (b.toNat : Int)

theorem conv_im (l : List UInt8) (w : World) : ∃ cap w', (convert 9 37 (.string ⟨l.toArray⟩)).run Tryd.prog w = .ok (.slice (some ⟨w.heap.size, 0, none⟩) l.length cap) w' ∧ w.grownBy w' none ∧ Im w.heap.size (nums l) w' := by
  refine ⟨_, _, run_bytes_of_string w 9 37 5 ⟨l.toArray⟩ Tryd.underlying9 Tryd.underlying37 Tryd.underlying5, ⟨rfl, rfl, rfl, ?_, fun b hb _ => ?_⟩, _, _, alloc_new _ _, fun j v hv => ?_⟩
  · rw [alloc_size]; exact Nat.le_succ _
  · exact alloc_get w.drew _ (Nat.ne_of_lt hb)
  · have hj : j < l.length := by
      have := (List.getElem?_eq_some_iff.1 hv).1
      simpa [nums] using this
    rw [bytesRow_at _ _ j (by simpa using hj)]
    simp [nums, List.getElem?_map, List.getElem?_eq_getElem hj] at hv
    simp [hv]

/-- A kernel as New has made it. -/
def Made (W : World) (im : List Int) (Kp : Nat) (w : World) : Prop := ∃ P G gcap gc R rcap rc Q qcap qc, (1 ≤ rcap ∧ rc.size = rcap ∧ rc[0]? = some (.pointer (some ⟨P, 0, none⟩))) ∧ (1 ≤ qcap ∧ qcap ≤ maxLen ∧ qc.size = qcap ∧ qc[0]? = some (.pointer (some ⟨P, 0, none⟩))) ∧ R ≠ Q ∧ (∀ i : Nat, i < 44 → gc[i]? = (im.map (Value.int .u8))[i]?) ∧
      GR W [(Kp, 88, ((kern0 (.slice (some ⟨G, 0, none⟩) 11 gcap)).setIfInBounds 5 (.slice (some ⟨R, 0, none⟩) 1 rcap)).setIfInBounds 6 (.slice (some ⟨Q, 0, none⟩) 1 qcap)), (P, 75, proc0.setIfInBounds 2 (.int .i64 1)), (Q, 72, qc), (R, 72, rc), (G, 110, gc)] w
theorem Made.rely {W : World} {im : List Int} {Kp : Nat} {w w₁ : World} (h : Made W im Kp w) (r : AtRel w w₁) : Made W im Kp w₁ := by
  obtain ⟨P, G, gcap, gc, R, rcap, rc, Q, qcap, qc, h1, h2, h3, h4, h5⟩ := h
  exact ⟨P, G, gcap, gc, R, rcap, rc, Q, qcap, qc, h1, h2, h3, h4, h5.rely r⟩

set_option maxRecDepth 100000 in
set_option maxHeartbeats 8000000 in
theorem kernel_x : ∃ k, ∀ (nn : Nat) (l : List UInt8) (hl : l.length = 44) (w : World),
    CallsX (F0 Tryd.prog Fin) Tryd.prog true 9 #[.agg cfg, .string ⟨l.toArray⟩] k (nn, []) w fun s' v w' => s' = (nn, []) ∧ ∃ K, v = .pointer (some ⟨K, 0, none⟩) ∧ Made w (nums l) K w' := by
  obtain ⟨k15, g15⟩ := New_x (Fin := Fin)
  co_apply Exists.intro
  intro nn l hl W
  have hF := GR.refl W
  co_apply callsX_of_wpX Tryd.func9 (by rfl) rfl
  simp only [Tryd.ntmps9, List.size_toArray, List.length_cons, List.length_nil, Nat.reduceAdd, Nat.reduceSub, Array.replicate_succ, Array.replicate_zero, List.push_toArray, List.append_toArray, List.nil_append, List.cons_append]
  co_apply wpX_seq
  co_apply wpX_region
  simp only [List.size_toArray, List.length_cons, List.length_nil, Nat.reduceAdd, Nat.zero_add, List.range, List.range.loop]
  co_apply opsX_cons_k rfl (by rfl)
  intro _ hR K hK
  replace hF := (GR.rely) hF hR
  clear hR
  skip
  go_simp
  try (unfold stored; go_simp)
  refine hK _ _ ⟨?_, ?_⟩
  · (refine d0_of ?_; intro e he; have hm := mem_listed he; simp [go_sem, *] at hm; try (first | (subst hm; exact evP0) | (rcases hm with rfl | rfl <;> exact evP0) | (rcases hm with rfl | rfl | rfl <;> exact evP0) | (rcases hm with rfl | rfl | rfl | rfl <;> exact evP0)))
  clear hK K
  try walk_nrm
  replace hF := hF.alloc 29 cfg
  co_apply opsX_cons_k rfl (by rfl)
  intro _ hR K hK
  replace hF := (GR.rely) hF hR
  clear hR
  skip
  go_simp
  try (unfold stored; go_simp)
  refine hK _ _ ⟨?_, ?_⟩
  · (rw [listed_nil (by simp [go_sem, *])]; exact d0_of (by simp))
  clear hK K
  try walk_nrm
  co_apply opsX_nil
  try simp only [ThenX]
  try co_then
  co_apply wpX_seq
  co_apply wpX_region
  simp only [List.size_toArray, List.length_cons, List.length_nil, Nat.reduceAdd, Nat.zero_add, List.range, List.range.loop]
  co_apply opsX_cons_k rfl (by rfl)
  intro _ hR K hK
  replace hF := (GR.rely) hF hR
  clear hR
  have hc0 := hF.top (i := 0) rfl; have hc1 := hF.top (i := 1) rfl; have hc2 := hF.top (i := 2) rfl; have hc3 := hF.top (i := 3) rfl
  go_simp
  try (unfold stored; go_simp)
  refine hK _ _ ⟨?_, ?_⟩
  · (refine d0_of ?_; intro e he; have hm := mem_listed he; simp [go_sem, *] at hm; try (first | (subst hm; exact evP0) | (rcases hm with rfl | rfl <;> exact evP0) | (rcases hm with rfl | rfl | rfl <;> exact evP0) | (rcases hm with rfl | rfl | rfl | rfl <;> exact evP0)))
  clear hK K
  try walk_nrm
  clear hc0 hc1 hc2 hc3
  co_apply opsX_cons_k rfl (by rfl)
  intro _ hR K hK
  replace hF := (GR.rely) hF hR
  clear hR
  skip
  go_simp
  try (unfold stored; go_simp)
  refine hK _ _ ⟨?_, ?_⟩
  · (rw [listed_nil (by simp [go_sem, *])]; exact d0_of (by simp))
  clear hK K
  try walk_nrm
  co_apply opsX_cons_k rfl (by rfl)
  intro wi hR K hK
  replace hF := GR.rely hF hR
  clear hR
  obtain ⟨cap, w', hr, hg, hI⟩ := conv_im l wi
  rw [hl] at hr
  have hce := ev_stringToBytes (P := Tryd.prog) wi 9 37 5 ⟨l.toArray⟩ Tryd.underlying9 Tryd.underlying37 Tryd.underlying5
  go_simp
  refine hK _ _ ⟨?_, ?_⟩
  · refine d0_of ?_
    intro e he
    have hm := mem_listed he
    simp [go_sem, *] at hm
  clear hK K hce hr
  have hgW := grown_trans hF.g hg
  clear hF hg
  try walk_nrm
  co_apply opsX_call rfl (by rfl) rfl
  · walk_nrm
    exact g15 nn wi.heap.size cap (nums l) (by simp [nums, hl]) w' hI
  intro s' v w' hv
  obtain ⟨rfl, K, P, G, gcap, gc, R, rcap, rc, Q, qcap, qc, rfl, h1, h2, h3, h4, h5⟩ := hv
  have hF : Made W (nums l) K _ := ⟨P, G, gcap, gc, R, rcap, rc, Q, qcap, qc, h1, h2, h3, h4, GR.down h5 hgW⟩
  clear h1 h2 h3 h4 h5
  walk_nrm
  co_apply opsX_cons_k rfl (by rfl)
  intro _ hR K hK
  replace hF := (Made.rely) hF hR
  clear hR
  skip
  go_simp
  try (unfold stored; go_simp)
  refine hK _ _ ⟨?_, ?_⟩
  · (rw [listed_nil (by simp [go_sem, *])]; exact d0_of (by simp))
  clear hK K
  try walk_nrm
  co_apply opsX_cons_k rfl (by rfl)
  intro _ hR K hK
  replace hF := (Made.rely) hF hR
  clear hR
  skip
  go_simp
  try (unfold stored; go_simp)
  refine hK _ _ ⟨?_, ?_⟩
  · (rw [listed_nil (by simp [go_sem, *])]; exact d0_of (by simp))
  clear hK K
  try walk_nrm
  co_apply opsX_cons_k rfl (by rfl)
  intro _ hR K hK
  replace hF := (Made.rely) hF hR
  clear hR
  skip
  go_simp
  try (unfold stored; go_simp)
  refine hK _ _ ⟨?_, ?_⟩
  · (rw [listed_nil (by simp [go_sem, *])]; exact d0_of (by simp))
  clear hK K
  try walk_nrm
  co_apply opsX_cons_k rfl (by rfl)
  intro _ hR K hK
  replace hF := (Made.rely) hF hR
  clear hR
  skip
  go_simp
  try (unfold stored; go_simp)
  refine hK _ _ ⟨?_, ?_⟩
  · (rw [listed_nil (by simp [go_sem, *])]; exact d0_of (by simp))
  clear hK K
  try walk_nrm
  co_apply opsX_cons_k rfl (by rfl)
  intro _ hR K hK
  replace hF := (Made.rely) hF hR
  clear hR
  skip
  go_simp
  try (unfold stored; go_simp)
  refine hK _ _ ⟨?_, ?_⟩
  · (rw [listed_nil (by simp [go_sem, *])]; exact d0_of (by simp))
  clear hK K
  try walk_nrm
  co_apply opsX_nil
  try simp only [ThenX]
  try co_then
  co_apply wpX_seq
  co_apply wpX_seq
  co_apply wpX_region
  simp only [List.size_toArray, List.length_cons, List.length_nil, Nat.reduceAdd, Nat.zero_add, List.range, List.range.loop]
  co_apply opsX_cons_k rfl (by rfl)
  intro _ hR K hK
  replace hF := (Made.rely) hF hR
  clear hR
  skip
  go_simp
  try (unfold stored; go_simp)
  refine hK _ _ ⟨?_, ?_⟩
  · (rw [listed_nil (by simp [go_sem, *])]; exact d0_of (by simp))
  clear hK K
  try walk_nrm
  co_apply opsX_cons_k rfl (by rfl)
  intro _ hR K hK
  replace hF := (Made.rely) hF hR
  clear hR
  skip
  go_simp
  try (unfold stored; go_simp)
  refine hK _ _ ⟨?_, ?_⟩
  · (rw [listed_nil (by simp [go_sem, *])]; exact d0_of (by simp))
  clear hK K
  try walk_nrm
  co_apply opsX_nil
  try simp only [ThenX]
  try co_then
  co_apply wpX_cond (t := false)
  focus (exact rfl)
  simp only [if_true, if_false, Bool.false_eq_true, reduceIte]
  co_apply wpX_of
  co_apply wpC_skip (terms0 NoSh)
  try simp only [ThenX]
  try co_then
  co_apply wpX_seq
  co_apply wpX_region
  simp only [List.size_toArray, List.length_cons, List.length_nil, Nat.reduceAdd, Nat.zero_add, List.range, List.range.loop]
  co_apply opsX_cons_k rfl (by rfl)
  intro _ hR K hK
  replace hF := (Made.rely) hF hR
  clear hR
  skip
  go_simp
  try (unfold stored; go_simp)
  refine hK _ _ ⟨?_, ?_⟩
  · (rw [listed_nil (by simp [go_sem, *])]; exact d0_of (by simp))
  clear hK K
  try walk_nrm
  co_apply opsX_cons_k rfl (by rfl)
  intro _ hR K hK
  replace hF := (Made.rely) hF hR
  clear hR
  skip
  go_simp
  try (unfold stored; go_simp)
  refine hK _ _ ⟨?_, ?_⟩
  · (rw [listed_nil (by simp [go_sem, *])]; exact d0_of (by simp))
  clear hK K
  try walk_nrm
  co_apply opsX_nil
  try simp only [ThenX]
  try co_then
  co_apply wpX_of
  co_apply wpC_ret (terms0 NoSh)
  exact ⟨rfl, _, resultsC_tmp (t := 4) (by rfl) _, rfl, _, rfl, hF⟩
end Go.Proofs.YtbnaccilnilcmaaDoor
