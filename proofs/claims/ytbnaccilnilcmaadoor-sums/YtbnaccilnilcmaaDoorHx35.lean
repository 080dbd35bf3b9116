/-
  The law Sums, walked by goroutine 0.
  No condition but those that each statement names.
-/
import Derived.Test.YtbnaccilnilcmaaDoorHx34
set_option linter.unusedVariables false
set_option linter.unusedSimpArgs false
set_option linter.unusedSectionVars false
namespace Go.Proofs.YtbnaccilnilcmaaDoor
open Go.Conc Go.RowKit Go.Hx Go.ConcX

variable {Fin : Value → World → Prop}
attribute [-go_sem] Go.run_string_add_if

theorem Made.down {V W : World} {im : List Int} {Kp : Nat} {w : World} (h : Made W im Kp w) (hg : V.grownBy W none) : Made V im Kp w := by
  obtain ⟨P, G, gcap, gc, R, rcap, rc, Q, qcap, qc, h1, h2, h3, h4, h5⟩ := h
  exact ⟨P, G, gcap, gc, R, rcap, rc, Q, qcap, qc, h1, h2, h3, h4, GR.down h5 hg⟩

set_option maxRecDepth 100000 in
set_option maxHeartbeats 8000000 in
theorem sums_x : ∃ k, ∀ (A B c : Int) (hA : 0 ≤ A ∧ A < 65536) (hB : 0 ≤ B ∧ B < 65536) (hc : -9223372036854775808 ≤ c ∧ c ≤ 9223372036854775807) (W : World) (ep : Addr) (c4 : W.cell? ⟨4, 0, none⟩ = some (.iface 168 (.pointer (some ep)))) (c1 : W.cell? ⟨1, 0, none⟩ = some (.iface 151 (.agg #[.pointer (some ⟨5, 120, none⟩)]))) (h4 : 4 < W.heap.size),
    CallsX (F0 Tryd.prog Fin) Tryd.prog true 3 #[.int .u16 A, .int .u16 B, .int .i64 c] k (2, []) W fun s' v w' => s'.1 = 0 ∧ v = .bool true ∧ W.grownBy w' none := by
  obtain ⟨k7, g7⟩ := pick_s
  obtain ⟨k8, g8⟩ := insn_s
  obtain ⟨k10, g10⟩ := config_s
  obtain ⟨k9, g9⟩ := kernel_x (Fin := Fin)
  obtain ⟨k11, g11⟩ := run_x (Fin := Fin)
  obtain ⟨k12, g12⟩ := procs_s
  obtain ⟨k13, g13⟩ := memory_s
  co_apply Exists.intro
  intro A B c hA hB hc W ep c4 c1 h4
  obtain ⟨at_, hat, hpk⟩ : ∃ at_ : Nat, at_ < 64 ∧ pk c 64 = at_ := ⟨(pk c 64).toNat, by have := pk_lt (c := c) (n := 64) (by omega); omega, by have := pk_lt (c := c) (n := 64) (by omega); omega⟩
  have hF := GR.refl W
  have qA : IntKind.i64.wrap A = A := by simp [IntKind.wrap_i64]; omega
  have qB : IntKind.i64.wrap B = B := by simp [IntKind.wrap_i64]; omega
  have ev := ev_sadd
  co_apply callsX_of_wpX Tryd.func3 (by rfl) rfl
  simp only [Tryd.ntmps3, List.size_toArray, List.length_cons, List.length_nil, Nat.reduceAdd, Nat.reduceSub, Array.replicate_succ, Array.replicate_zero, List.push_toArray, List.append_toArray, List.nil_append, List.cons_append]
  co_apply wpX_seq
  co_apply wpX_region
  simp only [List.size_toArray, List.length_cons, List.length_nil, Nat.reduceAdd, Nat.zero_add, List.range, List.range.loop]
  co_apply opsX_cons_k rfl (by rfl)
  intro _ hR K hK
  replace hF := (GR.rely) hF hR
  clear hR
  skip
  go_simp
  try (unfold stored; go_simp)
  refine hK _ _ ⟨?_, ?_⟩
  · (rw [listed_nil (by simp [go_sem, *])]; exact d0_of (by simp))
  clear hK K
  try walk_nrm
  co_apply opsX_nil
  try simp only [ThenX]
  try co_then
  co_apply wpX_seq
  co_apply wpX_region
  simp only [List.size_toArray, List.length_cons, List.length_nil, Nat.reduceAdd, Nat.zero_add, List.range, List.range.loop]
  co_apply opsX_cons_k rfl (by rfl)
  intro _ hR K hK
  replace hF := (GR.rely) hF hR
  clear hR
  skip
  go_simp
  try (unfold stored; go_simp)
  refine hK _ _ ⟨?_, ?_⟩
  · (rw [listed_nil (by simp [go_sem, *])]; exact d0_of (by simp))
  clear hK K
  try walk_nrm
  co_apply opsX_call rfl (by rfl) rfl
  · walk_nrm
    exact callsX_of (Post := fun s' v w' => s' = (2, []) ∧ v = .int .i64 (at_ : Int) ∧ World.grownBy _ w' none) (CallsC.mono (g7 c 64 hc (by omega) _) fun v w h => ⟨rfl, by rw [← hpk]; exact h.1, h.2⟩)
  intro s' v w' hv
  obtain ⟨rfl, rfl, hg⟩ := hv
  replace hF := hF.grown hg
  clear hg
  walk_nrm
  co_apply opsX_cons_k rfl (by rfl)
  intro _ hR K hK
  replace hF := (GR.rely) hF hR
  clear hR
  skip
  go_simp
  try (unfold stored; go_simp)
  refine hK _ _ ⟨?_, ?_⟩
  · (rw [listed_nil (by simp [go_sem, *])]; exact d0_of (by simp))
  clear hK K
  try walk_nrm
  co_apply opsX_nil
  try simp only [ThenX]
  try co_then
  co_apply wpX_seq
  co_apply wpX_region
  simp only [List.size_toArray, List.length_cons, List.length_nil, Nat.reduceAdd, Nat.zero_add, List.range, List.range.loop]
  co_apply opsX_cons_k rfl (by rfl)
  intro _ hR K hK
  replace hF := (GR.rely) hF hR
  clear hR
  skip
  go_simp
  try (unfold stored; go_simp)
  refine hK _ _ ⟨?_, ?_⟩
  · (rw [listed_nil (by simp [go_sem, *])]; exact d0_of (by simp))
  clear hK K
  try walk_nrm
  co_apply opsX_cons_k rfl (by rfl)
  intro _ hR K hK
  replace hF := (GR.rely) hF hR
  clear hR
  skip
  go_simp
  try (unfold stored; go_simp)
  refine hK _ _ ⟨?_, ?_⟩
  · (rw [listed_nil (by simp [go_sem, *])]; exact d0_of (by simp))
  clear hK K
  try walk_nrm
  co_apply opsX_call rfl (by rfl) rfl
  · walk_nrm
    exact callsX_of (Post := fun s' v w' => s' = (2, []) ∧ v = .string ⟨(ims A B at_ 0).toArray⟩ ∧ World.grownBy _ w' none) (CallsC.mono (g8 1 1 A (by omega) (by omega) hA _) fun v w h => ⟨rfl, h⟩)
  intro s' v w' hv
  obtain ⟨rfl, rfl, hg⟩ := hv
  replace hF := hF.grown hg
  clear hg
  walk_nrm
  co_apply opsX_cons_k rfl (by rfl)
  intro _ hR K hK
  replace hF := (GR.rely) hF hR
  clear hR
  skip
  go_simp
  try (unfold stored; go_simp)
  refine hK _ _ ⟨?_, ?_⟩
  · (rw [listed_nil (by simp [go_sem, *])]; exact d0_of (by simp))
  clear hK K
  try walk_nrm
  co_apply opsX_cons_k rfl (by rfl)
  intro _ hR K hK
  replace hF := (GR.rely) hF hR
  clear hR
  skip
  go_simp
  try (unfold stored; go_simp)
  refine hK _ _ ⟨?_, ?_⟩
  · (rw [listed_nil (by simp [go_sem, *])]; exact d0_of (by simp))
  clear hK K
  try walk_nrm
  co_apply opsX_call rfl (by rfl) rfl
  · walk_nrm
    exact callsX_of (Post := fun s' v w' => s' = (2, []) ∧ v = .string ⟨(ibs B at_ 0).toArray⟩ ∧ World.grownBy _ w' none) (CallsC.mono (g8 1 2 B (by omega) (by omega) hB _) fun v w h => ⟨rfl, h⟩)
  intro s' v w' hv
  obtain ⟨rfl, rfl, hg⟩ := hv
  replace hF := hF.grown hg
  clear hg
  walk_nrm
  have sa := sadd A B at_ 0 (by omega)
  co_apply opsX_cons_k rfl (by rfl)
  intro _ hR K hK
  replace hF := (GR.rely) hF hR
  clear hR
  skip
  go_simp
  try (unfold stored; go_simp)
  refine hK _ _ ⟨?_, ?_⟩
  · (rw [listed_nil (by simp [go_sem, *])]; exact d0_of (by simp))
  clear hK K
  try walk_nrm
  clear sa
  co_apply opsX_call rfl (by rfl) rfl
  · walk_nrm
    exact callsX_of (Post := fun s' v w' => s' = (2, []) ∧ v = .string ⟨(ibs B at_ 1).toArray⟩ ∧ World.grownBy _ w' none) (CallsC.mono (g8 2 3 1 (by omega) (by omega) (by omega) _) fun v w h => ⟨rfl, h⟩)
  intro s' v w' hv
  obtain ⟨rfl, rfl, hg⟩ := hv
  replace hF := hF.grown hg
  clear hg
  walk_nrm
  have sa := sadd A B at_ 1 (by omega)
  co_apply opsX_cons_k rfl (by rfl)
  intro _ hR K hK
  replace hF := (GR.rely) hF hR
  clear hR
  skip
  go_simp
  try (unfold stored; go_simp)
  refine hK _ _ ⟨?_, ?_⟩
  · (rw [listed_nil (by simp [go_sem, *])]; exact d0_of (by simp))
  clear hK K
  try walk_nrm
  clear sa
  co_apply opsX_call rfl (by rfl) rfl
  · walk_nrm
    exact callsX_of (Post := fun s' v w' => s' = (2, []) ∧ v = .string ⟨(ibs B at_ 2).toArray⟩ ∧ World.grownBy _ w' none) (CallsC.mono (g8 3 3 2 (by omega) (by omega) (by omega) _) fun v w h => ⟨rfl, h⟩)
  intro s' v w' hv
  obtain ⟨rfl, rfl, hg⟩ := hv
  replace hF := hF.grown hg
  clear hg
  walk_nrm
  have sa := sadd A B at_ 2 (by omega)
  co_apply opsX_cons_k rfl (by rfl)
  intro _ hR K hK
  replace hF := (GR.rely) hF hR
  clear hR
  skip
  go_simp
  try (unfold stored; go_simp)
  refine hK _ _ ⟨?_, ?_⟩
  · (rw [listed_nil (by simp [go_sem, *])]; exact d0_of (by simp))
  clear hK K
  try walk_nrm
  clear sa
  co_apply opsX_call rfl (by rfl) rfl
  · walk_nrm
    exact callsX_of (Post := fun s' v w' => s' = (2, []) ∧ v = .string ⟨(ibs B at_ 3).toArray⟩ ∧ World.grownBy _ w' none) (CallsC.mono (g8 2 4 1 (by omega) (by omega) (by omega) _) fun v w h => ⟨rfl, h⟩)
  intro s' v w' hv
  obtain ⟨rfl, rfl, hg⟩ := hv
  replace hF := hF.grown hg
  clear hg
  walk_nrm
  have sa := sadd A B at_ 3 (by omega)
  co_apply opsX_cons_k rfl (by rfl)
  intro _ hR K hK
  replace hF := (GR.rely) hF hR
  clear hR
  skip
  go_simp
  try (unfold stored; go_simp)
  refine hK _ _ ⟨?_, ?_⟩
  · (rw [listed_nil (by simp [go_sem, *])]; exact d0_of (by simp))
  clear hK K
  try walk_nrm
  clear sa
  co_apply opsX_call rfl (by rfl) rfl
  · walk_nrm
    exact callsX_of (Post := fun s' v w' => s' = (2, []) ∧ v = .string ⟨(ibs B at_ 4).toArray⟩ ∧ World.grownBy _ w' none) (CallsC.mono (g8 4 4 2 (by omega) (by omega) (by omega) _) fun v w h => ⟨rfl, h⟩)
  intro s' v w' hv
  obtain ⟨rfl, rfl, hg⟩ := hv
  replace hF := hF.grown hg
  clear hg
  walk_nrm
  have sa := sadd A B at_ 4 (by omega)
  co_apply opsX_cons_k rfl (by rfl)
  intro _ hR K hK
  replace hF := (GR.rely) hF hR
  clear hR
  skip
  go_simp
  try (unfold stored; go_simp)
  refine hK _ _ ⟨?_, ?_⟩
  · (rw [listed_nil (by simp [go_sem, *])]; exact d0_of (by simp))
  clear hK K
  try walk_nrm
  clear sa
  co_apply opsX_cons_k rfl (by rfl)
  intro _ hR K hK
  replace hF := (GR.rely) hF hR
  clear hR
  skip
  go_simp
  try (unfold stored; go_simp)
  refine hK _ _ ⟨?_, ?_⟩
  · (rw [listed_nil (by simp [go_sem, *])]; exact d0_of (by simp))
  clear hK K
  try walk_nrm
  co_apply opsX_call rfl (by rfl) rfl
  · walk_nrm
    exact callsX_of (Post := fun s' v w' => s' = (2, []) ∧ v = .string ⟨(ibs B at_ 5).toArray⟩ ∧ World.grownBy _ w' none) (CallsC.mono (g8 1 5 at_ (by omega) (by omega) (by omega) _) fun v w h => ⟨rfl, h⟩)
  intro s' v w' hv
  obtain ⟨rfl, rfl, hg⟩ := hv
  replace hF := hF.grown hg
  clear hg
  walk_nrm
  have sa := sadd A B at_ 5 (by omega)
  co_apply opsX_cons_k rfl (by rfl)
  intro _ hR K hK
  replace hF := (GR.rely) hF hR
  clear hR
  skip
  go_simp
  try (unfold stored; go_simp)
  refine hK _ _ ⟨?_, ?_⟩
  · (rw [listed_nil (by simp [go_sem, *])]; exact d0_of (by simp))
  clear hK K
  try walk_nrm
  clear sa
  co_apply opsX_call rfl (by rfl) rfl
  · walk_nrm
    exact callsX_of (Post := fun s' v w' => s' = (2, []) ∧ v = .string ⟨(ibs B at_ 6).toArray⟩ ∧ World.grownBy _ w' none) (CallsC.mono (g8 8 1 5 (by omega) (by omega) (by omega) _) fun v w h => ⟨rfl, h⟩)
  intro s' v w' hv
  obtain ⟨rfl, rfl, hg⟩ := hv
  replace hF := hF.grown hg
  clear hg
  walk_nrm
  have sa := sadd A B at_ 6 (by omega)
  co_apply opsX_cons_k rfl (by rfl)
  intro _ hR K hK
  replace hF := (GR.rely) hF hR
  clear hR
  skip
  go_simp
  try (unfold stored; go_simp)
  refine hK _ _ ⟨?_, ?_⟩
  · (rw [listed_nil (by simp [go_sem, *])]; exact d0_of (by simp))
  clear hK K
  try walk_nrm
  clear sa
  co_apply opsX_call rfl (by rfl) rfl
  · walk_nrm
    exact callsX_of (Post := fun s' v w' => s' = (2, []) ∧ v = .string ⟨(ibs B at_ 7).toArray⟩ ∧ World.grownBy _ w' none) (CallsC.mono (g8 7 6 5 (by omega) (by omega) (by omega) _) fun v w h => ⟨rfl, h⟩)
  intro s' v w' hv
  obtain ⟨rfl, rfl, hg⟩ := hv
  replace hF := hF.grown hg
  clear hg
  walk_nrm
  have sa := sadd A B at_ 7 (by omega)
  co_apply opsX_cons_k rfl (by rfl)
  intro _ hR K hK
  replace hF := (GR.rely) hF hR
  clear hR
  skip
  go_simp
  try (unfold stored; go_simp)
  refine hK _ _ ⟨?_, ?_⟩
  · (rw [listed_nil (by simp [go_sem, *])]; exact d0_of (by simp))
  clear hK K
  try walk_nrm
  clear sa
  co_apply opsX_call rfl (by rfl) rfl
  · walk_nrm
    exact callsX_of (Post := fun s' v w' => s' = (2, []) ∧ v = .string ⟨(ibs B at_ 8).toArray⟩ ∧ World.grownBy _ w' none) (CallsC.mono (g8 1 5 64 (by omega) (by omega) (by omega) _) fun v w h => ⟨rfl, h⟩)
  intro s' v w' hv
  obtain ⟨rfl, rfl, hg⟩ := hv
  replace hF := hF.grown hg
  clear hg
  walk_nrm
  have sa := sadd A B at_ 8 (by omega)
  co_apply opsX_cons_k rfl (by rfl)
  intro _ hR K hK
  replace hF := (GR.rely) hF hR
  clear hR
  skip
  go_simp
  try (unfold stored; go_simp)
  refine hK _ _ ⟨?_, ?_⟩
  · (rw [listed_nil (by simp [go_sem, *])]; exact d0_of (by simp))
  clear hK K
  try walk_nrm
  clear sa
  co_apply opsX_call rfl (by rfl) rfl
  · walk_nrm
    exact callsX_of (Post := fun s' v w' => s' = (2, []) ∧ v = .string ⟨(ibs B at_ 9).toArray⟩ ∧ World.grownBy _ w' none) (CallsC.mono (g8 7 7 5 (by omega) (by omega) (by omega) _) fun v w h => ⟨rfl, h⟩)
  intro s' v w' hv
  obtain ⟨rfl, rfl, hg⟩ := hv
  replace hF := hF.grown hg
  clear hg
  walk_nrm
  have sa := sadd A B at_ 9 (by omega)
  co_apply opsX_cons_k rfl (by rfl)
  intro _ hR K hK
  replace hF := (GR.rely) hF hR
  clear hR
  skip
  go_simp
  try (unfold stored; go_simp)
  refine hK _ _ ⟨?_, ?_⟩
  · (rw [listed_nil (by simp [go_sem, *])]; exact d0_of (by simp))
  clear hK K
  try walk_nrm
  clear sa
  co_apply opsX_cons_k rfl (by rfl)
  intro _ hR K hK
  replace hF := (GR.rely) hF hR
  clear hR
  skip
  go_simp
  try (unfold stored; go_simp)
  refine hK _ _ ⟨?_, ?_⟩
  · (rw [listed_nil (by simp [go_sem, *])]; exact d0_of (by simp))
  clear hK K
  try walk_nrm
  co_apply opsX_nil
  try simp only [ThenX]
  try co_then
  clear ev
  co_apply wpX_seq
  co_apply wpX_region
  simp only [List.size_toArray, List.length_cons, List.length_nil, Nat.reduceAdd, Nat.zero_add, List.range, List.range.loop]
  co_apply opsX_callM rfl (by rfl) rfl
  · walk_nrm
    exact g10 _
  intro v w' hv
  obtain ⟨rfl, hg⟩ := hv
  replace hF := hF.grown hg
  clear hg
  walk_nrm
  co_apply opsX_cons_k rfl (by rfl)
  intro _ hR K hK
  replace hF := (GR.rely) hF hR
  clear hR
  skip
  go_simp
  try (unfold stored; go_simp)
  refine hK _ _ ⟨?_, ?_⟩
  · (rw [listed_nil (by simp [go_sem, *])]; exact d0_of (by simp))
  clear hK K
  try walk_nrm
  co_apply opsX_call rfl (by rfl) rfl
  · walk_nrm
    exact g9 2 (ims A B at_ 10) (ims_len A B at_ 10) _
  intro s' v w' hv
  obtain ⟨rfl, K, rfl, hM⟩ := hv
  rw [nums_ims hA hB hat] at hM
  replace hM := hM.down hF.g
  clear hF
  obtain ⟨a, rfl, hgn, hgc, hO, hW, hF⟩ := made_mem hM
  clear hM
  walk_nrm
  co_apply opsX_cons_k rfl (by rfl)
  intro _ hR K hK
  replace hF := (Mem.rely) hF hR
  clear hR
  skip
  go_simp
  try (unfold stored; go_simp)
  refine hK _ _ ⟨?_, ?_⟩
  · (rw [listed_nil (by simp [go_sem, *])]; exact d0_of (by simp))
  clear hK K
  try walk_nrm
  co_apply opsX_nil
  try simp only [ThenX]
  try co_then
  have e1 := fun (w : World) (es : Array Event) => ev_eql_ptr_nil (P := Tryd.prog) (w := w) (es := es) (some ⟨a.K, 0, none⟩) Tryd.underlying25
  co_apply wpX_seq
  co_apply wpX_seq
  co_apply wpX_region
  simp only [List.size_toArray, List.length_cons, List.length_nil, Nat.reduceAdd, Nat.zero_add, List.range, List.range.loop]
  co_apply opsX_cons_k rfl (by rfl)
  intro _ hR K hK
  replace hF := (Mem.rely) hF hR
  clear hR
  skip
  go_simp
  try (unfold stored; go_simp)
  refine hK _ _ ⟨?_, ?_⟩
  · (rw [listed_nil (by simp [go_sem, *])]; exact d0_of (by simp))
  clear hK K
  try walk_nrm
  co_apply opsX_cons_k rfl (by rfl)
  intro _ hR K hK
  replace hF := (Mem.rely) hF hR
  clear hR
  skip
  go_simp
  try (unfold stored; go_simp)
  refine hK _ _ ⟨?_, ?_⟩
  · (rw [listed_nil (by simp [go_sem, *])]; exact d0_of (by simp))
  clear hK K
  try walk_nrm
  co_apply opsX_nil
  try simp only [ThenX]
  try co_then
  co_apply wpX_cond (t := false)
  focus (exact rfl)
  simp only [if_true, if_false, Bool.false_eq_true, reduceIte]
  co_apply wpX_of
  co_apply wpC_skip (terms0 NoSh)
  try simp only [ThenX]
  try co_then
  clear e1
  co_apply wpX_seq
  co_apply wpX_region
  simp only [List.size_toArray, List.length_cons, List.length_nil, Nat.reduceAdd, Nat.zero_add, List.range, List.range.loop]
  co_apply opsX_cons_k rfl (by rfl)
  intro wr hR K hK
  replace hF := (Mem.rely) hF hR
  clear hR
  skip
  go_simp
  try (unfold stored; go_simp)
  refine hK _ _ ⟨?_, ?_⟩
  · (rw [listed_nil (by simp [go_sem, *])]; exact d0_of (by simp))
  clear hK K
  try walk_nrm
  co_apply opsX_call rfl (by rfl) rfl
  · walk_nrm
    exact g11 1 [] a (sx A B at_ 0) (RestS (pR wr.heap.size) (inRun a wr.heap.size 10) true (sx A B at_ 10)) 10 (by omega) words10 (by decide) true (fun _ => by simp [sx, lvOf]) wr (elder0 _) hF (fun PostB Aft n => pass1 n hgn A B at_ hA hB hat hgc)
  intro s' v w' hv
  obtain ⟨rfl, told, rfl, ⟨kc, pc, Q, qc, hm, cap, hS⟩, ht, hs⟩ := hv
  have ht : World.ownsRow _ (wr.heap.size + 7) 44 4 told 10 (words10.flatMap Wd.c) := ht
  obtain ⟨gt, tcap, tc, rfl, hgt, htc, hti⟩ := row_has ht (by omega)
  replace hF : Held (Shs [wr.heap.size]) a kc pc Q qc (wr.heap.size + 7) [(gt, 44, tc)] _ := ⟨hm, hs, by intro t h; simp at h; subst h; exact htc⟩
  clear hm ht hs htc
  have hE : Elder (Shs [wr.heap.size]) (wr.heap.size + 7) := elder1 (elder0 0) (by omega)
  obtain ⟨r0, r1, r2, hks⟩ := hS.ks
  walk_nrm
  co_apply opsX_cons_k rfl (by rfl)
  intro _ hR K hK
  replace hF := (Held.rely) hF hR
  clear hR
  skip
  go_simp
  try (unfold stored; go_simp)
  refine hK _ _ ⟨?_, ?_⟩
  · (rw [listed_nil (by simp [go_sem, *])]; exact d0_of (by simp))
  clear hK K
  try walk_nrm
  co_apply opsX_cons_k rfl (by rfl)
  intro _ hR K hK
  replace hF := (Held.rely) hF hR
  clear hR
  skip
  go_simp
  try (unfold stored; go_simp)
  refine hK _ _ ⟨?_, ?_⟩
  · (rw [listed_nil (by simp [go_sem, *])]; exact d0_of (by simp))
  clear hK K
  try walk_nrm
  co_apply opsX_cons_k rfl (by rfl)
  intro _ hR K hK
  replace hF := (Held.rely) hF hR
  clear hR
  skip
  go_simp
  try (unfold stored; go_simp)
  refine hK _ _ ⟨?_, ?_⟩
  · (rw [listed_nil (by simp [go_sem, *])]; exact d0_of (by simp))
  clear hK K
  try walk_nrm
  co_apply opsX_cons_k rfl (by rfl)
  intro _ hR K hK
  replace hF := (Held.rely) hF hR
  clear hR
  skip
  go_simp
  try (unfold stored; go_simp)
  refine hK _ _ ⟨?_, ?_⟩
  · (rw [listed_nil (by simp [go_sem, *])]; exact d0_of (by simp))
  clear hK K
  try walk_nrm
  co_apply opsX_cons_k rfl (by rfl)
  intro _ hR K hK
  replace hF := (Held.rely) hF hR
  clear hR
  skip
  go_simp
  try (unfold stored; go_simp)
  refine hK _ _ ⟨?_, ?_⟩
  · (rw [listed_nil (by simp [go_sem, *])]; exact d0_of (by simp))
  clear hK K
  try walk_nrm
  co_apply opsX_nil
  try simp only [ThenX]
  try co_then
  co_apply wpX_seq
  co_apply wpX_region
  simp only [List.size_toArray, List.length_cons, List.length_nil, Nat.reduceAdd, Nat.zero_add, List.range, List.range.loop]
  co_apply opsX_cons_k rfl (by rfl)
  intro _ hR K hK
  replace hF := (Held.rely) hF hR
  clear hR
  skip
  go_simp
  try (unfold stored; go_simp)
  refine hK _ _ ⟨?_, ?_⟩
  · (rw [listed_nil (by simp [go_sem, *])]; exact d0_of (by simp))
  clear hK K
  try walk_nrm
  co_apply opsX_call rfl (by rfl) rfl
  · walk_nrm
    exact callsX_of (Post := fun s' v w' => s' = (1, [wr.heap.size]) ∧ World.grownBy _ w' none ∧ w'.ownsRow _ 42 15 v 1 _) (CallsC.mono (g12 (Shs [wr.heap.size]) a kc pc hF.m.sK hF.m.sP hF.m.sR hks.ps hF.m.re _ _ _ _ _ _ _ hS.ps _ (hE.mono hF.s) hF.ps) fun v w h => ⟨rfl, h⟩)
  intro s' v w' hv
  obtain ⟨rfl, hg, ho⟩ := hv
  obtain ⟨gp, pcap, prc, rfl, hgp, hprc, hpi⟩ := row_has ho (by omega)
  replace hgp := Nat.le_trans hF.s hgp
  replace hF := (hF.grown hg).more (t := (gp, 42, prc)) hprc
  clear hg ho hprc
  walk_nrm
  co_apply opsX_cons_k rfl (by rfl)
  intro _ hR K hK
  replace hF := (Held.rely) hF hR
  clear hR
  skip
  go_simp
  try (unfold stored; go_simp)
  refine hK _ _ ⟨?_, ?_⟩
  · (rw [listed_nil (by simp [go_sem, *])]; exact d0_of (by simp))
  clear hK K
  try walk_nrm
  co_apply opsX_nil
  try simp only [ThenX]
  try co_then
  co_apply wpX_seq
  co_apply wpX_region
  simp only [List.size_toArray, List.length_cons, List.length_nil, Nat.reduceAdd, Nat.zero_add, List.range, List.range.loop]
  co_apply opsX_cons_k rfl (by rfl)
  intro _ hR K hK
  replace hF := (Held.rely) hF hR
  clear hR
  skip
  go_simp
  try (unfold stored; go_simp)
  refine hK _ _ ⟨?_, ?_⟩
  · (rw [listed_nil (by simp [go_sem, *])]; exact d0_of (by simp))
  clear hK K
  try walk_nrm
  co_apply opsX_call rfl (by rfl) rfl
  · walk_nrm
    exact callsX_of (Post := fun s' v w' => s' = (1, [wr.heap.size]) ∧ World.grownBy _ w' none ∧ ∃ b, v = .tuple #[b, .int .i64 0] ∧ w'.ownsRow _ 5 1 b 64 (mcells (mm A at_ 10))) (CallsC.mono (g13 [wr.heap.size] a kc pc hF.m.sK hF.m.sP hF.m.sR hks.ps hF.m.re hS.ps.id _ hS.ps.mem _ (hE.mono hF.s) hF.ps) fun v w h => ⟨rfl, h⟩)
  intro s' v w' hv
  obtain ⟨rfl, hg, b, rfl, ho⟩ := hv
  obtain ⟨gm, mcap, mc, rfl, hgm, hmc, hmi⟩ := row_has ho (by omega)
  replace hgm := Nat.le_trans hF.s hgm
  replace hF := (hF.grown hg).more (t := (gm, 5, mc)) hmc
  clear hg ho hmc
  walk_nrm
  co_apply opsX_cons_k rfl (by rfl)
  intro _ hR K hK
  replace hF := (Held.rely) hF hR
  clear hR
  skip
  go_simp
  try (unfold stored; go_simp)
  refine hK _ _ ⟨?_, ?_⟩
  · (rw [listed_nil (by simp [go_sem, *])]; exact d0_of (by simp))
  clear hK K
  try walk_nrm
  co_apply opsX_cons_k rfl (by rfl)
  intro _ hR K hK
  replace hF := (Held.rely) hF hR
  clear hR
  skip
  go_simp
  try (unfold stored; go_simp)
  refine hK _ _ ⟨?_, ?_⟩
  · (rw [listed_nil (by simp [go_sem, *])]; exact d0_of (by simp))
  clear hK K
  try walk_nrm
  co_apply opsX_cons_k rfl (by rfl)
  intro _ hR K hK
  replace hF := (Held.rely) hF hR
  clear hR
  skip
  go_simp
  try (unfold stored; go_simp)
  refine hK _ _ ⟨?_, ?_⟩
  · (rw [listed_nil (by simp [go_sem, *])]; exact d0_of (by simp))
  clear hK K
  try walk_nrm
  co_apply opsX_cons_k rfl (by rfl)
  intro _ hR K hK
  replace hF := (Held.rely) hF hR
  clear hR
  skip
  go_simp
  try (unfold stored; go_simp)
  refine hK _ _ ⟨?_, ?_⟩
  · (rw [listed_nil (by simp [go_sem, *])]; exact d0_of (by simp))
  clear hK K
  try walk_nrm
  co_apply opsX_cons_k rfl (by rfl)
  intro _ hR K hK
  replace hF := (Held.rely) hF hR
  clear hR
  skip
  go_simp
  try (unfold stored; go_simp)
  refine hK _ _ ⟨?_, ?_⟩
  · (rw [listed_nil (by simp [go_sem, *])]; exact d0_of (by simp))
  clear hK K
  try walk_nrm
  co_apply opsX_nil
  try simp only [ThenX]
  try co_then
  co_apply wpX_seq
  co_apply wpX_seq
  co_apply wpX_region
  simp only [List.size_toArray, List.length_cons, List.length_nil, Nat.reduceAdd, Nat.zero_add, List.range, List.range.loop]
  co_apply opsX_cons_k rfl (by rfl)
  intro _ hR K hK
  replace hF := (Held.rely) hF hR
  clear hR
  skip
  go_simp
  try (unfold stored; go_simp)
  refine hK _ _ ⟨?_, ?_⟩
  · (rw [listed_nil (by simp [go_sem, *])]; exact d0_of (by simp))
  clear hK K
  try walk_nrm
  co_apply opsX_cons_k rfl (by rfl)
  intro _ hR K hK
  replace hF := (Held.rely) hF hR
  clear hR
  skip
  go_simp
  try (unfold stored; go_simp)
  refine hK _ _ ⟨?_, ?_⟩
  · (rw [listed_nil (by simp [go_sem, *])]; exact d0_of (by simp))
  clear hK K
  try walk_nrm
  co_apply opsX_cons_k rfl (by rfl)
  intro _ hR K hK
  replace hF := (Held.rely) hF hR
  clear hR
  skip
  go_simp
  try (unfold stored; go_simp)
  refine hK _ _ ⟨?_, ?_⟩
  · (rw [listed_nil (by simp [go_sem, *])]; exact d0_of (by simp))
  clear hK K
  try walk_nrm
  co_apply opsX_cons_k rfl (by rfl)
  intro _ hR K hK
  replace hF := (Held.rely) hF hR
  clear hR
  skip
  go_simp
  try (unfold stored; go_simp)
  refine hK _ _ ⟨?_, ?_⟩
  · (rw [listed_nil (by simp [go_sem, *])]; exact d0_of (by simp))
  clear hK K
  try walk_nrm
  co_apply opsX_cons_k rfl (by rfl)
  intro _ hR K hK
  replace hF := (Held.rely) hF hR
  clear hR
  skip
  go_simp
  try (unfold stored; go_simp)
  refine hK _ _ ⟨?_, ?_⟩
  · (rw [listed_nil (by simp [go_sem, *])]; exact d0_of (by simp))
  clear hK K
  try walk_nrm
  co_apply opsX_cons_k rfl (by rfl)
  intro _ hR K hK
  replace hF := (Held.rely) hF hR
  clear hR
  skip
  go_simp
  try (unfold stored; go_simp)
  refine hK _ _ ⟨?_, ?_⟩
  · (rw [listed_nil (by simp [go_sem, *])]; exact d0_of (by simp))
  clear hK K
  try walk_nrm
  co_apply opsX_cons_k rfl (by rfl)
  intro _ hR K hK
  replace hF := (Held.rely) hF hR
  clear hR
  skip
  go_simp
  try (unfold stored; go_simp)
  refine hK _ _ ⟨?_, ?_⟩
  · (rw [listed_nil (by simp [go_sem, *])]; exact d0_of (by simp))
  clear hK K
  try walk_nrm
  co_apply opsX_cons_k rfl (by rfl)
  intro _ hR K hK
  replace hF := (Held.rely) hF hR
  clear hR
  skip
  go_simp
  try (unfold stored; go_simp)
  refine hK _ _ ⟨?_, ?_⟩
  · (rw [listed_nil (by simp [go_sem, *])]; exact d0_of (by simp))
  clear hK K
  try walk_nrm
  co_apply opsX_cons_k rfl (by rfl)
  intro _ hR K hK
  replace hF := (Held.rely) hF hR
  clear hR
  skip
  go_simp
  try (unfold stored; go_simp)
  refine hK _ _ ⟨?_, ?_⟩
  · (rw [listed_nil (by simp [go_sem, *])]; exact d0_of (by simp))
  clear hK K
  try walk_nrm
  co_apply opsX_cons_k rfl (by rfl)
  intro _ hR K hK
  replace hF := (Held.rely) hF hR
  clear hR
  skip
  go_simp
  try (unfold stored; go_simp)
  refine hK _ _ ⟨?_, ?_⟩
  · (rw [listed_nil (by simp [go_sem, *])]; exact d0_of (by simp))
  clear hK K
  try walk_nrm
  co_apply opsX_cons_k rfl (by rfl)
  intro _ hR K hK
  replace hF := (Held.rely) hF hR
  clear hR
  skip
  go_simp
  try (unfold stored; go_simp)
  refine hK _ _ ⟨?_, ?_⟩
  · (rw [listed_nil (by simp [go_sem, *])]; exact d0_of (by simp))
  clear hK K
  try walk_nrm
  co_apply opsX_cons_k rfl (by rfl)
  intro _ hR K hK
  replace hF := (Held.rely) hF hR
  clear hR
  skip
  go_simp
  try (unfold stored; go_simp)
  refine hK _ _ ⟨?_, ?_⟩
  · (rw [listed_nil (by simp [go_sem, *])]; exact d0_of (by simp))
  clear hK K
  try walk_nrm
  co_apply opsX_cons_k rfl (by rfl)
  intro _ hR K hK
  replace hF := (Held.rely) hF hR
  clear hR
  skip
  go_simp
  try (unfold stored; go_simp)
  refine hK _ _ ⟨?_, ?_⟩
  · (rw [listed_nil (by simp [go_sem, *])]; exact d0_of (by simp))
  clear hK K
  try walk_nrm
  co_apply opsX_cons_k rfl (by rfl)
  intro _ hR K hK
  replace hF := (Held.rely) hF hR
  clear hR
  skip
  go_simp
  try (unfold stored; go_simp)
  refine hK _ _ ⟨?_, ?_⟩
  · (rw [listed_nil (by simp [go_sem, *])]; exact d0_of (by simp))
  clear hK K
  try walk_nrm
  co_apply opsX_cons_k rfl (by rfl)
  intro _ hR K hK
  replace hF := (Held.rely) hF hR
  clear hR
  skip
  go_simp
  try (unfold stored; go_simp)
  refine hK _ _ ⟨?_, ?_⟩
  · (rw [listed_nil (by simp [go_sem, *])]; exact d0_of (by simp))
  clear hK K
  try walk_nrm
  co_apply opsX_cons_k rfl (by rfl)
  intro _ hR K hK
  replace hF := (Held.rely) hF hR
  clear hR
  skip
  go_simp
  try (unfold stored; go_simp)
  refine hK _ _ ⟨?_, ?_⟩
  · (rw [listed_nil (by simp [go_sem, *])]; exact d0_of (by simp))
  clear hK K
  try walk_nrm
  co_apply opsX_cons_k rfl (by rfl)
  intro _ hR K hK
  replace hF := (Held.rely) hF hR
  clear hR
  skip
  go_simp
  try (unfold stored; go_simp)
  refine hK _ _ ⟨?_, ?_⟩
  · (rw [listed_nil (by simp [go_sem, *])]; exact d0_of (by simp))
  clear hK K
  try walk_nrm
  co_apply opsX_cons_k rfl (by rfl)
  intro _ hR K hK
  replace hF := (Held.rely) hF hR
  clear hR
  skip
  go_simp
  try (unfold stored; go_simp)
  refine hK _ _ ⟨?_, ?_⟩
  · (rw [listed_nil (by simp [go_sem, *])]; exact d0_of (by simp))
  clear hK K
  try walk_nrm
  co_apply opsX_cons_k rfl (by rfl)
  intro _ hR K hK
  replace hF := (Held.rely) hF hR
  clear hR
  skip
  go_simp
  try (unfold stored; go_simp)
  refine hK _ _ ⟨?_, ?_⟩
  · (rw [listed_nil (by simp [go_sem, *])]; exact d0_of (by simp))
  clear hK K
  try walk_nrm
  co_apply opsX_cons_k rfl (by rfl)
  intro _ hR K hK
  replace hF := (Held.rely) hF hR
  clear hR
  skip
  go_simp
  try (unfold stored; go_simp)
  refine hK _ _ ⟨?_, ?_⟩
  · (rw [listed_nil (by simp [go_sem, *])]; exact d0_of (by simp))
  clear hK K
  try walk_nrm
  co_apply opsX_cons_k rfl (by rfl)
  intro _ hR K hK
  replace hF := (Held.rely) hF hR
  clear hR
  skip
  go_simp
  try (unfold stored; go_simp)
  refine hK _ _ ⟨?_, ?_⟩
  · (rw [listed_nil (by simp [go_sem, *])]; exact d0_of (by simp))
  clear hK K
  try walk_nrm
  co_apply opsX_nil
  try simp only [ThenX]
  try co_then
  co_apply wpX_cond (t := false)
  focus (exact rfl)
  simp only [if_true, if_false, Bool.false_eq_true, reduceIte]
  co_apply wpX_of
  co_apply wpC_skip (terms0 (Shs [wr.heap.size]))
  try simp only [ThenX]
  try co_then
  have p4 : prc[4]? = some (.int .i64 10) := hpi 4 _ rfl
  have p7 : prc[7]? = some (.int .u16 0) := hpi 7 _ rfl
  have p8 : prc[8]? = some (.int .u16 A) := hpi 8 _ rfl
  have p9 : prc[9]? = some (.int .u16 B) := hpi 9 _ rfl
  have p10 : prc[10]? = some (.int .u16 ((A + B) % 65536)) := hpi 10 _ rfl
  have p11 : prc[11]? = some (.int .u16 ((A - B) % 65536)) := hpi 11 _ rfl
  have p12 : prc[12]? = some (.int .u16 64) := hpi 12 _ rfl
  have p13 : prc[13]? = some (.int .u16 (A % 256)) := hpi 13 _ rfl
  have p14 : prc[14]? = some (.int .u16 0) := hpi 14 _ rfl
  clear hpi
  co_apply wpX_seq
  co_apply wpX_region
  simp only [List.size_toArray, List.length_cons, List.length_nil, Nat.reduceAdd, Nat.zero_add, List.range, List.range.loop]
  co_apply opsX_cons_k rfl (by rfl)
  intro _ hR K hK
  replace hF := (Held.rely) hF hR
  clear hR
  skip
  go_simp
  try (unfold stored; go_simp)
  refine hK _ _ ⟨?_, ?_⟩
  · (rw [listed_nil (by simp [go_sem, *])]; exact d0_of (by simp))
  clear hK K
  try walk_nrm
  co_apply opsX_cons_k rfl (by rfl)
  intro _ hR K hK
  replace hF := (Held.rely) hF hR
  clear hR
  skip
  go_simp
  try (unfold stored; go_simp)
  refine hK _ _ ⟨?_, ?_⟩
  · (rw [listed_nil (by simp [go_sem, *])]; exact d0_of (by simp))
  clear hK K
  try walk_nrm
  co_apply opsX_cons_k rfl (by rfl)
  intro _ hR K hK
  replace hF := (Held.rely) hF hR
  clear hR
  skip
  go_simp
  try (unfold stored; go_simp)
  refine hK _ _ ⟨?_, ?_⟩
  · (rw [listed_nil (by simp [go_sem, *])]; exact d0_of (by simp))
  clear hK K
  try walk_nrm
  co_apply opsX_cons_k rfl (by rfl)
  intro _ hR K hK
  replace hF := (Held.rely) hF hR
  clear hR
  have hb := hF.b (gp, 42, prc) (by simp); have hc0 := hb.cell p7; have hc1 := hb.cell p8; have hc2 := hb.cell p9; have hc3 := hb.cell p10; have hc4 := hb.cell p11; have hc5 := hb.cell p12; have hc6 := hb.cell p13; have hc7 := hb.cell p14
  go_simp
  try (unfold stored; go_simp)
  refine hK _ _ ⟨?_, ?_⟩
  · (refine d0_of ?_; intro e he; have hm := mem_listed he; simp [go_sem, *] at hm; try (first | (subst hm; exact evP_cell _ _ (hE.not (by omega) _)) | (rcases hm with rfl | rfl | rfl | rfl | rfl | rfl | rfl | rfl <;> exact evP_cell _ _ (hE.not (by omega) _))))
  clear hK K
  try walk_nrm
  clear hb hc0 hc1 hc2 hc3 hc4 hc5 hc6 hc7
  co_apply opsX_cons_k rfl (by rfl)
  intro wz hR K hK
  replace hF := (Held.rely) hF hR
  clear hR
  skip
  go_simp
  try (unfold stored; go_simp)
  refine hK _ _ ⟨?_, ?_⟩
  · (rw [listed_nil (by simp [go_sem, *])]; exact d0_of (by simp))
  clear hK K
  try walk_nrm
  have hH := hF
  clear hF
  have hF := (GR.refl wz).alloc 40 #[.int .u16 0, .int .u16 0, .int .u16 0, .int .u16 0, .int .u16 0, .int .u16 0, .int .u16 0, .int .u16 0]
  co_apply opsX_cons_k rfl (by rfl)
  intro wy hR K hK
  replace hF := GR.rely hF hR
  clear hR
  obtain ⟨hr, hev⟩ := sv40 (cs' := #[.int .u16 0, .int .u16 A, .int .u16 B, .int .u16 ((A + B) % 65536), .int .u16 ((A - B) % 65536), .int .u16 64, .int .u16 (A % 256), .int .u16 0]) (hF.b _ (List.mem_cons_self)).1 rfl rfl (by simp [Value.oneCell'])
  refine uponK_st (.tmp 15) (.tmp 85) 40 rfl rfl rfl hr ?_
  refine hK _ _ ⟨?_, ?_⟩
  · refine d0_of ?_
    intro e he
    obtain ⟨ad, h1, h2⟩ := hev e (st_listed he (.tmp 15) (.tmp 85) 40 rfl rfl rfl)
    obtain ⟨l, wr', sy⟩ := e
    simp only at h1 h2
    subst h1
    have h5 := hH.s
    exact evP_cell _ _ (fun s => by obtain ⟨x, h3, h4⟩ := hE _ s; simp [blk] at h3; omega)
  clear hK K hr hev
  replace hF := GR.row hF #[.int .u16 0, .int .u16 A, .int .u16 B, .int .u16 ((A + B) % 65536), .int .u16 ((A - B) % 65536), .int .u16 64, .int .u16 (A % 256), .int .u16 0]
  have hnb : wr.heap.size + 7 ≤ wz.heap.size := hH.s
  replace hF := (hH.grown hF.g).more (hF.b _ (List.mem_cons_self)).1
  clear hH
  walk_nrm
  co_apply opsX_nil
  try simp only [ThenX]
  try co_then
  have qs : IntKind.u16.wrap (A + B) = (A + B) % 65536 := by simp [IntKind.wrap, IntKind.bits, IntKind.signed]
  have qd : IntKind.u16.wrap (A - B) = (A - B) % 65536 := by simp [IntKind.wrap, IntKind.bits, IntKind.signed]
  have q8 : IntKind.u8.wrap A = A % 256 := by simp [IntKind.wrap, IntKind.bits, IntKind.signed]
  have q5 := u16_and255 hA
  have at0 : (0 : Int) ≤ at_ := by omega
  have at1 : (at_ : Int) < 64 := by omega
  have pm : mc[at_]? = some (.int .u8 (A % 256)) := hmi at_ _ (by simp [mcells, hat, mm, put])
  have ex := ev_ix40
  co_apply wpX_seq
  co_apply wpX_seq
  co_apply wpX_region
  simp only [List.size_toArray, List.length_cons, List.length_nil, Nat.reduceAdd, Nat.zero_add, List.range, List.range.loop]
  co_apply opsX_cons_k rfl (by rfl)
  intro _ hR K hK
  replace hF := (Held.rely) hF hR
  clear hR
  skip
  go_simp
  try (unfold stored; go_simp)
  refine hK _ _ ⟨?_, ?_⟩
  · (rw [listed_nil (by simp [go_sem, *])]; exact d0_of (by simp))
  clear hK K
  try walk_nrm
  co_apply opsX_cons_k rfl (by rfl)
  intro _ hR K hK
  replace hF := (Held.rely) hF hR
  clear hR
  have hc := (hF.b _ (List.mem_cons_self)).cell (i := 3) rfl
  go_simp
  try (unfold stored; go_simp)
  refine hK _ _ ⟨?_, ?_⟩
  · (refine d0_of ?_; intro e he; have hm := mem_listed he; simp [go_sem, *] at hm; try (first | (subst hm; exact evP_cell _ _ (hE.not (by omega) _)) | (rcases hm with rfl | rfl | rfl | rfl | rfl | rfl | rfl | rfl <;> exact evP_cell _ _ (hE.not (by omega) _))))
  clear hK K
  try walk_nrm
  clear hc
  co_apply opsX_cons_k rfl (by rfl)
  intro _ hR K hK
  replace hF := (Held.rely) hF hR
  clear hR
  skip
  go_simp
  try (unfold stored; go_simp)
  refine hK _ _ ⟨?_, ?_⟩
  · (rw [listed_nil (by simp [go_sem, *])]; exact d0_of (by simp))
  clear hK K
  try walk_nrm
  co_apply opsX_cons_k rfl (by rfl)
  intro _ hR K hK
  replace hF := (Held.rely) hF hR
  clear hR
  skip
  go_simp
  try (unfold stored; go_simp)
  refine hK _ _ ⟨?_, ?_⟩
  · (rw [listed_nil (by simp [go_sem, *])]; exact d0_of (by simp))
  clear hK K
  try walk_nrm
  co_apply opsX_cons_k rfl (by rfl)
  intro _ hR K hK
  replace hF := (Held.rely) hF hR
  clear hR
  skip
  go_simp
  try (unfold stored; go_simp)
  refine hK _ _ ⟨?_, ?_⟩
  · (rw [listed_nil (by simp [go_sem, *])]; exact d0_of (by simp))
  clear hK K
  try walk_nrm
  co_apply opsX_cons_k rfl (by rfl)
  intro _ hR K hK
  replace hF := (Held.rely) hF hR
  clear hR
  skip
  go_simp
  try (unfold stored; go_simp)
  refine hK _ _ ⟨?_, ?_⟩
  · (rw [listed_nil (by simp [go_sem, *])]; exact d0_of (by simp))
  clear hK K
  try walk_nrm
  co_apply opsX_cons_k rfl (by rfl)
  intro _ hR K hK
  replace hF := (Held.rely) hF hR
  clear hR
  skip
  go_simp
  try (unfold stored; go_simp)
  refine hK _ _ ⟨?_, ?_⟩
  · (rw [listed_nil (by simp [go_sem, *])]; exact d0_of (by simp))
  clear hK K
  try walk_nrm
  co_apply opsX_cons_k rfl (by rfl)
  intro _ hR K hK
  replace hF := (Held.rely) hF hR
  clear hR
  skip
  go_simp
  try (unfold stored; go_simp)
  refine hK _ _ ⟨?_, ?_⟩
  · (rw [listed_nil (by simp [go_sem, *])]; exact d0_of (by simp))
  clear hK K
  try walk_nrm
  co_apply opsX_cons_k rfl (by rfl)
  intro _ hR K hK
  replace hF := (Held.rely) hF hR
  clear hR
  have hc := (hF.b _ (List.mem_cons_self)).cell (i := 4) rfl
  go_simp
  try (unfold stored; go_simp)
  refine hK _ _ ⟨?_, ?_⟩
  · (refine d0_of ?_; intro e he; have hm := mem_listed he; simp [go_sem, *] at hm; try (first | (subst hm; exact evP_cell _ _ (hE.not (by omega) _)) | (rcases hm with rfl | rfl | rfl | rfl | rfl | rfl | rfl | rfl <;> exact evP_cell _ _ (hE.not (by omega) _))))
  clear hK K
  try walk_nrm
  clear hc
  co_apply opsX_cons_k rfl (by rfl)
  intro _ hR K hK
  replace hF := (Held.rely) hF hR
  clear hR
  skip
  go_simp
  try (unfold stored; go_simp)
  refine hK _ _ ⟨?_, ?_⟩
  · (rw [listed_nil (by simp [go_sem, *])]; exact d0_of (by simp))
  clear hK K
  try walk_nrm
  co_apply opsX_cons_k rfl (by rfl)
  intro _ hR K hK
  replace hF := (Held.rely) hF hR
  clear hR
  skip
  go_simp
  try (unfold stored; go_simp)
  refine hK _ _ ⟨?_, ?_⟩
  · (rw [listed_nil (by simp [go_sem, *])]; exact d0_of (by simp))
  clear hK K
  try walk_nrm
  co_apply opsX_cons_k rfl (by rfl)
  intro _ hR K hK
  replace hF := (Held.rely) hF hR
  clear hR
  skip
  go_simp
  try (unfold stored; go_simp)
  refine hK _ _ ⟨?_, ?_⟩
  · (rw [listed_nil (by simp [go_sem, *])]; exact d0_of (by simp))
  clear hK K
  try walk_nrm
  co_apply opsX_cons_k rfl (by rfl)
  intro _ hR K hK
  replace hF := (Held.rely) hF hR
  clear hR
  skip
  go_simp
  try (unfold stored; go_simp)
  refine hK _ _ ⟨?_, ?_⟩
  · (rw [listed_nil (by simp [go_sem, *])]; exact d0_of (by simp))
  clear hK K
  try walk_nrm
  co_apply opsX_cons_k rfl (by rfl)
  intro _ hR K hK
  replace hF := (Held.rely) hF hR
  clear hR
  skip
  go_simp
  try (unfold stored; go_simp)
  refine hK _ _ ⟨?_, ?_⟩
  · (rw [listed_nil (by simp [go_sem, *])]; exact d0_of (by simp))
  clear hK K
  try walk_nrm
  co_apply opsX_cons_k rfl (by rfl)
  intro _ hR K hK
  replace hF := (Held.rely) hF hR
  clear hR
  skip
  go_simp
  try (unfold stored; go_simp)
  refine hK _ _ ⟨?_, ?_⟩
  · (rw [listed_nil (by simp [go_sem, *])]; exact d0_of (by simp))
  clear hK K
  try walk_nrm
  co_apply opsX_cons_k rfl (by rfl)
  intro _ hR K hK
  replace hF := (Held.rely) hF hR
  clear hR
  skip
  go_simp
  try (unfold stored; go_simp)
  refine hK _ _ ⟨?_, ?_⟩
  · (rw [listed_nil (by simp [go_sem, *])]; exact d0_of (by simp))
  clear hK K
  try walk_nrm
  co_apply opsX_cons_k rfl (by rfl)
  intro _ hR K hK
  replace hF := (Held.rely) hF hR
  clear hR
  have hc := (hF.b _ (List.mem_cons_self)).cell (i := 6) rfl
  go_simp
  try (unfold stored; go_simp)
  refine hK _ _ ⟨?_, ?_⟩
  · (refine d0_of ?_; intro e he; have hm := mem_listed he; simp [go_sem, *] at hm; try (first | (subst hm; exact evP_cell _ _ (hE.not (by omega) _)) | (rcases hm with rfl | rfl | rfl | rfl | rfl | rfl | rfl | rfl <;> exact evP_cell _ _ (hE.not (by omega) _))))
  clear hK K
  try walk_nrm
  clear hc
  co_apply opsX_cons_k rfl (by rfl)
  intro _ hR K hK
  replace hF := (Held.rely) hF hR
  clear hR
  skip
  go_simp
  try (unfold stored; go_simp)
  refine hK _ _ ⟨?_, ?_⟩
  · (rw [listed_nil (by simp [go_sem, *])]; exact d0_of (by simp))
  clear hK K
  try walk_nrm
  co_apply opsX_cons_k rfl (by rfl)
  intro _ hR K hK
  replace hF := (Held.rely) hF hR
  clear hR
  skip
  go_simp
  try (unfold stored; go_simp)
  refine hK _ _ ⟨?_, ?_⟩
  · (rw [listed_nil (by simp [go_sem, *])]; exact d0_of (by simp))
  clear hK K
  try walk_nrm
  co_apply opsX_cons_k rfl (by rfl)
  intro _ hR K hK
  replace hF := (Held.rely) hF hR
  clear hR
  skip
  go_simp
  try (unfold stored; go_simp)
  refine hK _ _ ⟨?_, ?_⟩
  · (rw [listed_nil (by simp [go_sem, *])]; exact d0_of (by simp))
  clear hK K
  try walk_nrm
  co_apply opsX_cons_k rfl (by rfl)
  intro _ hR K hK
  replace hF := (Held.rely) hF hR
  clear hR
  skip
  go_simp
  try (unfold stored; go_simp)
  refine hK _ _ ⟨?_, ?_⟩
  · (rw [listed_nil (by simp [go_sem, *])]; exact d0_of (by simp))
  clear hK K
  try walk_nrm
  co_apply opsX_cons_k rfl (by rfl)
  intro _ hR K hK
  replace hF := (Held.rely) hF hR
  clear hR
  skip
  go_simp
  try (unfold stored; go_simp)
  refine hK _ _ ⟨?_, ?_⟩
  · (rw [listed_nil (by simp [go_sem, *])]; exact d0_of (by simp))
  clear hK K
  try walk_nrm
  co_apply opsX_cons_k rfl (by rfl)
  intro _ hR K hK
  replace hF := (Held.rely) hF hR
  clear hR
  skip
  go_simp
  try (unfold stored; go_simp)
  refine hK _ _ ⟨?_, ?_⟩
  · (rw [listed_nil (by simp [go_sem, *])]; exact d0_of (by simp))
  clear hK K
  try walk_nrm
  co_apply opsX_cons_k rfl (by rfl)
  intro _ hR K hK
  replace hF := (Held.rely) hF hR
  clear hR
  skip
  go_simp
  try (unfold stored; go_simp)
  refine hK _ _ ⟨?_, ?_⟩
  · (rw [listed_nil (by simp [go_sem, *])]; exact d0_of (by simp))
  clear hK K
  try walk_nrm
  co_apply opsX_cons_k rfl (by rfl)
  intro _ hR K hK
  replace hF := (Held.rely) hF hR
  clear hR
  skip
  go_simp
  try (unfold stored; go_simp)
  refine hK _ _ ⟨?_, ?_⟩
  · (rw [listed_nil (by simp [go_sem, *])]; exact d0_of (by simp))
  clear hK K
  try walk_nrm
  co_apply opsX_cons_k rfl (by rfl)
  intro _ hR K hK
  replace hF := (Held.rely) hF hR
  clear hR
  have hc := (hF.b (gm, 5, mc) (by simp)).cell pm
  go_simp
  try (unfold stored; go_simp)
  refine hK _ _ ⟨?_, ?_⟩
  · (refine d0_of ?_; intro e he; have hm := mem_listed he; simp [go_sem, *] at hm; try (first | (subst hm; exact evP_cell _ _ (hE.not (by omega) _)) | (rcases hm with rfl | rfl | rfl | rfl | rfl | rfl | rfl | rfl <;> exact evP_cell _ _ (hE.not (by omega) _))))
  clear hK K
  try walk_nrm
  clear hc
  co_apply opsX_cons_k rfl (by rfl)
  intro _ hR K hK
  replace hF := (Held.rely) hF hR
  clear hR
  skip
  go_simp
  try (unfold stored; go_simp)
  refine hK _ _ ⟨?_, ?_⟩
  · (rw [listed_nil (by simp [go_sem, *])]; exact d0_of (by simp))
  clear hK K
  try walk_nrm
  co_apply opsX_cons_k rfl (by rfl)
  intro _ hR K hK
  replace hF := (Held.rely) hF hR
  clear hR
  skip
  go_simp
  try (unfold stored; go_simp)
  refine hK _ _ ⟨?_, ?_⟩
  · (rw [listed_nil (by simp [go_sem, *])]; exact d0_of (by simp))
  clear hK K
  try walk_nrm
  co_apply opsX_cons_k rfl (by rfl)
  intro _ hR K hK
  replace hF := (Held.rely) hF hR
  clear hR
  skip
  go_simp
  try (unfold stored; go_simp)
  refine hK _ _ ⟨?_, ?_⟩
  · (rw [listed_nil (by simp [go_sem, *])]; exact d0_of (by simp))
  clear hK K
  try walk_nrm
  co_apply opsX_cons_k rfl (by rfl)
  intro _ hR K hK
  replace hF := (Held.rely) hF hR
  clear hR
  skip
  go_simp
  try (unfold stored; go_simp)
  refine hK _ _ ⟨?_, ?_⟩
  · (rw [listed_nil (by simp [go_sem, *])]; exact d0_of (by simp))
  clear hK K
  try walk_nrm
  co_apply opsX_cons_k rfl (by rfl)
  intro _ hR K hK
  replace hF := (Held.rely) hF hR
  clear hR
  skip
  go_simp
  try (unfold stored; go_simp)
  refine hK _ _ ⟨?_, ?_⟩
  · (rw [listed_nil (by simp [go_sem, *])]; exact d0_of (by simp))
  clear hK K
  try walk_nrm
  co_apply opsX_cons_k rfl (by rfl)
  intro _ hR K hK
  replace hF := (Held.rely) hF hR
  clear hR
  skip
  go_simp
  try (unfold stored; go_simp)
  refine hK _ _ ⟨?_, ?_⟩
  · (rw [listed_nil (by simp [go_sem, *])]; exact d0_of (by simp))
  clear hK K
  try walk_nrm
  co_apply opsX_cons_k rfl (by rfl)
  intro _ hR K hK
  replace hF := (Held.rely) hF hR
  clear hR
  skip
  go_simp
  try (unfold stored; go_simp)
  refine hK _ _ ⟨?_, ?_⟩
  · (rw [listed_nil (by simp [go_sem, *])]; exact d0_of (by simp))
  clear hK K
  try walk_nrm
  co_apply opsX_cons_k rfl (by rfl)
  intro _ hR K hK
  replace hF := (Held.rely) hF hR
  clear hR
  skip
  go_simp
  try (unfold stored; go_simp)
  refine hK _ _ ⟨?_, ?_⟩
  · (rw [listed_nil (by simp [go_sem, *])]; exact d0_of (by simp))
  clear hK K
  try walk_nrm
  co_apply opsX_cons_k rfl (by rfl)
  intro _ hR K hK
  replace hF := (Held.rely) hF hR
  clear hR
  have hc := (hF.b (gp, 42, prc) (by simp)).cell p4
  go_simp
  try (unfold stored; go_simp)
  refine hK _ _ ⟨?_, ?_⟩
  · (refine d0_of ?_; intro e he; have hm := mem_listed he; simp [go_sem, *] at hm; try (first | (subst hm; exact evP_cell _ _ (hE.not (by omega) _)) | (rcases hm with rfl | rfl | rfl | rfl | rfl | rfl | rfl | rfl <;> exact evP_cell _ _ (hE.not (by omega) _))))
  clear hK K
  try walk_nrm
  clear hc
  co_apply opsX_cons_k rfl (by rfl)
  intro _ hR K hK
  replace hF := (Held.rely) hF hR
  clear hR
  skip
  go_simp
  try (unfold stored; go_simp)
  refine hK _ _ ⟨?_, ?_⟩
  · (rw [listed_nil (by simp [go_sem, *])]; exact d0_of (by simp))
  clear hK K
  try walk_nrm
  co_apply opsX_cons_k rfl (by rfl)
  intro _ hR K hK
  replace hF := (Held.rely) hF hR
  clear hR
  skip
  go_simp
  try (unfold stored; go_simp)
  refine hK _ _ ⟨?_, ?_⟩
  · (rw [listed_nil (by simp [go_sem, *])]; exact d0_of (by simp))
  clear hK K
  try walk_nrm
  co_apply opsX_nil
  try simp only [ThenX]
  try co_then
  co_apply wpX_cond (t := false)
  focus (exact rfl)
  simp only [if_true, if_false, Bool.false_eq_true, reduceIte]
  co_apply wpX_of
  co_apply wpC_skip (terms0 (Shs [wr.heap.size]))
  try simp only [ThenX]
  try co_then
  clear ex qs qd q8 q5 pm p4 p7 p8 p9 p10 p11 p12 p13 p14
  co_apply wpX_seq
  co_apply wpX_region
  simp only [List.size_toArray, List.length_cons, List.length_nil, Nat.reduceAdd, Nat.zero_add, List.range, List.range.loop]
  co_apply opsX_cons_k rfl (by rfl)
  intro wt hR K hK
  replace hF := (Held.rely) hF hR
  clear hR
  skip
  go_simp
  try (unfold stored; go_simp)
  refine hK _ _ ⟨?_, ?_⟩
  · (rw [listed_nil (by simp [go_sem, *])]; exact d0_of (by simp))
  clear hK K
  try walk_nrm
  have hMem : Mem (Shs [wr.heap.size]) a (sx A B at_ 10) wt := ⟨kc, pc, Q, cap, qc, MK.mem (keep_nil hF.m.ke wr.heap.size 10) hF.m hS⟩
  have hE2 : Elder (Shs [wt.heap.size, wr.heap.size]) (wt.heap.size + 7) := elder1 (hE.mono hF.s) (by omega)
  co_apply opsX_call rfl (by rfl) rfl
  · walk_nrm
    exact g11 0 [wr.heap.size] a (sx A B at_ 10) (RestE (inRun a wt.heap.size 5) { sx A B at_ 10 with used := 2, now := 11 }) 5 (by omega) words2 (by decide) false (fun h => by cases h) wt (hE.mono hF.s) hMem (fun PostB Aft n => pass2 n hgn A B at_ hgc (gl_of hW hO c4 c1 h4 _ _ _))
  intro s' v w' hv
  clear hF hS hks hMem
  replace hE := hE2
  clear hE2
  obtain ⟨rfl, told, rfl, ⟨kc2, pc2, Q2, qc2, hm, ⟨r0', r1', r2', hks⟩, hP⟩, ht, hs⟩ := hv
  have ht : World.ownsRow _ (wt.heap.size + 7) 44 4 told 2 (words2.flatMap Wd.c) := ht
  obtain ⟨gu, ucap, uc, rfl, hgu, huc, hui⟩ := row_has ht (by omega)
  have hF : Held (Shs [wt.heap.size, wr.heap.size]) a kc2 pc2 Q2 qc2 (wt.heap.size + 7) [(gu, 44, uc)] _ := ⟨hm, hs, by intro t h; simp at h; subst h; exact huc⟩
  clear hm ht hs huc
  walk_nrm
  co_apply opsX_cons_k rfl (by rfl)
  intro _ hR K hK
  replace hF := (Held.rely) hF hR
  clear hR
  skip
  go_simp
  try (unfold stored; go_simp)
  refine hK _ _ ⟨?_, ?_⟩
  · (rw [listed_nil (by simp [go_sem, *])]; exact d0_of (by simp))
  clear hK K
  try walk_nrm
  co_apply opsX_cons_k rfl (by rfl)
  intro _ hR K hK
  replace hF := (Held.rely) hF hR
  clear hR
  skip
  go_simp
  try (unfold stored; go_simp)
  refine hK _ _ ⟨?_, ?_⟩
  · (rw [listed_nil (by simp [go_sem, *])]; exact d0_of (by simp))
  clear hK K
  try walk_nrm
  co_apply opsX_cons_k rfl (by rfl)
  intro _ hR K hK
  replace hF := (Held.rely) hF hR
  clear hR
  skip
  go_simp
  try (unfold stored; go_simp)
  refine hK _ _ ⟨?_, ?_⟩
  · (rw [listed_nil (by simp [go_sem, *])]; exact d0_of (by simp))
  clear hK K
  try walk_nrm
  co_apply opsX_cons_k rfl (by rfl)
  intro _ hR K hK
  replace hF := (Held.rely) hF hR
  clear hR
  skip
  go_simp
  try (unfold stored; go_simp)
  refine hK _ _ ⟨?_, ?_⟩
  · (rw [listed_nil (by simp [go_sem, *])]; exact d0_of (by simp))
  clear hK K
  try walk_nrm
  co_apply opsX_cons_k rfl (by rfl)
  intro _ hR K hK
  replace hF := (Held.rely) hF hR
  clear hR
  skip
  go_simp
  try (unfold stored; go_simp)
  refine hK _ _ ⟨?_, ?_⟩
  · (rw [listed_nil (by simp [go_sem, *])]; exact d0_of (by simp))
  clear hK K
  try walk_nrm
  co_apply opsX_nil
  try simp only [ThenX]
  try co_then
  co_apply wpX_seq
  co_apply wpX_region
  simp only [List.size_toArray, List.length_cons, List.length_nil, Nat.reduceAdd, Nat.zero_add, List.range, List.range.loop]
  co_apply opsX_cons_k rfl (by rfl)
  intro _ hR K hK
  replace hF := (Held.rely) hF hR
  clear hR
  skip
  go_simp
  try (unfold stored; go_simp)
  refine hK _ _ ⟨?_, ?_⟩
  · (rw [listed_nil (by simp [go_sem, *])]; exact d0_of (by simp))
  clear hK K
  try walk_nrm
  co_apply opsX_call rfl (by rfl) rfl
  · walk_nrm
    exact callsX_of (Post := fun s' v w' => s' = (0, [wt.heap.size, wr.heap.size]) ∧ World.grownBy _ w' none ∧ w'.ownsRow _ 42 15 v 1 _) (CallsC.mono (g12 (Shs [wt.heap.size, wr.heap.size]) a kc2 pc2 hF.m.sK hF.m.sP hF.m.sR hks.ps hF.m.re _ _ _ _ _ _ _ hP _ (hE.mono hF.s) hF.ps) fun v w h => ⟨rfl, h⟩)
  intro s' v w' hv
  obtain ⟨rfl, hg, ho⟩ := hv
  obtain ⟨gv, vcap, vc, rfl, hgv, hvc, hvi⟩ := row_has ho (by omega)
  replace hgv := Nat.le_trans hF.s hgv
  replace hF := (hF.grown hg).more (t := (gv, 42, vc)) hvc
  clear hg ho hvc
  walk_nrm
  co_apply opsX_cons_k rfl (by rfl)
  intro _ hR K hK
  replace hF := (Held.rely) hF hR
  clear hR
  skip
  go_simp
  try (unfold stored; go_simp)
  refine hK _ _ ⟨?_, ?_⟩
  · (rw [listed_nil (by simp [go_sem, *])]; exact d0_of (by simp))
  clear hK K
  try walk_nrm
  co_apply opsX_nil
  try simp only [ThenX]
  try co_then
  have u5 : uc[5]? = some (.int .i64 4) := hui 5 _ rfl
  have u7 : uc[7]? = some (.int .i64 65281) := hui 7 _ rfl
  have v2 : vc[2]? = some (.int .i64 6) := hvi 2 _ rfl
  have v4 : vc[4]? = some (.int .i64 10) := hvi 4 _ rfl
  clear hui hvi
  co_apply wpX_seq
  co_apply wpX_region
  simp only [List.size_toArray, List.length_cons, List.length_nil, Nat.reduceAdd, Nat.zero_add, List.range, List.range.loop]
  co_apply opsX_cons_k rfl (by rfl)
  intro _ hR K hK
  replace hF := (Held.rely) hF hR
  clear hR
  skip
  go_simp
  try (unfold stored; go_simp)
  refine hK _ _ ⟨?_, ?_⟩
  · (rw [listed_nil (by simp [go_sem, *])]; exact d0_of (by simp))
  clear hK K
  try walk_nrm
  co_apply opsX_cons_k rfl (by rfl)
  intro _ hR K hK
  replace hF := (Held.rely) hF hR
  clear hR
  skip
  go_simp
  try (unfold stored; go_simp)
  refine hK _ _ ⟨?_, ?_⟩
  · (rw [listed_nil (by simp [go_sem, *])]; exact d0_of (by simp))
  clear hK K
  try walk_nrm
  co_apply opsX_cons_k rfl (by rfl)
  intro _ hR K hK
  replace hF := (Held.rely) hF hR
  clear hR
  skip
  go_simp
  try (unfold stored; go_simp)
  refine hK _ _ ⟨?_, ?_⟩
  · (rw [listed_nil (by simp [go_sem, *])]; exact d0_of (by simp))
  clear hK K
  try walk_nrm
  co_apply opsX_cons_k rfl (by rfl)
  intro _ hR K hK
  replace hF := (Held.rely) hF hR
  clear hR
  skip
  go_simp
  try (unfold stored; go_simp)
  refine hK _ _ ⟨?_, ?_⟩
  · (rw [listed_nil (by simp [go_sem, *])]; exact d0_of (by simp))
  clear hK K
  try walk_nrm
  co_apply opsX_cons_k rfl (by rfl)
  intro _ hR K hK
  replace hF := (Held.rely) hF hR
  clear hR
  skip
  go_simp
  try (unfold stored; go_simp)
  refine hK _ _ ⟨?_, ?_⟩
  · (rw [listed_nil (by simp [go_sem, *])]; exact d0_of (by simp))
  clear hK K
  try walk_nrm
  co_apply opsX_cons_k rfl (by rfl)
  intro _ hR K hK
  replace hF := (Held.rely) hF hR
  clear hR
  skip
  go_simp
  try (unfold stored; go_simp)
  refine hK _ _ ⟨?_, ?_⟩
  · (rw [listed_nil (by simp [go_sem, *])]; exact d0_of (by simp))
  clear hK K
  try walk_nrm
  co_apply opsX_cons_k rfl (by rfl)
  intro _ hR K hK
  replace hF := (Held.rely) hF hR
  clear hR
  skip
  go_simp
  try (unfold stored; go_simp)
  refine hK _ _ ⟨?_, ?_⟩
  · (rw [listed_nil (by simp [go_sem, *])]; exact d0_of (by simp))
  clear hK K
  try walk_nrm
  co_apply opsX_cons_k rfl (by rfl)
  intro _ hR K hK
  replace hF := (Held.rely) hF hR
  clear hR
  skip
  go_simp
  try (unfold stored; go_simp)
  refine hK _ _ ⟨?_, ?_⟩
  · (rw [listed_nil (by simp [go_sem, *])]; exact d0_of (by simp))
  clear hK K
  try walk_nrm
  co_apply opsX_cons_k rfl (by rfl)
  intro _ hR K hK
  replace hF := (Held.rely) hF hR
  clear hR
  skip
  go_simp
  try (unfold stored; go_simp)
  refine hK _ _ ⟨?_, ?_⟩
  · (rw [listed_nil (by simp [go_sem, *])]; exact d0_of (by simp))
  clear hK K
  try walk_nrm
  co_apply opsX_cons_k rfl (by rfl)
  intro _ hR K hK
  replace hF := (Held.rely) hF hR
  clear hR
  skip
  go_simp
  try (unfold stored; go_simp)
  refine hK _ _ ⟨?_, ?_⟩
  · (rw [listed_nil (by simp [go_sem, *])]; exact d0_of (by simp))
  clear hK K
  try walk_nrm
  co_apply opsX_cons_k rfl (by rfl)
  intro _ hR K hK
  replace hF := (Held.rely) hF hR
  clear hR
  skip
  go_simp
  try (unfold stored; go_simp)
  refine hK _ _ ⟨?_, ?_⟩
  · (rw [listed_nil (by simp [go_sem, *])]; exact d0_of (by simp))
  clear hK K
  try walk_nrm
  co_apply opsX_cons_k rfl (by rfl)
  intro _ hR K hK
  replace hF := (Held.rely) hF hR
  clear hR
  have hc := (hF.b (gu, 44, uc) (by simp)).cell u5
  go_simp
  try (unfold stored; go_simp)
  refine hK _ _ ⟨?_, ?_⟩
  · (refine d0_of ?_; intro e he; have hm := mem_listed he; simp [go_sem, *] at hm; try (first | (subst hm; exact evP_cell _ _ (hE.not (by omega) _)) | (rcases hm with rfl | rfl | rfl | rfl | rfl | rfl | rfl | rfl <;> exact evP_cell _ _ (hE.not (by omega) _))))
  clear hK K
  try walk_nrm
  clear hc
  co_apply opsX_cons_k rfl (by rfl)
  intro _ hR K hK
  replace hF := (Held.rely) hF hR
  clear hR
  skip
  go_simp
  try (unfold stored; go_simp)
  refine hK _ _ ⟨?_, ?_⟩
  · (rw [listed_nil (by simp [go_sem, *])]; exact d0_of (by simp))
  clear hK K
  try walk_nrm
  co_apply opsX_cons_k rfl (by rfl)
  intro _ hR K hK
  replace hF := (Held.rely) hF hR
  clear hR
  skip
  go_simp
  try (unfold stored; go_simp)
  refine hK _ _ ⟨?_, ?_⟩
  · (rw [listed_nil (by simp [go_sem, *])]; exact d0_of (by simp))
  clear hK K
  try walk_nrm
  co_apply opsX_cons_k rfl (by rfl)
  intro _ hR K hK
  replace hF := (Held.rely) hF hR
  clear hR
  skip
  go_simp
  try (unfold stored; go_simp)
  refine hK _ _ ⟨?_, ?_⟩
  · (rw [listed_nil (by simp [go_sem, *])]; exact d0_of (by simp))
  clear hK K
  try walk_nrm
  co_apply opsX_cons_k rfl (by rfl)
  intro _ hR K hK
  replace hF := (Held.rely) hF hR
  clear hR
  skip
  go_simp
  try (unfold stored; go_simp)
  refine hK _ _ ⟨?_, ?_⟩
  · (rw [listed_nil (by simp [go_sem, *])]; exact d0_of (by simp))
  clear hK K
  try walk_nrm
  co_apply opsX_cons_k rfl (by rfl)
  intro _ hR K hK
  replace hF := (Held.rely) hF hR
  clear hR
  skip
  go_simp
  try (unfold stored; go_simp)
  refine hK _ _ ⟨?_, ?_⟩
  · (rw [listed_nil (by simp [go_sem, *])]; exact d0_of (by simp))
  clear hK K
  try walk_nrm
  co_apply opsX_cons_k rfl (by rfl)
  intro _ hR K hK
  replace hF := (Held.rely) hF hR
  clear hR
  skip
  go_simp
  try (unfold stored; go_simp)
  refine hK _ _ ⟨?_, ?_⟩
  · (rw [listed_nil (by simp [go_sem, *])]; exact d0_of (by simp))
  clear hK K
  try walk_nrm
  co_apply opsX_cons_k rfl (by rfl)
  intro _ hR K hK
  replace hF := (Held.rely) hF hR
  clear hR
  have hc := (hF.b (gu, 44, uc) (by simp)).cell u7
  go_simp
  try (unfold stored; go_simp)
  refine hK _ _ ⟨?_, ?_⟩
  · (refine d0_of ?_; intro e he; have hm := mem_listed he; simp [go_sem, *] at hm; try (first | (subst hm; exact evP_cell _ _ (hE.not (by omega) _)) | (rcases hm with rfl | rfl | rfl | rfl | rfl | rfl | rfl | rfl <;> exact evP_cell _ _ (hE.not (by omega) _))))
  clear hK K
  try walk_nrm
  clear hc
  co_apply opsX_cons_k rfl (by rfl)
  intro _ hR K hK
  replace hF := (Held.rely) hF hR
  clear hR
  skip
  go_simp
  try (unfold stored; go_simp)
  refine hK _ _ ⟨?_, ?_⟩
  · (rw [listed_nil (by simp [go_sem, *])]; exact d0_of (by simp))
  clear hK K
  try walk_nrm
  co_apply opsX_cons_k rfl (by rfl)
  intro _ hR K hK
  replace hF := (Held.rely) hF hR
  clear hR
  skip
  go_simp
  try (unfold stored; go_simp)
  refine hK _ _ ⟨?_, ?_⟩
  · (rw [listed_nil (by simp [go_sem, *])]; exact d0_of (by simp))
  clear hK K
  try walk_nrm
  co_apply opsX_cons_k rfl (by rfl)
  intro _ hR K hK
  replace hF := (Held.rely) hF hR
  clear hR
  skip
  go_simp
  try (unfold stored; go_simp)
  refine hK _ _ ⟨?_, ?_⟩
  · (rw [listed_nil (by simp [go_sem, *])]; exact d0_of (by simp))
  clear hK K
  try walk_nrm
  co_apply opsX_cons_k rfl (by rfl)
  intro _ hR K hK
  replace hF := (Held.rely) hF hR
  clear hR
  skip
  go_simp
  try (unfold stored; go_simp)
  refine hK _ _ ⟨?_, ?_⟩
  · (rw [listed_nil (by simp [go_sem, *])]; exact d0_of (by simp))
  clear hK K
  try walk_nrm
  co_apply opsX_cons_k rfl (by rfl)
  intro _ hR K hK
  replace hF := (Held.rely) hF hR
  clear hR
  skip
  go_simp
  try (unfold stored; go_simp)
  refine hK _ _ ⟨?_, ?_⟩
  · (rw [listed_nil (by simp [go_sem, *])]; exact d0_of (by simp))
  clear hK K
  try walk_nrm
  co_apply opsX_cons_k rfl (by rfl)
  intro _ hR K hK
  replace hF := (Held.rely) hF hR
  clear hR
  skip
  go_simp
  try (unfold stored; go_simp)
  refine hK _ _ ⟨?_, ?_⟩
  · (rw [listed_nil (by simp [go_sem, *])]; exact d0_of (by simp))
  clear hK K
  try walk_nrm
  co_apply opsX_cons_k rfl (by rfl)
  intro _ hR K hK
  replace hF := (Held.rely) hF hR
  clear hR
  skip
  go_simp
  try (unfold stored; go_simp)
  refine hK _ _ ⟨?_, ?_⟩
  · (rw [listed_nil (by simp [go_sem, *])]; exact d0_of (by simp))
  clear hK K
  try walk_nrm
  co_apply opsX_cons_k rfl (by rfl)
  intro _ hR K hK
  replace hF := (Held.rely) hF hR
  clear hR
  skip
  go_simp
  try (unfold stored; go_simp)
  refine hK _ _ ⟨?_, ?_⟩
  · (rw [listed_nil (by simp [go_sem, *])]; exact d0_of (by simp))
  clear hK K
  try walk_nrm
  co_apply opsX_cons_k rfl (by rfl)
  intro _ hR K hK
  replace hF := (Held.rely) hF hR
  clear hR
  skip
  go_simp
  try (unfold stored; go_simp)
  refine hK _ _ ⟨?_, ?_⟩
  · (rw [listed_nil (by simp [go_sem, *])]; exact d0_of (by simp))
  clear hK K
  try walk_nrm
  co_apply opsX_cons_k rfl (by rfl)
  intro _ hR K hK
  replace hF := (Held.rely) hF hR
  clear hR
  skip
  go_simp
  try (unfold stored; go_simp)
  refine hK _ _ ⟨?_, ?_⟩
  · (rw [listed_nil (by simp [go_sem, *])]; exact d0_of (by simp))
  clear hK K
  try walk_nrm
  co_apply opsX_cons_k rfl (by rfl)
  intro _ hR K hK
  replace hF := (Held.rely) hF hR
  clear hR
  skip
  go_simp
  try (unfold stored; go_simp)
  refine hK _ _ ⟨?_, ?_⟩
  · (rw [listed_nil (by simp [go_sem, *])]; exact d0_of (by simp))
  clear hK K
  try walk_nrm
  co_apply opsX_cons_k rfl (by rfl)
  intro _ hR K hK
  replace hF := (Held.rely) hF hR
  clear hR
  have hc := (hF.b (gv, 42, vc) (by simp)).cell v2
  go_simp
  try (unfold stored; go_simp)
  refine hK _ _ ⟨?_, ?_⟩
  · (refine d0_of ?_; intro e he; have hm := mem_listed he; simp [go_sem, *] at hm; try (first | (subst hm; exact evP_cell _ _ (hE.not (by omega) _)) | (rcases hm with rfl | rfl | rfl | rfl | rfl | rfl | rfl | rfl <;> exact evP_cell _ _ (hE.not (by omega) _))))
  clear hK K
  try walk_nrm
  clear hc
  co_apply opsX_cons_k rfl (by rfl)
  intro _ hR K hK
  replace hF := (Held.rely) hF hR
  clear hR
  skip
  go_simp
  try (unfold stored; go_simp)
  refine hK _ _ ⟨?_, ?_⟩
  · (rw [listed_nil (by simp [go_sem, *])]; exact d0_of (by simp))
  clear hK K
  try walk_nrm
  co_apply opsX_cons_k rfl (by rfl)
  intro _ hR K hK
  replace hF := (Held.rely) hF hR
  clear hR
  skip
  go_simp
  try (unfold stored; go_simp)
  refine hK _ _ ⟨?_, ?_⟩
  · (rw [listed_nil (by simp [go_sem, *])]; exact d0_of (by simp))
  clear hK K
  try walk_nrm
  co_apply opsX_cons_k rfl (by rfl)
  intro _ hR K hK
  replace hF := (Held.rely) hF hR
  clear hR
  skip
  go_simp
  try (unfold stored; go_simp)
  refine hK _ _ ⟨?_, ?_⟩
  · (rw [listed_nil (by simp [go_sem, *])]; exact d0_of (by simp))
  clear hK K
  try walk_nrm
  co_apply opsX_cons_k rfl (by rfl)
  intro _ hR K hK
  replace hF := (Held.rely) hF hR
  clear hR
  skip
  go_simp
  try (unfold stored; go_simp)
  refine hK _ _ ⟨?_, ?_⟩
  · (rw [listed_nil (by simp [go_sem, *])]; exact d0_of (by simp))
  clear hK K
  try walk_nrm
  co_apply opsX_cons_k rfl (by rfl)
  intro _ hR K hK
  replace hF := (Held.rely) hF hR
  clear hR
  skip
  go_simp
  try (unfold stored; go_simp)
  refine hK _ _ ⟨?_, ?_⟩
  · (rw [listed_nil (by simp [go_sem, *])]; exact d0_of (by simp))
  clear hK K
  try walk_nrm
  co_apply opsX_cons_k rfl (by rfl)
  intro _ hR K hK
  replace hF := (Held.rely) hF hR
  clear hR
  skip
  go_simp
  try (unfold stored; go_simp)
  refine hK _ _ ⟨?_, ?_⟩
  · (rw [listed_nil (by simp [go_sem, *])]; exact d0_of (by simp))
  clear hK K
  try walk_nrm
  co_apply opsX_cons_k rfl (by rfl)
  intro _ hR K hK
  replace hF := (Held.rely) hF hR
  clear hR
  have hc := (hF.b (gv, 42, vc) (by simp)).cell v4
  go_simp
  try (unfold stored; go_simp)
  refine hK _ _ ⟨?_, ?_⟩
  · (refine d0_of ?_; intro e he; have hm := mem_listed he; simp [go_sem, *] at hm; try (first | (subst hm; exact evP_cell _ _ (hE.not (by omega) _)) | (rcases hm with rfl | rfl | rfl | rfl | rfl | rfl | rfl | rfl <;> exact evP_cell _ _ (hE.not (by omega) _))))
  clear hK K
  try walk_nrm
  clear hc
  co_apply opsX_cons_k rfl (by rfl)
  intro _ hR K hK
  replace hF := (Held.rely) hF hR
  clear hR
  skip
  go_simp
  try (unfold stored; go_simp)
  refine hK _ _ ⟨?_, ?_⟩
  · (rw [listed_nil (by simp [go_sem, *])]; exact d0_of (by simp))
  clear hK K
  try walk_nrm
  co_apply opsX_cons_k rfl (by rfl)
  intro _ hR K hK
  replace hF := (Held.rely) hF hR
  clear hR
  skip
  go_simp
  try (unfold stored; go_simp)
  refine hK _ _ ⟨?_, ?_⟩
  · (rw [listed_nil (by simp [go_sem, *])]; exact d0_of (by simp))
  clear hK K
  try walk_nrm
  co_apply opsX_cons_k rfl (by rfl)
  intro _ hR K hK
  replace hF := (Held.rely) hF hR
  clear hR
  skip
  go_simp
  try (unfold stored; go_simp)
  refine hK _ _ ⟨?_, ?_⟩
  · (rw [listed_nil (by simp [go_sem, *])]; exact d0_of (by simp))
  clear hK K
  try walk_nrm
  co_apply opsX_nil
  try simp only [ThenX]
  try co_then
  co_apply wpX_of
  co_apply wpC_ret (terms0 (Shs [wt.heap.size, wr.heap.size]))
  refine ⟨rfl, _, resultsC_tmp (t := 6) (by rfl) _, rfl, rfl, ?_⟩
  have hod := hF.m.od
  have hoo := hF.m.oo.1
  have hlt := hF.m.k.lt
  exact ⟨hod.o.trans (by rw [hW]), hod.t.trans (by rw [hW]), hod.u.trans (by rw [hW]), by omega, fun b hb _ => (hod.b b (by omega)).trans (by rw [hW])⟩
end Go.Proofs.YtbnaccilnilcmaaDoor
