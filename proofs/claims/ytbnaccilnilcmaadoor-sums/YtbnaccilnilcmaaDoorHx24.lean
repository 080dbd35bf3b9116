/-
  A call of Run, for goroutine 0: its boxes, channels and group; Add; the go statement; what it gathers; Wait.
  No condition but those that each statement names.
-/
import Derived.Test.YtbnaccilnilcmaaDoorHx23
import Derived.Test.YtbnaccilnilcmaaDoorHx13
import Derived.Conc.FxGenLone
import Derived.Conc.SmallLaws
import Derived.Test.YtbnaccilnilcmaaDoorHx14
import Derived.Test.YtbnaccilnilcmaaDoorHx15
import Derived.Test.YtbnaccilnilcmaaDoorHx16
set_option linter.unusedVariables false
set_option linter.unusedSimpArgs false
set_option linter.unusedSectionVars false
namespace Go.Proofs.YtbnaccilnilcmaaDoor
open Go.Conc Go.RowKit Go.Hx Go.ConcX Go.Conc.Lib Go.ConcX.Gen

theorem ch55 (w : World) : (Instr.makeChan 55 (.int .i64 0)).run Tryd.prog w = .ok (.chan (some w.heap.size)) (w.alloc (.chan 0 #[] false 0 0 false)) ∧ ∀ es, (Instr.makeChan 55 (.int .i64 0)).events Tryd.prog w es = es := by
  obtain ⟨i, z, h1, _, _, h4, _⟩ := info44
  exact ⟨by simpa using run_makeChan (P := Tryd.prog) (w := w) Tryd.underlying55 h1 .i64 0 (by omega) (by rw [h4]; omega), fun es => by simpa using events_makeChan (P := Tryd.prog) (w := w) Tryd.underlying55 h1 .i64 0 (by omega) (by rw [h4]; omega) es⟩
theorem ch56 (w : World) : (Instr.makeChan 56 (.int .i64 0)).run Tryd.prog w = .ok (.chan (some w.heap.size)) (w.alloc (.chan 0 #[] false 0 0 false)) ∧ ∀ es, (Instr.makeChan 56 (.int .i64 0)).events Tryd.prog w es = es := by
  have h : (Tryd.prog.info? 57).map (·.bytes) = some 0 := by kernel_rfl
  obtain ⟨i, h1, h4⟩ := Option.map_eq_some_iff.1 h
  exact ⟨by simpa using run_makeChan (P := Tryd.prog) (w := w) Tryd.underlying56 h1 .i64 0 (by omega) (by rw [h4]; omega), fun es => by simpa using events_makeChan (P := Tryd.prog) (w := w) Tryd.underlying56 h1 .i64 0 (by omega) (by rw [h4]; omega) es⟩

theorem En.bare {p : Par} {Sh : Loc → Prop} {E Dn : Nat} {a : Ad} (n : En p Sh E Dn a) : En p Sh E Dn { a with keep := [] } :=
  ⟨n.ty, n.sh, n.hE, n.hD, n.aK, n.aP, n.aR, n.aG, n.r0, n.kp, fun t ht => (by simp at ht), n.oo⟩

section
variable {p : Par} {Sh : Loc → Prop} {E Dn : Nat} {a : Ad} {Wg C : Nat} {Rest : Array Value → Array Value → Nat → Array Value → Prop}
theorem PostW.rb (n : En p Sh E Dn a) (w w₁ : World) (r : RB p E Dn w w₁) (h : PostW p Sh E Dn a Wg C Rest w) : PostW p Sh E Dn a Wg C Rest w₁ := by
  obtain ⟨kc, pc, Q, qc, h1, h2, h3, h4⟩ := h
  exact ⟨kc, pc, Q, qc, h1, h2, h3.rely (En.bare n) r, h4⟩
theorem PostW.aside (hO : a.O ≤ C ∧ a.O ≤ Wg) (hb : ∀ b ∈ [a.K, a.P, a.R, a.G], b ≠ C ∧ b ≠ Wg) (w w₁ : World) (r : Aside2 C Wg w w₁) (h : PostW p Sh E Dn a Wg C Rest w) : PostW p Sh E Dn a Wg C Rest w₁ := by
  obtain ⟨kc, pc, Q, qc, h1, h2, h3, h4⟩ := h
  have hbl : ∀ b ∈ [a.K, a.P, a.R, a.G], w₁.heap[b]? = w.heap[b]? := fun b hm => r.block b (hb b hm).1 (hb b hm).2
  exact ⟨kc, pc, Q, qc, h1, h2, ⟨h3.k.heap (hbl _ (by simp)), h3.pp.heap (hbl _ (by simp)), h3.rr.heap (hbl _ (by simp)), h3.gg.heap (hbl _ (by simp)), h3.q.heap (r.block Q h1 h2), h3.aQ, by rw [r.size]; exact h3.sz, fun t ht => (by simp at ht), fun t ht => (by simp at ht),
    ⟨h3.od.q, r.tape.trans h3.od.t, r.os.trans h3.od.o, r.output.trans h3.od.u, fun x hx => (r.block x (by have : x < a.O := hx; omega) (by have : x < a.O := hx; omega)).trans (h3.od.b x hx)⟩⟩, h4⟩
end

variable {Fin : Value → World → Prop}

/-- What goroutine 0 knows behind a call of Run. -/
structure Ran (Sh : Loc → Prop) (a : Ad) (Rest : Array Value → Array Value → Nat → Array Value → Prop) (N : Nat) (told : Value) (ws : List Wd) (w : World) : Prop where
  m : ∃ kc pc Q qc, MK Sh a kc pc Q qc w ∧ Rest kc pc Q qc
  t : Hx.Told (pR N) told ws.length (ws.flatMap Wd.c) w
  s : N + 7 ≤ w.heap.size
theorem Ran.rely {Sh : Loc → Prop} {a : Ad} {Rest : Array Value → Array Value → Nat → Array Value → Prop} {N : Nat} {told : Value} {ws : List Wd} {w w₁ : World} (h : Ran Sh a Rest N told ws w) (r : AtRel w w₁) : Ran Sh a Rest N told ws w₁ := by
  obtain ⟨d, rfl⟩ := r
  obtain ⟨kc, pc, Q, qc, h1, h2⟩ := h.m
  exact ⟨⟨kc, pc, Q, qc, h1.at d, h2⟩, h.t, h.s⟩

set_option maxRecDepth 100000 in
set_option maxHeartbeats 8000000 in
theorem run_x : ∃ k, ∀ (nn : Nat) (s : List Nat) (a : Ad) (x : Now) (Rest : Array Value → Array Value → Nat → Array Value → Prop) (ticks : Int) (ht : 0 ≤ ticks ∧ ticks ≤ 2000) (ws : List Wd) (hws : ws.length < 10000) (fr : Bool) (hfr : fr = true → x.lv ≠ 2)
    (W : World) (hE : Elder (Shs s) W.heap.size) (hM : Mem (Shs s) a x W)
    (hpass : ∀ (PostB : World → Prop) (Aft : Goroutine → World → Prop), En (pR W.heap.size) (ShR (Shs s) W.heap.size) (W.heap.size + 2) (W.heap.size + 4) (inRun a W.heap.size ticks) → ∃ kp, ∀ w, Sit (pR W.heap.size) (ShR (Shs s) W.heap.size) (W.heap.size + 2) (W.heap.size + 4) (inRun a W.heap.size ticks) fr x w →
      CallsX (tellF Tryd.prog (pR W.heap.size) (ShR (Shs s) W.heap.size) (W.heap.size + 2) (W.heap.size + 4) PostB Aft) Tryd.prog false 19 #[.pointer (some ⟨a.K, 0, none⟩), .int .i64 ticks, .chan (some (W.heap.size + 2))] kp (ws.map Wd.v) w fun s' _ w' => s' = [] ∧ KR (pR W.heap.size) (ShR (Shs s) W.heap.size) (W.heap.size + 2) (W.heap.size + 4) (inRun a W.heap.size ticks) Rest w'),
    CallsX (F0 Tryd.prog Fin) Tryd.prog true 11 #[.pointer (some ⟨a.K, 0, none⟩), .int .i64 ticks] k (nn + 1, s) W fun s' v w' => s' = (nn, W.heap.size :: s) ∧ ∃ told, v = .tuple #[told, .int .i64 0] ∧ Ran (Shs (W.heap.size :: s)) a Rest W.heap.size told ws w' := by
  co_apply Exists.intro
  intro nn s a x Rest ticks ht ws hws fr hfr W hE hM hpass
  obtain ⟨kc, pc, Q, cap, qc, hC⟩ := hM
  have hF : New W [] W := New.refl W
  have c55 := fun w => (ch55 w).1
  have d55 := fun w => (ch55 w).2
  have c56 := fun w => (ch56 w).1
  have d56 := fun w => (ch56 w).2
  have b1 : ¬ ticks < 0 := by omega
  have b2 : ¬ 2000 < ticks := by omega
  have b3 : ¬ ticks > 2000 := by omega
  co_apply callsX_of_wpX Tryd.func11 (by rfl) rfl
  simp only [Tryd.ntmps11, List.size_toArray, List.length_cons, List.length_nil, Nat.reduceAdd, Nat.reduceSub, Array.replicate_succ, Array.replicate_zero, List.push_toArray, List.append_toArray, List.nil_append, List.cons_append]
  co_apply wpX_seq
  co_apply wpX_region
  simp only [List.size_toArray, List.length_cons, List.length_nil, Nat.reduceAdd, Nat.zero_add, List.range, List.range.loop]
  co_apply opsX_cons_k rfl (by rfl)
  intro _ hR K hK
  replace hF := (New.rely) hF hR
  clear hR
  have hs := hF.size
  go_simp
  try (unfold stored; go_simp)
  refine hK _ _ ⟨?_, ?_⟩
  · (refine d0_of ?_; intro e he; have hm := mem_listed he; simp [go_sem, *] at hm)
  clear hK K
  try walk_nrm
  replace hF := hF.alloc (.cells #[.pointer (some ⟨a.K, 0, none⟩)] 25)
  try simp only [List.length_cons, List.length_nil, Nat.reduceAdd, Nat.add_zero, Nat.zero_add] at hs
  try simp only [List.nil_append, List.cons_append] at hF
  try simp only [hs]
  clear hs
  co_apply opsX_cons_k rfl (by rfl)
  intro _ hR K hK
  replace hF := (New.rely) hF hR
  clear hR
  have hs := hF.size
  go_simp
  try (unfold stored; go_simp)
  refine hK _ _ ⟨?_, ?_⟩
  · (refine d0_of ?_; intro e he; have hm := mem_listed he; simp [go_sem, *] at hm)
  clear hK K
  try walk_nrm
  replace hF := hF.alloc (.cells #[.int .i64 ticks] 3)
  try simp only [List.length_cons, List.length_nil, Nat.reduceAdd, Nat.add_zero, Nat.zero_add] at hs
  try simp only [List.nil_append, List.cons_append] at hF
  try simp only [hs]
  clear hs
  co_apply opsX_cons_k rfl (by rfl)
  intro _ hR K hK
  replace hF := (New.rely) hF hR
  clear hR
  skip
  go_simp
  try (unfold stored; go_simp)
  refine hK _ _ ⟨?_, ?_⟩
  · (rw [listed_nil (by simp [go_sem, *])]; exact d0_of (by simp))
  clear hK K
  try walk_nrm
  co_apply opsX_cons_k rfl (by rfl)
  intro _ hR K hK
  replace hF := (New.rely) hF hR
  clear hR
  skip
  go_simp
  try (unfold stored; go_simp)
  refine hK _ _ ⟨?_, ?_⟩
  · (rw [listed_nil (by simp [go_sem, *])]; exact d0_of (by simp))
  clear hK K
  try walk_nrm
  co_apply opsX_nil
  try simp only [ThenX]
  try co_then
  co_apply wpX_seq
  co_apply wpX_seq
  co_apply wpX_region
  simp only [List.size_toArray, List.length_cons, List.length_nil, Nat.reduceAdd, Nat.zero_add, List.range, List.range.loop]
  co_apply opsX_cons_k rfl (by rfl)
  intro _ hR K hK
  replace hF := (New.rely) hF hR
  clear hR
  have hc := hF.cell (i := 1) rfl (j := 0) rfl
  go_simp
  try (unfold stored; go_simp)
  refine hK _ _ ⟨?_, ?_⟩
  · (refine d0_of ?_; intro e he; have hm := mem_listed he; simp [go_sem, *] at hm; try (first | (subst hm; exact evP_cell _ _ (hE.not (by omega) _)) | (rcases hm with rfl | rfl <;> exact evP_cell _ _ (hE.not (by omega) _))))
  clear hK K
  try walk_nrm
  clear hc
  co_apply opsX_cons_k rfl (by rfl)
  intro _ hR K hK
  replace hF := (New.rely) hF hR
  clear hR
  skip
  go_simp
  try (unfold stored; go_simp)
  refine hK _ _ ⟨?_, ?_⟩
  · (rw [listed_nil (by simp [go_sem, *])]; exact d0_of (by simp))
  clear hK K
  try walk_nrm
  co_apply opsX_cons_k rfl (by rfl)
  intro _ hR K hK
  replace hF := (New.rely) hF hR
  clear hR
  skip
  go_simp
  try (unfold stored; go_simp)
  refine hK _ _ ⟨?_, ?_⟩
  · (rw [listed_nil (by simp [go_sem, *])]; exact d0_of (by simp))
  clear hK K
  try walk_nrm
  co_apply opsX_cons_k rfl (by rfl)
  intro _ hR K hK
  replace hF := (New.rely) hF hR
  clear hR
  have hc := hF.cell (i := 1) rfl (j := 0) rfl
  go_simp
  try (unfold stored; go_simp)
  refine hK _ _ ⟨?_, ?_⟩
  · (refine d0_of ?_; intro e he; have hm := mem_listed he; simp [go_sem, *] at hm; try (first | (subst hm; exact evP_cell _ _ (hE.not (by omega) _)) | (rcases hm with rfl | rfl <;> exact evP_cell _ _ (hE.not (by omega) _))))
  clear hK K
  try walk_nrm
  clear hc
  co_apply opsX_cons_k rfl (by rfl)
  intro _ hR K hK
  replace hF := (New.rely) hF hR
  clear hR
  skip
  go_simp
  try (unfold stored; go_simp)
  refine hK _ _ ⟨?_, ?_⟩
  · (rw [listed_nil (by simp [go_sem, *])]; exact d0_of (by simp))
  clear hK K
  try walk_nrm
  co_apply opsX_cons_k rfl (by rfl)
  intro _ hR K hK
  replace hF := (New.rely) hF hR
  clear hR
  skip
  go_simp
  try (unfold stored; go_simp)
  refine hK _ _ ⟨?_, ?_⟩
  · (rw [listed_nil (by simp [go_sem, *])]; exact d0_of (by simp))
  clear hK K
  try walk_nrm
  co_apply opsX_nil
  try simp only [ThenX]
  try co_then
  co_apply wpX_cond (t := false)
  focus (exact rfl)
  simp only [if_true, if_false, Bool.false_eq_true, reduceIte]
  co_apply wpX_of
  co_apply wpC_skip (terms0 (Shs s))
  try simp only [ThenX]
  try co_then
  co_apply wpX_seq
  co_apply wpX_region
  simp only [List.size_toArray, List.length_cons, List.length_nil, Nat.reduceAdd, Nat.zero_add, List.range, List.range.loop]
  co_apply opsX_cons_k rfl (by rfl)
  intro _ hR K hK
  replace hF := (New.rely) hF hR
  clear hR
  have hs := hF.size
  go_simp
  try (unfold stored; go_simp)
  refine hK _ _ ⟨?_, ?_⟩
  · (refine d0_of ?_; intro e he; have hm := mem_listed he; simp [go_sem, *] at hm)
  clear hK K
  try walk_nrm
  replace hF := hF.alloc (.chan 0 #[] false 0 0 false)
  try simp only [List.length_cons, List.length_nil, Nat.reduceAdd, Nat.add_zero, Nat.zero_add] at hs
  try simp only [List.nil_append, List.cons_append] at hF
  try simp only [hs]
  clear hs
  co_apply opsX_cons_k rfl (by rfl)
  intro _ hR K hK
  replace hF := (New.rely) hF hR
  clear hR
  have hs := hF.size
  go_simp
  try (unfold stored; go_simp)
  refine hK _ _ ⟨?_, ?_⟩
  · (refine d0_of ?_; intro e he; have hm := mem_listed he; simp [go_sem, *] at hm)
  clear hK K
  try walk_nrm
  replace hF := hF.alloc (.cells #[.chan none] 55)
  try simp only [List.length_cons, List.length_nil, Nat.reduceAdd, Nat.add_zero, Nat.zero_add] at hs
  try simp only [List.nil_append, List.cons_append] at hF
  try simp only [hs]
  clear hs
  co_apply opsX_cons_k rfl (by rfl)
  intro _ hR K hK
  replace hF := (New.rely) hF hR
  clear hR
  have hc := hF.cell (i := 3) rfl (j := 0) rfl; have hz := hF.thaw (i := 3) rfl 0
  go_simp
  try (unfold stored; go_simp)
  refine hK _ _ ⟨?_, ?_⟩
  · (refine d0_of ?_; intro e he; have hm := mem_listed he; simp [go_sem, *] at hm; try (first | (subst hm; exact evP_cell _ _ (hE.not (by omega) _)) | (rcases hm with rfl | rfl <;> exact evP_cell _ _ (hE.not (by omega) _))))
  clear hK K
  try walk_nrm
  clear hc hz
  replace hF := hF.set (i := 3) rfl 0 (.chan (some (W.heap.size + 2)))
  simp only [List.set_cons_zero, List.set_cons_succ, List.setIfInBounds_toArray] at hF
  co_apply opsX_nil
  try simp only [ThenX]
  try co_then
  co_apply wpX_seq
  co_apply wpX_region
  simp only [List.size_toArray, List.length_cons, List.length_nil, Nat.reduceAdd, Nat.zero_add, List.range, List.range.loop]
  co_apply opsX_cons_k rfl (by rfl)
  intro _ hR K hK
  replace hF := (New.rely) hF hR
  clear hR
  have hs := hF.size
  go_simp
  try (unfold stored; go_simp)
  refine hK _ _ ⟨?_, ?_⟩
  · (refine d0_of ?_; intro e he; have hm := mem_listed he; simp [go_sem, *] at hm)
  clear hK K
  try walk_nrm
  replace hF := hF.alloc (.chan 0 #[] false 0 0 false)
  try simp only [List.length_cons, List.length_nil, Nat.reduceAdd, Nat.add_zero, Nat.zero_add] at hs
  try simp only [List.nil_append, List.cons_append] at hF
  try simp only [hs]
  clear hs
  co_apply opsX_cons_k rfl (by rfl)
  intro _ hR K hK
  replace hF := (New.rely) hF hR
  clear hR
  have hs := hF.size
  go_simp
  try (unfold stored; go_simp)
  refine hK _ _ ⟨?_, ?_⟩
  · (refine d0_of ?_; intro e he; have hm := mem_listed he; simp [go_sem, *] at hm)
  clear hK K
  try walk_nrm
  replace hF := hF.alloc (.cells #[.chan none] 56)
  try simp only [List.length_cons, List.length_nil, Nat.reduceAdd, Nat.add_zero, Nat.zero_add] at hs
  try simp only [List.nil_append, List.cons_append] at hF
  try simp only [hs]
  clear hs
  co_apply opsX_cons_k rfl (by rfl)
  intro _ hR K hK
  replace hF := (New.rely) hF hR
  clear hR
  have hc := hF.cell (i := 5) rfl (j := 0) rfl; have hz := hF.thaw (i := 5) rfl 0
  go_simp
  try (unfold stored; go_simp)
  refine hK _ _ ⟨?_, ?_⟩
  · (refine d0_of ?_; intro e he; have hm := mem_listed he; simp [go_sem, *] at hm; try (first | (subst hm; exact evP_cell _ _ (hE.not (by omega) _)) | (rcases hm with rfl | rfl <;> exact evP_cell _ _ (hE.not (by omega) _))))
  clear hK K
  try walk_nrm
  clear hc hz
  replace hF := hF.set (i := 5) rfl 0 (.chan (some (W.heap.size + 4)))
  simp only [List.set_cons_zero, List.set_cons_succ, List.setIfInBounds_toArray] at hF
  co_apply opsX_nil
  try simp only [ThenX]
  try co_then
  co_apply wpX_seq
  co_apply wpX_region
  simp only [List.size_toArray, List.length_cons, List.length_nil, Nat.reduceAdd, Nat.zero_add, List.range, List.range.loop]
  co_apply opsX_cons_k rfl (by rfl)
  intro _ hR K hK
  replace hF := (New.rely) hF hR
  clear hR
  have hs := hF.size
  go_simp
  try (unfold stored; go_simp)
  refine hK _ _ ⟨?_, ?_⟩
  · (refine d0_of ?_; intro e he; have hm := mem_listed he; simp [go_sem, *] at hm)
  clear hK K
  try walk_nrm
  replace hF := hF.alloc (.cells #[.int .u64 0, .int .u32 0] 66)
  try simp only [List.length_cons, List.length_nil, Nat.reduceAdd, Nat.add_zero, Nat.zero_add] at hs
  try simp only [List.nil_append, List.cons_append] at hF
  try simp only [hs]
  clear hs
  co_apply opsX_nil
  try simp only [ThenX]
  try co_then
  clear b1 b2 b3 c55 d55 c56 d56
  have hF' : New W (boxes W.heap.size a.K ticks 0) _ := hF
  clear hF
  intro b k cs m hb hk hc
  have en := hC.en hE ticks
  have l1 := hC.k.lt
  have l2 := hC.pp.lt
  have l3 := hC.rr.lt
  have l4 := hC.gg.lt
  have l5 := hC.oo
  have ns : ∀ j i, j ≠ 6 → ¬ ShR (Shs s) W.heap.size (.cell ⟨W.heap.size + j, i, none⟩) := fun j i hj hs => by
    rcases hs with hs | ⟨a', e, ha'⟩
    · exact hE.not (by omega) i hs
    · cases e; simp only at ha'; omega
  refine (show Goes Tryd.prog true AtRel (D0 (Shs s)) (StopQ Tryd.prog Fin (nn + 1) s) (m + 15) _ _ from Goes.mono (run_tail (PostB := PostW (pR W.heap.size) (ShR (Shs s) W.heap.size) (W.heap.size + 2) (W.heap.size + 4) (inRun a W.heap.size ticks) (W.heap.size + 6) (W.heap.size + 1) Rest) (ws := ws) hb hk hE hws (PostW.rb en) (PostW.aside ?_ ?_) ?_ ?_ ?_ _ hF') (by omega))
  · show a.O ≤ _ ∧ a.O ≤ _
    omega
  · intro b' hb'
    simp only [inRun, List.mem_cons, List.not_mem_nil, or_false] at hb'
    rcases hb' with rfl | rfl | rfl | rfl <;> omega
  · rintro w' ⟨_, _, _, _, _, _, h3, _⟩
    exact h3.sz
  · intro inst w' hn'
    obtain ⟨kp, hp⟩ := hpass (PostW (pR W.heap.size) (ShR (Shs s) W.heap.size) (W.heap.size + 2) (W.heap.size + 4) (inRun a W.heap.size ticks) (W.heap.size + 6) (W.heap.size + 1) Rest) (AfterD Tryd.prog 66 (W.heap.size + 6) (W.heap.size + 1) (W.heap.size + 7) [.int .i64 ticks] Mine0) en
    exact run1_tells (kb := W.heap.size) (db := W.heap.size + 5) (eb := W.heap.size + 3) en (by omega) (by omega) (by omega) (by omega) (by omega) (by simp [inRun, kept]) (by simp [inRun, kept]) (by simp [inRun, kept]) (by simp [inRun, kept]) (by simp [inRun, kept])
      (fun i => ns 0 i (by omega)) (fun i => ns 1 i (by omega)) (fun i => ns 3 i (by omega)) (fun i => ns 5 i (by omega)) Rest kp _ x hp w' ⟨_, _, _, _, _, hC.sit hE hn' fr hfr⟩
  · intro told w' hFJ
    obtain ⟨kc', pc', Q', qc', h1, h2, h3, h4⟩ := hFJ.1
    have hb2 : { inRun a W.heap.size ticks with keep := [] } = a := by
      have := hC.ke
      cases a
      simp only at this
      subst this
      rfl
    have hM' : ∃ kc pc Q qc, MK (Shs (W.heap.size :: s)) a kc pc Q qc w' ∧ Rest kc pc Q qc := ⟨kc', pc', Q', qc', MK.of hb2 en h3, h4⟩
    have hsz : W.heap.size + 7 ≤ w'.heap.size := h3.sz
    have hF : Ran (Shs (W.heap.size :: s)) a Rest W.heap.size told ws w' := ⟨hM', hFJ.2, hsz⟩
    clear hFJ h1 h2 h3 h4 hM' hsz hF' hpass hC
    co_apply Exists.intro
    co_apply goes_ctl (terms0 (Shs (W.heap.size :: s))) rfl (fun _ => stepG_region_end)
    co_apply wpX_goes (F := F0 Tryd.prog Fin) (s := (nn, W.heap.size :: s)) (m := m) ?_ hb hk hc
    simp only [TR, tl10, tl9, tl8, tl7, tl6, Tryd.f11]
    co_apply wpX_seq
    co_apply wpX_region
    simp only [List.size_toArray, List.length_cons, List.length_nil, Nat.reduceAdd, Nat.zero_add, List.range, List.range.loop]
    co_apply opsX_cons_k rfl (by rfl)
    intro _ hR K hK
    replace hF := (Ran.rely) hF hR
    clear hR
    skip
    go_simp
    try (unfold stored; go_simp)
    refine hK _ _ ⟨?_, ?_⟩
    · (rw [listed_nil (by simp [go_sem, *])]; exact d0_of (by simp))
    clear hK K
    try walk_nrm
    co_apply opsX_cons_k rfl (by rfl)
    intro _ hR K hK
    replace hF := (Ran.rely) hF hR
    clear hR
    skip
    go_simp
    try (unfold stored; go_simp)
    refine hK _ _ ⟨?_, ?_⟩
    · (rw [listed_nil (by simp [go_sem, *])]; exact d0_of (by simp))
    clear hK K
    try walk_nrm
    co_apply opsX_cons_k rfl (by rfl)
    intro _ hR K hK
    replace hF := (Ran.rely) hF hR
    clear hR
    skip
    go_simp
    try (unfold stored; go_simp)
    refine hK _ _ ⟨?_, ?_⟩
    · (rw [listed_nil (by simp [go_sem, *])]; exact d0_of (by simp))
    clear hK K
    try walk_nrm
    co_apply opsX_nil
    try simp only [ThenX]
    try co_then
    co_apply wpX_of
    co_apply wpC_ret (terms0 (Shs (W.heap.size :: s)))
    exact ⟨rfl, _, resultsC_tmp2 (t := 4) (u := 5) (by rfl) _, rfl, told, rfl, hF⟩
end Go.Proofs.YtbnaccilnilcmaaDoor
/-
  The ticks of the first call: the program's ten instructions that do not fault.
  No condition but those that each statement names.
-/
namespace Go.Proofs.YtbnaccilnilcmaaDoor
open Go.Conc Go.RowKit Go.Hx

variable {p : Par} {Sh : Loc → Prop} {E Dn : Nat} {a : Ad} {PostB : World → Prop} {Aft : Goroutine → World → Prop}

/-- What the process's instruction does. -/
def Does (p : Par) (Sh : Loc → Prop) (E Dn : Nat) (a : Ad) (nd : Nat) (x : Now) (q : Nat) (o i y z : Int) (r' m' : Nat → Int) : Prop :=
  ∀ kc pc Q qc, Pst pc x.st x.status q x.lv x.used x.r x.m → ∀ w, KM p Sh E Dn a kc pc Q qc w → CallsC Tryd.prog false (RB p E Dn) (DT p Sh E Dn) 68 #[.pointer (some ⟨a.P, 0, none⟩), .agg #[.int .u8 o, .int .u8 i, .int .u8 y, .int .u8 z]] nd w
    fun v w' => v = .nilIface ∧ ∃ pc', Pst pc' x.st x.status ((q : Int) + 1) x.lv x.used r' m' ∧ KM p Sh E Dn a kc pc' Q qc w'

theorem does_all (n : En p Sh E Dn a) : ∃ nd, ∀ (x : Now) (q : Nat) (hq : q < 256) (i j : Nat) (hi : i < 8) (hj : j < 8) (y z : Int) (hy : 0 ≤ y ∧ y < 256) (hz : 0 ≤ z ∧ z < 256) (hyj : y % 8 = j),
    Does p Sh E Dn a nd x q 1 i y z (put x.r i (y + 256 * z)) x.m ∧ Does p Sh E Dn a nd x q 2 i y z (put x.r i (x.r j)) x.m ∧ Does p Sh E Dn a nd x q 3 i y z (put x.r i ((x.r i + x.r j) % 65536)) x.m ∧ Does p Sh E Dn a nd x q 4 i y z (put x.r i ((x.r i - x.r j) % 65536)) x.m ∧
    (∀ (hrj : 0 ≤ x.r j ∧ x.r j < 65536) (kk : Nat) (hk64 : kk < 64) (hk : x.r j + z = kk), Does p Sh E Dn a nd x q 8 i y z x.r (put x.m kk (x.r i % 256)) ∧ ((0 ≤ x.m kk ∧ x.m kk < 256) → Does p Sh E Dn a nd x q 7 i y z (put x.r i (x.m kk)) x.m)) := by
  obtain ⟨k1, g1⟩ := do_set n
  obtain ⟨k2, g2⟩ := do_move n
  obtain ⟨k3, g3⟩ := do_add n
  obtain ⟨k4, g4⟩ := do_sub n
  obtain ⟨k5, g5⟩ := do_load n
  obtain ⟨k6, g6⟩ := do_store n
  refine ⟨k1 + k2 + k3 + k4 + k5 + k6, fun x q hq i j hi hj y z hy hz hyj => ⟨fun kc pc Q qc hp w hF => ?_, fun kc pc Q qc hp w hF => ?_, fun kc pc Q qc hp w hF => ?_, fun kc pc Q qc hp w hF => ?_, fun hrj kk hk64 hk => ⟨fun kc pc Q qc hp w hF => ?_, fun hmk kc pc Q qc hp w hF => ?_⟩⟩⟩
  · exact callsC_more (g1 kc pc Q qc hp (by omega) i j hi hj y z hy hz hyj w hF) (by omega)
  · exact callsC_more (g2 kc pc Q qc hp (by omega) i j hi hj y z hy hz hyj w hF) (by omega)
  · exact callsC_more (g3 kc pc Q qc hp (by omega) i j hi hj y z hy hz hyj w hF) (by omega)
  · exact callsC_more (g4 kc pc Q qc hp (by omega) i j hi hj y z hy hz hyj w hF) (by omega)
  · exact callsC_more (g6 kc pc Q qc hp (by omega) i j hi hj y z hy hz hyj hrj kk hk64 hk w hF) (by omega)
  · exact callsC_more (g5 kc pc Q qc hp (by omega) i j hi hj y z hy hz hyj hrj kk hk64 hk hmk w hF) (by omega)

/-- The program in memory. -/
def image (A B : Int) (at_ : Nat) : List Int :=
  [1, 1, A % 256, A / 256, 1, 2, B % 256, B / 256, 2, 3, 1, 0, 3, 3, 2, 0, 2, 4, 1, 0, 4, 4, 2, 0, 1, 5, (at_ : Int), 0, 8, 1, 5, 0, 7, 6, 5, 0, 1, 5, 64, 0, 7, 7, 5, 0]
def progCells (A B : Int) (at_ : Nat) : List Value := (image A B at_).map (.int .u8 ·)

def s0 : Nat → Int := fun i => if i = 0 then 2 else if i = 1 then 3 else 4
def z0 : Nat → Int := fun _ => 0
def ra (A : Int) := put z0 1 A
def rb (A B : Int) := put (ra A) 2 B
def rc (A B : Int) := put (rb A B) 3 A
def rd (A B : Int) := put (rc A B) 3 ((A + B) % 65536)
def re (A B : Int) := put (rd A B) 4 A
def rf (A B : Int) := put (re A B) 4 ((A - B) % 65536)
def rh (A B : Int) (at_ : Nat) := put (rf A B) 5 (at_ : Int)
def ri (A B : Int) (at_ : Nat) := put (rh A B at_) 6 (A % 256)
def rj (A B : Int) (at_ : Nat) := put (ri A B at_) 5 64
def rg (A B : Int) (at_ : Nat) : Nat → (Nat → Int)
  | 0 => z0
  | 1 => ra A
  | 2 => rb A B
  | 3 => rc A B
  | 4 => rd A B
  | 5 => re A B
  | 6 => rf A B
  | 7 => rh A B at_
  | 8 => rh A B at_
  | 9 => ri A B at_
  | _ => rj A B at_
def mm (A : Int) (at_ q : Nat) : Nat → Int := if q < 8 then z0 else put z0 at_ (A % 256)
def lvOf (q : Nat) : Nat := if q < 2 then 0 else if q < 5 then 1 else 2
def usOf (q : Nat) : Int := if q < 2 then (q : Int) else if q < 5 then (q : Int) - 2 else if q < 9 then (q : Int) - 5 else (q : Int) - 9
/-- Ahead of tick q. -/
def sx (A B : Int) (at_ q : Nat) : Now := { s := s0, bo := 51, now := q, st := 1, status := 0, at_ := q, lv := lvOf q, used := usOf q, r := rg A B at_ q, m := mm A at_ q }

/-- One tick. -/
theorem tick1 (n : En p Sh E Dn a) (hgn : a.gn = 11) : ∃ kt, ∀ (x : Now) (q : Nat) (hat : x.at_ = q) (hq : q < 11) (hst : x.st = 1) (hu : 0 ≤ x.used ∧ x.used < 100) (hn0 : 0 ≤ x.now ∧ x.now < 50) (hbo : x.bo = 51) (i j : Nat) (hi : i < 8) (hj : j < 8) (y z : Int) (hy : 0 ≤ y ∧ y < 256) (hz : 0 ≤ z ∧ z < 256) (hyj : y % 8 = j) (o : Int) (r' m' : Nat → Int)
    (g0 : a.gc[q * 4]? = some (.int .u8 o)) (g1 : a.gc[q * 4 + 1]? = some (.int .u8 i)) (g2 : a.gc[q * 4 + 2]? = some (.int .u8 y)) (g3 : a.gc[q * 4 + 3]? = some (.int .u8 z))
    (h : (o = 1 ∧ r' = put x.r i (y + 256 * z) ∧ m' = x.m) ∨ (o = 2 ∧ r' = put x.r i (x.r j) ∧ m' = x.m) ∨ (o = 3 ∧ r' = put x.r i ((x.r i + x.r j) % 65536) ∧ m' = x.m) ∨ (o = 4 ∧ r' = put x.r i ((x.r i - x.r j) % 65536) ∧ m' = x.m) ∨
      ∃ kk : Nat, (0 ≤ x.r j ∧ x.r j < 65536) ∧ kk < 64 ∧ x.r j + z = kk ∧ ((o = 8 ∧ r' = x.r ∧ m' = put x.m kk (x.r i % 256)) ∨ (o = 7 ∧ (0 ≤ x.m kk ∧ x.m kk < 256) ∧ r' = put x.r i (x.m kk) ∧ m' = x.m))),
    TickOk p Sh E Dn a PostB Aft true kt x (evt x.now 1 1 q) { x with at_ := (q : Int) + 1, r := r', m := m', lv := (nxt x.s x.lv (x.used + 1)).1, used := (nxt x.s x.lv (x.used + 1)).2 } := by
  obtain ⟨nd, hd⟩ := does_all n
  obtain ⟨kt, ht⟩ := tick_x (PostB := PostB) (Aft := Aft) n nd
  refine ⟨kt, fun x q hat hq hst hu hn0 hbo i j hi hj y z hy hz hyj o r' m' g0 g1 g2 g3 h vs w hS => ?_⟩
  obtain ⟨d1, d2, d3, d4, d5⟩ := hd x q (by omega) i j hi hj y z hy hz hyj
  refine ht true rfl x _ r' m' q hat (by omega) (by omega) o i y z ?_ g0 g1 g2 g3 hst hu (by omega) (by omega) (by omega) ?_ vs w hS
  · rcases h with h | h | h | h | ⟨_, _, _, _, h | h⟩ <;> omega
  · rcases h with ⟨rfl, rfl, rfl⟩ | ⟨rfl, rfl, rfl⟩ | ⟨rfl, rfl, rfl⟩ | ⟨rfl, rfl, rfl⟩ | ⟨kk, h1, h2, h3, ⟨rfl, rfl, rfl⟩ | ⟨rfl, h4, rfl, rfl⟩⟩
    · exact d1
    · exact d2
    · exact d3
    · exact d4
    · exact (d5 h1 kk h2 h3).1
    · exact (d5 h1 kk h2 h3).2 h4

def told10 : List Value := (List.range 10).map fun (q : Nat) => evt (q : Int) 1 1 (q : Int)
theorem tickOk_eq {fr : Bool} {kt : Nat} {x y y' : Now} {v v' : Value} (h : TickOk p Sh E Dn a PostB Aft fr kt x v y) (e : y = y') (e' : v = v') : TickOk p Sh E Dn a PostB Aft fr kt x v' y' := e ▸ e' ▸ h

theorem chain1 (n : En p Sh E Dn a) (hgn : a.gn = 11) (A B : Int) (at_ : Nat) (hA : 0 ≤ A ∧ A < 65536) (hB : 0 ≤ B ∧ B < 65536) (hat : at_ < 64) (hg : ∀ i, i < 44 → a.gc[i]? = (progCells A B at_)[i]?) :
    ∃ kt, Chain p Sh E Dn a PostB Aft true kt (sx A B at_ 0) told10 (sx A B at_ 10) := by
  obtain ⟨kt, ht⟩ := tick1 (PostB := PostB) (Aft := Aft) n hgn
  have hA1 : 0 ≤ A % 256 ∧ A % 256 < 256 := by omega
  have hA2 : 0 ≤ A / 256 ∧ A / 256 < 256 := by omega
  have hB1 : 0 ≤ B % 256 ∧ B % 256 < 256 := by omega
  have hB2 : 0 ≤ B / 256 ∧ B / 256 < 256 := by omega
  refine ⟨kt, ?_⟩
  have step : ∀ (q : Nat) (hq : q < 10), TickOk p Sh E Dn a PostB Aft true kt (sx A B at_ q) (evt q 1 1 q) { sx A B at_ (q + 1) with now := q } := by
    intro q hq
    have hcase : q = 0 ∨ q = 1 ∨ q = 2 ∨ q = 3 ∨ q = 4 ∨ q = 5 ∨ q = 6 ∨ q = 7 ∨ q = 8 ∨ q = 9 := by omega
    rcases hcase with rfl | rfl | rfl | rfl | rfl | rfl | rfl | rfl | rfl | rfl
    · exact tickOk_eq (ht (sx A B at_ 0) 0 rfl (by omega) rfl (by simp [sx, usOf]) (by simp [sx]) rfl 1 ((A % 256).toNat % 8) (by omega) (by omega) (A % 256) (A / 256) (by omega) (by omega) (by omega) 1 (ra A) (z0) (hg _ (by omega)) (hg _ (by omega)) (hg _ (by omega)) (hg _ (by omega)) (.inl ⟨rfl, by show ra A = put z0 1 (A % 256 + 256 * (A / 256)); rw [show A % 256 + 256 * (A / 256) = A by omega]; rfl, rfl⟩)) (by simp [sx, nxt, usOf, lvOf, s0, rg, mm]) rfl
    · exact tickOk_eq (ht (sx A B at_ 1) 1 rfl (by omega) rfl (by simp [sx, usOf]) (by simp [sx]) rfl 2 ((B % 256).toNat % 8) (by omega) (by omega) (B % 256) (B / 256) (by omega) (by omega) (by omega) 1 (rb A B) (z0) (hg _ (by omega)) (hg _ (by omega)) (hg _ (by omega)) (hg _ (by omega)) (.inl ⟨rfl, by show rb A B = put (ra A) 2 (B % 256 + 256 * (B / 256)); rw [show B % 256 + 256 * (B / 256) = B by omega]; rfl, rfl⟩)) (by simp [sx, nxt, usOf, lvOf, s0, rg, mm]) rfl
    · exact tickOk_eq (ht (sx A B at_ 2) 2 rfl (by omega) rfl (by simp [sx, usOf]) (by simp [sx]) rfl 3 (1) (by omega) (by omega) (1) (0) (by omega) (by omega) (by omega) 2 (rc A B) (z0) (hg _ (by omega)) (hg _ (by omega)) (hg _ (by omega)) (hg _ (by omega)) (.inr (.inl ⟨rfl, rfl, rfl⟩))) (by simp [sx, nxt, usOf, lvOf, s0, rg, mm]) rfl
    · exact tickOk_eq (ht (sx A B at_ 3) 3 rfl (by omega) rfl (by simp [sx, usOf]) (by simp [sx]) rfl 3 (2) (by omega) (by omega) (2) (0) (by omega) (by omega) (by omega) 3 (rd A B) (z0) (hg _ (by omega)) (hg _ (by omega)) (hg _ (by omega)) (hg _ (by omega)) (.inr (.inr (.inl ⟨rfl, rfl, rfl⟩)))) (by simp [sx, nxt, usOf, lvOf, s0, rg, mm]) rfl
    · exact tickOk_eq (ht (sx A B at_ 4) 4 rfl (by omega) rfl (by simp [sx, usOf]) (by simp [sx]) rfl 4 (1) (by omega) (by omega) (1) (0) (by omega) (by omega) (by omega) 2 (re A B) (z0) (hg _ (by omega)) (hg _ (by omega)) (hg _ (by omega)) (hg _ (by omega)) (.inr (.inl ⟨rfl, rfl, rfl⟩))) (by simp [sx, nxt, usOf, lvOf, s0, rg, mm]) rfl
    · exact tickOk_eq (ht (sx A B at_ 5) 5 rfl (by omega) rfl (by simp [sx, usOf]) (by simp [sx]) rfl 4 (2) (by omega) (by omega) (2) (0) (by omega) (by omega) (by omega) 4 (rf A B) (z0) (hg _ (by omega)) (hg _ (by omega)) (hg _ (by omega)) (hg _ (by omega)) (.inr (.inr (.inr (.inl ⟨rfl, rfl, rfl⟩))))) (by simp [sx, nxt, usOf, lvOf, s0, rg, mm]) rfl
    · exact tickOk_eq (ht (sx A B at_ 6) 6 rfl (by omega) rfl (by simp [sx, usOf]) (by simp [sx]) rfl 5 (at_ % 8) (by omega) (by omega) ((at_ : Int)) (0) (by omega) (by omega) (by omega) 1 (rh A B at_) (z0) (hg _ (by omega)) (hg _ (by omega)) (hg _ (by omega)) (hg _ (by omega)) (.inl ⟨rfl, by show rh A B at_ = put (rf A B) 5 ((at_ : Int) + 256 * 0); rw [show (at_ : Int) + 256 * 0 = at_ by omega]; rfl, rfl⟩)) (by simp [sx, nxt, usOf, lvOf, s0, rg, mm]) rfl
    · exact tickOk_eq (ht (sx A B at_ 7) 7 rfl (by omega) rfl (by simp [sx, usOf]) (by simp [sx]) rfl 1 (5) (by omega) (by omega) (5) (0) (by omega) (by omega) (by omega) 8 (rh A B at_) (put z0 at_ (A % 256)) (hg _ (by omega)) (hg _ (by omega)) (hg _ (by omega)) (hg _ (by omega)) (.inr (.inr (.inr (.inr ⟨at_, ⟨by show (0 : Int) ≤ at_; omega, by show (at_ : Int) < 65536; omega⟩, hat, by show (at_ : Int) + 0 = at_; omega, .inl ⟨rfl, rfl, rfl⟩⟩))))) (by simp [sx, nxt, usOf, lvOf, s0, rg, mm]) rfl
    · exact tickOk_eq (ht (sx A B at_ 8) 8 rfl (by omega) rfl (by simp [sx, usOf]) (by simp [sx]) rfl 6 (5) (by omega) (by omega) (5) (0) (by omega) (by omega) (by omega) 7 (ri A B at_) (put z0 at_ (A % 256)) (hg _ (by omega)) (hg _ (by omega)) (hg _ (by omega)) (hg _ (by omega)) (.inr (.inr (.inr (.inr ⟨at_, ⟨by show (0 : Int) ≤ at_; omega, by show (at_ : Int) < 65536; omega⟩, hat, by show (at_ : Int) + 0 = at_; omega, .inr ⟨rfl, by show 0 ≤ put z0 at_ (A % 256) at_ ∧ put z0 at_ (A % 256) at_ < 256; simp only [put, if_true]; exact hA1, by show ri A B at_ = put (rh A B at_) 6 (put z0 at_ (A % 256) at_); simp only [put, if_true]; rfl, rfl⟩⟩))))) (by simp [sx, nxt, usOf, lvOf, s0, rg, mm]) rfl
    · exact tickOk_eq (ht (sx A B at_ 9) 9 rfl (by omega) rfl (by simp [sx, usOf]) (by simp [sx]) rfl 5 (0) (by omega) (by omega) (64) (0) (by omega) (by omega) (by omega) 1 (rj A B at_) (put z0 at_ (A % 256)) (hg _ (by omega)) (hg _ (by omega)) (hg _ (by omega)) (hg _ (by omega)) (.inl ⟨rfl, by show rj A B at_ = put (ri A B at_) 5 (64 + 256 * 0); rfl, rfl⟩)) (by simp [sx, nxt, usOf, lvOf, s0, rg, mm]) rfl
  exact ⟨rfl, _, step 0 (by omega), rfl, rfl, _, step 1 (by omega), rfl, rfl, _, step 2 (by omega), rfl, rfl, _, step 3 (by omega), rfl, rfl, _, step 4 (by omega), rfl, rfl, _, step 5 (by omega), rfl, rfl, _, step 6 (by omega), rfl, rfl, _, step 7 (by omega), rfl, rfl, _, step 8 (by omega), rfl, rfl, _, step 9 (by omega), rfl, rfl⟩
end Go.Proofs.YtbnaccilnilcmaaDoor
