/-
  A process's turn: it goes on, or it has used its slice and moves down.
  No condition but those that each statement names.
-/
import Derived.Test.YtbnaccilnilcmaaDoorHx20
import Derived.Test.YtbnaccilnilcmaaDoorHx11
set_option linter.unusedVariables false
set_option linter.unusedSimpArgs false
set_option linter.unusedSectionVars false
namespace Go.Proofs.YtbnaccilnilcmaaDoor
open Go.Conc Go.RowKit Go.Hx

variable {p : Par} {Sh : Loc → Prop} {E Dn : Nat} {a : Ad} {PostB : World → Prop} {Aft : Goroutine → World → Prop}

set_option maxRecDepth 100000 in
set_option maxHeartbeats 4000000 in
theorem turn_c0 (n : En p Sh E Dn a) : ∃ k, ∀ (kc pc : Array Value) (Q : Nat) (qc : Array Value) (s : Nat → Int) (bo now : Int) (r0 r1 r2 : Value) (hk : Kst a kc s bo now r0 r1 r2) {st status at_ used : Int} {r m : Nat → Int} (lv : Nat) (hlv : lv < 3) (hp : Pst pc st status at_ lv used r m) (hu : used < s lv) (w : World), KM p Sh E Dn a kc pc Q qc w →
      CallsC Tryd.prog false (RB p E Dn) (DT p Sh E Dn) 61 #[.pointer (some ⟨a.K, 0, none⟩), .pointer (some ⟨a.P, 0, none⟩)] k w fun _ w' => KM p Sh E Dn a kc pc Q qc w' := by
  co_apply Exists.intro
  intro kc pc Q qc s bo now r0 r1 r2 hk st status at_ used r m lv hlv hp hu w hF
  have b1 : (lv : Int) < 3 := by omega
  have e1 := fun (w : World) (es : Array Event) => events_indexAt_array (P := Tryd.prog) (w := w) (es := es) 27 _ 3 ⟨a.K, 0, none⟩ .i64 (lv : Int) Tryd.underlying27 (by omega)
  have hsl : kc[0 + lv]? = some (.int .i64 (s lv)) := by rw [Nat.zero_add]; exact hk.sl lv hlv
  co_apply callsC_of_wpC Tryd.func61 (by rfl) rfl
  simp only [Tryd.ntmps61, List.size_toArray, List.length_cons, List.length_nil, Nat.reduceAdd, Nat.reduceSub, Array.replicate_succ, Array.replicate_zero, List.push_toArray, List.append_toArray, List.nil_append, List.cons_append]
  co_apply wpC_seq (n₂ := 0) (termsT p Sh E Dn)
  co_apply wpC_seq (termsT p Sh E Dn)
  co_held (termsT p Sh E Dn) (drawT p Sh E Dn) (ownDrawT p E Dn) (KM p Sh E Dn a kc pc Q qc) (KM.rely n) hF
  co_take 0 (termsT p Sh E Dn) (KM.rely n) hF hw (skip) (co_still (termsT p Sh E Dn))
  co_take 1 (termsT p Sh E Dn) (KM.rely n) hF hw (skip) (co_still (termsT p Sh E Dn))
  co_take 2 (termsT p Sh E Dn) (KM.rely n) hF hw (skip) (co_still (termsT p Sh E Dn))
  co_take 3 (termsT p Sh E Dn) (KM.rely n) hF hw (skip) (co_still (termsT p Sh E Dn))
  co_take 4 (termsT p Sh E Dn) (KM.rely n) hF hw (have hc := hw.pp.cell hp.us) (refine dt_read ?_; co_evs (exact hw.evP n _))
  co_take 5 (termsT p Sh E Dn) (KM.rely n) hF hw (skip) (co_still (termsT p Sh E Dn))
  co_take 6 (termsT p Sh E Dn) (KM.rely n) hF hw (skip) (co_still (termsT p Sh E Dn))
  co_take 7 (termsT p Sh E Dn) (KM.rely n) hF hw (skip) (co_still (termsT p Sh E Dn))
  co_take 8 (termsT p Sh E Dn) (KM.rely n) hF hw (skip) (co_still (termsT p Sh E Dn))
  co_take 9 (termsT p Sh E Dn) (KM.rely n) hF hw (skip) (co_still (termsT p Sh E Dn))
  co_take 10 (termsT p Sh E Dn) (KM.rely n) hF hw (have hc := hw.pp.cell hp.lv) (refine dt_read ?_; co_evs (exact hw.evP n _))
  co_take 11 (termsT p Sh E Dn) (KM.rely n) hF hw (skip) (co_still (termsT p Sh E Dn))
  co_take 12 (termsT p Sh E Dn) (KM.rely n) hF hw (skip) (co_still (termsT p Sh E Dn))
  co_take 13 (termsT p Sh E Dn) (KM.rely n) hF hw (skip) (co_still (termsT p Sh E Dn))
  co_take 14 (termsT p Sh E Dn) (KM.rely n) hF hw (skip) (co_still (termsT p Sh E Dn))
  co_take 15 (termsT p Sh E Dn) (KM.rely n) hF hw (have hc := hw.k.cell (hk.sl lv hlv)) (refine dt_read ?_; co_evs (exact hw.evK n _))
  co_take 16 (termsT p Sh E Dn) (KM.rely n) hF hw (skip) (co_still (termsT p Sh E Dn))
  co_done
  co_apply wpC_cond (termsT p Sh E Dn) (t := true)
  focus (simp [Act.eval, hu])
  simp only [if_true, if_false, Bool.false_eq_true, reduceIte]
  co_apply wpC_ret (termsT p Sh E Dn)
  exact ⟨rfl, _, resultsC_none (by rfl) _, hF⟩

set_option maxRecDepth 100000 in
set_option maxHeartbeats 4000000 in
theorem turn_x1 (n : En p Sh E Dn a) : ∃ k, ∀ (kc pc : Array Value) (Q cap : Nat) (qc : Array Value) (hRQ : a.R ≠ Q) (hc1 : 1 ≤ cap) (h0 : qc[0]? = some (.pointer (some ⟨a.P, 0, none⟩))) (s : Nat → Int) (bo now : Int) (r0 r1 r2 : Value) (hk : Kst a kc s bo now r0 r1 r2) {st status at_ used : Int} {r m : Nat → Int} (lv : Nat) (hlv : lv < 2) (hp : Pst pc st status at_ lv used r m) (hu : s lv ≤ used) (hrow : kc[6 + lv]? = some (.slice (some ⟨Q, 0, none⟩) 1 cap)) (hnext : kc[6 + (lv + 1)]? = some (.slice none 0 0)) (vs : List Value) (w : World), KM p Sh E Dn a kc pc Q qc w →
      CallsX (tellF Tryd.prog p Sh E Dn PostB Aft) Tryd.prog false 61 #[.pointer (some ⟨a.K, 0, none⟩), .pointer (some ⟨a.P, 0, none⟩)] k vs w fun s' _ w' => s' = vs ∧ ∃ Q' cap' qc', 1 ≤ cap' ∧ cap' ≤ maxLen ∧ qc'.size = cap' ∧ a.R ≠ Q' ∧ p.N0 ≤ Q' ∧ qc'[0]? = some (.pointer (some ⟨a.P, 0, none⟩)) ∧
        KM p Sh E Dn a ((kc.setIfInBounds (6 + lv) (.slice (some ⟨Q, 0, none⟩) 0 cap)).setIfInBounds (6 + (lv + 1)) (.slice (some ⟨Q', 0, none⟩) 1 cap')) ((pc.setIfInBounds 5 (.int .i64 ((lv : Int) + 1))).setIfInBounds 6 (.int .i64 0)) Q' qc' w' := by
  obtain ⟨n1, g1⟩ := leave_x (PostB := PostB) (Aft := Aft) n
  obtain ⟨n2, g2⟩ := join_c0 n
  co_apply Exists.intro
  intro kc pc Q cap qc hRQ hc1 h0 s bo now r0 r1 r2 hk st status at_ used r m lv hlv hp hu hrow hnext vs w hF
  have b1 : (lv : Int) < 3 := by omega
  have c1 : ((lv + 1 : Nat) : Int) = (lv : Int) + 1 := by omega
  have em := fun (w : World) (es : Array Event) (x y : Int) => (by simp [Builtin.min_, Builtin.min2] : (Builtin.min_ #[3, 3] 3 #[.int .i64 x, .int .i64 y]).events Tryd.prog w es = es)
  have q1 : IntKind.i64.wrap ((lv : Int) + 1) = ((lv : Int) + 1) := by simp [IntKind.wrap_i64]; omega
  have q2 : ¬ (2 : Int) < (lv : Int) + 1 := by omega
  have e1 := fun (w : World) (es : Array Event) => events_indexAt_array (P := Tryd.prog) (w := w) (es := es) 27 _ 3 ⟨a.K, 0, none⟩ .i64 (lv : Int) Tryd.underlying27 (by omega)
  have hp2 := (hp.setLv ((lv : Int) + 1)).setUs 0
  co_apply callsX_of_wpX Tryd.func61 (by rfl) rfl
  simp only [Tryd.ntmps61, List.size_toArray, List.length_cons, List.length_nil, Nat.reduceAdd, Nat.reduceSub, Array.replicate_succ, Array.replicate_zero, List.push_toArray, List.append_toArray, List.nil_append, List.cons_append]
  co_apply wpX_seqC
  co_apply wpC_seq (termsT p Sh E Dn)
  co_held (termsT p Sh E Dn) (drawT p Sh E Dn) (ownDrawT p E Dn) (KM p Sh E Dn a kc pc Q qc) (KM.rely n) hF
  co_take 0 (termsT p Sh E Dn) (KM.rely n) hF hw (skip) (co_still (termsT p Sh E Dn))
  co_take 1 (termsT p Sh E Dn) (KM.rely n) hF hw (skip) (co_still (termsT p Sh E Dn))
  co_take 2 (termsT p Sh E Dn) (KM.rely n) hF hw (skip) (co_still (termsT p Sh E Dn))
  co_take 3 (termsT p Sh E Dn) (KM.rely n) hF hw (skip) (co_still (termsT p Sh E Dn))
  co_take 4 (termsT p Sh E Dn) (KM.rely n) hF hw (have hc := hw.pp.cell hp.us) (refine dt_read ?_; co_evs (exact hw.evP n _))
  co_take 5 (termsT p Sh E Dn) (KM.rely n) hF hw (skip) (co_still (termsT p Sh E Dn))
  co_take 6 (termsT p Sh E Dn) (KM.rely n) hF hw (skip) (co_still (termsT p Sh E Dn))
  co_take 7 (termsT p Sh E Dn) (KM.rely n) hF hw (skip) (co_still (termsT p Sh E Dn))
  co_take 8 (termsT p Sh E Dn) (KM.rely n) hF hw (skip) (co_still (termsT p Sh E Dn))
  co_take 9 (termsT p Sh E Dn) (KM.rely n) hF hw (skip) (co_still (termsT p Sh E Dn))
  co_take 10 (termsT p Sh E Dn) (KM.rely n) hF hw (have hc := hw.pp.cell hp.lv) (refine dt_read ?_; co_evs (exact hw.evP n _))
  co_take 11 (termsT p Sh E Dn) (KM.rely n) hF hw (skip) (co_still (termsT p Sh E Dn))
  co_take 12 (termsT p Sh E Dn) (KM.rely n) hF hw (skip) (co_still (termsT p Sh E Dn))
  co_take 13 (termsT p Sh E Dn) (KM.rely n) hF hw (skip) (co_still (termsT p Sh E Dn))
  co_take 14 (termsT p Sh E Dn) (KM.rely n) hF hw (skip) (co_still (termsT p Sh E Dn))
  co_take 15 (termsT p Sh E Dn) (KM.rely n) hF hw (have hc := hw.k.cell (hk.sl lv (by omega))) (refine dt_read ?_; co_evs (exact hw.evK n _))
  co_take 16 (termsT p Sh E Dn) (KM.rely n) hF hw (skip) (co_still (termsT p Sh E Dn))
  co_done
  co_apply wpC_cond (termsT p Sh E Dn) (t := false)
  focus (simp [Act.eval]; omega)
  simp only [if_true, if_false, Bool.false_eq_true, reduceIte]
  co_apply wpC_skip (termsT p Sh E Dn)
  co_then
  co_apply wpX_seq
  co_apply wpX_region
  simp only [List.size_toArray, List.length_cons, List.length_nil, Nat.reduceAdd, Nat.zero_add, List.range, List.range.loop]
  co_apply opsX_cons_k rfl (by rfl)
  intro _ hR K hK
  replace hF := (KM.rely n) hF hR
  clear hR
  skip
  go_simp
  try (unfold stored; go_simp)
  refine hK _ _ ⟨?_, ?_⟩
  · co_still (termsT p Sh E Dn)
  clear hK K
  try walk_nrm
  co_apply opsX_cons_k rfl (by rfl)
  intro _ hR K hK
  replace hF := (KM.rely n) hF hR
  clear hR
  skip
  go_simp
  try (unfold stored; go_simp)
  refine hK _ _ ⟨?_, ?_⟩
  · co_still (termsT p Sh E Dn)
  clear hK K
  try walk_nrm
  co_apply opsX_cons_k rfl (by rfl)
  intro _ hR K hK
  replace hF := (KM.rely n) hF hR
  clear hR
  skip
  go_simp
  try (unfold stored; go_simp)
  refine hK _ _ ⟨?_, ?_⟩
  · co_still (termsT p Sh E Dn)
  clear hK K
  try walk_nrm
  co_apply opsX_cons_k rfl (by rfl)
  intro _ hR K hK
  replace hF := (KM.rely n) hF hR
  clear hR
  skip
  go_simp
  try (unfold stored; go_simp)
  refine hK _ _ ⟨?_, ?_⟩
  · co_still (termsT p Sh E Dn)
  clear hK K
  try walk_nrm
  co_apply opsX_call rfl (by rfl) rfl
  · walk_nrm
    exact g1 kc pc Q cap qc hRQ hc1 h0 lv (by omega) hp hk.sz hrow vs _ hF
  intro s' v w' hv
  obtain ⟨rfl, hM⟩ := hv
  clear hF
  have hF := hM
  clear hM
  walk_nrm
  co_apply opsX_nil
  try simp only [ThenX]
  try co_then
  co_apply wpX_seqC
  co_reg (termsT p Sh E Dn)
  co_op (KM.rely n) hF (co_still (termsT p Sh E Dn))
  co_op (KM.rely n) hF (co_still (termsT p Sh E Dn))
  co_op (KM.rely n) hF (co_still (termsT p Sh E Dn))
  co_op (KM.rely n) hF (co_still (termsT p Sh E Dn))
  co_op (KM.rely n) hF (co_still (termsT p Sh E Dn))
  co_opw (KM.rely n) hF (have hc := hF.pp.cell hp.lv) (refine dt_read ?_; co_evs (exact hF.evP n _))
  clear hc
  co_op (KM.rely n) hF (co_still (termsT p Sh E Dn))
  co_op (KM.rely n) hF (co_still (termsT p Sh E Dn))
  co_op (KM.rely n) hF (co_still (termsT p Sh E Dn))
  co_op (KM.rely n) hF (co_still (termsT p Sh E Dn))
  co_op (KM.rely n) hF (co_still (termsT p Sh E Dn))
  co_opw (KM.rely n) hF (have hc := hF.pp.cell hp.lv; have hz := hF.pp.thaw 5) (refine hF.dtP n ?_; intro e he; have hm := mem_listed he; simp [go_sem, *] at hm; exact hm)
  clear hc hz
  replace hF := hF.setP n 5 (.int .i64 ((lv : Int) + 1))
  have hp1 := hp.setLv ((lv : Int) + 1)
  co_apply opsC_nil (termsT p Sh E Dn)
  co_then
  co_apply wpX_seqC
  co_reg (termsT p Sh E Dn)
  co_op (KM.rely n) hF (co_still (termsT p Sh E Dn))
  co_op (KM.rely n) hF (co_still (termsT p Sh E Dn))
  co_op (KM.rely n) hF (co_still (termsT p Sh E Dn))
  co_op (KM.rely n) hF (co_still (termsT p Sh E Dn))
  co_opw (KM.rely n) hF (have hc := hF.pp.cell hp1.us; have hz := hF.pp.thaw 6) (refine hF.dtP n ?_; intro e he; have hm := mem_listed he; simp [go_sem, *] at hm; exact hm)
  clear hc hz
  replace hF := hF.setP n 6 (.int .i64 0)
  co_apply opsC_nil (termsT p Sh E Dn)
  co_then
  co_apply wpX_of
  co_reg (termsT p Sh E Dn)
  co_op (KM.rely n) hF (co_still (termsT p Sh E Dn))
  co_op (KM.rely n) hF (co_still (termsT p Sh E Dn))
  co_op (KM.rely n) hF (co_still (termsT p Sh E Dn))
  co_op (KM.rely n) hF (co_still (termsT p Sh E Dn))
  co_apply opsC_call (termsT p Sh E Dn) rfl (by rfl) rfl
  · walk_nrm
    exact g2 (kc.setIfInBounds (6 + lv) (.slice (some ⟨Q, 0, none⟩) 0 cap)) ((pc.setIfInBounds 5 (.int .i64 ((lv : Int) + 1))).setIfInBounds 6 (.int .i64 0)) Q (qc.setIfInBounds 0 (.pointer none)) (lv + 1) (by omega) (by rw [c1]; exact hp2) (by simp [hk.sz]) (set_ne hnext (by omega)) _ hF
  intro v w' hv
  obtain ⟨Q', cap', qc', h1, h2, h3, h4, h6, h5, hM⟩ := hv
  clear hF
  have hF := hM
  clear hM
  walk_nrm
  co_apply opsC_nil (termsT p Sh E Dn)
  exact ⟨rfl, _, resultsC_none (by rfl) _, rfl, Q', cap', qc', h1, h2, h3, h4, h6, h5, hF⟩
set_option maxRecDepth 100000 in
set_option maxHeartbeats 4000000 in
theorem turn_x2 (n : En p Sh E Dn a) : ∃ k, ∀ (kc pc : Array Value) (Q cap : Nat) (qc : Array Value) (hRQ : a.R ≠ Q) (hc1 : 1 ≤ cap) (h0 : qc[0]? = some (.pointer (some ⟨a.P, 0, none⟩))) (s : Nat → Int) (bo now : Int) (r0 r1 r2 : Value) (hk : Kst a kc s bo now r0 r1 r2) {st status at_ used : Int} {r m : Nat → Int} (hp : Pst pc st status at_ (2 : Nat) used r m) (hu : s 2 ≤ used) (hrow : kc[6 + 2]? = some (.slice (some ⟨Q, 0, none⟩) 1 cap)) (hQN : p.N0 ≤ Q) (hcm : cap ≤ maxLen) (hcs : qc.size = cap) (vs : List Value) (w : World), KM p Sh E Dn a kc pc Q qc w →
      CallsX (tellF Tryd.prog p Sh E Dn PostB Aft) Tryd.prog false 61 #[.pointer (some ⟨a.K, 0, none⟩), .pointer (some ⟨a.P, 0, none⟩)] k vs w fun s' _ w' => s' = vs ∧ KM p Sh E Dn a ((kc.setIfInBounds (6 + 2) (.slice (some ⟨Q, 0, none⟩) 0 cap)).setIfInBounds (6 + 2) (.slice (some ⟨Q, 0, none⟩) 1 cap)) ((pc.setIfInBounds 5 (.int .i64 2)).setIfInBounds 6 (.int .i64 0)) Q ((qc.setIfInBounds 0 (.pointer none)).setIfInBounds 0 (.pointer (some ⟨a.P, 0, none⟩))) w' := by
  obtain ⟨n1, g1⟩ := leave_x (PostB := PostB) (Aft := Aft) n
  obtain ⟨n2, g2⟩ := join_c1 n
  co_apply Exists.intro
  intro kc pc Q cap qc hRQ hc1 h0 s bo now r0 r1 r2 hk st status at_ used r m hp hu hrow hQN hcm hcs vs w hF
  have em := fun (w : World) (es : Array Event) (x y : Int) => (by simp [Builtin.min_, Builtin.min2] : (Builtin.min_ #[3, 3] 3 #[.int .i64 x, .int .i64 y]).events Tryd.prog w es = es)
  have q1 : IntKind.i64.wrap 3 = 3 := by decide
  have e1 := fun (w : World) (es : Array Event) => events_indexAt_array (P := Tryd.prog) (w := w) (es := es) 27 _ 3 ⟨a.K, 0, none⟩ .i64 2 Tryd.underlying27 (by omega)
  have hp2 := (hp.setLv 2).setUs 0
  co_apply callsX_of_wpX Tryd.func61 (by rfl) rfl
  simp only [Tryd.ntmps61, List.size_toArray, List.length_cons, List.length_nil, Nat.reduceAdd, Nat.reduceSub, Array.replicate_succ, Array.replicate_zero, List.push_toArray, List.append_toArray, List.nil_append, List.cons_append]
  co_apply wpX_seqC
  co_apply wpC_seq (termsT p Sh E Dn)
  co_held (termsT p Sh E Dn) (drawT p Sh E Dn) (ownDrawT p E Dn) (KM p Sh E Dn a kc pc Q qc) (KM.rely n) hF
  co_take 0 (termsT p Sh E Dn) (KM.rely n) hF hw (skip) (co_still (termsT p Sh E Dn))
  co_take 1 (termsT p Sh E Dn) (KM.rely n) hF hw (skip) (co_still (termsT p Sh E Dn))
  co_take 2 (termsT p Sh E Dn) (KM.rely n) hF hw (skip) (co_still (termsT p Sh E Dn))
  co_take 3 (termsT p Sh E Dn) (KM.rely n) hF hw (skip) (co_still (termsT p Sh E Dn))
  co_take 4 (termsT p Sh E Dn) (KM.rely n) hF hw (have hc := hw.pp.cell hp.us) (refine dt_read ?_; co_evs (exact hw.evP n _))
  co_take 5 (termsT p Sh E Dn) (KM.rely n) hF hw (skip) (co_still (termsT p Sh E Dn))
  co_take 6 (termsT p Sh E Dn) (KM.rely n) hF hw (skip) (co_still (termsT p Sh E Dn))
  co_take 7 (termsT p Sh E Dn) (KM.rely n) hF hw (skip) (co_still (termsT p Sh E Dn))
  co_take 8 (termsT p Sh E Dn) (KM.rely n) hF hw (skip) (co_still (termsT p Sh E Dn))
  co_take 9 (termsT p Sh E Dn) (KM.rely n) hF hw (skip) (co_still (termsT p Sh E Dn))
  co_take 10 (termsT p Sh E Dn) (KM.rely n) hF hw (have hc := hw.pp.cell hp.lv) (refine dt_read ?_; co_evs (exact hw.evP n _))
  co_take 11 (termsT p Sh E Dn) (KM.rely n) hF hw (skip) (co_still (termsT p Sh E Dn))
  co_take 12 (termsT p Sh E Dn) (KM.rely n) hF hw (skip) (co_still (termsT p Sh E Dn))
  co_take 13 (termsT p Sh E Dn) (KM.rely n) hF hw (skip) (co_still (termsT p Sh E Dn))
  co_take 14 (termsT p Sh E Dn) (KM.rely n) hF hw (skip) (co_still (termsT p Sh E Dn))
  co_take 15 (termsT p Sh E Dn) (KM.rely n) hF hw (have hc := hw.k.cell (hk.sl 2 (by omega))) (refine dt_read ?_; co_evs (exact hw.evK n _))
  co_take 16 (termsT p Sh E Dn) (KM.rely n) hF hw (skip) (co_still (termsT p Sh E Dn))
  co_done
  co_apply wpC_cond (termsT p Sh E Dn) (t := false)
  focus (simp [Act.eval]; omega)
  simp only [if_true, if_false, Bool.false_eq_true, reduceIte]
  co_apply wpC_skip (termsT p Sh E Dn)
  co_then
  co_apply wpX_seq
  co_apply wpX_region
  simp only [List.size_toArray, List.length_cons, List.length_nil, Nat.reduceAdd, Nat.zero_add, List.range, List.range.loop]
  co_apply opsX_cons_k rfl (by rfl)
  intro _ hR K hK
  replace hF := (KM.rely n) hF hR
  clear hR
  skip
  go_simp
  try (unfold stored; go_simp)
  refine hK _ _ ⟨?_, ?_⟩
  · co_still (termsT p Sh E Dn)
  clear hK K
  try walk_nrm
  co_apply opsX_cons_k rfl (by rfl)
  intro _ hR K hK
  replace hF := (KM.rely n) hF hR
  clear hR
  skip
  go_simp
  try (unfold stored; go_simp)
  refine hK _ _ ⟨?_, ?_⟩
  · co_still (termsT p Sh E Dn)
  clear hK K
  try walk_nrm
  co_apply opsX_cons_k rfl (by rfl)
  intro _ hR K hK
  replace hF := (KM.rely n) hF hR
  clear hR
  skip
  go_simp
  try (unfold stored; go_simp)
  refine hK _ _ ⟨?_, ?_⟩
  · co_still (termsT p Sh E Dn)
  clear hK K
  try walk_nrm
  co_apply opsX_cons_k rfl (by rfl)
  intro _ hR K hK
  replace hF := (KM.rely n) hF hR
  clear hR
  skip
  go_simp
  try (unfold stored; go_simp)
  refine hK _ _ ⟨?_, ?_⟩
  · co_still (termsT p Sh E Dn)
  clear hK K
  try walk_nrm
  co_apply opsX_call rfl (by rfl) rfl
  · walk_nrm
    exact g1 kc pc Q cap qc hRQ hc1 h0 2 (by omega) hp hk.sz hrow vs _ hF
  intro s' v w' hv
  obtain ⟨rfl, hM⟩ := hv
  clear hF
  have hF := hM
  clear hM
  walk_nrm
  co_apply opsX_nil
  try simp only [ThenX]
  try co_then
  co_apply wpX_seqC
  co_reg (termsT p Sh E Dn)
  co_op (KM.rely n) hF (co_still (termsT p Sh E Dn))
  co_op (KM.rely n) hF (co_still (termsT p Sh E Dn))
  co_op (KM.rely n) hF (co_still (termsT p Sh E Dn))
  co_op (KM.rely n) hF (co_still (termsT p Sh E Dn))
  co_op (KM.rely n) hF (co_still (termsT p Sh E Dn))
  co_opw (KM.rely n) hF (have hc := hF.pp.cell hp.lv) (refine dt_read ?_; co_evs (exact hF.evP n _))
  clear hc
  co_op (KM.rely n) hF (co_still (termsT p Sh E Dn))
  co_op (KM.rely n) hF (co_still (termsT p Sh E Dn))
  co_op (KM.rely n) hF (co_still (termsT p Sh E Dn))
  co_op (KM.rely n) hF (co_still (termsT p Sh E Dn))
  co_op (KM.rely n) hF (co_still (termsT p Sh E Dn))
  co_opw (KM.rely n) hF (have hc := hF.pp.cell hp.lv; have hz := hF.pp.thaw 5) (refine hF.dtP n ?_; intro e he; have hm := mem_listed he; simp [go_sem, *] at hm; exact hm)
  clear hc hz
  replace hF := hF.setP n 5 (.int .i64 2)
  have hp1 := hp.setLv 2
  co_apply opsC_nil (termsT p Sh E Dn)
  co_then
  co_apply wpX_seqC
  co_reg (termsT p Sh E Dn)
  co_op (KM.rely n) hF (co_still (termsT p Sh E Dn))
  co_op (KM.rely n) hF (co_still (termsT p Sh E Dn))
  co_op (KM.rely n) hF (co_still (termsT p Sh E Dn))
  co_op (KM.rely n) hF (co_still (termsT p Sh E Dn))
  co_opw (KM.rely n) hF (have hc := hF.pp.cell hp1.us; have hz := hF.pp.thaw 6) (refine hF.dtP n ?_; intro e he; have hm := mem_listed he; simp [go_sem, *] at hm; exact hm)
  clear hc hz
  replace hF := hF.setP n 6 (.int .i64 0)
  co_apply opsC_nil (termsT p Sh E Dn)
  co_then
  co_apply wpX_of
  co_reg (termsT p Sh E Dn)
  co_op (KM.rely n) hF (co_still (termsT p Sh E Dn))
  co_op (KM.rely n) hF (co_still (termsT p Sh E Dn))
  co_op (KM.rely n) hF (co_still (termsT p Sh E Dn))
  co_op (KM.rely n) hF (co_still (termsT p Sh E Dn))
  co_apply opsC_call (termsT p Sh E Dn) rfl (by rfl) rfl
  · walk_nrm
    exact g2 (kc.setIfInBounds (6 + 2) (.slice (some ⟨Q, 0, none⟩) 0 cap)) ((pc.setIfInBounds 5 (.int .i64 2)).setIfInBounds 6 (.int .i64 0)) Q (qc.setIfInBounds 0 (.pointer none)) 2 (by omega) hp2 (by simp [hk.sz]) cap (set_eq (by rw [hk.sz]; decide)) hQN hRQ hc1 hcm (by simp [hcs]) _ hF
  intro v w' hv
  have hM := hv
  clear hv
  clear hF
  have hF := hM
  clear hM
  walk_nrm
  co_apply opsC_nil (termsT p Sh E Dn)
  exact ⟨rfl, _, resultsC_none (by rfl) _, rfl, hF⟩
end Go.Proofs.YtbnaccilnilcmaaDoor
/-
  The turn, and who is first, in terms of the situation.
  No condition but those that each statement names.
-/
namespace Go.Proofs.YtbnaccilnilcmaaDoor
open Go.Conc Go.RowKit Go.Hx

variable {p : Par} {Sh : Loc → Prop} {E Dn : Nat} {a : Ad} {PostB : World → Prop} {Aft : Goroutine → World → Prop}

theorem callsC_more {P : Program} {main : Bool} {R : World → World → Prop} {D : World → World → Array Event → Prop} {f : FuncId} {args : Array Value} {k k' : Nat} {w : World} {Post : Value → World → Prop} (h : CallsC P main R D f args k w Post) (hk : k ≤ k') : CallsC P main R D f args k' w Post := by
  obtain ⟨g, c, h1, h2, h3, h4⟩ := h
  exact ⟨g, c, h1, h2, h3, wpC_more h4 hk⟩
theorem callsX_more {σ : Type} {F : Fam σ} {P : Program} {main : Bool} {f : FuncId} {args : Array Value} {k k' : Nat} {s : σ} {w : World} {Post : σ → Value → World → Prop} (h : CallsX F P main f args k s w Post) (hk : k ≤ k') : CallsX F P main f args k' s w Post := by
  obtain ⟨g, c, h1, h2, h3, h4⟩ := h
  exact ⟨g, c, h1, h2, h3, wpX_more h4 hk⟩

theorem turn_s (n : En p Sh E Dn a) : ∃ k, ∀ (fr : Bool) (hfr : fr = true) (x : Now) (vs : List Value) (w : World), Sit p Sh E Dn a fr x w →
    CallsX (tellF Tryd.prog p Sh E Dn PostB Aft) Tryd.prog false 61 #[.pointer (some ⟨a.K, 0, none⟩), .pointer (some ⟨a.P, 0, none⟩)] k vs w fun s' _ w' => s' = vs ∧ Sit p Sh E Dn a fr { x with lv := (nxt x.s x.lv x.used).1, used := (nxt x.s x.lv x.used).2 } w' := by
  obtain ⟨k0, g0⟩ := turn_c0 n
  obtain ⟨k1, g1⟩ := turn_x1 (PostB := PostB) (Aft := Aft) n
  obtain ⟨k2, g2⟩ := turn_x2 (PostB := PostB) (Aft := Aft) n
  refine ⟨k0 + k1 + k2, fun fr hfr x vs w ⟨kc, pc, Q, cap, qc, h⟩ => ?_⟩
  obtain ⟨r0, r1, r2, hk⟩ := h.ks
  by_cases hu : x.used < x.s x.lv
  · have e : nxt x.s x.lv x.used = (x.lv, x.used) := by simp [nxt, hu]
    rw [e]
    exact callsX_more (callsX_of (CallsC.mono (g0 kc pc Q qc x.s x.bo x.now r0 r1 r2 hk x.lv h.hlv h.ps hu w h.km) fun v w' hm => ⟨rfl, kc, pc, Q, cap, qc, h.at hm⟩)) (by omega)
  · by_cases hl : x.lv < 2
    · have e : nxt x.s x.lv x.used = (x.lv + 1, 0) := by simp [nxt, hu, hl]
      rw [e]
      refine callsX_more (CallsX.mono (g1 kc pc Q cap qc h.rq h.c1 h.q0 x.s x.bo x.now r0 r1 r2 hk x.lv hl h.ps (by omega) h.row (h.high _ (by omega) (by omega)) vs w h.km) fun s' v w' hm => ?_) (by omega)
      obtain ⟨hs, Q', cap', qc', h1, h2, h3, h4, h5, h6, h7⟩ := hm
      exact ⟨hs, h.down n hl h1 h2 h3 h4 h6 h5 h7⟩
    · have hl2 : x.lv = 2 := by have := h.hlv; omega
      have e : nxt x.s x.lv x.used = (2, 0) := by simp [nxt, hu, hl]
      rw [e]
      have hps := h.ps
      have hrow := h.row
      rw [hl2] at hps hrow hu
      refine callsX_more (CallsX.mono (g2 kc pc Q cap qc h.rq h.c1 h.q0 x.s x.bo x.now r0 r1 r2 hk hps (by omega) hrow (h.nq hfr hl2) h.cm h.cs vs w h.km) fun s' v w' hm => ?_) (by omega)
      exact ⟨hm.1, h.stay hl2 hm.2⟩

theorem first_s (n : En p Sh E Dn a) : ∃ k, ∀ (fr : Bool) (x : Now) (kc pc : Array Value) (Q cap : Nat) (qc : Array Value) (w : World), SitC p Sh E Dn a fr x kc pc Q cap qc w →
    CallsC Tryd.prog false (RB p E Dn) (DT p Sh E Dn) 57 #[.pointer (some ⟨a.K, 6, none⟩)] k w fun v w' => v = .pointer (some ⟨a.P, 0, none⟩) ∧ KM p Sh E Dn a kc pc Q qc w' := by
  obtain ⟨k0, g0⟩ := first_c0 n
  obtain ⟨k1, g1⟩ := first_c1 n
  obtain ⟨k2, g2⟩ := first_c2 n
  refine ⟨k0 + k1 + k2, fun fr x kc pc Q cap qc w h => ?_⟩
  obtain ⟨r0, r1, r2, hk⟩ := h.ks
  have hrow := h.row
  have hlv := h.hlv
  generalize hl : x.lv = l at hrow hlv
  rcases l with _ | _ | _ | l
  · obtain rfl : r0 = .slice (some ⟨Q, 0, none⟩) 1 cap := Option.some.inj (hk.r0.symm.trans hrow)
    exact callsC_more (g0 kc pc Q qc x.s x.bo x.now cap r1 r2 hk h.q0 w h.km) (by omega)
  · obtain rfl : r1 = .slice (some ⟨Q, 0, none⟩) 1 cap := Option.some.inj (hk.r1.symm.trans hrow)
    obtain ⟨b0, c0, h0⟩ := h.low 0 (by omega)
    obtain rfl : r0 = .slice b0 0 c0 := Option.some.inj (hk.r0.symm.trans h0)
    exact callsC_more (g1 kc pc Q qc x.s x.bo x.now cap b0 c0 r2 hk h.q0 w h.km) (by omega)
  · obtain rfl : r2 = .slice (some ⟨Q, 0, none⟩) 1 cap := Option.some.inj (hk.r2.symm.trans hrow)
    obtain ⟨b0, c0, h0⟩ := h.low 0 (by omega)
    obtain rfl : r0 = .slice b0 0 c0 := Option.some.inj (hk.r0.symm.trans h0)
    obtain ⟨b1, c1, h1⟩ := h.low 1 (by omega)
    obtain rfl : r1 = .slice b1 0 c1 := Option.some.inj (hk.r1.symm.trans h1)
    exact callsC_more (g2 kc pc Q qc x.s x.bo x.now cap b0 b1 c0 c1 hk h.q0 w h.km) (by omega)
  · omega
end Go.Proofs.YtbnaccilnilcmaaDoor
