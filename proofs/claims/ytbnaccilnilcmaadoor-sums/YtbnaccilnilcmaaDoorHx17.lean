/-
  The worker takes a step, in company: an instruction that is no trap.
  No condition but those that each statement names.
-/
import Derived.Test.YtbnaccilnilcmaaDoorHx14
import Derived.Test.YtbnaccilnilcmaaDoorHx09
import Derived.Test.YtbnaccilnilcmaaDoorHx10
import Derived.Laws.Tables
set_option linter.unusedVariables false
set_option linter.unusedSimpArgs false
set_option linter.unusedSectionVars false
namespace Go.Proofs.YtbnaccilnilcmaaDoor
open Go.Conc Go.RowKit Go.Hx

variable {p : Par} {Sh : Loc → Prop} {E Dn : Nat} {a : Ad}

set_option maxRecDepth 100000 in
set_option maxHeartbeats 4000000 in
theorem step_c (n : En p Sh E Dn a) (nd : Nat) : ∃ k, ∀ (kc pc : Array Value) (Q : Nat) (qc : Array Value) (s : Nat → Int) (bo now : Int) (r0 r1 r2 : Value) (hk : Kst a kc s bo now r0 r1 r2) {st status lv used : Int} {r m : Nat → Int} (q : Nat) (hp : Pst pc st status q lv used r m) (hq : q < a.gn) (hgn : a.gn ≤ 256) (o x y z : Int) (ho9 : o ≠ 9) (g0 : a.gc[q * 4]? = some (.int .u8 o)) (g1 : a.gc[q * 4 + 1]? = some (.int .u8 x)) (g2 : a.gc[q * 4 + 2]? = some (.int .u8 y)) (g3 : a.gc[q * 4 + 3]? = some (.int .u8 z)) (Post : Value → World → Prop) (hPost : ∀ v w w₁, Post v w → RB p E Dn w w₁ → Post v w₁) (hdo : ∀ w, KM p Sh E Dn a kc pc Q qc w → CallsC Tryd.prog false (RB p E Dn) (DT p Sh E Dn) 68 #[.pointer (some ⟨a.P, 0, none⟩), .agg #[.int .u8 o, .int .u8 x, .int .u8 y, .int .u8 z]] nd w Post) (w : World), KM p Sh E Dn a kc pc Q qc w →
      CallsC Tryd.prog false (RB p E Dn) (DT p Sh E Dn) 60 #[.pointer (some ⟨a.K, 0, none⟩), .pointer (some ⟨a.P, 0, none⟩), .chan (some E)] k w Post := by
  co_apply Exists.intro
  intro kc pc Q qc s bo now r0 r1 r2 hk st status lv used r m q hp hq hgn o x y z ho9 g0 g1 g2 g3 Post hPost hdo w hF
  have b1 : (q : Int) < (a.gn : Int) := by omega
  have t1 : decide ((a.gn : Int) ≤ (q : Int)) = false := by simp; omega
  have t2 : (o == 9) = false := by simp [ho9]
  co_apply callsC_of_wpC Tryd.func60 (by rfl) rfl
  simp only [Tryd.ntmps60, List.size_toArray, List.length_cons, List.length_nil, Nat.reduceAdd, Nat.reduceSub, Array.replicate_succ, Array.replicate_zero, List.push_toArray, List.append_toArray, List.nil_append, List.cons_append]
  co_stmt (termsT p Sh E Dn) (KM.rely n) hF (co_still (termsT p Sh E Dn))
  co_apply wpC_seq (termsT p Sh E Dn)
  co_apply wpC_seq (termsT p Sh E Dn)
  co_held (termsT p Sh E Dn) (drawT p Sh E Dn) (ownDrawT p E Dn) (KM p Sh E Dn a kc pc Q qc) (KM.rely n) hF
  co_take 0 (termsT p Sh E Dn) (KM.rely n) hF hw (skip) (co_still (termsT p Sh E Dn))
  co_take 1 (termsT p Sh E Dn) (KM.rely n) hF hw (skip) (co_still (termsT p Sh E Dn))
  co_take 2 (termsT p Sh E Dn) (KM.rely n) hF hw (skip) (co_still (termsT p Sh E Dn))
  co_take 3 (termsT p Sh E Dn) (KM.rely n) hF hw (skip) (co_still (termsT p Sh E Dn))
  co_take 4 (termsT p Sh E Dn) (KM.rely n) hF hw (have hc := hw.pp.cell hp.at_) (refine dt_read ?_; co_evs (exact hw.evP n _))
  co_take 5 (termsT p Sh E Dn) (KM.rely n) hF hw (skip) (co_still (termsT p Sh E Dn))
  co_take 6 (termsT p Sh E Dn) (KM.rely n) hF hw (skip) (co_still (termsT p Sh E Dn))
  co_take 7 (termsT p Sh E Dn) (KM.rely n) hF hw (skip) (co_still (termsT p Sh E Dn))
  co_take 8 (termsT p Sh E Dn) (KM.rely n) hF hw (have hc := hw.k.cell hk.pr) (refine dt_read ?_; co_evs (exact hw.evK n _))
  co_take 9 (termsT p Sh E Dn) (KM.rely n) hF hw (skip) (co_still (termsT p Sh E Dn))
  co_take 10 (termsT p Sh E Dn) (KM.rely n) hF hw (skip) (co_still (termsT p Sh E Dn))
  co_done
  co_apply wpC_cond (termsT p Sh E Dn) (t := false)
  focus (simp [Act.eval]; omega)
  simp only [if_true, if_false, Bool.false_eq_true, reduceIte]
  co_apply wpC_skip (termsT p Sh E Dn)
  co_then
  co_apply wpC_seq (termsT p Sh E Dn)
  co_held (termsT p Sh E Dn) (drawT p Sh E Dn) (ownDrawT p E Dn) (KM p Sh E Dn a kc pc Q qc) (KM.rely n) hF
  co_take 0 (termsT p Sh E Dn) (KM.rely n) hF hw (skip) (co_still (termsT p Sh E Dn))
  co_take 1 (termsT p Sh E Dn) (KM.rely n) hF hw (skip) (co_still (termsT p Sh E Dn))
  co_take 2 (termsT p Sh E Dn) (KM.rely n) hF hw (skip) (co_still (termsT p Sh E Dn))
  co_take 3 (termsT p Sh E Dn) (KM.rely n) hF hw (have hc := hw.k.cell hk.pr) (refine dt_read ?_; co_evs (exact hw.evK n _))
  co_take 4 (termsT p Sh E Dn) (KM.rely n) hF hw (skip) (co_still (termsT p Sh E Dn))
  co_take 5 (termsT p Sh E Dn) (KM.rely n) hF hw (skip) (co_still (termsT p Sh E Dn))
  co_take 6 (termsT p Sh E Dn) (KM.rely n) hF hw (skip) (co_still (termsT p Sh E Dn))
  co_take 7 (termsT p Sh E Dn) (KM.rely n) hF hw (skip) (co_still (termsT p Sh E Dn))
  co_take 8 (termsT p Sh E Dn) (KM.rely n) hF hw (have hc := hw.pp.cell hp.at_) (refine dt_read ?_; co_evs (exact hw.evP n _))
  co_take 9 (termsT p Sh E Dn) (KM.rely n) hF hw (skip) (co_still (termsT p Sh E Dn))
  co_take 10 (termsT p Sh E Dn) (KM.rely n) hF hw (have c0 := hw.gg.cell g0; have c1 := hw.gg.cell g1; have c2 := hw.gg.cell g2; have c3 := hw.gg.cell g3) (refine dt_read ?_; intro e he; have hm := mem_listed he; simp [go_sem, *] at hm; rcases hm with rfl | rfl | rfl | rfl <;> exact hw.evG n _)
  co_applyP anyCH_all (rs := [11]) (by kernel_rfl) (by decide)
  intro qq hqq
  obtain rfl : qq = 11 := by simpa using hqq
  co_applyP opC_k rfl (by rfl)
  intro _ hR K hK
  replace hF := KM.rely n hF hR
  clear hR
  go_simp
  refine hK _ _ ⟨hF.dtAlloc n (by decide) ?_, hF.alloc _, ?_⟩
  · intro e he
    have hm := mem_listed he
    simp [go_sem, *] at hm
  clear hK K
  have ho := hF.off
  replace hF := KB.new n hF 110 #[.int .u8 0, .int .u8 0, .int .u8 0, .int .u8 0]
  try walk_nrm
  co_applyP anyCH_all (rs := [12]) (by kernel_rfl) (by decide)
  intro qq hqq
  obtain rfl : qq = 12 := by simpa using hqq
  co_applyP opC_k rfl (by rfl)
  intro _ hR K hK
  replace hF := KB.rely n (by decide) hF hR
  clear hR
  have c0 := hF.b.cell (i := 0) rfl
  have c1 := hF.b.cell (i := 1) rfl
  have c2 := hF.b.cell (i := 2) rfl
  have c3 := hF.b.cell (i := 3) rfl
  have z0 := hF.b.thaw 0
  have z1 := hF.b.thaw 1
  have z2 := hF.b.thaw 2
  have z3 := hF.b.thaw 3
  go_simp
  try (unfold stored; go_simp)
  refine hK _ _ ⟨hF.dt4 n (by decide) ho _ _ _ _ ?_, (((((hF.setB ho 0 (.int .u8 o)).setB ho 1 (.int .u8 x)).setB ho 2 (.int .u8 y)).setB ho 3 (.int .u8 z))).m, ?_⟩
  · intro e he
    have hm := mem_listed he
    simp [go_sem, *] at hm
    rcases hm with rfl | rfl | rfl | rfl <;> exact ⟨_, rfl⟩
  clear hK K c0 c1 c2 c3 z0 z1 z2 z3
  replace hF := ((((hF.setB ho 0 (.int .u8 o)).setB ho 1 (.int .u8 x)).setB ho 2 (.int .u8 y)).setB ho 3 (.int .u8 z))
  simp only [List.setIfInBounds_toArray, List.set_cons_zero, List.set_cons_succ] at hF
  try walk_nrm
  co_done
  co_apply wpC_seq (termsT p Sh E Dn)
  co_apply wpC_seq (termsT p Sh E Dn)
  co_reg (termsT p Sh E Dn)
  co_op (KB.rely n (by decide)) hF (co_still (termsT p Sh E Dn))
  co_opw (KB.rely n (by decide)) hF (have hc := hF.b.cell (i := 0) rfl) (refine dt_read ?_; co_evs (exact hF.ev n (by decide) _))
  clear hc
  co_op (KB.rely n (by decide)) hF (co_still (termsT p Sh E Dn))
  co_apply opsC_nil (termsT p Sh E Dn)
  co_then
  co_apply wpC_cond (termsT p Sh E Dn) (t := false)
  focus (exact rfl)
  simp only [if_true, if_false, Bool.false_eq_true, reduceIte]
  co_apply wpC_skip (termsT p Sh E Dn)
  co_then
  co_apply wpC_seq (termsT p Sh E Dn)
  co_reg (termsT p Sh E Dn)
  co_op (KB.rely n (by decide)) hF (co_still (termsT p Sh E Dn))
  co_opw (KB.rely n (by decide)) hF (have h0 := hF.b.cell (i := 0) rfl; have h1 := hF.b.cell (i := 1) rfl; have h2 := hF.b.cell (i := 2) rfl; have h3 := hF.b.cell (i := 3) rfl) (refine dt_read ?_; intro e he; have hm := mem_listed he; simp [go_sem, *] at hm; rcases hm with rfl | rfl | rfl | rfl <;> exact hF.ev n (by decide) _)
  clear h0 h1 h2 h3
  co_apply opsC_call (termsT p Sh E Dn) rfl (by rfl) rfl
  · walk_nrm
    exact hdo _ hF.m
  intro v w' hv
  walk_nrm
  clear hF
  have hF := hv
  clear hv
  co_op (hPost _ _ _) hF (co_still (termsT p Sh E Dn))
  co_apply opsC_nil (termsT p Sh E Dn)
  co_then
  co_apply wpC_ret (termsT p Sh E Dn)
  exact ⟨rfl, v, resultsC_tmp (t := 6) (by rfl) _, hF⟩
end Go.Proofs.YtbnaccilnilcmaaDoor
/-
  The worker tells a word.
  No condition but those that each statement names.
-/
namespace Go.Proofs.YtbnaccilnilcmaaDoor
open Go.Conc Go.RowKit Go.Hx

variable {p : Par} {Sh : Loc → Prop} {E Dn : Nat} {a : Ad} {PostB : World → Prop} {Aft : Goroutine → World → Prop}

/-- An event as it is told. -/
def evt (now kind id x : Int) : Value := .agg #[.int .i64 now, .int .i64 kind, .int .i64 id, .int .i64 x]

theorem ev_build44 (now kind id x : Int) (w : World) (es : Array Event) : (Instr.build 44 #[(0, .int .i64 now), (1, .int .i64 kind), (2, .int .i64 id), (3, .int .i64 x)]).events Tryd.prog w es = es := by
  have hz : (zeroValue 44).run Tryd.prog w = .ok (.agg #[.int .i64 0, .int .i64 0, .int .i64 0, .int .i64 0]) w := by kernel_rfl
  have hs : (sizeOf 3).run Tryd.prog w = .ok 1 w := by kernel_rfl
  simp [Instr.build, hz, run_underlying Tryd.underlying44, List.mapM_cons, hs]
  split <;> simp

set_option maxRecDepth 100000 in
set_option maxHeartbeats 4000000 in
theorem tell_x (n : En p Sh E Dn a) : ∃ k, ∀ (kc pc : Array Value) (Q : Nat) (qc : Array Value) (s : Nat → Int) (bo now : Int) (r0 r1 r2 : Value) (hk : Kst a kc s bo now r0 r1 r2) (kind id x : Int) (vs : List Value) (w : World), KM p Sh E Dn a kc pc Q qc w →
      CallsX (tellF Tryd.prog p Sh E Dn PostB Aft) Tryd.prog false 58 #[.pointer (some ⟨a.K, 0, none⟩), .chan (some E), .int .i64 kind, .int .i64 id, .int .i64 x] k (evt now kind id x :: vs) w fun s' _ w' => s' = vs ∧ KM p Sh E Dn a kc pc Q qc w' := by
  co_apply Exists.intro
  intro kc pc Q qc s bo now r0 r1 r2 hk kind id x vs w hF
  have bd := fun (w : World) => run_build (P := Tryd.prog) w 44 #[(0, .int .i64 now), (1, .int .i64 kind), (2, .int .i64 id), (3, .int .i64 x)] #[.int .i64 now, .int .i64 kind, .int .i64 id, .int .i64 x] (by kernel_rfl)
  have be := fun (w : World) (es : Array Event) => ev_build44 now kind id x w es
  co_apply callsX_of_wpX Tryd.func58 (by rfl) rfl
  simp only [Tryd.ntmps58, List.size_toArray, List.length_cons, List.length_nil, Nat.reduceAdd, Nat.reduceSub, Array.replicate_succ, Array.replicate_zero, List.push_toArray, List.append_toArray, List.nil_append, List.cons_append]
  co_apply wpX_region
  simp only [List.size_toArray, List.length_cons, List.length_nil, Nat.reduceAdd, Nat.zero_add, List.range, List.range.loop]
  co_apply opsX_cons_k rfl (by rfl)
  intro _ hR K hK
  replace hF := (KM.rely n) hF hR
  clear hR
  skip
  go_simp
  try (unfold stored; go_simp)
  refine hK _ _ ⟨?_, ?_⟩
  · co_still (termsT p Sh E Dn)
  clear hK K
  try walk_nrm
  co_apply opsX_cons_k rfl (by rfl)
  intro _ hR K hK
  replace hF := (KM.rely n) hF hR
  clear hR
  skip
  go_simp
  try (unfold stored; go_simp)
  refine hK _ _ ⟨?_, ?_⟩
  · co_still (termsT p Sh E Dn)
  clear hK K
  try walk_nrm
  co_apply opsX_cons_k rfl (by rfl)
  intro _ hR K hK
  replace hF := (KM.rely n) hF hR
  clear hR
  skip
  go_simp
  try (unfold stored; go_simp)
  refine hK _ _ ⟨?_, ?_⟩
  · co_still (termsT p Sh E Dn)
  clear hK K
  try walk_nrm
  co_apply opsX_cons_k rfl (by rfl)
  intro _ hR K hK
  replace hF := (KM.rely n) hF hR
  clear hR
  skip
  go_simp
  try (unfold stored; go_simp)
  refine hK _ _ ⟨?_, ?_⟩
  · co_still (termsT p Sh E Dn)
  clear hK K
  try walk_nrm
  co_apply opsX_cons_k rfl (by rfl)
  intro _ hR K hK
  replace hF := (KM.rely n) hF hR
  clear hR
  have hc := hF.k.cell hk.now
  go_simp
  try (unfold stored; go_simp)
  refine hK _ _ ⟨?_, ?_⟩
  · (refine dt_read ?_; co_evs (exact hF.evK n _))
  clear hK K
  try walk_nrm
  clear hc
  co_apply opsX_cons_k rfl (by rfl)
  intro _ hR K hK
  replace hF := (KM.rely n) hF hR
  clear hR
  skip
  go_simp
  try (unfold stored; go_simp)
  refine hK _ _ ⟨?_, ?_⟩
  · co_still (termsT p Sh E Dn)
  clear hK K
  try walk_nrm
  co_apply opsX_cons_k rfl (by rfl)
  intro _ hR K hK
  replace hF := (KM.rely n) hF hR
  clear hR
  skip
  go_simp
  try (unfold stored; go_simp)
  refine hK _ _ ⟨?_, ?_⟩
  · co_still (termsT p Sh E Dn)
  clear hK K
  try walk_nrm
  co_apply opsX_cons_k rfl (by rfl)
  intro _ hR K hK
  replace hF := (KM.rely n) hF hR
  clear hR
  skip
  go_simp
  try (unfold stored; go_simp)
  refine hK _ _ ⟨?_, ?_⟩
  · co_still (termsT p Sh E Dn)
  clear hK K
  try walk_nrm
  co_apply opsX_cons_k rfl (by rfl)
  intro _ hR K hK
  replace hF := (KM.rely n) hF hR
  clear hR
  skip
  go_simp
  try (unfold stored; go_simp)
  refine hK _ _ ⟨?_, ?_⟩
  · co_still (termsT p Sh E Dn)
  clear hK K
  try walk_nrm
  co_apply opsX_tell (z' := .tuple #[]) rfl (by rfl)
  · intro w₁ h₁
    replace hF := KM.rely n hF h₁
    refine ⟨?_, ?_⟩
    · go_simp
      rfl
    · intro e he
      have hm := mem_listed he
      simp [go_sem, *] at hm
  intro w₂ h₂
  replace hF := KM.rely n hF h₂
  walk_nrm
  co_apply opsX_nil
  try simp only [ThenX]
  try co_then
  exact ⟨rfl, _, resultsC_none (by rfl) _, rfl, hF⟩
end Go.Proofs.YtbnaccilnilcmaaDoor
/-
  The worker settles a step that did not fail.
  No condition but those that each statement names.
-/
namespace Go.Proofs.YtbnaccilnilcmaaDoor
open Go.Conc Go.RowKit Go.Hx

variable {p : Par} {Sh : Loc → Prop} {E Dn : Nat} {a : Ad}

set_option maxRecDepth 100000 in
set_option maxHeartbeats 4000000 in
theorem settle_c (n : En p Sh E Dn a) : ∃ k, ∀ (kc pc : Array Value) (Q : Nat) (qc : Array Value) (w : World), KM p Sh E Dn a kc pc Q qc w →
      CallsC Tryd.prog false (RB p E Dn) (DT p Sh E Dn) 59 #[.pointer (some ⟨a.K, 0, none⟩), .pointer (some ⟨a.P, 0, none⟩), .nilIface, .chan (some E)] k w fun _ w' => KM p Sh E Dn a kc pc Q qc w' := by
  co_apply Exists.intro
  intro kc pc Q qc w hF
  have e1 := fun (w : World) (es : Array Event) => ev_eql_nil_nil (w := w) (es := es) Tryd.underlying120
  co_apply callsC_of_wpC Tryd.func59 (by rfl) rfl
  simp only [Tryd.ntmps59, List.size_toArray, List.length_cons, List.length_nil, Nat.reduceAdd, Nat.reduceSub, Array.replicate_succ, Array.replicate_zero, List.push_toArray, List.append_toArray, List.nil_append, List.cons_append]
  co_apply wpC_seq (termsT p Sh E Dn)
  co_reg (termsT p Sh E Dn)
  co_opw (KM.rely n) hF (skip) (refine hF.dtAlloc n (by decide) ?_; co_evs (skip))
  replace hF := hF.alloc (.cells #[.pointer none] 124)
  co_apply opsC_nil (termsT p Sh E Dn)
  co_then
  co_apply wpC_block (termsT p Sh E Dn)
  co_apply wpC_seq (termsT p Sh E Dn)
  co_reg (termsT p Sh E Dn)
  co_op (KM.rely n) hF (co_still (termsT p Sh E Dn))
  co_op (KM.rely n) hF (co_still (termsT p Sh E Dn))
  co_op (KM.rely n) hF (co_still (termsT p Sh E Dn))
  co_apply opsC_nil (termsT p Sh E Dn)
  co_then
  co_apply wpC_cond (termsT p Sh E Dn) (t := true)
  focus (exact rfl)
  simp only [if_true, if_false, Bool.false_eq_true, reduceIte]
  co_apply wpC_skip (termsT p Sh E Dn)
  co_then
  exact ⟨rfl, _, resultsC_none (by rfl) _, hF⟩
end Go.Proofs.YtbnaccilnilcmaaDoor
/-
  The row of those that are ready: who stands where.
  No condition but those that each statement names.
-/
namespace Go.Proofs.YtbnaccilnilcmaaDoor
open Go.Conc Go.RowKit Go.Hx

theorem ev_eql_ptr_same {P : Program} {w : World} {es : Array Event} {tp te : TypeId} {j : TypeInfo} (x : Addr) (hp : P.underlying tp = some (.pointer te)) (hte : P.info? te = some j) : (binOp .eql tp (.pointer (some x)) (.pointer (some x))).events P w es = es := by
  have h : ∀ d : Nat, (Op.equalIn (d + 1) tp (.pointer (some x)) (.pointer (some x))).events P w es = es := fun d => by
    by_cases hz : j.size = 0
    · simp [Op.equalIn, run_underlying hp, sizeOf, typeInfo, hte, hz]
    · simp [Op.equalIn, run_underlying hp, sizeOf, typeInfo, hte, hz, sameAddr]
  have h2 : ∀ d : Nat, (Op.equalIn (d + 1) tp (.pointer (some x)) (.pointer (some x))).run P w = .ok true w := fun d => by
    simp [Op.equalIn, run_underlying hp, sizeOf, typeInfo, hte, run_sameAddr_same]
  simp only [binOp]
  simp [Op.equal, Op.maxDepth, h 9999, h2 9999]

variable {p : Par} {Sh : Loc → Prop} {E Dn : Nat} {a : Ad}

set_option maxRecDepth 100000 in
set_option maxHeartbeats 4000000 in
theorem index_c (n : En p Sh E Dn a) : ∃ k, ∀ (kc pc : Array Value) (Q cap : Nat) (qc : Array Value) (h0 : qc[0]? = some (.pointer (some ⟨a.P, 0, none⟩))) (w : World), KM p Sh E Dn a kc pc Q qc w →
      CallsC Tryd.prog false (RB p E Dn) (DT p Sh E Dn) 77 #[.slice (some ⟨Q, 0, none⟩) 1 cap, .pointer (some ⟨a.P, 0, none⟩)] k w fun v w' => v = .int .i64 0 ∧ KM p Sh E Dn a kc pc Q qc w' := by
  co_apply Exists.intro
  intro kc pc Q cap qc h0 w hF
  obtain ⟨j, hj⟩ := Option.isSome_iff_exists.1 (by kernel_rfl : (Tryd.prog.info? 75).isSome = true)
  have e1 := fun (w : World) => run_eql_ptr_same (P := Tryd.prog) w ⟨a.P, 0, none⟩ Tryd.underlying72 hj
  have e2 := fun (w : World) (es : Array Event) => ev_eql_ptr_same (P := Tryd.prog) (w := w) (es := es) ⟨a.P, 0, none⟩ Tryd.underlying72 hj
  co_apply callsC_of_wpC Tryd.func77 (by rfl) rfl
  simp only [Tryd.ntmps77, List.size_toArray, List.length_cons, List.length_nil, Nat.reduceAdd, Nat.reduceSub, Array.replicate_succ, Array.replicate_zero, List.push_toArray, List.append_toArray, List.nil_append, List.cons_append]
  co_apply wpC_seq (termsT p Sh E Dn)
  co_reg (termsT p Sh E Dn)
  co_op (KM.rely n) hF (co_still (termsT p Sh E Dn))
  co_apply opsC_nil (termsT p Sh E Dn)
  co_then
  co_apply wpC_seq (n₂ := 0) (termsT p Sh E Dn)
  co_apply wpC_seq (termsT p Sh E Dn)
  co_reg (termsT p Sh E Dn)
  co_op (KM.rely n) hF (co_still (termsT p Sh E Dn))
  co_op (KM.rely n) hF (co_still (termsT p Sh E Dn))
  co_op (KM.rely n) hF (co_still (termsT p Sh E Dn))
  co_apply opsC_nil (termsT p Sh E Dn)
  co_then
  co_apply wpC_block (termsT p Sh E Dn)
  co_apply wpC_loop0 (termsT p Sh E Dn)
  co_apply wpC_seq (termsT p Sh E Dn)
  co_reg (termsT p Sh E Dn)
  co_op (KM.rely n) hF (co_still (termsT p Sh E Dn))
  co_apply opsC_nil (termsT p Sh E Dn)
  co_then
  co_apply wpC_seq (termsT p Sh E Dn)
  co_apply wpC_cond (termsT p Sh E Dn) (t := true)
  focus (exact rfl)
  simp only [if_true, if_false, Bool.false_eq_true, reduceIte]
  co_apply wpC_skip (termsT p Sh E Dn)
  co_then
  co_apply wpC_seq (n₂ := 0) (termsT p Sh E Dn)
  co_apply wpC_block (termsT p Sh E Dn)
  co_apply wpC_seq (termsT p Sh E Dn)
  co_reg (termsT p Sh E Dn)
  co_op (KM.rely n) hF (co_still (termsT p Sh E Dn))
  co_op (KM.rely n) hF (co_still (termsT p Sh E Dn))
  co_apply opsC_nil (termsT p Sh E Dn)
  co_then
  co_apply wpC_seq (termsT p Sh E Dn)
  co_reg (termsT p Sh E Dn)
  co_op (KM.rely n) hF (co_still (termsT p Sh E Dn))
  co_op (KM.rely n) hF (co_still (termsT p Sh E Dn))
  co_op (KM.rely n) hF (co_still (termsT p Sh E Dn))
  co_op (KM.rely n) hF (co_still (termsT p Sh E Dn))
  co_opw (KM.rely n) hF (have hc := hF.q.cell h0) (refine dt_read ?_; co_evs (exact hF.evQ n _))
  clear hc
  co_op (KM.rely n) hF (co_still (termsT p Sh E Dn))
  co_apply opsC_nil (termsT p Sh E Dn)
  co_then
  co_apply wpC_cond (termsT p Sh E Dn) (t := true)
  focus (exact rfl)
  simp only [if_true, if_false, Bool.false_eq_true, reduceIte]
  co_apply wpC_seq (termsT p Sh E Dn)
  co_reg (termsT p Sh E Dn)
  co_op (KM.rely n) hF (co_still (termsT p Sh E Dn))
  co_op (KM.rely n) hF (co_still (termsT p Sh E Dn))
  co_apply opsC_nil (termsT p Sh E Dn)
  co_then
  co_apply wpC_ret (termsT p Sh E Dn)
  exact ⟨rfl, _, resultsC_tmp (by rfl) _, rfl, hF⟩
end Go.Proofs.YtbnaccilnilcmaaDoor
/-
  The row of those that are ready: who stands alone in it is taken out.
  No condition but those that each statement names.
-/
namespace Go.Proofs.YtbnaccilnilcmaaDoor
open Go.Conc Go.RowKit Go.Hx

variable {p : Par} {Sh : Loc → Prop} {E Dn : Nat} {a : Ad}

set_option maxRecDepth 100000 in
set_option maxHeartbeats 4000000 in
theorem delete_c (n : En p Sh E Dn a) : ∃ k, ∀ (kc pc : Array Value) (Q cap : Nat) (qc : Array Value) (hRQ : a.R ≠ Q) (hc1 : 1 ≤ cap) (h0 : qc[0]? = some (.pointer (some ⟨a.P, 0, none⟩))) (w : World), KM p Sh E Dn a kc pc Q qc w →
      CallsC Tryd.prog false (RB p E Dn) (DT p Sh E Dn) 78 #[.slice (some ⟨Q, 0, none⟩) 1 cap, .int .i64 0, .int .i64 1] k w fun v w' => v = .slice (some ⟨Q, 0, none⟩) 0 cap ∧ KM p Sh E Dn a kc pc Q (qc.setIfInBounds 0 (.pointer none)) w' := by
  co_apply Exists.intro
  intro kc pc Q cap qc hRQ hc1 h0 w hF
  have hs := fun (w : World) => (by kernel_rfl : (sizeOf 72).run Tryd.prog w = .ok 1 w)
  have s1 := fun (w : World) => (sl_lhm (es := #[]) (x := some ⟨Q, 0, none⟩) (len := 1) (cap := cap) (t := 70) Tryd.underlying70 (hs w) 0 1 1 (by decide) (by decide) hc1).1
  have s2 := fun (w : World) (es : Array Event) => (sl_lhm (es := es) (x := some ⟨Q, 0, none⟩) (len := 1) (cap := cap) (t := 70) Tryd.underlying70 (hs w) 0 1 1 (by decide) (by decide) hc1).2
  have s3 := fun (w : World) => (sl_h (es := #[]) (x := some ⟨Q, 0, none⟩) (len := 1) (cap := cap) (t := 70) Tryd.underlying70 (hs w) 0 (by omega)).1
  have s4 := fun (w : World) (es : Array Event) => (sl_h (es := es) (x := some ⟨Q, 0, none⟩) (len := 1) (cap := cap) (t := 70) Tryd.underlying70 (hs w) 0 (by omega)).2
  have s5 := fun (w : World) => (sl_l (es := #[]) (x := some ⟨Q, 0, none⟩) (len := 1) (cap := cap) (t := 70) Tryd.underlying70 (hs w) 1 (by omega)).1
  have s6 := fun (w : World) (es : Array Event) => (sl_l (es := es) (x := some ⟨Q, 0, none⟩) (len := 1) (cap := cap) (t := 70) Tryd.underlying70 (hs w) 1 (by omega)).2
  have s7 := fun (w : World) => (sl_lh (es := #[]) (x := some ⟨Q, 0, none⟩) (len := 0) (cap := cap) (t := 70) Tryd.underlying70 (hs w) 0 1 (by omega) (by omega)).1
  have s8 := fun (w : World) (es : Array Event) => (sl_lh (es := es) (x := some ⟨Q, 0, none⟩) (len := 0) (cap := cap) (t := 70) Tryd.underlying70 (hs w) 0 1 (by omega) (by omega)).2
  have hcn : ¬ cap = 0 := by omega
  simp only [Int.ofNat_zero, Int.ofNat_one, Int.natCast_zero, Int.natCast_one, Int.cast_ofNat_Int, sliced, Nat.zero_mul, Nat.one_mul, Nat.sub_zero, Nat.sub_self, Option.map_some, Addr.add, Nat.add_zero, if_neg hcn, Nat.one_ne_zero, if_false, reduceIte] at s1 s2 s3 s4 s5 s6 s7 s8
  clear hs
  obtain ⟨y, hy⟩ : ∃ y : Addr, (if cap = 1 then some ⟨Q, 0, none⟩ else some ⟨Q, 1, none⟩) = some y := by split <;> exact ⟨_, rfl⟩
  simp only [Nat.zero_add] at s5
  rw [hy] at s5
  obtain ⟨j, hj⟩ := Option.isSome_iff_exists.1 (by kernel_rfl : (Tryd.prog.info? 72).isSome = true)
  have a1 := fun (w : World) (ty : TypeId) (x : Option Addr) (c : Nat) => (app0 (w := w) (es := #[]) (x := x) (cap := cap) (ty := ty) (b := ⟨Q, 0, none⟩) (c := c) (t := 70) Tryd.underlying70 hj).1
  have a2 := fun (w : World) (ty : TypeId) (x : Option Addr) (c : Nat) (es : Array Event) => (app0 (w := w) (es := es) (x := x) (cap := cap) (ty := ty) (b := ⟨Q, 0, none⟩) (c := c) (t := 70) Tryd.underlying70 hj).2
  co_apply callsC_of_wpC Tryd.func78 (by rfl) rfl
  simp only [Tryd.ntmps78, List.size_toArray, List.length_cons, List.length_nil, Nat.reduceAdd, Nat.reduceSub, Array.replicate_succ, Array.replicate_zero, List.push_toArray, List.append_toArray, List.nil_append, List.cons_append]
  co_apply wpC_seq (termsT p Sh E Dn)
  co_reg (termsT p Sh E Dn)
  co_op (KM.rely n) hF (co_still (termsT p Sh E Dn))
  co_apply opsC_nil (termsT p Sh E Dn)
  co_then
  co_apply wpC_seq (termsT p Sh E Dn)
  co_reg (termsT p Sh E Dn)
  co_op (KM.rely n) hF (co_still (termsT p Sh E Dn))
  co_op (KM.rely n) hF (co_still (termsT p Sh E Dn))
  co_op (KM.rely n) hF (co_still (termsT p Sh E Dn))
  co_op (KM.rely n) hF (co_still (termsT p Sh E Dn))
  co_op (KM.rely n) hF (co_still (termsT p Sh E Dn))
  co_op (KM.rely n) hF (co_still (termsT p Sh E Dn))
  co_apply opsC_nil (termsT p Sh E Dn)
  co_then
  co_apply wpC_seq (termsT p Sh E Dn)
  co_apply wpC_seq (termsT p Sh E Dn)
  co_reg (termsT p Sh E Dn)
  co_op (KM.rely n) hF (co_still (termsT p Sh E Dn))
  co_op (KM.rely n) hF (co_still (termsT p Sh E Dn))
  co_op (KM.rely n) hF (co_still (termsT p Sh E Dn))
  co_apply opsC_nil (termsT p Sh E Dn)
  co_then
  co_apply wpC_cond (termsT p Sh E Dn) (t := false)
  focus (exact rfl)
  simp only [if_true, if_false, Bool.false_eq_true, reduceIte]
  co_apply wpC_skip (termsT p Sh E Dn)
  co_then
  co_apply wpC_seq (termsT p Sh E Dn)
  co_reg (termsT p Sh E Dn)
  co_op (KM.rely n) hF (co_still (termsT p Sh E Dn))
  co_op (KM.rely n) hF (co_still (termsT p Sh E Dn))
  co_op (KM.rely n) hF (co_still (termsT p Sh E Dn))
  co_apply opsC_nil (termsT p Sh E Dn)
  co_then
  co_apply wpC_seq (termsT p Sh E Dn)
  co_held (termsT p Sh E Dn) (drawT p Sh E Dn) (ownDrawT p E Dn) (KM p Sh E Dn a kc pc Q qc) (KM.rely n) hF
  co_take 0 (termsT p Sh E Dn) (KM.rely n) hF hw (skip) (co_still (termsT p Sh E Dn))
  co_take 1 (termsT p Sh E Dn) (KM.rely n) hF hw (skip) (co_still (termsT p Sh E Dn))
  co_take 2 (termsT p Sh E Dn) (KM.rely n) hF hw (skip) (co_still (termsT p Sh E Dn))
  co_take 3 (termsT p Sh E Dn) (KM.rely n) hF hw (skip) (co_still (termsT p Sh E Dn))
  co_take 4 (termsT p Sh E Dn) (KM.rely n) hF hw (skip) (co_still (termsT p Sh E Dn))
  co_take 5 (termsT p Sh E Dn) (KM.rely n) hF hw (skip) (co_still (termsT p Sh E Dn))
  co_take 6 (termsT p Sh E Dn) (KM.rely n) hF hw (skip) (co_still (termsT p Sh E Dn))
  co_take 7 (termsT p Sh E Dn) (KM.rely n) hF hw (skip) (co_still (termsT p Sh E Dn))
  co_done
  co_apply wpC_seq (termsT p Sh E Dn)
  co_reg (termsT p Sh E Dn)
  co_op (KM.rely n) hF (co_still (termsT p Sh E Dn))
  co_op (KM.rely n) hF (co_still (termsT p Sh E Dn))
  co_op (KM.rely n) hF (co_still (termsT p Sh E Dn))
  co_op (KM.rely n) hF (co_still (termsT p Sh E Dn))
  co_op (KM.rely n) hF (co_still (termsT p Sh E Dn))
  co_opw (KM.rely n) hF (have k1 := fun (ty : TypeId) => (clear1 (P := Tryd.prog) (ty := ty) (c := cap) (t := 70) Tryd.underlying70 (by kernel_rfl : (zeroValue 72).run Tryd.prog _ = .ok (.pointer none) _) (by kernel_rfl) (hF.q.cell h0) (hF.q.thaw 0))) (refine hF.dtQ n hRQ ?_; intro e he; have hm := mem_listed he; simp [go_sem, *] at hm; exact hm)
  clear k1
  replace hF := hF.setQ hRQ 0 (.pointer none)
  co_apply opsC_nil (termsT p Sh E Dn)
  co_then
  co_apply wpC_seq (termsT p Sh E Dn)
  co_reg (termsT p Sh E Dn)
  co_op (KM.rely n) hF (co_still (termsT p Sh E Dn))
  co_op (KM.rely n) hF (co_still (termsT p Sh E Dn))
  co_apply opsC_nil (termsT p Sh E Dn)
  co_then
  co_apply wpC_ret (termsT p Sh E Dn)
  exact ⟨rfl, _, resultsC_tmp (by rfl) _, rfl, hF⟩
end Go.Proofs.YtbnaccilnilcmaaDoor
