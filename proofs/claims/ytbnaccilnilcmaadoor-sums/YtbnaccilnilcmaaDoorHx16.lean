/-
  The worker does an instruction, in company: Store, Load.
  No condition but those that each statement names.
-/
import Derived.Test.YtbnaccilnilcmaaDoorHx15
set_option linter.unusedVariables false
set_option linter.unusedSimpArgs false
set_option linter.unusedSectionVars false
namespace Go.Proofs.YtbnaccilnilcmaaDoor
open Go.Conc Go.RowKit Go.Hx

variable {p : Par} {Sh : Loc → Prop} {E Dn : Nat} {a : Ad}

set_option maxRecDepth 100000 in
set_option maxHeartbeats 4000000 in
theorem do_load (n : En p Sh E Dn a) : ∃ k, ∀ (kc pc : Array Value) (Q : Nat) (qc : Array Value) {st status at_ lv used : Int} {r m : Nat → Int} (hp : Pst pc st status at_ lv used r m) (hat : 0 ≤ at_ ∧ at_ < 65536) (i j : Nat) (hi : i < 8) (hj : j < 8) (y z : Int) (hy : 0 ≤ y ∧ y < 256) (hz : 0 ≤ z ∧ z < 256) (hyj : y % 8 = j) (hrj : 0 ≤ r j ∧ r j < 65536) (kk : Nat) (hk64 : kk < 64) (hk : r j + z = kk) (hmk : 0 ≤ m kk ∧ m kk < 256) (w : World), KM p Sh E Dn a kc pc Q qc w →
    CallsC Tryd.prog false (RB p E Dn) (DT p Sh E Dn) 68 #[.pointer (some ⟨a.P, 0, none⟩), .agg #[.int .u8 7, .int .u8 i, .int .u8 y, .int .u8 z]] k w fun v w' => v = .nilIface ∧
      ∃ pc', Pst pc' st status (at_ + 1) lv used (put r i (m kk)) m ∧ KM p Sh E Dn a kc pc' Q qc w' := by
  obtain ⟨n1, g1⟩ := place_c n
  co_apply Exists.intro
  intro kc pc Q qc st status at_ lv used r m hp hat i j hi hj y z hy hz hyj hrj kk hk64 hk hmk w hF
  co_apply callsC_of_wpC Tryd.func68 (by rfl) rfl
  simp only [Tryd.ntmps68, List.size_toArray, List.length_cons, List.length_nil, Nat.reduceAdd, Nat.reduceSub, Array.replicate_succ, Array.replicate_zero, List.push_toArray, List.append_toArray, List.nil_append, List.cons_append]
  co_apply wpC_seq (termsT p Sh E Dn)
  co_reg (termsT p Sh E Dn)
  co_opw (KM.rely n) hF (skip) (refine hF.dtAlloc n (by decide) ?_; co_evs (skip))
  replace hF := KB.new n hF 110 #[.int .u8 7, .int .u8 i, .int .u8 y, .int .u8 z]
  co_op (KB.rely n (by decide)) hF (co_still (termsT p Sh E Dn))
  co_apply opsC_nil (termsT p Sh E Dn)
  co_then
  have q1 : IntKind.i64.wrap (i : Int) = i := by simp [IntKind.wrap_i64]; omega
  have q2 : IntKind.i64.wrap y = y := by simp [IntKind.wrap_i64]; omega
  have q3 : IntKind.i64.wrap (at_ + 1) = at_ + 1 := by simp [IntKind.wrap_i64]; omega
  have q5 : (i : Int).tmod 8 = i := by rw [Int.tmod_eq_emod_of_nonneg (by omega)]; omega
  have q6 : y.tmod 8 = j := by rw [Int.tmod_eq_emod_of_nonneg (by omega)]; omega
  have b1 : (i : Int) < 8 := by omega
  have b2 : (j : Int) < 8 := by omega
  have e1 := fun (w : World) (es : Array Event) => events_indexAt_array (P := Tryd.prog) (w := w) (es := es) 40 _ 8 ⟨a.P, 7, none⟩ .i64 (i : Int) Tryd.underlying40 (by omega)
  have e2 := fun (w : World) (es : Array Event) => events_indexAt_array (P := Tryd.prog) (w := w) (es := es) 40 _ 8 ⟨a.P, 7, none⟩ .i64 (j : Int) Tryd.underlying40 (by omega)
  co_apply wpC_seq (termsT p Sh E Dn)
  co_held (termsT p Sh E Dn) (drawT p Sh E Dn) (ownDrawT p E Dn) (KB p Sh E Dn a kc pc Q qc _ 110 #[.int .u8 7, .int .u8 i, .int .u8 y, .int .u8 z]) (KB.rely n (by decide)) hF
  co_take 0 (termsT p Sh E Dn) (KB.rely n (by decide)) hF hw (skip) (co_still (termsT p Sh E Dn))
  co_take 1 (termsT p Sh E Dn) (KB.rely n (by decide)) hF hw (skip) (co_still (termsT p Sh E Dn))
  co_take 2 (termsT p Sh E Dn) (KB.rely n (by decide)) hF hw (have hc := hw.b.cell (i := 1) rfl) (refine dt_read ?_; co_evs (exact hw.ev n (by decide) _))
  co_take 3 (termsT p Sh E Dn) (KB.rely n (by decide)) hF hw (skip) (co_still (termsT p Sh E Dn))
  co_take 4 (termsT p Sh E Dn) (KB.rely n (by decide)) hF hw (skip) (co_still (termsT p Sh E Dn))
  co_take 5 (termsT p Sh E Dn) (KB.rely n (by decide)) hF hw (skip) (co_still (termsT p Sh E Dn))
  co_take 6 (termsT p Sh E Dn) (KB.rely n (by decide)) hF hw (skip) (co_still (termsT p Sh E Dn))
  co_take 7 (termsT p Sh E Dn) (KB.rely n (by decide)) hF hw (skip) (co_still (termsT p Sh E Dn))
  co_take 8 (termsT p Sh E Dn) (KB.rely n (by decide)) hF hw (skip) (co_still (termsT p Sh E Dn))
  co_take 9 (termsT p Sh E Dn) (KB.rely n (by decide)) hF hw (skip) (co_still (termsT p Sh E Dn))
  co_done
  co_apply wpC_seq (termsT p Sh E Dn)
  co_held (termsT p Sh E Dn) (drawT p Sh E Dn) (ownDrawT p E Dn) (KB p Sh E Dn a kc pc Q qc _ 110 #[.int .u8 7, .int .u8 i, .int .u8 y, .int .u8 z]) (KB.rely n (by decide)) hF
  co_take 0 (termsT p Sh E Dn) (KB.rely n (by decide)) hF hw (skip) (co_still (termsT p Sh E Dn))
  co_take 1 (termsT p Sh E Dn) (KB.rely n (by decide)) hF hw (skip) (co_still (termsT p Sh E Dn))
  co_take 2 (termsT p Sh E Dn) (KB.rely n (by decide)) hF hw (have hc := hw.b.cell (i := 2) rfl) (refine dt_read ?_; co_evs (exact hw.ev n (by decide) _))
  co_take 3 (termsT p Sh E Dn) (KB.rely n (by decide)) hF hw (skip) (co_still (termsT p Sh E Dn))
  co_take 4 (termsT p Sh E Dn) (KB.rely n (by decide)) hF hw (skip) (co_still (termsT p Sh E Dn))
  co_take 5 (termsT p Sh E Dn) (KB.rely n (by decide)) hF hw (skip) (co_still (termsT p Sh E Dn))
  co_take 6 (termsT p Sh E Dn) (KB.rely n (by decide)) hF hw (skip) (co_still (termsT p Sh E Dn))
  co_take 7 (termsT p Sh E Dn) (KB.rely n (by decide)) hF hw (skip) (co_still (termsT p Sh E Dn))
  co_take 8 (termsT p Sh E Dn) (KB.rely n (by decide)) hF hw (skip) (co_still (termsT p Sh E Dn))
  co_take 9 (termsT p Sh E Dn) (KB.rely n (by decide)) hF hw (have hc := hw.m.pp.cell (hp.reg j hj)) (refine dt_read ?_; co_evs (exact hw.m.evP n _))
  co_take 10 (termsT p Sh E Dn) (KB.rely n (by decide)) hF hw (skip) (co_still (termsT p Sh E Dn))
  co_done
  co_apply wpC_seq (termsT p Sh E Dn)
  co_reg (termsT p Sh E Dn)
  co_op (KB.rely n (by decide)) hF (co_still (termsT p Sh E Dn))
  co_op (KB.rely n (by decide)) hF (co_still (termsT p Sh E Dn))
  co_op (KB.rely n (by decide)) hF (co_still (termsT p Sh E Dn))
  co_op (KB.rely n (by decide)) hF (co_still (termsT p Sh E Dn))
  co_opw (KB.rely n (by decide)) hF (have hc := hF.m.pp.cell hp.at_) (refine dt_read ?_; co_evs (exact hF.m.evP n _))
  clear hc
  co_op (KB.rely n (by decide)) hF (co_still (termsT p Sh E Dn))
  co_op (KB.rely n (by decide)) hF (co_still (termsT p Sh E Dn))
  co_apply opsC_nil (termsT p Sh E Dn)
  co_then
  co_apply wpC_seq (termsT p Sh E Dn)
  co_apply wpC_seq (termsT p Sh E Dn)
  co_reg (termsT p Sh E Dn)
  co_op (KB.rely n (by decide)) hF (co_still (termsT p Sh E Dn))
  co_opw (KB.rely n (by decide)) hF (have hc := hF.b.cell (i := 0) rfl) (refine dt_read ?_; co_evs (exact hF.ev n (by decide) _))
  clear hc
  co_apply opsC_nil (termsT p Sh E Dn)
  co_then
  co_apply wpC_block (termsT p Sh E Dn)
  co_apply wpC_seq (termsT p Sh E Dn)
  co_reg (termsT p Sh E Dn)
  co_op (KB.rely n (by decide)) hF (co_still (termsT p Sh E Dn))
  co_op (KB.rely n (by decide)) hF (co_still (termsT p Sh E Dn))
  co_apply opsC_nil (termsT p Sh E Dn)
  co_then
  co_apply wpC_cond (termsT p Sh E Dn) (t := false)
  focus (exact rfl)
  simp only [if_true, if_false, Bool.false_eq_true, reduceIte]
  co_apply wpC_seq (termsT p Sh E Dn)
  co_reg (termsT p Sh E Dn)
  co_op (KB.rely n (by decide)) hF (co_still (termsT p Sh E Dn))
  co_op (KB.rely n (by decide)) hF (co_still (termsT p Sh E Dn))
  co_apply opsC_nil (termsT p Sh E Dn)
  co_then
  co_apply wpC_cond (termsT p Sh E Dn) (t := false)
  focus (exact rfl)
  simp only [if_true, if_false, Bool.false_eq_true, reduceIte]
  co_apply wpC_seq (termsT p Sh E Dn)
  co_reg (termsT p Sh E Dn)
  co_op (KB.rely n (by decide)) hF (co_still (termsT p Sh E Dn))
  co_op (KB.rely n (by decide)) hF (co_still (termsT p Sh E Dn))
  co_apply opsC_nil (termsT p Sh E Dn)
  co_then
  co_apply wpC_cond (termsT p Sh E Dn) (t := false)
  focus (exact rfl)
  simp only [if_true, if_false, Bool.false_eq_true, reduceIte]
  co_apply wpC_seq (termsT p Sh E Dn)
  co_reg (termsT p Sh E Dn)
  co_op (KB.rely n (by decide)) hF (co_still (termsT p Sh E Dn))
  co_op (KB.rely n (by decide)) hF (co_still (termsT p Sh E Dn))
  co_apply opsC_nil (termsT p Sh E Dn)
  co_then
  co_apply wpC_cond (termsT p Sh E Dn) (t := false)
  focus (exact rfl)
  simp only [if_true, if_false, Bool.false_eq_true, reduceIte]
  co_apply wpC_seq (termsT p Sh E Dn)
  co_reg (termsT p Sh E Dn)
  co_op (KB.rely n (by decide)) hF (co_still (termsT p Sh E Dn))
  co_op (KB.rely n (by decide)) hF (co_still (termsT p Sh E Dn))
  co_apply opsC_nil (termsT p Sh E Dn)
  co_then
  co_apply wpC_cond (termsT p Sh E Dn) (t := false)
  focus (exact rfl)
  simp only [if_true, if_false, Bool.false_eq_true, reduceIte]
  co_apply wpC_seq (termsT p Sh E Dn)
  co_reg (termsT p Sh E Dn)
  co_op (KB.rely n (by decide)) hF (co_still (termsT p Sh E Dn))
  co_op (KB.rely n (by decide)) hF (co_still (termsT p Sh E Dn))
  co_apply opsC_nil (termsT p Sh E Dn)
  co_then
  co_apply wpC_cond (termsT p Sh E Dn) (t := false)
  focus (exact rfl)
  simp only [if_true, if_false, Bool.false_eq_true, reduceIte]
  co_apply wpC_seq (termsT p Sh E Dn)
  co_reg (termsT p Sh E Dn)
  co_op (KB.rely n (by decide)) hF (co_still (termsT p Sh E Dn))
  co_op (KB.rely n (by decide)) hF (co_still (termsT p Sh E Dn))
  co_apply opsC_nil (termsT p Sh E Dn)
  co_then
  co_apply wpC_cond (termsT p Sh E Dn) (t := true)
  focus (exact rfl)
  simp only [if_true, if_false, Bool.false_eq_true, reduceIte]
  have e3 := fun (w : World) (es : Array Event) => ev_neq_nil_nil (P := Tryd.prog) (w := w) (es := es) Tryd.underlying120
  have e4 := fun (w : World) (es : Array Event) => events_indexAt_array (P := Tryd.prog) (w := w) (es := es) 73 _ 64 ⟨a.P, 15, none⟩ .i64 (kk : Int) Tryd.underlying73 (by omega)
  have b3 : (kk : Int) < 64 := by omega
  co_apply wpC_seq (termsT p Sh E Dn)
  co_reg (termsT p Sh E Dn)
  co_op (KB.rely n (by decide)) hF (co_still (termsT p Sh E Dn))
  co_op (KB.rely n (by decide)) hF (co_still (termsT p Sh E Dn))
  co_op (KB.rely n (by decide)) hF (co_still (termsT p Sh E Dn))
  co_opw (KB.rely n (by decide)) hF (have hc := hF.b.cell (i := 3) rfl) (refine dt_read ?_; co_evs (exact hF.ev n (by decide) _))
  clear hc
  co_apply opsC_call (termsT p Sh E Dn) rfl (by rfl) rfl
  · walk_nrm
    exact g1 kc pc Q qc (r j) z hrj hz (by omega) _ hF.m
  intro v w' hv
  obtain ⟨rfl, hM⟩ := hv
  clear hF
  have hF := hM
  clear hM
  walk_nrm
  co_op (KM.rely n) hF (co_still (termsT p Sh E Dn))
  co_op (KM.rely n) hF (co_still (termsT p Sh E Dn))
  co_op (KM.rely n) hF (co_still (termsT p Sh E Dn))
  co_op (KM.rely n) hF (co_still (termsT p Sh E Dn))
  co_op (KM.rely n) hF (co_still (termsT p Sh E Dn))
  co_apply opsC_nil (termsT p Sh E Dn)
  co_then
  co_apply wpC_seq (termsT p Sh E Dn)
  co_apply wpC_seq (termsT p Sh E Dn)
  co_reg (termsT p Sh E Dn)
  co_op (KM.rely n) hF (co_still (termsT p Sh E Dn))
  co_op (KM.rely n) hF (co_still (termsT p Sh E Dn))
  co_apply opsC_nil (termsT p Sh E Dn)
  co_then
  co_apply wpC_cond (termsT p Sh E Dn) (t := false)
  focus (exact rfl)
  simp only [if_true, if_false, Bool.false_eq_true, reduceIte]
  co_apply wpC_skip (termsT p Sh E Dn)
  co_then
  have q7 : IntKind.u16.wrap (m kk) = m kk := by rw [wrap_u16]; omega
  co_reg (termsT p Sh E Dn)
  co_op (KM.rely n) hF (co_still (termsT p Sh E Dn))
  co_op (KM.rely n) hF (co_still (termsT p Sh E Dn))
  co_op (KM.rely n) hF (co_still (termsT p Sh E Dn))
  co_op (KM.rely n) hF (co_still (termsT p Sh E Dn))
  co_op (KM.rely n) hF (co_still (termsT p Sh E Dn))
  co_op (KM.rely n) hF (co_still (termsT p Sh E Dn))
  co_opw (KM.rely n) hF (have hc := hF.pp.cell (hp.mem kk hk64)) (refine dt_read ?_; co_evs (exact hF.evP n _))
  clear hc
  co_op (KM.rely n) hF (co_still (termsT p Sh E Dn))
  co_op (KM.rely n) hF (co_still (termsT p Sh E Dn))
  co_opw (KM.rely n) hF (have hc := hF.pp.cell (hp.reg i hi); have hz := hF.pp.thaw (7 + i)) (refine hF.dtP n ?_; intro e he; have hm := mem_listed he; simp [go_sem, *] at hm; exact hm)
  clear hc hz
  replace hF := hF.setP n (7 + i) (.int .u16 (m kk))
  replace hp := hp.setReg hi (m kk)
  co_apply opsC_nil (termsT p Sh E Dn)
  co_then
  co_apply wpC_seq (termsT p Sh E Dn)
  co_reg (termsT p Sh E Dn)
  co_op (KM.rely n) hF (co_still (termsT p Sh E Dn))
  co_op (KM.rely n) hF (co_still (termsT p Sh E Dn))
  co_op (KM.rely n) hF (co_still (termsT p Sh E Dn))
  co_op (KM.rely n) hF (co_still (termsT p Sh E Dn))
  co_op (KM.rely n) hF (co_still (termsT p Sh E Dn))
  co_opw (KM.rely n) hF (have hc := hF.pp.cell hp.at_; have hz := hF.pp.thaw 4) (refine hF.dtP n ?_; intro e he; have hm := mem_listed he; simp [go_sem, *] at hm; exact hm)
  clear hc hz
  replace hF := hF.setP n 4 (.int .i64 (at_ + 1))
  replace hp := hp.setAt (at_ + 1)
  co_apply opsC_nil (termsT p Sh E Dn)
  co_then
  co_go (termsT p Sh E Dn) (KM.rely n) hF (co_still (termsT p Sh E Dn))
  exact ⟨rfl, _, resultsC_tmp (by rfl) _, rfl, _, hp, hF⟩
end Go.Proofs.YtbnaccilnilcmaaDoor
/-
  The worker does an instruction, in company: Store, Load.
  No condition but those that each statement names.
-/
namespace Go.Proofs.YtbnaccilnilcmaaDoor
open Go.Conc Go.RowKit Go.Hx

variable {p : Par} {Sh : Loc → Prop} {E Dn : Nat} {a : Ad}

set_option maxRecDepth 100000 in
set_option maxHeartbeats 4000000 in
theorem do_store (n : En p Sh E Dn a) : ∃ k, ∀ (kc pc : Array Value) (Q : Nat) (qc : Array Value) {st status at_ lv used : Int} {r m : Nat → Int} (hp : Pst pc st status at_ lv used r m) (hat : 0 ≤ at_ ∧ at_ < 65536) (i j : Nat) (hi : i < 8) (hj : j < 8) (y z : Int) (hy : 0 ≤ y ∧ y < 256) (hz : 0 ≤ z ∧ z < 256) (hyj : y % 8 = j) (hrj : 0 ≤ r j ∧ r j < 65536) (kk : Nat) (hk64 : kk < 64) (hk : r j + z = kk) (w : World), KM p Sh E Dn a kc pc Q qc w →
    CallsC Tryd.prog false (RB p E Dn) (DT p Sh E Dn) 68 #[.pointer (some ⟨a.P, 0, none⟩), .agg #[.int .u8 8, .int .u8 i, .int .u8 y, .int .u8 z]] k w fun v w' => v = .nilIface ∧
      ∃ pc', Pst pc' st status (at_ + 1) lv used r (put m kk (r i % 256)) ∧ KM p Sh E Dn a kc pc' Q qc w' := by
  obtain ⟨n1, g1⟩ := place_c n
  co_apply Exists.intro
  intro kc pc Q qc st status at_ lv used r m hp hat i j hi hj y z hy hz hyj hrj kk hk64 hk w hF
  co_apply callsC_of_wpC Tryd.func68 (by rfl) rfl
  simp only [Tryd.ntmps68, List.size_toArray, List.length_cons, List.length_nil, Nat.reduceAdd, Nat.reduceSub, Array.replicate_succ, Array.replicate_zero, List.push_toArray, List.append_toArray, List.nil_append, List.cons_append]
  co_apply wpC_seq (termsT p Sh E Dn)
  co_reg (termsT p Sh E Dn)
  co_opw (KM.rely n) hF (skip) (refine hF.dtAlloc n (by decide) ?_; co_evs (skip))
  replace hF := KB.new n hF 110 #[.int .u8 8, .int .u8 i, .int .u8 y, .int .u8 z]
  co_op (KB.rely n (by decide)) hF (co_still (termsT p Sh E Dn))
  co_apply opsC_nil (termsT p Sh E Dn)
  co_then
  have q1 : IntKind.i64.wrap (i : Int) = i := by simp [IntKind.wrap_i64]; omega
  have q2 : IntKind.i64.wrap y = y := by simp [IntKind.wrap_i64]; omega
  have q3 : IntKind.i64.wrap (at_ + 1) = at_ + 1 := by simp [IntKind.wrap_i64]; omega
  have q5 : (i : Int).tmod 8 = i := by rw [Int.tmod_eq_emod_of_nonneg (by omega)]; omega
  have q6 : y.tmod 8 = j := by rw [Int.tmod_eq_emod_of_nonneg (by omega)]; omega
  have b1 : (i : Int) < 8 := by omega
  have b2 : (j : Int) < 8 := by omega
  have e1 := fun (w : World) (es : Array Event) => events_indexAt_array (P := Tryd.prog) (w := w) (es := es) 40 _ 8 ⟨a.P, 7, none⟩ .i64 (i : Int) Tryd.underlying40 (by omega)
  have e2 := fun (w : World) (es : Array Event) => events_indexAt_array (P := Tryd.prog) (w := w) (es := es) 40 _ 8 ⟨a.P, 7, none⟩ .i64 (j : Int) Tryd.underlying40 (by omega)
  co_apply wpC_seq (termsT p Sh E Dn)
  co_held (termsT p Sh E Dn) (drawT p Sh E Dn) (ownDrawT p E Dn) (KB p Sh E Dn a kc pc Q qc _ 110 #[.int .u8 8, .int .u8 i, .int .u8 y, .int .u8 z]) (KB.rely n (by decide)) hF
  co_take 0 (termsT p Sh E Dn) (KB.rely n (by decide)) hF hw (skip) (co_still (termsT p Sh E Dn))
  co_take 1 (termsT p Sh E Dn) (KB.rely n (by decide)) hF hw (skip) (co_still (termsT p Sh E Dn))
  co_take 2 (termsT p Sh E Dn) (KB.rely n (by decide)) hF hw (have hc := hw.b.cell (i := 1) rfl) (refine dt_read ?_; co_evs (exact hw.ev n (by decide) _))
  co_take 3 (termsT p Sh E Dn) (KB.rely n (by decide)) hF hw (skip) (co_still (termsT p Sh E Dn))
  co_take 4 (termsT p Sh E Dn) (KB.rely n (by decide)) hF hw (skip) (co_still (termsT p Sh E Dn))
  co_take 5 (termsT p Sh E Dn) (KB.rely n (by decide)) hF hw (skip) (co_still (termsT p Sh E Dn))
  co_take 6 (termsT p Sh E Dn) (KB.rely n (by decide)) hF hw (skip) (co_still (termsT p Sh E Dn))
  co_take 7 (termsT p Sh E Dn) (KB.rely n (by decide)) hF hw (skip) (co_still (termsT p Sh E Dn))
  co_take 8 (termsT p Sh E Dn) (KB.rely n (by decide)) hF hw (skip) (co_still (termsT p Sh E Dn))
  co_take 9 (termsT p Sh E Dn) (KB.rely n (by decide)) hF hw (skip) (co_still (termsT p Sh E Dn))
  co_done
  co_apply wpC_seq (termsT p Sh E Dn)
  co_held (termsT p Sh E Dn) (drawT p Sh E Dn) (ownDrawT p E Dn) (KB p Sh E Dn a kc pc Q qc _ 110 #[.int .u8 8, .int .u8 i, .int .u8 y, .int .u8 z]) (KB.rely n (by decide)) hF
  co_take 0 (termsT p Sh E Dn) (KB.rely n (by decide)) hF hw (skip) (co_still (termsT p Sh E Dn))
  co_take 1 (termsT p Sh E Dn) (KB.rely n (by decide)) hF hw (skip) (co_still (termsT p Sh E Dn))
  co_take 2 (termsT p Sh E Dn) (KB.rely n (by decide)) hF hw (have hc := hw.b.cell (i := 2) rfl) (refine dt_read ?_; co_evs (exact hw.ev n (by decide) _))
  co_take 3 (termsT p Sh E Dn) (KB.rely n (by decide)) hF hw (skip) (co_still (termsT p Sh E Dn))
  co_take 4 (termsT p Sh E Dn) (KB.rely n (by decide)) hF hw (skip) (co_still (termsT p Sh E Dn))
  co_take 5 (termsT p Sh E Dn) (KB.rely n (by decide)) hF hw (skip) (co_still (termsT p Sh E Dn))
  co_take 6 (termsT p Sh E Dn) (KB.rely n (by decide)) hF hw (skip) (co_still (termsT p Sh E Dn))
  co_take 7 (termsT p Sh E Dn) (KB.rely n (by decide)) hF hw (skip) (co_still (termsT p Sh E Dn))
  co_take 8 (termsT p Sh E Dn) (KB.rely n (by decide)) hF hw (skip) (co_still (termsT p Sh E Dn))
  co_take 9 (termsT p Sh E Dn) (KB.rely n (by decide)) hF hw (have hc := hw.m.pp.cell (hp.reg j hj)) (refine dt_read ?_; co_evs (exact hw.m.evP n _))
  co_take 10 (termsT p Sh E Dn) (KB.rely n (by decide)) hF hw (skip) (co_still (termsT p Sh E Dn))
  co_done
  co_apply wpC_seq (termsT p Sh E Dn)
  co_reg (termsT p Sh E Dn)
  co_op (KB.rely n (by decide)) hF (co_still (termsT p Sh E Dn))
  co_op (KB.rely n (by decide)) hF (co_still (termsT p Sh E Dn))
  co_op (KB.rely n (by decide)) hF (co_still (termsT p Sh E Dn))
  co_op (KB.rely n (by decide)) hF (co_still (termsT p Sh E Dn))
  co_opw (KB.rely n (by decide)) hF (have hc := hF.m.pp.cell hp.at_) (refine dt_read ?_; co_evs (exact hF.m.evP n _))
  clear hc
  co_op (KB.rely n (by decide)) hF (co_still (termsT p Sh E Dn))
  co_op (KB.rely n (by decide)) hF (co_still (termsT p Sh E Dn))
  co_apply opsC_nil (termsT p Sh E Dn)
  co_then
  co_apply wpC_seq (termsT p Sh E Dn)
  co_apply wpC_seq (termsT p Sh E Dn)
  co_reg (termsT p Sh E Dn)
  co_op (KB.rely n (by decide)) hF (co_still (termsT p Sh E Dn))
  co_opw (KB.rely n (by decide)) hF (have hc := hF.b.cell (i := 0) rfl) (refine dt_read ?_; co_evs (exact hF.ev n (by decide) _))
  clear hc
  co_apply opsC_nil (termsT p Sh E Dn)
  co_then
  co_apply wpC_block (termsT p Sh E Dn)
  co_apply wpC_seq (termsT p Sh E Dn)
  co_reg (termsT p Sh E Dn)
  co_op (KB.rely n (by decide)) hF (co_still (termsT p Sh E Dn))
  co_op (KB.rely n (by decide)) hF (co_still (termsT p Sh E Dn))
  co_apply opsC_nil (termsT p Sh E Dn)
  co_then
  co_apply wpC_cond (termsT p Sh E Dn) (t := false)
  focus (exact rfl)
  simp only [if_true, if_false, Bool.false_eq_true, reduceIte]
  co_apply wpC_seq (termsT p Sh E Dn)
  co_reg (termsT p Sh E Dn)
  co_op (KB.rely n (by decide)) hF (co_still (termsT p Sh E Dn))
  co_op (KB.rely n (by decide)) hF (co_still (termsT p Sh E Dn))
  co_apply opsC_nil (termsT p Sh E Dn)
  co_then
  co_apply wpC_cond (termsT p Sh E Dn) (t := false)
  focus (exact rfl)
  simp only [if_true, if_false, Bool.false_eq_true, reduceIte]
  co_apply wpC_seq (termsT p Sh E Dn)
  co_reg (termsT p Sh E Dn)
  co_op (KB.rely n (by decide)) hF (co_still (termsT p Sh E Dn))
  co_op (KB.rely n (by decide)) hF (co_still (termsT p Sh E Dn))
  co_apply opsC_nil (termsT p Sh E Dn)
  co_then
  co_apply wpC_cond (termsT p Sh E Dn) (t := false)
  focus (exact rfl)
  simp only [if_true, if_false, Bool.false_eq_true, reduceIte]
  co_apply wpC_seq (termsT p Sh E Dn)
  co_reg (termsT p Sh E Dn)
  co_op (KB.rely n (by decide)) hF (co_still (termsT p Sh E Dn))
  co_op (KB.rely n (by decide)) hF (co_still (termsT p Sh E Dn))
  co_apply opsC_nil (termsT p Sh E Dn)
  co_then
  co_apply wpC_cond (termsT p Sh E Dn) (t := false)
  focus (exact rfl)
  simp only [if_true, if_false, Bool.false_eq_true, reduceIte]
  co_apply wpC_seq (termsT p Sh E Dn)
  co_reg (termsT p Sh E Dn)
  co_op (KB.rely n (by decide)) hF (co_still (termsT p Sh E Dn))
  co_op (KB.rely n (by decide)) hF (co_still (termsT p Sh E Dn))
  co_apply opsC_nil (termsT p Sh E Dn)
  co_then
  co_apply wpC_cond (termsT p Sh E Dn) (t := false)
  focus (exact rfl)
  simp only [if_true, if_false, Bool.false_eq_true, reduceIte]
  co_apply wpC_seq (termsT p Sh E Dn)
  co_reg (termsT p Sh E Dn)
  co_op (KB.rely n (by decide)) hF (co_still (termsT p Sh E Dn))
  co_op (KB.rely n (by decide)) hF (co_still (termsT p Sh E Dn))
  co_apply opsC_nil (termsT p Sh E Dn)
  co_then
  co_apply wpC_cond (termsT p Sh E Dn) (t := false)
  focus (exact rfl)
  simp only [if_true, if_false, Bool.false_eq_true, reduceIte]
  co_apply wpC_seq (termsT p Sh E Dn)
  co_reg (termsT p Sh E Dn)
  co_op (KB.rely n (by decide)) hF (co_still (termsT p Sh E Dn))
  co_op (KB.rely n (by decide)) hF (co_still (termsT p Sh E Dn))
  co_apply opsC_nil (termsT p Sh E Dn)
  co_then
  co_apply wpC_cond (termsT p Sh E Dn) (t := false)
  focus (exact rfl)
  simp only [if_true, if_false, Bool.false_eq_true, reduceIte]
  co_apply wpC_seq (termsT p Sh E Dn)
  co_reg (termsT p Sh E Dn)
  co_op (KB.rely n (by decide)) hF (co_still (termsT p Sh E Dn))
  co_op (KB.rely n (by decide)) hF (co_still (termsT p Sh E Dn))
  co_apply opsC_nil (termsT p Sh E Dn)
  co_then
  co_apply wpC_cond (termsT p Sh E Dn) (t := true)
  focus (exact rfl)
  simp only [if_true, if_false, Bool.false_eq_true, reduceIte]
  have e3 := fun (w : World) (es : Array Event) => ev_neq_nil_nil (P := Tryd.prog) (w := w) (es := es) Tryd.underlying120
  have e4 := fun (w : World) (es : Array Event) => events_indexAt_array (P := Tryd.prog) (w := w) (es := es) 73 _ 64 ⟨a.P, 15, none⟩ .i64 (kk : Int) Tryd.underlying73 (by omega)
  have b3 : (kk : Int) < 64 := by omega
  co_apply wpC_seq (termsT p Sh E Dn)
  co_reg (termsT p Sh E Dn)
  co_op (KB.rely n (by decide)) hF (co_still (termsT p Sh E Dn))
  co_op (KB.rely n (by decide)) hF (co_still (termsT p Sh E Dn))
  co_op (KB.rely n (by decide)) hF (co_still (termsT p Sh E Dn))
  co_opw (KB.rely n (by decide)) hF (have hc := hF.b.cell (i := 3) rfl) (refine dt_read ?_; co_evs (exact hF.ev n (by decide) _))
  clear hc
  co_apply opsC_call (termsT p Sh E Dn) rfl (by rfl) rfl
  · walk_nrm
    exact g1 kc pc Q qc (r j) z hrj hz (by omega) _ hF.m
  intro v w' hv
  obtain ⟨rfl, hM⟩ := hv
  clear hF
  have hF := hM
  clear hM
  walk_nrm
  co_op (KM.rely n) hF (co_still (termsT p Sh E Dn))
  co_op (KM.rely n) hF (co_still (termsT p Sh E Dn))
  co_op (KM.rely n) hF (co_still (termsT p Sh E Dn))
  co_op (KM.rely n) hF (co_still (termsT p Sh E Dn))
  co_op (KM.rely n) hF (co_still (termsT p Sh E Dn))
  co_apply opsC_nil (termsT p Sh E Dn)
  co_then
  co_apply wpC_seq (termsT p Sh E Dn)
  co_apply wpC_seq (termsT p Sh E Dn)
  co_reg (termsT p Sh E Dn)
  co_op (KM.rely n) hF (co_still (termsT p Sh E Dn))
  co_op (KM.rely n) hF (co_still (termsT p Sh E Dn))
  co_apply opsC_nil (termsT p Sh E Dn)
  co_then
  co_apply wpC_cond (termsT p Sh E Dn) (t := false)
  focus (exact rfl)
  simp only [if_true, if_false, Bool.false_eq_true, reduceIte]
  co_apply wpC_skip (termsT p Sh E Dn)
  co_then
  have q7 : IntKind.u8.wrap (r i) = r i % 256 := IntKind.wrap_u8 _
  have hp1 := hp.setMem hk64 (r i % 256)
  have hO : KO p Sh E Dn a kc pc (pc.setIfInBounds (15 + kk) (.int .u8 (r i % 256))) Q qc _ := .inl hF
  clear hF
  co_held (termsT p Sh E Dn) (drawT p Sh E Dn) (ownDrawT p E Dn) (KO p Sh E Dn a kc pc (pc.setIfInBounds (15 + kk) (.int .u8 (r i % 256))) Q qc) (KO.rely n) hO
  co_take 0 (termsT p Sh E Dn) (KO.rely n) hO hw (skip) (co_still (termsT p Sh E Dn))
  co_take 1 (termsT p Sh E Dn) (KO.rely n) hO hw (skip) (co_still (termsT p Sh E Dn))
  co_take 2 (termsT p Sh E Dn) (KO.rely n) hO hw (skip) (co_still (termsT p Sh E Dn))
  co_take 3 (termsT p Sh E Dn) (KO.rely n) hO hw (skip) (co_still (termsT p Sh E Dn))
  co_take 4 (termsT p Sh E Dn) (KO.rely n) hO hw (have hc := hw.cell (hp.reg i hi) (hp1.reg i hi)) (refine dt_read ?_; co_evs (exact hw.evP n _))
  co_take 5 (termsT p Sh E Dn) (KO.rely n) hO hw (skip) (co_still (termsT p Sh E Dn))
  co_take 6 (termsT p Sh E Dn) (KO.rely n) hO hw (skip) (co_still (termsT p Sh E Dn))
  co_take 7 (termsT p Sh E Dn) (KO.rely n) hO hw (skip) (co_still (termsT p Sh E Dn))
  co_take 8 (termsT p Sh E Dn) (KO.rely n) hO hw (skip) (co_still (termsT p Sh E Dn))
  co_applyP anyCH_all (rs := [9]) (by kernel_rfl) (by decide)
  intro qq hqq
  obtain rfl : qq = 9 := by simpa using hqq
  co_applyP opC_k rfl (by rfl)
  intro _ hR K hK
  replace hO := KO.rely n hO hR
  clear hR
  obtain ⟨u, hc⟩ : ∃ u, World.cell? _ ⟨a.P, 15 + kk, none⟩ = some u := hO.elim (fun x => ⟨_, x.pp.cell (hp.mem kk hk64)⟩) (fun x => ⟨_, x.pp.cell (hp1.mem kk hk64)⟩)
  have hz : World.frozen? _ ⟨a.P, 15 + kk, none⟩ = false := hO.elim (fun x => x.pp.thaw (15 + kk)) (fun x => x.pp.thaw (15 + kk))
  have hF : KM p Sh E Dn a kc (pc.setIfInBounds (15 + kk) (.int .u8 (r i % 256))) Q qc (World.setCell _ ⟨a.P, 15 + kk, none⟩ (.int .u8 (r i % 256))) :=
    hO.elim (fun x => x.setP n (15 + kk) (.int .u8 (r i % 256))) (fun x => by have := x.setP n (15 + kk) (.int .u8 (r i % 256)); rwa [Array.setIfInBounds_setIfInBounds] at this)
  go_simp
  try (unfold stored; go_simp)
  refine hK _ _ ⟨?_, .inr hF, ?_⟩
  · refine hO.elim (fun x => x.dtP n ?_) (fun x => x.dtP n ?_) <;> (intro e he; have hm := mem_listed he; simp [go_sem, *] at hm; exact hm)
  clear hK K hO hc hz
  try walk_nrm
  replace hp := hp1
  clear hp1
  co_done
  co_apply wpC_seq (termsT p Sh E Dn)
  co_reg (termsT p Sh E Dn)
  co_op (KM.rely n) hF (co_still (termsT p Sh E Dn))
  co_op (KM.rely n) hF (co_still (termsT p Sh E Dn))
  co_op (KM.rely n) hF (co_still (termsT p Sh E Dn))
  co_op (KM.rely n) hF (co_still (termsT p Sh E Dn))
  co_op (KM.rely n) hF (co_still (termsT p Sh E Dn))
  co_opw (KM.rely n) hF (have hc := hF.pp.cell hp.at_; have hz := hF.pp.thaw 4) (refine hF.dtP n ?_; intro e he; have hm := mem_listed he; simp [go_sem, *] at hm; exact hm)
  clear hc hz
  replace hF := hF.setP n 4 (.int .i64 (at_ + 1))
  replace hp := hp.setAt (at_ + 1)
  co_apply opsC_nil (termsT p Sh E Dn)
  co_then
  co_go (termsT p Sh E Dn) (KM.rely n) hF (co_still (termsT p Sh E Dn))
  exact ⟨rfl, _, resultsC_tmp (by rfl) _, rfl, _, hp, hF⟩
end Go.Proofs.YtbnaccilnilcmaaDoor
