/-
  The worker does an instruction, in company: Move, Add, Sub, Store, Load.
  No condition but those that each statement names.
-/
import Derived.Test.YtbnaccilnilcmaaDoorHx14
set_option linter.unusedVariables false
set_option linter.unusedSimpArgs false
set_option linter.unusedSectionVars false
namespace Go.Proofs.YtbnaccilnilcmaaDoor
open Go.Conc Go.RowKit Go.Hx

variable {p : Par} {Sh : Loc → Prop} {E Dn : Nat} {a : Ad}

set_option maxRecDepth 100000 in
set_option maxHeartbeats 4000000 in
theorem do_move (n : En p Sh E Dn a) : ∃ k, ∀ (kc pc : Array Value) (Q : Nat) (qc : Array Value) {st status at_ lv used : Int} {r m : Nat → Int} (hp : Pst pc st status at_ lv used r m) (hat : 0 ≤ at_ ∧ at_ < 65536) (i j : Nat) (hi : i < 8) (hj : j < 8) (y z : Int) (hy : 0 ≤ y ∧ y < 256) (hz : 0 ≤ z ∧ z < 256) (hyj : y % 8 = j) (w : World), KM p Sh E Dn a kc pc Q qc w →
    CallsC Tryd.prog false (RB p E Dn) (DT p Sh E Dn) 68 #[.pointer (some ⟨a.P, 0, none⟩), .agg #[.int .u8 2, .int .u8 i, .int .u8 y, .int .u8 z]] k w fun v w' => v = .nilIface ∧
      ∃ pc', Pst pc' st status (at_ + 1) lv used (put r i (r j)) m ∧ KM p Sh E Dn a kc pc' Q qc w' := by
  co_apply Exists.intro
  intro kc pc Q qc st status at_ lv used r m hp hat i j hi hj y z hy hz hyj w hF
  co_apply callsC_of_wpC Tryd.func68 (by rfl) rfl
  simp only [Tryd.ntmps68, List.size_toArray, List.length_cons, List.length_nil, Nat.reduceAdd, Nat.reduceSub, Array.replicate_succ, Array.replicate_zero, List.push_toArray, List.append_toArray, List.nil_append, List.cons_append]
  co_apply wpC_seq (termsT p Sh E Dn)
  co_reg (termsT p Sh E Dn)
  co_opw (KM.rely n) hF (skip) (refine hF.dtAlloc n (by decide) ?_; co_evs (skip))
  replace hF := KB.new n hF 110 #[.int .u8 2, .int .u8 i, .int .u8 y, .int .u8 z]
  co_op (KB.rely n (by decide)) hF (co_still (termsT p Sh E Dn))
  co_apply opsC_nil (termsT p Sh E Dn)
  co_then
  have q1 : IntKind.i64.wrap (i : Int) = i := by simp [IntKind.wrap_i64]; omega
  have q2 : IntKind.i64.wrap y = y := by simp [IntKind.wrap_i64]; omega
  have q3 : IntKind.i64.wrap (at_ + 1) = at_ + 1 := by simp [IntKind.wrap_i64]; omega
  have q5 : (i : Int).tmod 8 = i := by rw [Int.tmod_eq_emod_of_nonneg (by omega)]; omega
  have q6 : y.tmod 8 = j := by rw [Int.tmod_eq_emod_of_nonneg (by omega)]; omega
  have b1 : (i : Int) < 8 := by omega
  have b2 : (j : Int) < 8 := by omega
  have e1 := fun (w : World) (es : Array Event) => events_indexAt_array (P := Tryd.prog) (w := w) (es := es) 40 _ 8 ⟨a.P, 7, none⟩ .i64 (i : Int) Tryd.underlying40 (by omega)
  have e2 := fun (w : World) (es : Array Event) => events_indexAt_array (P := Tryd.prog) (w := w) (es := es) 40 _ 8 ⟨a.P, 7, none⟩ .i64 (j : Int) Tryd.underlying40 (by omega)
  co_apply wpC_seq (termsT p Sh E Dn)
  co_held (termsT p Sh E Dn) (drawT p Sh E Dn) (ownDrawT p E Dn) (KB p Sh E Dn a kc pc Q qc _ 110 #[.int .u8 2, .int .u8 i, .int .u8 y, .int .u8 z]) (KB.rely n (by decide)) hF
  co_take 0 (termsT p Sh E Dn) (KB.rely n (by decide)) hF hw (skip) (co_still (termsT p Sh E Dn))
  co_take 1 (termsT p Sh E Dn) (KB.rely n (by decide)) hF hw (skip) (co_still (termsT p Sh E Dn))
  co_take 2 (termsT p Sh E Dn) (KB.rely n (by decide)) hF hw (have hc := hw.b.cell (i := 1) rfl) (refine dt_read ?_; co_evs (exact hw.ev n (by decide) _))
  co_take 3 (termsT p Sh E Dn) (KB.rely n (by decide)) hF hw (skip) (co_still (termsT p Sh E Dn))
  co_take 4 (termsT p Sh E Dn) (KB.rely n (by decide)) hF hw (skip) (co_still (termsT p Sh E Dn))
  co_take 5 (termsT p Sh E Dn) (KB.rely n (by decide)) hF hw (skip) (co_still (termsT p Sh E Dn))
  co_take 6 (termsT p Sh E Dn) (KB.rely n (by decide)) hF hw (skip) (co_still (termsT p Sh E Dn))
  co_take 7 (termsT p Sh E Dn) (KB.rely n (by decide)) hF hw (skip) (co_still (termsT p Sh E Dn))
  co_take 8 (termsT p Sh E Dn) (KB.rely n (by decide)) hF hw (skip) (co_still (termsT p Sh E Dn))
  co_take 9 (termsT p Sh E Dn) (KB.rely n (by decide)) hF hw (skip) (co_still (termsT p Sh E Dn))
  co_done
  co_apply wpC_seq (termsT p Sh E Dn)
  co_held (termsT p Sh E Dn) (drawT p Sh E Dn) (ownDrawT p E Dn) (KB p Sh E Dn a kc pc Q qc _ 110 #[.int .u8 2, .int .u8 i, .int .u8 y, .int .u8 z]) (KB.rely n (by decide)) hF
  co_take 0 (termsT p Sh E Dn) (KB.rely n (by decide)) hF hw (skip) (co_still (termsT p Sh E Dn))
  co_take 1 (termsT p Sh E Dn) (KB.rely n (by decide)) hF hw (skip) (co_still (termsT p Sh E Dn))
  co_take 2 (termsT p Sh E Dn) (KB.rely n (by decide)) hF hw (have hc := hw.b.cell (i := 2) rfl) (refine dt_read ?_; co_evs (exact hw.ev n (by decide) _))
  co_take 3 (termsT p Sh E Dn) (KB.rely n (by decide)) hF hw (skip) (co_still (termsT p Sh E Dn))
  co_take 4 (termsT p Sh E Dn) (KB.rely n (by decide)) hF hw (skip) (co_still (termsT p Sh E Dn))
  co_take 5 (termsT p Sh E Dn) (KB.rely n (by decide)) hF hw (skip) (co_still (termsT p Sh E Dn))
  co_take 6 (termsT p Sh E Dn) (KB.rely n (by decide)) hF hw (skip) (co_still (termsT p Sh E Dn))
  co_take 7 (termsT p Sh E Dn) (KB.rely n (by decide)) hF hw (skip) (co_still (termsT p Sh E Dn))
  co_take 8 (termsT p Sh E Dn) (KB.rely n (by decide)) hF hw (skip) (co_still (termsT p Sh E Dn))
  co_take 9 (termsT p Sh E Dn) (KB.rely n (by decide)) hF hw (have hc := hw.m.pp.cell (hp.reg j hj)) (refine dt_read ?_; co_evs (exact hw.m.evP n _))
  co_take 10 (termsT p Sh E Dn) (KB.rely n (by decide)) hF hw (skip) (co_still (termsT p Sh E Dn))
  co_done
  co_apply wpC_seq (termsT p Sh E Dn)
  co_reg (termsT p Sh E Dn)
  co_op (KB.rely n (by decide)) hF (co_still (termsT p Sh E Dn))
  co_op (KB.rely n (by decide)) hF (co_still (termsT p Sh E Dn))
  co_op (KB.rely n (by decide)) hF (co_still (termsT p Sh E Dn))
  co_op (KB.rely n (by decide)) hF (co_still (termsT p Sh E Dn))
  co_opw (KB.rely n (by decide)) hF (have hc := hF.m.pp.cell hp.at_) (refine dt_read ?_; co_evs (exact hF.m.evP n _))
  clear hc
  co_op (KB.rely n (by decide)) hF (co_still (termsT p Sh E Dn))
  co_op (KB.rely n (by decide)) hF (co_still (termsT p Sh E Dn))
  co_apply opsC_nil (termsT p Sh E Dn)
  co_then
  co_apply wpC_seq (termsT p Sh E Dn)
  co_apply wpC_seq (termsT p Sh E Dn)
  co_reg (termsT p Sh E Dn)
  co_op (KB.rely n (by decide)) hF (co_still (termsT p Sh E Dn))
  co_opw (KB.rely n (by decide)) hF (have hc := hF.b.cell (i := 0) rfl) (refine dt_read ?_; co_evs (exact hF.ev n (by decide) _))
  clear hc
  co_apply opsC_nil (termsT p Sh E Dn)
  co_then
  co_apply wpC_block (termsT p Sh E Dn)
  co_apply wpC_seq (termsT p Sh E Dn)
  co_reg (termsT p Sh E Dn)
  co_op (KB.rely n (by decide)) hF (co_still (termsT p Sh E Dn))
  co_op (KB.rely n (by decide)) hF (co_still (termsT p Sh E Dn))
  co_apply opsC_nil (termsT p Sh E Dn)
  co_then
  co_apply wpC_cond (termsT p Sh E Dn) (t := false)
  focus (exact rfl)
  simp only [if_true, if_false, Bool.false_eq_true, reduceIte]
  co_apply wpC_seq (termsT p Sh E Dn)
  co_reg (termsT p Sh E Dn)
  co_op (KB.rely n (by decide)) hF (co_still (termsT p Sh E Dn))
  co_op (KB.rely n (by decide)) hF (co_still (termsT p Sh E Dn))
  co_apply opsC_nil (termsT p Sh E Dn)
  co_then
  co_apply wpC_cond (termsT p Sh E Dn) (t := true)
  focus (exact rfl)
  simp only [if_true, if_false, Bool.false_eq_true, reduceIte]
  co_reg (termsT p Sh E Dn)
  co_op (KB.rely n (by decide)) hF (co_still (termsT p Sh E Dn))
  co_op (KB.rely n (by decide)) hF (co_still (termsT p Sh E Dn))
  co_op (KB.rely n (by decide)) hF (co_still (termsT p Sh E Dn))
  co_opw (KB.rely n (by decide)) hF (have hc := hF.m.pp.cell (hp.reg i hi); have hz := hF.m.pp.thaw (7 + i)) (refine hF.m.dtP n ?_; intro e he; have hm := mem_listed he; simp [go_sem, *] at hm; exact hm)
  clear hc hz
  replace hF := hF.setP n (by decide) (7 + i) (.int .u16 (r j))
  replace hp := hp.setReg hi (r j)
  co_apply opsC_nil (termsT p Sh E Dn)
  co_then
  co_apply wpC_seq (termsT p Sh E Dn)
  co_reg (termsT p Sh E Dn)
  co_op (KB.rely n (by decide)) hF (co_still (termsT p Sh E Dn))
  co_op (KB.rely n (by decide)) hF (co_still (termsT p Sh E Dn))
  co_op (KB.rely n (by decide)) hF (co_still (termsT p Sh E Dn))
  co_op (KB.rely n (by decide)) hF (co_still (termsT p Sh E Dn))
  co_op (KB.rely n (by decide)) hF (co_still (termsT p Sh E Dn))
  co_opw (KB.rely n (by decide)) hF (have hc := hF.m.pp.cell hp.at_; have hz := hF.m.pp.thaw 4) (refine hF.m.dtP n ?_; intro e he; have hm := mem_listed he; simp [go_sem, *] at hm; exact hm)
  clear hc hz
  replace hF := hF.setP n (by decide) 4 (.int .i64 (at_ + 1))
  replace hp := hp.setAt (at_ + 1)
  co_apply opsC_nil (termsT p Sh E Dn)
  co_then
  co_go (termsT p Sh E Dn) (KB.rely n (by decide)) hF (co_still (termsT p Sh E Dn))
  exact ⟨rfl, _, resultsC_tmp (by rfl) _, rfl, _, hp, hF.m⟩

set_option maxRecDepth 100000 in
set_option maxHeartbeats 4000000 in
theorem do_add (n : En p Sh E Dn a) : ∃ k, ∀ (kc pc : Array Value) (Q : Nat) (qc : Array Value) {st status at_ lv used : Int} {r m : Nat → Int} (hp : Pst pc st status at_ lv used r m) (hat : 0 ≤ at_ ∧ at_ < 65536) (i j : Nat) (hi : i < 8) (hj : j < 8) (y z : Int) (hy : 0 ≤ y ∧ y < 256) (hz : 0 ≤ z ∧ z < 256) (hyj : y % 8 = j) (w : World), KM p Sh E Dn a kc pc Q qc w →
    CallsC Tryd.prog false (RB p E Dn) (DT p Sh E Dn) 68 #[.pointer (some ⟨a.P, 0, none⟩), .agg #[.int .u8 3, .int .u8 i, .int .u8 y, .int .u8 z]] k w fun v w' => v = .nilIface ∧
      ∃ pc', Pst pc' st status (at_ + 1) lv used (put r i ((r i + r j) % 65536)) m ∧ KM p Sh E Dn a kc pc' Q qc w' := by
  co_apply Exists.intro
  intro kc pc Q qc st status at_ lv used r m hp hat i j hi hj y z hy hz hyj w hF
  co_apply callsC_of_wpC Tryd.func68 (by rfl) rfl
  simp only [Tryd.ntmps68, List.size_toArray, List.length_cons, List.length_nil, Nat.reduceAdd, Nat.reduceSub, Array.replicate_succ, Array.replicate_zero, List.push_toArray, List.append_toArray, List.nil_append, List.cons_append]
  co_apply wpC_seq (termsT p Sh E Dn)
  co_reg (termsT p Sh E Dn)
  co_opw (KM.rely n) hF (skip) (refine hF.dtAlloc n (by decide) ?_; co_evs (skip))
  replace hF := KB.new n hF 110 #[.int .u8 3, .int .u8 i, .int .u8 y, .int .u8 z]
  co_op (KB.rely n (by decide)) hF (co_still (termsT p Sh E Dn))
  co_apply opsC_nil (termsT p Sh E Dn)
  co_then
  have q1 : IntKind.i64.wrap (i : Int) = i := by simp [IntKind.wrap_i64]; omega
  have q2 : IntKind.i64.wrap y = y := by simp [IntKind.wrap_i64]; omega
  have q3 : IntKind.i64.wrap (at_ + 1) = at_ + 1 := by simp [IntKind.wrap_i64]; omega
  have q5 : (i : Int).tmod 8 = i := by rw [Int.tmod_eq_emod_of_nonneg (by omega)]; omega
  have q6 : y.tmod 8 = j := by rw [Int.tmod_eq_emod_of_nonneg (by omega)]; omega
  have b1 : (i : Int) < 8 := by omega
  have b2 : (j : Int) < 8 := by omega
  have e1 := fun (w : World) (es : Array Event) => events_indexAt_array (P := Tryd.prog) (w := w) (es := es) 40 _ 8 ⟨a.P, 7, none⟩ .i64 (i : Int) Tryd.underlying40 (by omega)
  have e2 := fun (w : World) (es : Array Event) => events_indexAt_array (P := Tryd.prog) (w := w) (es := es) 40 _ 8 ⟨a.P, 7, none⟩ .i64 (j : Int) Tryd.underlying40 (by omega)
  co_apply wpC_seq (termsT p Sh E Dn)
  co_held (termsT p Sh E Dn) (drawT p Sh E Dn) (ownDrawT p E Dn) (KB p Sh E Dn a kc pc Q qc _ 110 #[.int .u8 3, .int .u8 i, .int .u8 y, .int .u8 z]) (KB.rely n (by decide)) hF
  co_take 0 (termsT p Sh E Dn) (KB.rely n (by decide)) hF hw (skip) (co_still (termsT p Sh E Dn))
  co_take 1 (termsT p Sh E Dn) (KB.rely n (by decide)) hF hw (skip) (co_still (termsT p Sh E Dn))
  co_take 2 (termsT p Sh E Dn) (KB.rely n (by decide)) hF hw (have hc := hw.b.cell (i := 1) rfl) (refine dt_read ?_; co_evs (exact hw.ev n (by decide) _))
  co_take 3 (termsT p Sh E Dn) (KB.rely n (by decide)) hF hw (skip) (co_still (termsT p Sh E Dn))
  co_take 4 (termsT p Sh E Dn) (KB.rely n (by decide)) hF hw (skip) (co_still (termsT p Sh E Dn))
  co_take 5 (termsT p Sh E Dn) (KB.rely n (by decide)) hF hw (skip) (co_still (termsT p Sh E Dn))
  co_take 6 (termsT p Sh E Dn) (KB.rely n (by decide)) hF hw (skip) (co_still (termsT p Sh E Dn))
  co_take 7 (termsT p Sh E Dn) (KB.rely n (by decide)) hF hw (skip) (co_still (termsT p Sh E Dn))
  co_take 8 (termsT p Sh E Dn) (KB.rely n (by decide)) hF hw (skip) (co_still (termsT p Sh E Dn))
  co_take 9 (termsT p Sh E Dn) (KB.rely n (by decide)) hF hw (skip) (co_still (termsT p Sh E Dn))
  co_done
  co_apply wpC_seq (termsT p Sh E Dn)
  co_held (termsT p Sh E Dn) (drawT p Sh E Dn) (ownDrawT p E Dn) (KB p Sh E Dn a kc pc Q qc _ 110 #[.int .u8 3, .int .u8 i, .int .u8 y, .int .u8 z]) (KB.rely n (by decide)) hF
  co_take 0 (termsT p Sh E Dn) (KB.rely n (by decide)) hF hw (skip) (co_still (termsT p Sh E Dn))
  co_take 1 (termsT p Sh E Dn) (KB.rely n (by decide)) hF hw (skip) (co_still (termsT p Sh E Dn))
  co_take 2 (termsT p Sh E Dn) (KB.rely n (by decide)) hF hw (have hc := hw.b.cell (i := 2) rfl) (refine dt_read ?_; co_evs (exact hw.ev n (by decide) _))
  co_take 3 (termsT p Sh E Dn) (KB.rely n (by decide)) hF hw (skip) (co_still (termsT p Sh E Dn))
  co_take 4 (termsT p Sh E Dn) (KB.rely n (by decide)) hF hw (skip) (co_still (termsT p Sh E Dn))
  co_take 5 (termsT p Sh E Dn) (KB.rely n (by decide)) hF hw (skip) (co_still (termsT p Sh E Dn))
  co_take 6 (termsT p Sh E Dn) (KB.rely n (by decide)) hF hw (skip) (co_still (termsT p Sh E Dn))
  co_take 7 (termsT p Sh E Dn) (KB.rely n (by decide)) hF hw (skip) (co_still (termsT p Sh E Dn))
  co_take 8 (termsT p Sh E Dn) (KB.rely n (by decide)) hF hw (skip) (co_still (termsT p Sh E Dn))
  co_take 9 (termsT p Sh E Dn) (KB.rely n (by decide)) hF hw (have hc := hw.m.pp.cell (hp.reg j hj)) (refine dt_read ?_; co_evs (exact hw.m.evP n _))
  co_take 10 (termsT p Sh E Dn) (KB.rely n (by decide)) hF hw (skip) (co_still (termsT p Sh E Dn))
  co_done
  co_apply wpC_seq (termsT p Sh E Dn)
  co_reg (termsT p Sh E Dn)
  co_op (KB.rely n (by decide)) hF (co_still (termsT p Sh E Dn))
  co_op (KB.rely n (by decide)) hF (co_still (termsT p Sh E Dn))
  co_op (KB.rely n (by decide)) hF (co_still (termsT p Sh E Dn))
  co_op (KB.rely n (by decide)) hF (co_still (termsT p Sh E Dn))
  co_opw (KB.rely n (by decide)) hF (have hc := hF.m.pp.cell hp.at_) (refine dt_read ?_; co_evs (exact hF.m.evP n _))
  clear hc
  co_op (KB.rely n (by decide)) hF (co_still (termsT p Sh E Dn))
  co_op (KB.rely n (by decide)) hF (co_still (termsT p Sh E Dn))
  co_apply opsC_nil (termsT p Sh E Dn)
  co_then
  co_apply wpC_seq (termsT p Sh E Dn)
  co_apply wpC_seq (termsT p Sh E Dn)
  co_reg (termsT p Sh E Dn)
  co_op (KB.rely n (by decide)) hF (co_still (termsT p Sh E Dn))
  co_opw (KB.rely n (by decide)) hF (have hc := hF.b.cell (i := 0) rfl) (refine dt_read ?_; co_evs (exact hF.ev n (by decide) _))
  clear hc
  co_apply opsC_nil (termsT p Sh E Dn)
  co_then
  co_apply wpC_block (termsT p Sh E Dn)
  co_apply wpC_seq (termsT p Sh E Dn)
  co_reg (termsT p Sh E Dn)
  co_op (KB.rely n (by decide)) hF (co_still (termsT p Sh E Dn))
  co_op (KB.rely n (by decide)) hF (co_still (termsT p Sh E Dn))
  co_apply opsC_nil (termsT p Sh E Dn)
  co_then
  co_apply wpC_cond (termsT p Sh E Dn) (t := false)
  focus (exact rfl)
  simp only [if_true, if_false, Bool.false_eq_true, reduceIte]
  co_apply wpC_seq (termsT p Sh E Dn)
  co_reg (termsT p Sh E Dn)
  co_op (KB.rely n (by decide)) hF (co_still (termsT p Sh E Dn))
  co_op (KB.rely n (by decide)) hF (co_still (termsT p Sh E Dn))
  co_apply opsC_nil (termsT p Sh E Dn)
  co_then
  co_apply wpC_cond (termsT p Sh E Dn) (t := false)
  focus (exact rfl)
  simp only [if_true, if_false, Bool.false_eq_true, reduceIte]
  co_apply wpC_seq (termsT p Sh E Dn)
  co_reg (termsT p Sh E Dn)
  co_op (KB.rely n (by decide)) hF (co_still (termsT p Sh E Dn))
  co_op (KB.rely n (by decide)) hF (co_still (termsT p Sh E Dn))
  co_apply opsC_nil (termsT p Sh E Dn)
  co_then
  co_apply wpC_cond (termsT p Sh E Dn) (t := true)
  focus (exact rfl)
  simp only [if_true, if_false, Bool.false_eq_true, reduceIte]
  have qa : IntKind.u16.wrap (r i + r j) = (r i + r j) % 65536 := wrap_u16 _
  co_reg (termsT p Sh E Dn)
  co_op (KB.rely n (by decide)) hF (co_still (termsT p Sh E Dn))
  co_op (KB.rely n (by decide)) hF (co_still (termsT p Sh E Dn))
  co_opw (KB.rely n (by decide)) hF (have hc := hF.m.pp.cell (hp.reg i hi)) (refine dt_read ?_; co_evs (exact hF.m.evP n _))
  clear hc
  co_op (KB.rely n (by decide)) hF (co_still (termsT p Sh E Dn))
  co_op (KB.rely n (by decide)) hF (co_still (termsT p Sh E Dn))
  co_op (KB.rely n (by decide)) hF (co_still (termsT p Sh E Dn))
  co_opw (KB.rely n (by decide)) hF (have hc := hF.m.pp.cell (hp.reg i hi); have hz := hF.m.pp.thaw (7 + i)) (refine hF.m.dtP n ?_; intro e he; have hm := mem_listed he; simp [go_sem, *] at hm; exact hm)
  clear hc hz
  replace hF := hF.setP n (by decide) (7 + i) (.int .u16 ((r i + r j) % 65536))
  replace hp := hp.setReg hi ((r i + r j) % 65536)
  co_apply opsC_nil (termsT p Sh E Dn)
  co_then
  co_apply wpC_seq (termsT p Sh E Dn)
  co_reg (termsT p Sh E Dn)
  co_op (KB.rely n (by decide)) hF (co_still (termsT p Sh E Dn))
  co_op (KB.rely n (by decide)) hF (co_still (termsT p Sh E Dn))
  co_op (KB.rely n (by decide)) hF (co_still (termsT p Sh E Dn))
  co_op (KB.rely n (by decide)) hF (co_still (termsT p Sh E Dn))
  co_op (KB.rely n (by decide)) hF (co_still (termsT p Sh E Dn))
  co_opw (KB.rely n (by decide)) hF (have hc := hF.m.pp.cell hp.at_; have hz := hF.m.pp.thaw 4) (refine hF.m.dtP n ?_; intro e he; have hm := mem_listed he; simp [go_sem, *] at hm; exact hm)
  clear hc hz
  replace hF := hF.setP n (by decide) 4 (.int .i64 (at_ + 1))
  replace hp := hp.setAt (at_ + 1)
  co_apply opsC_nil (termsT p Sh E Dn)
  co_then
  co_go (termsT p Sh E Dn) (KB.rely n (by decide)) hF (co_still (termsT p Sh E Dn))
  exact ⟨rfl, _, resultsC_tmp (by rfl) _, rfl, _, hp, hF.m⟩

set_option maxRecDepth 100000 in
set_option maxHeartbeats 4000000 in
theorem do_sub (n : En p Sh E Dn a) : ∃ k, ∀ (kc pc : Array Value) (Q : Nat) (qc : Array Value) {st status at_ lv used : Int} {r m : Nat → Int} (hp : Pst pc st status at_ lv used r m) (hat : 0 ≤ at_ ∧ at_ < 65536) (i j : Nat) (hi : i < 8) (hj : j < 8) (y z : Int) (hy : 0 ≤ y ∧ y < 256) (hz : 0 ≤ z ∧ z < 256) (hyj : y % 8 = j) (w : World), KM p Sh E Dn a kc pc Q qc w →
    CallsC Tryd.prog false (RB p E Dn) (DT p Sh E Dn) 68 #[.pointer (some ⟨a.P, 0, none⟩), .agg #[.int .u8 4, .int .u8 i, .int .u8 y, .int .u8 z]] k w fun v w' => v = .nilIface ∧
      ∃ pc', Pst pc' st status (at_ + 1) lv used (put r i ((r i - r j) % 65536)) m ∧ KM p Sh E Dn a kc pc' Q qc w' := by
  co_apply Exists.intro
  intro kc pc Q qc st status at_ lv used r m hp hat i j hi hj y z hy hz hyj w hF
  co_apply callsC_of_wpC Tryd.func68 (by rfl) rfl
  simp only [Tryd.ntmps68, List.size_toArray, List.length_cons, List.length_nil, Nat.reduceAdd, Nat.reduceSub, Array.replicate_succ, Array.replicate_zero, List.push_toArray, List.append_toArray, List.nil_append, List.cons_append]
  co_apply wpC_seq (termsT p Sh E Dn)
  co_reg (termsT p Sh E Dn)
  co_opw (KM.rely n) hF (skip) (refine hF.dtAlloc n (by decide) ?_; co_evs (skip))
  replace hF := KB.new n hF 110 #[.int .u8 4, .int .u8 i, .int .u8 y, .int .u8 z]
  co_op (KB.rely n (by decide)) hF (co_still (termsT p Sh E Dn))
  co_apply opsC_nil (termsT p Sh E Dn)
  co_then
  have q1 : IntKind.i64.wrap (i : Int) = i := by simp [IntKind.wrap_i64]; omega
  have q2 : IntKind.i64.wrap y = y := by simp [IntKind.wrap_i64]; omega
  have q3 : IntKind.i64.wrap (at_ + 1) = at_ + 1 := by simp [IntKind.wrap_i64]; omega
  have q5 : (i : Int).tmod 8 = i := by rw [Int.tmod_eq_emod_of_nonneg (by omega)]; omega
  have q6 : y.tmod 8 = j := by rw [Int.tmod_eq_emod_of_nonneg (by omega)]; omega
  have b1 : (i : Int) < 8 := by omega
  have b2 : (j : Int) < 8 := by omega
  have e1 := fun (w : World) (es : Array Event) => events_indexAt_array (P := Tryd.prog) (w := w) (es := es) 40 _ 8 ⟨a.P, 7, none⟩ .i64 (i : Int) Tryd.underlying40 (by omega)
  have e2 := fun (w : World) (es : Array Event) => events_indexAt_array (P := Tryd.prog) (w := w) (es := es) 40 _ 8 ⟨a.P, 7, none⟩ .i64 (j : Int) Tryd.underlying40 (by omega)
  co_apply wpC_seq (termsT p Sh E Dn)
  co_held (termsT p Sh E Dn) (drawT p Sh E Dn) (ownDrawT p E Dn) (KB p Sh E Dn a kc pc Q qc _ 110 #[.int .u8 4, .int .u8 i, .int .u8 y, .int .u8 z]) (KB.rely n (by decide)) hF
  co_take 0 (termsT p Sh E Dn) (KB.rely n (by decide)) hF hw (skip) (co_still (termsT p Sh E Dn))
  co_take 1 (termsT p Sh E Dn) (KB.rely n (by decide)) hF hw (skip) (co_still (termsT p Sh E Dn))
  co_take 2 (termsT p Sh E Dn) (KB.rely n (by decide)) hF hw (have hc := hw.b.cell (i := 1) rfl) (refine dt_read ?_; co_evs (exact hw.ev n (by decide) _))
  co_take 3 (termsT p Sh E Dn) (KB.rely n (by decide)) hF hw (skip) (co_still (termsT p Sh E Dn))
  co_take 4 (termsT p Sh E Dn) (KB.rely n (by decide)) hF hw (skip) (co_still (termsT p Sh E Dn))
  co_take 5 (termsT p Sh E Dn) (KB.rely n (by decide)) hF hw (skip) (co_still (termsT p Sh E Dn))
  co_take 6 (termsT p Sh E Dn) (KB.rely n (by decide)) hF hw (skip) (co_still (termsT p Sh E Dn))
  co_take 7 (termsT p Sh E Dn) (KB.rely n (by decide)) hF hw (skip) (co_still (termsT p Sh E Dn))
  co_take 8 (termsT p Sh E Dn) (KB.rely n (by decide)) hF hw (skip) (co_still (termsT p Sh E Dn))
  co_take 9 (termsT p Sh E Dn) (KB.rely n (by decide)) hF hw (skip) (co_still (termsT p Sh E Dn))
  co_done
  co_apply wpC_seq (termsT p Sh E Dn)
  co_held (termsT p Sh E Dn) (drawT p Sh E Dn) (ownDrawT p E Dn) (KB p Sh E Dn a kc pc Q qc _ 110 #[.int .u8 4, .int .u8 i, .int .u8 y, .int .u8 z]) (KB.rely n (by decide)) hF
  co_take 0 (termsT p Sh E Dn) (KB.rely n (by decide)) hF hw (skip) (co_still (termsT p Sh E Dn))
  co_take 1 (termsT p Sh E Dn) (KB.rely n (by decide)) hF hw (skip) (co_still (termsT p Sh E Dn))
  co_take 2 (termsT p Sh E Dn) (KB.rely n (by decide)) hF hw (have hc := hw.b.cell (i := 2) rfl) (refine dt_read ?_; co_evs (exact hw.ev n (by decide) _))
  co_take 3 (termsT p Sh E Dn) (KB.rely n (by decide)) hF hw (skip) (co_still (termsT p Sh E Dn))
  co_take 4 (termsT p Sh E Dn) (KB.rely n (by decide)) hF hw (skip) (co_still (termsT p Sh E Dn))
  co_take 5 (termsT p Sh E Dn) (KB.rely n (by decide)) hF hw (skip) (co_still (termsT p Sh E Dn))
  co_take 6 (termsT p Sh E Dn) (KB.rely n (by decide)) hF hw (skip) (co_still (termsT p Sh E Dn))
  co_take 7 (termsT p Sh E Dn) (KB.rely n (by decide)) hF hw (skip) (co_still (termsT p Sh E Dn))
  co_take 8 (termsT p Sh E Dn) (KB.rely n (by decide)) hF hw (skip) (co_still (termsT p Sh E Dn))
  co_take 9 (termsT p Sh E Dn) (KB.rely n (by decide)) hF hw (have hc := hw.m.pp.cell (hp.reg j hj)) (refine dt_read ?_; co_evs (exact hw.m.evP n _))
  co_take 10 (termsT p Sh E Dn) (KB.rely n (by decide)) hF hw (skip) (co_still (termsT p Sh E Dn))
  co_done
  co_apply wpC_seq (termsT p Sh E Dn)
  co_reg (termsT p Sh E Dn)
  co_op (KB.rely n (by decide)) hF (co_still (termsT p Sh E Dn))
  co_op (KB.rely n (by decide)) hF (co_still (termsT p Sh E Dn))
  co_op (KB.rely n (by decide)) hF (co_still (termsT p Sh E Dn))
  co_op (KB.rely n (by decide)) hF (co_still (termsT p Sh E Dn))
  co_opw (KB.rely n (by decide)) hF (have hc := hF.m.pp.cell hp.at_) (refine dt_read ?_; co_evs (exact hF.m.evP n _))
  clear hc
  co_op (KB.rely n (by decide)) hF (co_still (termsT p Sh E Dn))
  co_op (KB.rely n (by decide)) hF (co_still (termsT p Sh E Dn))
  co_apply opsC_nil (termsT p Sh E Dn)
  co_then
  co_apply wpC_seq (termsT p Sh E Dn)
  co_apply wpC_seq (termsT p Sh E Dn)
  co_reg (termsT p Sh E Dn)
  co_op (KB.rely n (by decide)) hF (co_still (termsT p Sh E Dn))
  co_opw (KB.rely n (by decide)) hF (have hc := hF.b.cell (i := 0) rfl) (refine dt_read ?_; co_evs (exact hF.ev n (by decide) _))
  clear hc
  co_apply opsC_nil (termsT p Sh E Dn)
  co_then
  co_apply wpC_block (termsT p Sh E Dn)
  co_apply wpC_seq (termsT p Sh E Dn)
  co_reg (termsT p Sh E Dn)
  co_op (KB.rely n (by decide)) hF (co_still (termsT p Sh E Dn))
  co_op (KB.rely n (by decide)) hF (co_still (termsT p Sh E Dn))
  co_apply opsC_nil (termsT p Sh E Dn)
  co_then
  co_apply wpC_cond (termsT p Sh E Dn) (t := false)
  focus (exact rfl)
  simp only [if_true, if_false, Bool.false_eq_true, reduceIte]
  co_apply wpC_seq (termsT p Sh E Dn)
  co_reg (termsT p Sh E Dn)
  co_op (KB.rely n (by decide)) hF (co_still (termsT p Sh E Dn))
  co_op (KB.rely n (by decide)) hF (co_still (termsT p Sh E Dn))
  co_apply opsC_nil (termsT p Sh E Dn)
  co_then
  co_apply wpC_cond (termsT p Sh E Dn) (t := false)
  focus (exact rfl)
  simp only [if_true, if_false, Bool.false_eq_true, reduceIte]
  co_apply wpC_seq (termsT p Sh E Dn)
  co_reg (termsT p Sh E Dn)
  co_op (KB.rely n (by decide)) hF (co_still (termsT p Sh E Dn))
  co_op (KB.rely n (by decide)) hF (co_still (termsT p Sh E Dn))
  co_apply opsC_nil (termsT p Sh E Dn)
  co_then
  co_apply wpC_cond (termsT p Sh E Dn) (t := false)
  focus (exact rfl)
  simp only [if_true, if_false, Bool.false_eq_true, reduceIte]
  co_apply wpC_seq (termsT p Sh E Dn)
  co_reg (termsT p Sh E Dn)
  co_op (KB.rely n (by decide)) hF (co_still (termsT p Sh E Dn))
  co_op (KB.rely n (by decide)) hF (co_still (termsT p Sh E Dn))
  co_apply opsC_nil (termsT p Sh E Dn)
  co_then
  co_apply wpC_cond (termsT p Sh E Dn) (t := true)
  focus (exact rfl)
  simp only [if_true, if_false, Bool.false_eq_true, reduceIte]
  have qa : IntKind.u16.wrap (r i - r j) = (r i - r j) % 65536 := wrap_u16 _
  co_reg (termsT p Sh E Dn)
  co_op (KB.rely n (by decide)) hF (co_still (termsT p Sh E Dn))
  co_op (KB.rely n (by decide)) hF (co_still (termsT p Sh E Dn))
  co_opw (KB.rely n (by decide)) hF (have hc := hF.m.pp.cell (hp.reg i hi)) (refine dt_read ?_; co_evs (exact hF.m.evP n _))
  clear hc
  co_op (KB.rely n (by decide)) hF (co_still (termsT p Sh E Dn))
  co_op (KB.rely n (by decide)) hF (co_still (termsT p Sh E Dn))
  co_op (KB.rely n (by decide)) hF (co_still (termsT p Sh E Dn))
  co_opw (KB.rely n (by decide)) hF (have hc := hF.m.pp.cell (hp.reg i hi); have hz := hF.m.pp.thaw (7 + i)) (refine hF.m.dtP n ?_; intro e he; have hm := mem_listed he; simp [go_sem, *] at hm; exact hm)
  clear hc hz
  replace hF := hF.setP n (by decide) (7 + i) (.int .u16 ((r i - r j) % 65536))
  replace hp := hp.setReg hi ((r i - r j) % 65536)
  co_apply opsC_nil (termsT p Sh E Dn)
  co_then
  co_apply wpC_seq (termsT p Sh E Dn)
  co_reg (termsT p Sh E Dn)
  co_op (KB.rely n (by decide)) hF (co_still (termsT p Sh E Dn))
  co_op (KB.rely n (by decide)) hF (co_still (termsT p Sh E Dn))
  co_op (KB.rely n (by decide)) hF (co_still (termsT p Sh E Dn))
  co_op (KB.rely n (by decide)) hF (co_still (termsT p Sh E Dn))
  co_op (KB.rely n (by decide)) hF (co_still (termsT p Sh E Dn))
  co_opw (KB.rely n (by decide)) hF (have hc := hF.m.pp.cell hp.at_; have hz := hF.m.pp.thaw 4) (refine hF.m.dtP n ?_; intro e he; have hm := mem_listed he; simp [go_sem, *] at hm; exact hm)
  clear hc hz
  replace hF := hF.setP n (by decide) 4 (.int .i64 (at_ + 1))
  replace hp := hp.setAt (at_ + 1)
  co_apply opsC_nil (termsT p Sh E Dn)
  co_then
  co_go (termsT p Sh E Dn) (KB.rely n (by decide)) hF (co_still (termsT p Sh E Dn))
  exact ⟨rfl, _, resultsC_tmp (by rfl) _, rfl, _, hp, hF.m⟩
end Go.Proofs.YtbnaccilnilcmaaDoor
