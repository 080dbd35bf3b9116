/-
  errors.As, of an error that is no refusal: false; nothing turns.
  No condition but those that each statement names.
-/
import Derived.Test.YtbnaccilnilcmaaDoorHx25
import Derived.Test.YtbnaccilnilcmaaDoorHx18
import Derived.Test.YtbnaccilnilcmaaDoorHx17
import Derived.Test.YtbnaccilnilcmaaDoorHx11
set_option linter.unusedVariables false
set_option linter.unusedSimpArgs false
set_option linter.unusedSectionVars false
namespace Go.Proofs.YtbnaccilnilcmaaDoor
open Go.Conc Go.RowKit Go.Hx Go.Extern.Stop Go.Stop Go.Extern

variable {p : Par} {Sh : Loc → Prop} {E Dn : Nat} {a : Ad}

set_option maxRecDepth 100000 in
set_option maxHeartbeats 4000000 in
theorem as_f (n : En p Sh E Dn a) : ∃ k, ∀ (kc pc : Array Value) (Q : Nat) (qc : Array Value) (ep tp vp : Addr) (w : World), KM p Sh E Dn a kc pc Q qc w →
    CallsC Tryd.prog false (RB p E Dn) (DT p Sh E Dn) 73 #[.iface 168 (.pointer (some ep)), .iface 126 (.pointer (some tp)), .agg #[.pointer (some ⟨5, 126, none⟩), .pointer (some vp), .int .u64 150], .iface 151 (.agg #[.pointer (some ⟨5, 124, none⟩)])] k w fun v w' => v = .bool false ∧ KM p Sh E Dn a kc pc Q qc w' := by
  co_apply Exists.intro
  intro kc pc Q qc ep tp vp w hF
  have h79 := @run_callFunc_extern Tryd.prog 79 _ ReflectliteType.typeOf Tryd.func79 (by kernel_rfl) (by kernel_rfl) (by kernel_rfl) (by kernel_rfl)
  have v79 := fun w args es => events_callFunc_extern (P := Tryd.prog) (w := w) (f := 79) (e := ReflectliteType.typeOf) Tryd.func79 (by kernel_rfl) (by kernel_rfl) (by kernel_rfl) (by kernel_rfl) args es
  have h106 := @run_callFunc_extern Tryd.prog 106 _ (ReflectliteType.relation "AssignableTo" ReflectliteType.assignableTo) Tryd.func106 (by kernel_rfl) (by kernel_rfl) (by kernel_rfl) (by kernel_rfl)
  have v106 := fun w args es => events_callFunc_extern (P := Tryd.prog) (w := w) (f := 106) (e := (ReflectliteType.relation "AssignableTo" ReflectliteType.assignableTo)) Tryd.func106 (by kernel_rfl) (by kernel_rfl) (by kernel_rfl) (by kernel_rfl) args es
  have tO := typeOf168
  have a168 := assignable168
  have tOe := typeOf168e
  have mA := mAssignable
  have mAe := mAssignable_e
  have r1 := asr156
  have r2 := asr159
  have r3 := asr161
  have r1e := asr156e
  have r2e := asr159e
  have r3e := asr161e
  have a168e := assignable168e
  co_apply callsC_of_wpC Tryd.func73 (by rfl) rfl
  simp only [Tryd.ntmps73, List.size_toArray, List.length_cons, List.length_nil, Nat.reduceAdd, Nat.reduceSub, Array.replicate_succ, Array.replicate_zero, List.push_toArray, List.append_toArray, List.nil_append, List.cons_append]
  co_apply wpC_seq (termsT p Sh E Dn)
  co_reg (termsT p Sh E Dn)
  co_opw (KM.rely n) hF (skip) (refine hF.dtAlloc n (by decide) ?_; co_evs (skip))
  replace hF := hF.alloc (.cells #[.pointer (some ⟨5, 126, none⟩), .pointer (some vp), .int .u64 150] 133)
  co_op (KM.rely n) hF (co_still (termsT p Sh E Dn))
  co_apply opsC_nil (termsT p Sh E Dn)
  co_then
  co_apply wpC_block (termsT p Sh E Dn)
  co_apply wpC_loop0 (termsT p Sh E Dn)
  co_apply wpC_block (termsT p Sh E Dn)
  co_apply wpC_seq (termsT p Sh E Dn)
  co_apply wpC_seq (termsT p Sh E Dn)
  co_reg (termsT p Sh E Dn)
  co_op (KM.rely n) hF (co_still (termsT p Sh E Dn))
  co_opw (KM.rely n) hF (skip) (refine dt_read ?_; co_evs (exact evB_ext))
  co_op (KM.rely n) hF (co_still (termsT p Sh E Dn))
  co_opw (KM.rely n) hF (skip) (refine dt_read ?_; co_evs (exact evB_ext))
  co_apply opsC_nil (termsT p Sh E Dn)
  co_then
  co_apply wpC_cond (termsT p Sh E Dn) (t := false)
  focus (exact rfl)
  simp only [if_true, if_false, Bool.false_eq_true, reduceIte]
  co_apply wpC_skip (termsT p Sh E Dn)
  co_then
  co_apply wpC_seq (termsT p Sh E Dn)
  co_apply wpC_seq (termsT p Sh E Dn)
  co_reg (termsT p Sh E Dn)
  co_op (KM.rely n) hF (co_still (termsT p Sh E Dn))
  co_op (KM.rely n) hF (co_still (termsT p Sh E Dn))
  co_op (KM.rely n) hF (co_still (termsT p Sh E Dn))
  co_op (KM.rely n) hF (co_still (termsT p Sh E Dn))
  co_op (KM.rely n) hF (co_still (termsT p Sh E Dn))
  co_op (KM.rely n) hF (co_still (termsT p Sh E Dn))
  co_op (KM.rely n) hF (co_still (termsT p Sh E Dn))
  co_apply opsC_nil (termsT p Sh E Dn)
  co_then
  co_apply wpC_seq (termsT p Sh E Dn)
  co_reg (termsT p Sh E Dn)
  co_op (KM.rely n) hF (co_still (termsT p Sh E Dn))
  co_op (KM.rely n) hF (co_still (termsT p Sh E Dn))
  co_apply opsC_unwanted (termsT p Sh E Dn) rfl (by rfl)
  walk_nrm
  co_apply opsC_unwanted (termsT p Sh E Dn) rfl (by rfl)
  walk_nrm
  co_apply opsC_unwanted (termsT p Sh E Dn) rfl (by rfl)
  walk_nrm
  co_op (KM.rely n) hF (co_still (termsT p Sh E Dn))
  co_apply opsC_nil (termsT p Sh E Dn)
  co_then
  co_apply wpC_cond (termsT p Sh E Dn) (t := false)
  focus (exact rfl)
  simp only [if_true, if_false, Bool.false_eq_true, reduceIte]
  co_apply wpC_skip (termsT p Sh E Dn)
  co_then
  co_apply wpC_seq (termsT p Sh E Dn)
  co_reg (termsT p Sh E Dn)
  co_op (KM.rely n) hF (co_still (termsT p Sh E Dn))
  co_apply opsC_nil (termsT p Sh E Dn)
  co_then
  co_apply wpC_block (termsT p Sh E Dn)
  co_apply wpC_seq (termsT p Sh E Dn)
  co_reg (termsT p Sh E Dn)
  co_op (KM.rely n) hF (co_still (termsT p Sh E Dn))
  co_op (KM.rely n) hF (co_still (termsT p Sh E Dn))
  co_op (KM.rely n) hF (co_still (termsT p Sh E Dn))
  co_apply opsC_nil (termsT p Sh E Dn)
  co_then
  co_apply wpC_cond (termsT p Sh E Dn) (t := false)
  focus (exact rfl)
  simp only [if_true, if_false, Bool.false_eq_true, reduceIte]
  co_apply wpC_seq (termsT p Sh E Dn)
  co_reg (termsT p Sh E Dn)
  co_op (KM.rely n) hF (co_still (termsT p Sh E Dn))
  co_op (KM.rely n) hF (co_still (termsT p Sh E Dn))
  co_op (KM.rely n) hF (co_still (termsT p Sh E Dn))
  co_apply opsC_nil (termsT p Sh E Dn)
  co_then
  co_apply wpC_cond (termsT p Sh E Dn) (t := false)
  focus (exact rfl)
  simp only [if_true, if_false, Bool.false_eq_true, reduceIte]
  co_apply wpC_seq (termsT p Sh E Dn)
  co_reg (termsT p Sh E Dn)
  co_op (KM.rely n) hF (co_still (termsT p Sh E Dn))
  co_apply opsC_nil (termsT p Sh E Dn)
  co_then
  co_apply wpC_seq (termsT p Sh E Dn)
  co_reg (termsT p Sh E Dn)
  co_op (KM.rely n) hF (co_still (termsT p Sh E Dn))
  co_apply opsC_nil (termsT p Sh E Dn)
  co_then
  co_apply wpC_ret (termsT p Sh E Dn)
  exact ⟨rfl, _, resultsC_tmp (by rfl) _, rfl, hF⟩
end Go.Proofs.YtbnaccilnilcmaaDoor
/-
  errors.As, of an error that is no refusal: the function as a whole.
  No condition but those that each statement names.
-/
namespace Go.Proofs.YtbnaccilnilcmaaDoor
open Go.Conc Go.RowKit Go.Hx Go.Extern.Stop Go.Stop Go.Extern

variable {p : Par} {Sh : Loc → Prop} {E Dn : Nat} {a : Ad}

set_option maxRecDepth 100000 in
set_option maxHeartbeats 4000000 in
theorem As_f (n : En p Sh E Dn a) {ep : Addr} (g : Gl Sh a ep) : ∃ k, ∀ (kc pc : Array Value) (Q : Nat) (qc : Array Value) (tp : Addr) (w : World), KM p Sh E Dn a kc pc Q qc w →
    CallsC Tryd.prog false (RB p E Dn) (DT p Sh E Dn) 64 #[.iface 168 (.pointer (some ep)), .iface 126 (.pointer (some tp))] k w fun v w' => v = .bool false ∧ KM p Sh E Dn a kc pc Q qc w' := by
  obtain ⟨k73, g73⟩ := as_f n
  co_apply Exists.intro
  intro kc pc Q qc tp w hF
  have h70 := @run_callFunc_extern Tryd.prog 70 _ (fun args => ReflectliteValue.unpack (args.getD 0 (.tuple #[]))) Tryd.func70 (by kernel_rfl) (by kernel_rfl) (by kernel_rfl) (by kernel_rfl)
  have v70 := fun w args es => events_callFunc_extern (P := Tryd.prog) (w := w) (f := 70) (e := fun args => ReflectliteValue.unpack (args.getD 0 (.tuple #[]))) Tryd.func70 (by kernel_rfl) (by kernel_rfl) (by kernel_rfl) (by kernel_rfl) args es
  have h71 := @run_callFunc_extern Tryd.prog 71 _ (ReflectliteValue.methodAny (ReflectliteValue.valueError "reflectlite.Value.Type" 0) (fun t _ _ _ => ReflectliteType.toType t)) Tryd.func71 (by kernel_rfl) (by kernel_rfl) (by kernel_rfl) (by kernel_rfl)
  have v71 := fun w args es => events_callFunc_extern (P := Tryd.prog) (w := w) (f := 71) (e := ReflectliteValue.methodAny (ReflectliteValue.valueError "reflectlite.Value.Type" 0) (fun t _ _ _ => ReflectliteType.toType t)) Tryd.func71 (by kernel_rfl) (by kernel_rfl) (by kernel_rfl) (by kernel_rfl) args es
  have h72 := @run_callFunc_extern Tryd.prog 72 _ (ReflectliteValue.method (ReflectliteValue.valueError "reflectlite.Value.IsNil" 0) ReflectliteValue.isNil) Tryd.func72 (by kernel_rfl) (by kernel_rfl) (by kernel_rfl) (by kernel_rfl)
  have v72 := fun w args es => events_callFunc_extern (P := Tryd.prog) (w := w) (f := 72) (e := ReflectliteValue.method (ReflectliteValue.valueError "reflectlite.Value.IsNil" 0) ReflectliteValue.isNil) Tryd.func72 (by kernel_rfl) (by kernel_rfl) (by kernel_rfl) (by kernel_rfl) args es
  have h97 := @run_callFunc_extern Tryd.prog 97 _ (ReflectliteType.abiMethod fun t => do pure (.int .u8 (← Rtype.kind t))) Tryd.func97 (by kernel_rfl) (by kernel_rfl) (by kernel_rfl) (by kernel_rfl)
  have v97 := fun w args es => events_callFunc_extern (P := Tryd.prog) (w := w) (f := 97) (e := ReflectliteType.abiMethod fun t => do pure (.int .u8 (← Rtype.kind t))) Tryd.func97 (by kernel_rfl) (by kernel_rfl) (by kernel_rfl) (by kernel_rfl) args es
  have h108 := @run_callFunc_extern Tryd.prog 108 _ (ReflectliteType.method ReflectliteType.elem) Tryd.func108 (by kernel_rfl) (by kernel_rfl) (by kernel_rfl) (by kernel_rfl)
  have v108 := fun w args es => events_callFunc_extern (P := Tryd.prog) (w := w) (f := 108) (e := ReflectliteType.method ReflectliteType.elem) Tryd.func108 (by kernel_rfl) (by kernel_rfl) (by kernel_rfl) (by kernel_rfl) args es
  have h109 := @run_callFunc_extern Tryd.prog 109 _ (ReflectliteType.relation "Implements" ReflectliteType.implements_) Tryd.func109 (by kernel_rfl) (by kernel_rfl) (by kernel_rfl) (by kernel_rfl)
  have v109 := fun w args es => events_callFunc_extern (P := Tryd.prog) (w := w) (f := 109) (e := ReflectliteType.relation "Implements" ReflectliteType.implements_) Tryd.func109 (by kernel_rfl) (by kernel_rfl) (by kernel_rfl) (by kernel_rfl) args es
  have f70 := valueOf126
  have f70e := valueOf126e
  have f71 := type126
  have f71e := type126e
  have mK := mKind
  have mKe := mKind_e
  have mE := mElem
  have mEe := mElem_e
  have mI := mImplements
  have mIe := mImplements_e
  have k126 := kind126
  have k126e := kind126e
  have k124 := kind124
  have k124e := kind124e
  have l126 := elem126
  have l126e := elem126e
  have i124 := implements124
  have i124e := implements124e
  have e1 := fun (w : World) (es : Array Event) => ev_eql_iface_nil (P := Tryd.prog) (w := w) (es := es) 168 (.pointer (some ep)) Tryd.underlying120
  have e2 := fun (w : World) (es : Array Event) => ev_eql_iface_nil (P := Tryd.prog) (w := w) (es := es) 126 (.pointer (some tp)) Tryd.underlying20
  have s1 := fun (w : World) (es : Array Event) (ad : Addr) (x : Option Addr) => events_store Tryd.prog w es ad (.pointer x) .plain rfl
  co_apply callsC_of_wpC Tryd.func64 (by rfl) rfl
  simp only [Tryd.ntmps64, List.size_toArray, List.length_cons, List.length_nil, Nat.reduceAdd, Nat.reduceSub, Array.replicate_succ, Array.replicate_zero, List.push_toArray, List.append_toArray, List.nil_append, List.cons_append]
  co_apply wpC_seq (termsT p Sh E Dn)
  co_reg (termsT p Sh E Dn)
  co_op (KM.rely n) hF (co_still (termsT p Sh E Dn))
  co_apply opsC_nil (termsT p Sh E Dn)
  co_then
  co_apply wpC_seq (termsT p Sh E Dn)
  co_apply wpC_seq (termsT p Sh E Dn)
  co_reg (termsT p Sh E Dn)
  co_op (KM.rely n) hF (co_still (termsT p Sh E Dn))
  co_op (KM.rely n) hF (co_still (termsT p Sh E Dn))
  co_apply opsC_nil (termsT p Sh E Dn)
  co_then
  co_apply wpC_cond (termsT p Sh E Dn) (t := false)
  focus (exact rfl)
  simp only [if_true, if_false, Bool.false_eq_true, reduceIte]
  co_apply wpC_skip (termsT p Sh E Dn)
  co_then
  co_apply wpC_seq (termsT p Sh E Dn)
  co_apply wpC_seq (termsT p Sh E Dn)
  co_reg (termsT p Sh E Dn)
  co_op (KM.rely n) hF (co_still (termsT p Sh E Dn))
  co_op (KM.rely n) hF (co_still (termsT p Sh E Dn))
  co_apply opsC_nil (termsT p Sh E Dn)
  co_then
  co_apply wpC_cond (termsT p Sh E Dn) (t := false)
  focus (exact rfl)
  simp only [if_true, if_false, Bool.false_eq_true, reduceIte]
  co_apply wpC_skip (termsT p Sh E Dn)
  co_then
  replace hF := KL.nil hF
  co_apply wpC_seq (termsT p Sh E Dn)
  co_reg (termsT p Sh E Dn)
  co_op (KL.rely n) hF (co_still (termsT p Sh E Dn))
  co_opw (KL.rely n) hF (skip) (refine hF.dtAlloc n (by decide) ?_; co_evs (exact evB_ext))
  rename_i wv
  replace hF := hF.alloc 126 #[.pointer (some tp)] (by decide)
  co_opw (KL.rely n) hF (have ho := hF.m.off; have hne := fun (t : Nat × TypeId × Array Value) ht => Nat.ne_of_lt (hF.lt (t := t) ht)) (refine hF.dtAlloc n (by decide) ?_; co_evs (skip))
  replace hF := hF.alloc 133 #[.pointer none, .pointer none, .int .u64 0] (by decide)
  co_opw (KL.rely n) hF (have hc0 := hF.cell (List.mem_cons_self) (i := 0) rfl; have hc1 := hF.cell (List.mem_cons_self) (i := 1) rfl; have hc2 := hF.cell (List.mem_cons_self) (i := 2) rfl; have hz0 := hF.thaw (List.mem_cons_self) 0; have hz1 := hF.thaw (List.mem_cons_self) 1; have hz2 := hF.thaw (List.mem_cons_self) 2) (refine hF.dt3 n ho hne _ _ _ ?_; intro e he; have hm := mem_listed he; simp [go_sem, *] at hm; (rcases hm with rfl | rfl | rfl <;> exact ⟨_, rfl⟩))
  replace hF := ((hF.set ho hne 0 (.pointer (some ⟨5, 126, none⟩))).set ho hne 1 (.pointer (some ⟨wv.heap.size, 0, none⟩))).set ho hne 2 (.int .u64 150)
  simp only [List.setIfInBounds_toArray, List.set_cons_zero, List.set_cons_succ] at hF
  clear hc0 hc1 hc2 hz0 hz1 hz2
  co_apply opsC_nil (termsT p Sh E Dn)
  co_then
  co_apply wpC_seq (termsT p Sh E Dn)
  co_reg (termsT p Sh E Dn)
  co_opw (KL.rely n) hF (have hc0 := hF.cell (List.mem_cons_self) (i := 0) rfl; have hc1 := hF.cell (List.mem_cons_self) (i := 1) rfl; have hc2 := hF.cell (List.mem_cons_self) (i := 2) rfl) (refine dt_read ?_; intro e he; have hm := mem_listed he; simp [go_sem, *] at hm; (rcases hm with rfl | rfl | rfl <;> exact hF.ev n (List.mem_cons_self) _ _))
  clear hc0 hc1 hc2
  co_opw (KL.rely n) hF (skip) (refine dt_read ?_; co_evs (exact evB_ext))
  co_op (KL.rely n) hF (co_still (termsT p Sh E Dn))
  co_apply opsC_nil (termsT p Sh E Dn)
  co_then
  co_apply wpC_seq (termsT p Sh E Dn)
  co_apply wpC_seq (termsT p Sh E Dn)
  co_reg (termsT p Sh E Dn)
  co_op (KL.rely n) hF (co_still (termsT p Sh E Dn))
  co_opw (KL.rely n) hF (skip) (refine dt_read ?_; co_evs (exact evB_ext))
  co_op (KL.rely n) hF (co_still (termsT p Sh E Dn))
  co_op (KL.rely n) hF (co_still (termsT p Sh E Dn))
  co_opw (KL.rely n) hF (have hc0 := hF.cell (List.mem_cons_self) (i := 0) rfl; have hc1 := hF.cell (List.mem_cons_self) (i := 1) rfl; have hc2 := hF.cell (List.mem_cons_self) (i := 2) rfl) (refine dt_read ?_; intro e he; have hm := mem_listed he; simp [go_sem, *] at hm; (rcases hm with rfl | rfl | rfl <;> exact hF.ev n (List.mem_cons_self) _ _))
  clear hc0 hc1 hc2
  co_opw (KL.rely n) hF (have hq := isNil126 ⟨wv.heap.size, 0, none⟩ tp _ (hF.cell (List.mem_cons_of_mem _ (List.mem_cons_self)) (i := 0) rfl); have hqe := fun es => isNil126e ⟨wv.heap.size, 0, none⟩ tp _ es (hF.cell (List.mem_cons_of_mem _ (List.mem_cons_self)) (i := 0) rfl)) (refine dt_read ?_; intro e he; have hm := mem_listed he; simp [go_sem, *] at hm; (rcases hm with rfl | rfl; exact evB_ext; exact hF.ev n (List.mem_cons_of_mem _ (List.mem_cons_self)) _ _))
  clear hq hqe
  co_op (KL.rely n) hF (co_still (termsT p Sh E Dn))
  co_apply opsC_nil (termsT p Sh E Dn)
  co_then
  co_apply wpC_cond (termsT p Sh E Dn) (t := false)
  focus (exact rfl)
  simp only [if_true, if_false, Bool.false_eq_true, reduceIte]
  co_apply wpC_skip (termsT p Sh E Dn)
  co_then
  co_apply wpC_seq (termsT p Sh E Dn)
  co_reg (termsT p Sh E Dn)
  co_op (KL.rely n) hF (co_still (termsT p Sh E Dn))
  co_opw (KL.rely n) hF (skip) (refine dt_read ?_; co_evs (exact evB_ext))
  co_op (KL.rely n) hF (co_still (termsT p Sh E Dn))
  co_apply opsC_nil (termsT p Sh E Dn)
  co_then
  co_apply wpC_seq (termsT p Sh E Dn)
  co_apply wpC_seq (termsT p Sh E Dn)
  co_reg (termsT p Sh E Dn)
  co_op (KL.rely n) hF (co_still (termsT p Sh E Dn))
  co_opw (KL.rely n) hF (skip) (refine dt_read ?_; co_evs (exact evB_ext))
  co_op (KL.rely n) hF (co_still (termsT p Sh E Dn))
  co_op (KL.rely n) hF (co_still (termsT p Sh E Dn))
  co_op (KL.rely n) hF (co_still (termsT p Sh E Dn))
  co_opw (KL.rely n) hF (have hc := g.r1 hF.m) (refine dt_read ?_; co_evs (exact evB_old n hF.m (by have := g.o; omega) _ (g.s1 _)))
  clear hc
  co_opw (KL.rely n) hF (skip) (refine dt_read ?_; co_evs (exact evB_ext))
  co_op (KL.rely n) hF (co_still (termsT p Sh E Dn))
  co_op (KL.rely n) hF (co_still (termsT p Sh E Dn))
  co_apply opsC_nil (termsT p Sh E Dn)
  co_then
  co_apply wpC_cond (termsT p Sh E Dn) (t := false)
  focus (exact rfl)
  simp only [if_true, if_false, Bool.false_eq_true, reduceIte]
  co_apply wpC_skip (termsT p Sh E Dn)
  co_then
  co_apply wpC_seq (termsT p Sh E Dn)
  co_reg (termsT p Sh E Dn)
  co_op (KL.rely n) hF (co_still (termsT p Sh E Dn))
  co_op (KL.rely n) hF (co_still (termsT p Sh E Dn))
  co_opw (KL.rely n) hF (have hc0 := hF.cell (List.mem_cons_self) (i := 0) rfl; have hc1 := hF.cell (List.mem_cons_self) (i := 1) rfl; have hc2 := hF.cell (List.mem_cons_self) (i := 2) rfl) (refine dt_read ?_; intro e he; have hm := mem_listed he; simp [go_sem, *] at hm; (rcases hm with rfl | rfl | rfl <;> exact hF.ev n (List.mem_cons_self) _ _))
  clear hc0 hc1 hc2
  co_op (KL.rely n) hF (co_still (termsT p Sh E Dn))
  co_apply opsC_call (termsT p Sh E Dn) rfl (by rfl) rfl
  · walk_nrm
    exact g73 kc pc Q qc ep tp _ _ hF.m
  intro v w' hv
  obtain ⟨rfl, hM⟩ := hv
  clear hF
  have hF := hM
  clear hM
  walk_nrm
  co_op (KM.rely n) hF (co_still (termsT p Sh E Dn))
  co_apply opsC_nil (termsT p Sh E Dn)
  co_then
  co_apply wpC_ret (termsT p Sh E Dn)
  exact ⟨rfl, _, resultsC_tmp (by rfl) _, rfl, hF⟩
end Go.Proofs.YtbnaccilnilcmaaDoor
/-
  A process ends: it leaves its row, has its state and status, and that is told; what settle does with a fault.
  No condition but those that each statement names.
-/
namespace Go.Proofs.YtbnaccilnilcmaaDoor
open Go.Conc Go.RowKit Go.Hx

variable {p : Par} {Sh : Loc → Prop} {E Dn : Nat} {a : Ad} {PostB : World → Prop} {Aft : Goroutine → World → Prop}

set_option maxRecDepth 100000 in
set_option maxHeartbeats 4000000 in
theorem end_x (n : En p Sh E Dn a) : ∃ k, ∀ (kc pc : Array Value) (Q cap : Nat) (qc : Array Value) (hRQ : a.R ≠ Q) (hc1 : 1 ≤ cap) (h0 : qc[0]? = some (.pointer (some ⟨a.P, 0, none⟩))) {st status at_ used : Int} {r m : Nat → Int} (lv : Nat) (hlv : lv < 3) (hp : Pst pc st status at_ lv used r m) (s : Nat → Int) (bo now : Int) (r0 r1 r2 : Value) (hk : Kst a kc s bo now r0 r1 r2) (hrow : kc[6 + lv]? = some (.slice (some ⟨Q, 0, none⟩) 1 cap)) (x : Int) (vs : List Value) (w : World), KM p Sh E Dn a kc pc Q qc w →
      CallsX (tellF Tryd.prog p Sh E Dn PostB Aft) Tryd.prog false 66 #[.pointer (some ⟨a.K, 0, none⟩), .pointer (some ⟨a.P, 0, none⟩), .int .i64 x, .chan (some E)] k (evt now 4 1 x :: vs) w fun s' _ w' => s' = vs ∧ ∃ kc' pc', (∃ r0 r1 r2, Kst a kc' s bo now r0 r1 r2) ∧ Pst pc' 6 x at_ lv used r m ∧ KM p Sh E Dn a kc' pc' Q (qc.setIfInBounds 0 (.pointer none)) w' := by
  obtain ⟨k1, g1⟩ := leave_x (PostB := PostB) (Aft := Aft) n
  obtain ⟨k2, g2⟩ := tell_x (PostB := PostB) (Aft := Aft) n
  co_apply Exists.intro
  intro kc pc Q cap qc hRQ hc1 h0 st status at_ used r m lv hlv hp s bo now r0 r1 r2 hk hrow x vs w hF
  obtain ⟨q0, q1, q2, hk'⟩ := hk.setRow lv hlv (.slice (some ⟨Q, 0, none⟩) 0 cap)
  co_apply callsX_of_wpX Tryd.func66 (by rfl) rfl
  simp only [Tryd.ntmps66, List.size_toArray, List.length_cons, List.length_nil, Nat.reduceAdd, Nat.reduceSub, Array.replicate_succ, Array.replicate_zero, List.push_toArray, List.append_toArray, List.nil_append, List.cons_append]
  co_apply wpX_seq
  co_apply wpX_region
  simp only [List.size_toArray, List.length_cons, List.length_nil, Nat.reduceAdd, Nat.zero_add, List.range, List.range.loop]
  co_apply opsX_cons_k rfl (by rfl)
  intro _ hR K hK
  replace hF := (KM.rely n) hF hR
  clear hR
  skip
  go_simp
  try (unfold stored; go_simp)
  refine hK _ _ ⟨?_, ?_⟩
  · co_still (termsT p Sh E Dn)
  clear hK K
  try walk_nrm
  co_apply opsX_cons_k rfl (by rfl)
  intro _ hR K hK
  replace hF := (KM.rely n) hF hR
  clear hR
  skip
  go_simp
  try (unfold stored; go_simp)
  refine hK _ _ ⟨?_, ?_⟩
  · co_still (termsT p Sh E Dn)
  clear hK K
  try walk_nrm
  co_apply opsX_cons_k rfl (by rfl)
  intro _ hR K hK
  replace hF := (KM.rely n) hF hR
  clear hR
  skip
  go_simp
  try (unfold stored; go_simp)
  refine hK _ _ ⟨?_, ?_⟩
  · co_still (termsT p Sh E Dn)
  clear hK K
  try walk_nrm
  co_apply opsX_cons_k rfl (by rfl)
  intro _ hR K hK
  replace hF := (KM.rely n) hF hR
  clear hR
  skip
  go_simp
  try (unfold stored; go_simp)
  refine hK _ _ ⟨?_, ?_⟩
  · co_still (termsT p Sh E Dn)
  clear hK K
  try walk_nrm
  co_apply opsX_call rfl (by rfl) rfl
  · walk_nrm
    exact g1 kc pc Q cap qc hRQ hc1 h0 lv hlv hp hk.sz hrow _ _ hF
  intro s' v w' hv
  obtain ⟨rfl, hM⟩ := hv
  clear hF
  have hF := hM
  clear hM
  walk_nrm
  co_apply opsX_nil
  try simp only [ThenX]
  try co_then
  co_apply wpX_seq
  co_apply wpX_region
  simp only [List.size_toArray, List.length_cons, List.length_nil, Nat.reduceAdd, Nat.zero_add, List.range, List.range.loop]
  co_apply opsX_cons_k rfl (by rfl)
  intro _ hR K hK
  replace hF := (KM.rely n) hF hR
  clear hR
  skip
  go_simp
  try (unfold stored; go_simp)
  refine hK _ _ ⟨?_, ?_⟩
  · co_still (termsT p Sh E Dn)
  clear hK K
  try walk_nrm
  co_apply opsX_cons_k rfl (by rfl)
  intro _ hR K hK
  replace hF := (KM.rely n) hF hR
  clear hR
  skip
  go_simp
  try (unfold stored; go_simp)
  refine hK _ _ ⟨?_, ?_⟩
  · co_still (termsT p Sh E Dn)
  clear hK K
  try walk_nrm
  co_apply opsX_cons_k rfl (by rfl)
  intro _ hR K hK
  replace hF := (KM.rely n) hF hR
  clear hR
  skip
  go_simp
  try (unfold stored; go_simp)
  refine hK _ _ ⟨?_, ?_⟩
  · co_still (termsT p Sh E Dn)
  clear hK K
  try walk_nrm
  co_apply opsX_cons_k rfl (by rfl)
  intro _ hR K hK
  replace hF := (KM.rely n) hF hR
  clear hR
  skip
  go_simp
  try (unfold stored; go_simp)
  refine hK _ _ ⟨?_, ?_⟩
  · co_still (termsT p Sh E Dn)
  clear hK K
  try walk_nrm
  co_apply opsX_cons_k rfl (by rfl)
  intro _ hR K hK
  replace hF := (KM.rely n) hF hR
  clear hR
  have hc := hF.pp.cell hp.st; have hz := hF.pp.thaw 2
  go_simp
  try (unfold stored; go_simp)
  refine hK _ _ ⟨?_, ?_⟩
  · (refine hF.dtP n ?_; intro e he; have hm := mem_listed he; simp [go_sem, *] at hm; exact hm)
  clear hK K
  try walk_nrm
  clear hc hz
  replace hF := hF.setP n 2 (.int .i64 6)
  replace hp := hp.setSt 6
  co_apply opsX_nil
  try simp only [ThenX]
  try co_then
  co_apply wpX_seq
  co_apply wpX_region
  simp only [List.size_toArray, List.length_cons, List.length_nil, Nat.reduceAdd, Nat.zero_add, List.range, List.range.loop]
  co_apply opsX_cons_k rfl (by rfl)
  intro _ hR K hK
  replace hF := (KM.rely n) hF hR
  clear hR
  skip
  go_simp
  try (unfold stored; go_simp)
  refine hK _ _ ⟨?_, ?_⟩
  · co_still (termsT p Sh E Dn)
  clear hK K
  try walk_nrm
  co_apply opsX_cons_k rfl (by rfl)
  intro _ hR K hK
  replace hF := (KM.rely n) hF hR
  clear hR
  skip
  go_simp
  try (unfold stored; go_simp)
  refine hK _ _ ⟨?_, ?_⟩
  · co_still (termsT p Sh E Dn)
  clear hK K
  try walk_nrm
  co_apply opsX_cons_k rfl (by rfl)
  intro _ hR K hK
  replace hF := (KM.rely n) hF hR
  clear hR
  skip
  go_simp
  try (unfold stored; go_simp)
  refine hK _ _ ⟨?_, ?_⟩
  · co_still (termsT p Sh E Dn)
  clear hK K
  try walk_nrm
  co_apply opsX_cons_k rfl (by rfl)
  intro _ hR K hK
  replace hF := (KM.rely n) hF hR
  clear hR
  skip
  go_simp
  try (unfold stored; go_simp)
  refine hK _ _ ⟨?_, ?_⟩
  · co_still (termsT p Sh E Dn)
  clear hK K
  try walk_nrm
  co_apply opsX_cons_k rfl (by rfl)
  intro _ hR K hK
  replace hF := (KM.rely n) hF hR
  clear hR
  skip
  go_simp
  try (unfold stored; go_simp)
  refine hK _ _ ⟨?_, ?_⟩
  · co_still (termsT p Sh E Dn)
  clear hK K
  try walk_nrm
  co_apply opsX_cons_k rfl (by rfl)
  intro _ hR K hK
  replace hF := (KM.rely n) hF hR
  clear hR
  have hc := hF.pp.cell hp.stat; have hz := hF.pp.thaw 3
  go_simp
  try (unfold stored; go_simp)
  refine hK _ _ ⟨?_, ?_⟩
  · (refine hF.dtP n ?_; intro e he; have hm := mem_listed he; simp [go_sem, *] at hm; exact hm)
  clear hK K
  try walk_nrm
  clear hc hz
  replace hF := hF.setP n 3 (.int .i64 x)
  replace hp := hp.setStat x
  co_apply opsX_nil
  try simp only [ThenX]
  try co_then
  co_apply wpX_region
  simp only [List.size_toArray, List.length_cons, List.length_nil, Nat.reduceAdd, Nat.zero_add, List.range, List.range.loop]
  co_apply opsX_cons_k rfl (by rfl)
  intro _ hR K hK
  replace hF := (KM.rely n) hF hR
  clear hR
  skip
  go_simp
  try (unfold stored; go_simp)
  refine hK _ _ ⟨?_, ?_⟩
  · co_still (termsT p Sh E Dn)
  clear hK K
  try walk_nrm
  co_apply opsX_cons_k rfl (by rfl)
  intro _ hR K hK
  replace hF := (KM.rely n) hF hR
  clear hR
  skip
  go_simp
  try (unfold stored; go_simp)
  refine hK _ _ ⟨?_, ?_⟩
  · co_still (termsT p Sh E Dn)
  clear hK K
  try walk_nrm
  co_apply opsX_cons_k rfl (by rfl)
  intro _ hR K hK
  replace hF := (KM.rely n) hF hR
  clear hR
  skip
  go_simp
  try (unfold stored; go_simp)
  refine hK _ _ ⟨?_, ?_⟩
  · co_still (termsT p Sh E Dn)
  clear hK K
  try walk_nrm
  co_apply opsX_cons_k rfl (by rfl)
  intro _ hR K hK
  replace hF := (KM.rely n) hF hR
  clear hR
  skip
  go_simp
  try (unfold stored; go_simp)
  refine hK _ _ ⟨?_, ?_⟩
  · co_still (termsT p Sh E Dn)
  clear hK K
  try walk_nrm
  co_apply opsX_cons_k rfl (by rfl)
  intro _ hR K hK
  replace hF := (KM.rely n) hF hR
  clear hR
  skip
  go_simp
  try (unfold stored; go_simp)
  refine hK _ _ ⟨?_, ?_⟩
  · co_still (termsT p Sh E Dn)
  clear hK K
  try walk_nrm
  co_apply opsX_cons_k rfl (by rfl)
  intro _ hR K hK
  replace hF := (KM.rely n) hF hR
  clear hR
  skip
  go_simp
  try (unfold stored; go_simp)
  refine hK _ _ ⟨?_, ?_⟩
  · co_still (termsT p Sh E Dn)
  clear hK K
  try walk_nrm
  co_apply opsX_cons_k rfl (by rfl)
  intro _ hR K hK
  replace hF := (KM.rely n) hF hR
  clear hR
  have hc := hF.pp.cell hp.id
  go_simp
  try (unfold stored; go_simp)
  refine hK _ _ ⟨?_, ?_⟩
  · (refine dt_read ?_; co_evs (exact hF.evP n _))
  clear hK K
  try walk_nrm
  clear hc
  co_apply opsX_cons_k rfl (by rfl)
  intro _ hR K hK
  replace hF := (KM.rely n) hF hR
  clear hR
  skip
  go_simp
  try (unfold stored; go_simp)
  refine hK _ _ ⟨?_, ?_⟩
  · co_still (termsT p Sh E Dn)
  clear hK K
  try walk_nrm
  co_apply opsX_call rfl (by rfl) rfl
  · walk_nrm
    exact g2 _ _ _ _ s bo now q0 q1 q2 hk' 4 1 x vs _ hF
  intro s' v w' hv
  obtain ⟨rfl, hM⟩ := hv
  clear hF
  have hF := hM
  clear hM
  walk_nrm
  co_apply opsX_nil
  try simp only [ThenX]
  try co_then
  exact ⟨rfl, _, resultsC_none (by rfl) _, rfl, _, _, ⟨q0, q1, q2, hk'⟩, hp, hF⟩

theorem mi126 (x : Option Addr) (w : World) (es : Array Event) : (Instr.makeInterface 126 (.pointer x)).events Tryd.prog w es = es := by kernel_rfl

set_option maxRecDepth 100000 in
set_option maxHeartbeats 4000000 in
theorem settle_f (n : En p Sh E Dn a) {ep : Addr} (g : Gl Sh a ep) : ∃ k, ∀ (kc pc : Array Value) (Q cap : Nat) (qc : Array Value) (hRQ : a.R ≠ Q) (hc1 : 1 ≤ cap) (h0 : qc[0]? = some (.pointer (some ⟨a.P, 0, none⟩))) {st status at_ used : Int} {r m : Nat → Int} (lv : Nat) (hlv : lv < 3) (hp : Pst pc st status at_ lv used r m) (s : Nat → Int) (bo now : Int) (r0 r1 r2 : Value) (hk : Kst a kc s bo now r0 r1 r2) (hrow : kc[6 + lv]? = some (.slice (some ⟨Q, 0, none⟩) 1 cap)) (vs : List Value) (w : World), KM p Sh E Dn a kc pc Q qc w →
      CallsX (tellF Tryd.prog p Sh E Dn PostB Aft) Tryd.prog false 59 #[.pointer (some ⟨a.K, 0, none⟩), .pointer (some ⟨a.P, 0, none⟩), .iface 168 (.pointer (some ep)), .chan (some E)] k (evt now 4 1 65281 :: vs) w fun s' _ w' => s' = vs ∧ ∃ kc' pc', (∃ r0 r1 r2, Kst a kc' s bo now r0 r1 r2) ∧ Pst pc' 6 65281 at_ lv used r m ∧ KM p Sh E Dn a kc' pc' Q (qc.setIfInBounds 0 (.pointer none)) w' := by
  obtain ⟨k1, g1⟩ := As_f n g
  obtain ⟨k2, g2⟩ := end_x (PostB := PostB) (Aft := Aft) n
  co_apply Exists.intro
  intro kc pc Q cap qc hRQ hc1 h0 st status at_ used r m lv hlv hp s bo now r0 r1 r2 hk hrow vs w hF
  have e1 := fun (w : World) (es : Array Event) => ev_eql_iface_nil (P := Tryd.prog) (w := w) (es := es) 168 (.pointer (some ep)) Tryd.underlying120
  have mi := mi126
  co_apply callsX_of_wpX Tryd.func59 (by rfl) rfl
  simp only [Tryd.ntmps59, List.size_toArray, List.length_cons, List.length_nil, Nat.reduceAdd, Nat.reduceSub, Array.replicate_succ, Array.replicate_zero, List.push_toArray, List.append_toArray, List.nil_append, List.cons_append]
  co_apply wpX_seqC
  co_reg (termsT p Sh E Dn)
  co_opw (KM.rely n) hF (skip) (refine hF.dtAlloc n (by decide) ?_; co_evs (skip))
  replace hF := hF.alloc (.cells #[.pointer none] 124)
  co_apply opsC_nil (termsT p Sh E Dn)
  co_then
  co_apply wpX_block
  co_apply wpX_seqC
  co_reg (termsT p Sh E Dn)
  co_op (KM.rely n) hF (co_still (termsT p Sh E Dn))
  co_op (KM.rely n) hF (co_still (termsT p Sh E Dn))
  co_op (KM.rely n) hF (co_still (termsT p Sh E Dn))
  co_apply opsC_nil (termsT p Sh E Dn)
  co_then
  co_apply wpX_cond (t := false)
  focus (exact rfl)
  simp only [if_true, if_false, Bool.false_eq_true, reduceIte]
  co_apply wpX_seqC
  co_reg (termsT p Sh E Dn)
  co_op (KM.rely n) hF (co_still (termsT p Sh E Dn))
  co_op (KM.rely n) hF (co_still (termsT p Sh E Dn))
  co_apply opsC_call (termsT p Sh E Dn) rfl (by rfl) rfl
  · walk_nrm
    exact g1 kc pc Q qc _ _ hF
  intro v w' hv
  obtain ⟨rfl, hM⟩ := hv
  clear hF
  have hF := hM
  clear hM
  walk_nrm
  co_op (KM.rely n) hF (co_still (termsT p Sh E Dn))
  co_apply opsC_nil (termsT p Sh E Dn)
  co_then
  co_apply wpX_cond (t := false)
  focus (exact rfl)
  simp only [if_true, if_false, Bool.false_eq_true, reduceIte]
  co_apply wpX_region
  simp only [List.size_toArray, List.length_cons, List.length_nil, Nat.reduceAdd, Nat.zero_add, List.range, List.range.loop]
  co_apply opsX_cons_k rfl (by rfl)
  intro _ hR K hK
  replace hF := (KM.rely n) hF hR
  clear hR
  skip
  go_simp
  try (unfold stored; go_simp)
  refine hK _ _ ⟨?_, ?_⟩
  · co_still (termsT p Sh E Dn)
  clear hK K
  try walk_nrm
  co_apply opsX_cons_k rfl (by rfl)
  intro _ hR K hK
  replace hF := (KM.rely n) hF hR
  clear hR
  skip
  go_simp
  try (unfold stored; go_simp)
  refine hK _ _ ⟨?_, ?_⟩
  · co_still (termsT p Sh E Dn)
  clear hK K
  try walk_nrm
  co_apply opsX_cons_k rfl (by rfl)
  intro _ hR K hK
  replace hF := (KM.rely n) hF hR
  clear hR
  skip
  go_simp
  try (unfold stored; go_simp)
  refine hK _ _ ⟨?_, ?_⟩
  · co_still (termsT p Sh E Dn)
  clear hK K
  try walk_nrm
  co_apply opsX_call rfl (by rfl) rfl
  · walk_nrm
    exact g2 kc pc Q cap qc hRQ hc1 h0 lv hlv hp s bo now r0 r1 r2 hk hrow 65281 vs _ hF
  intro s' v w' hv
  obtain ⟨rfl, kc', pc', hk2, hp2, hM⟩ := hv
  walk_nrm
  co_apply opsX_nil
  try simp only [ThenX]
  try co_then
  exact ⟨rfl, _, resultsC_none (by rfl) _, rfl, kc', pc', hk2, hp2, hM⟩
end Go.Proofs.YtbnaccilnilcmaaDoor
