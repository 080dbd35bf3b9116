/-
  A tick in which the process does an instruction that is no trap.
  No condition but those that each statement names.
-/
import Derived.Test.YtbnaccilnilcmaaDoorHx21
import Derived.Test.YtbnaccilnilcmaaDoorHx17
set_option linter.unusedVariables false
set_option linter.unusedSimpArgs false
set_option linter.unusedSectionVars false
namespace Go.Proofs.YtbnaccilnilcmaaDoor
open Go.Conc Go.RowKit Go.Hx

variable {p : Par} {Sh : Loc → Prop} {E Dn : Nat} {a : Ad} {PostB : World → Prop} {Aft : Goroutine → World → Prop}

set_option maxRecDepth 100000 in
set_option maxHeartbeats 4000000 in
theorem tick_x (n : En p Sh E Dn a) (nd : Nat) : ∃ k, ∀ (fr : Bool) (hfr : fr = true) (x : Now) (at' : Int) (r' m' : Nat → Int) (q : Nat) (hat : x.at_ = q) (hq : q < a.gn) (hgn : a.gn ≤ 256) (o i y z : Int) (ho9 : o ≠ 9)
    (g0 : a.gc[q * 4]? = some (.int .u8 o)) (g1 : a.gc[q * 4 + 1]? = some (.int .u8 i)) (g2 : a.gc[q * 4 + 2]? = some (.int .u8 y)) (g3 : a.gc[q * 4 + 3]? = some (.int .u8 z)) (hst : x.st = 1) (hu : 0 ≤ x.used ∧ x.used < 100)
    (hn0 : 0 ≤ x.now ∧ x.now < 100) (hbo : 100 ≤ x.bo + 50 ∧ x.bo < 1001) (hnb : x.now < x.bo)
    (hdo : ∀ kc pc Q qc, Pst pc x.st x.status q x.lv x.used x.r x.m → ∀ w, KM p Sh E Dn a kc pc Q qc w → CallsC Tryd.prog false (RB p E Dn) (DT p Sh E Dn) 68 #[.pointer (some ⟨a.P, 0, none⟩), .agg #[.int .u8 o, .int .u8 i, .int .u8 y, .int .u8 z]] nd w
      fun v w' => v = .nilIface ∧ ∃ pc', Pst pc' x.st x.status at' x.lv x.used r' m' ∧ KM p Sh E Dn a kc pc' Q qc w')
    (vs : List Value) (w : World), Sit p Sh E Dn a fr x w →
    CallsX (tellF Tryd.prog p Sh E Dn PostB Aft) Tryd.prog false 45 #[.pointer (some ⟨a.K, 0, none⟩), .chan (some E)] k (evt x.now 1 1 q :: vs) w fun s' _ w' => s' = vs ∧ Sit p Sh E Dn a fr { x with at_ := at', r := r', m := m', lv := (nxt x.s x.lv (x.used + 1)).1, used := (nxt x.s x.lv (x.used + 1)).2 } w' := by
  obtain ⟨kf, cf⟩ := first_s n
  obtain ⟨kt, ct⟩ := turn_s (PostB := PostB) (Aft := Aft) n
  obtain ⟨ke, ce⟩ := tell_x (PostB := PostB) (Aft := Aft) n
  obtain ⟨ks, cs⟩ := step_c n nd
  obtain ⟨kz, cz⟩ := settle_c n
  have e1 := fun (w : World) (es : Array Event) => ev_eql_ptr_nil (w := w) (es := es) (some ⟨a.P, 0, none⟩) Tryd.underlying72
  co_apply Exists.intro
  intro fr hfr x at' r' m' q hat hq hgn o i y z ho9 g0 g1 g2 g3 hst hu hn0 hbo hnb hdo vs w ⟨kc, pc, Q, cap, qc, hC⟩
  obtain ⟨r0, r1, r2, hk⟩ := hC.ks
  have hF := hC.km
  have hp := hC.ps
  rw [hat] at hp
  co_apply callsX_of_wpX Tryd.func45 (by rfl) rfl
  simp only [Tryd.ntmps45, List.size_toArray, List.length_cons, List.length_nil, Nat.reduceAdd, Nat.reduceSub, Array.replicate_succ, Array.replicate_zero, List.push_toArray, List.append_toArray, List.nil_append, List.cons_append]
  co_apply wpX_seqC
  co_apply wpC_mono (Q := fun e a' w' => e = .normal ∧ (∃ t5 t6 t7 t8 t9 t10 t11 t12 t13 t14 t15 t16 t17 t18 t19 t20 t21 t22 : Value, a' = { tmps := #[.pointer (some ⟨a.K, 0, none⟩), .chan (some E), undef, undef, undef, t5, t6, t7, t8, t9, t10, t11, t12, t13, t14, t15, t16, t17, t18, t19, t20, t21, t22, undef, undef, undef, undef, undef, undef, undef, undef, undef, undef, undef, undef, undef, undef, undef, undef, undef, undef, undef, undef, undef, undef, undef, undef, undef, undef, undef, undef, undef, undef, undef, undef, undef, undef, undef, undef, undef, undef, undef, undef, undef, undef, undef, undef, undef, undef, undef, undef, undef, undef], defers := [] }) ∧ KM p Sh E Dn a kc pc Q qc w')
  · co_apply wpC_seq (termsT p Sh E Dn)
    co_held (termsT p Sh E Dn) (drawT p Sh E Dn) (ownDrawT p E Dn) (KM p Sh E Dn a kc pc Q qc) (KM.rely n) hF
    by_cases hn : x.now = 0
    · have hk0 := hk.now
      rw [hn] at hk0
      co_take 0 (termsT p Sh E Dn) (KM.rely n) hF hw (skip) (co_still (termsT p Sh E Dn))
      co_take 1 (termsT p Sh E Dn) (KM.rely n) hF hw (skip) (co_still (termsT p Sh E Dn))
      co_take 2 (termsT p Sh E Dn) (KM.rely n) hF hw (skip) (co_still (termsT p Sh E Dn))
      co_take 3 (termsT p Sh E Dn) (KM.rely n) hF hw (have hc := hw.k.cell hk0) (refine dt_read ?_; co_evs (exact hw.evK n _))
      co_take 4 (termsT p Sh E Dn) (KM.rely n) hF hw (skip) (co_still (termsT p Sh E Dn))
      co_take 5 (termsT p Sh E Dn) (KM.rely n) hF hw (skip) (co_still (termsT p Sh E Dn))
      co_applyP anyCH_take (termsT p Sh E Dn) (fun _ _ h r => (KM.rely n) h r) (fun _ _ _ h r => wpC_rely (termsT p Sh E Dn) h r) (i := 6) rfl (by first | kernel_rfl | decide +kernel) (by first | kernel_rfl | decide +kernel) (by first | kernel_rfl | decide +kernel) (.inr ⟨by rfl, rfl⟩) hF ?rest1
      try walk_nrm
      co_applyP anyCH_take (termsT p Sh E Dn) (fun _ _ h r => (KM.rely n) h r) (fun _ _ _ h r => wpC_rely (termsT p Sh E Dn) h r) (i := 7) rfl (by first | kernel_rfl | decide +kernel) (by first | kernel_rfl | decide +kernel) (by first | kernel_rfl | decide +kernel) (.inr ⟨by rfl, rfl⟩) hF ?rest2
      try walk_nrm
      co_applyP anyCH_take (termsT p Sh E Dn) (fun _ _ h r => (KM.rely n) h r) (fun _ _ _ h r => wpC_rely (termsT p Sh E Dn) h r) (i := 8) rfl (by first | kernel_rfl | decide +kernel) (by first | kernel_rfl | decide +kernel) (by first | kernel_rfl | decide +kernel) (.inr ⟨by rfl, rfl⟩) hF ?rest3
      try walk_nrm
      co_applyP anyCH_take (termsT p Sh E Dn) (fun _ _ h r => (KM.rely n) h r) (fun _ _ _ h r => wpC_rely (termsT p Sh E Dn) h r) (i := 9) rfl (by first | kernel_rfl | decide +kernel) (by first | kernel_rfl | decide +kernel) (by first | kernel_rfl | decide +kernel) (.inr ⟨by rfl, rfl⟩) hF ?rest4
      try walk_nrm
      co_applyP anyCH_take (termsT p Sh E Dn) (fun _ _ h r => (KM.rely n) h r) (fun _ _ _ h r => wpC_rely (termsT p Sh E Dn) h r) (i := 10) rfl (by first | kernel_rfl | decide +kernel) (by first | kernel_rfl | decide +kernel) (by first | kernel_rfl | decide +kernel) (.inr ⟨by rfl, rfl⟩) hF ?rest5
      try walk_nrm
      co_applyP anyCH_take (termsT p Sh E Dn) (fun _ _ h r => (KM.rely n) h r) (fun _ _ _ h r => wpC_rely (termsT p Sh E Dn) h r) (i := 11) rfl (by first | kernel_rfl | decide +kernel) (by first | kernel_rfl | decide +kernel) (by first | kernel_rfl | decide +kernel) (.inr ⟨by rfl, rfl⟩) hF ?rest6
      try walk_nrm
      co_applyP anyCH_take (termsT p Sh E Dn) (fun _ _ h r => (KM.rely n) h r) (fun _ _ _ h r => wpC_rely (termsT p Sh E Dn) h r) (i := 12) rfl (by first | kernel_rfl | decide +kernel) (by first | kernel_rfl | decide +kernel) (by first | kernel_rfl | decide +kernel) (.inr ⟨by rfl, rfl⟩) hF ?rest7
      try walk_nrm
      co_applyP anyCH_take (termsT p Sh E Dn) (fun _ _ h r => (KM.rely n) h r) (fun _ _ _ h r => wpC_rely (termsT p Sh E Dn) h r) (i := 13) rfl (by first | kernel_rfl | decide +kernel) (by first | kernel_rfl | decide +kernel) (by first | kernel_rfl | decide +kernel) (.inr ⟨by rfl, rfl⟩) hF ?rest8
      try walk_nrm
      co_applyP anyCH_take (termsT p Sh E Dn) (fun _ _ h r => (KM.rely n) h r) (fun _ _ _ h r => wpC_rely (termsT p Sh E Dn) h r) (i := 14) rfl (by first | kernel_rfl | decide +kernel) (by first | kernel_rfl | decide +kernel) (by first | kernel_rfl | decide +kernel) (.inr ⟨by rfl, rfl⟩) hF ?rest9
      try walk_nrm
      co_applyP anyCH_take (termsT p Sh E Dn) (fun _ _ h r => (KM.rely n) h r) (fun _ _ _ h r => wpC_rely (termsT p Sh E Dn) h r) (i := 15) rfl (by first | kernel_rfl | decide +kernel) (by first | kernel_rfl | decide +kernel) (by first | kernel_rfl | decide +kernel) (.inr ⟨by rfl, rfl⟩) hF ?rest10
      try walk_nrm
      co_applyP anyCH_take (termsT p Sh E Dn) (fun _ _ h r => (KM.rely n) h r) (fun _ _ _ h r => wpC_rely (termsT p Sh E Dn) h r) (i := 16) rfl (by first | kernel_rfl | decide +kernel) (by first | kernel_rfl | decide +kernel) (by first | kernel_rfl | decide +kernel) (.inr ⟨by rfl, rfl⟩) hF ?rest11
      try walk_nrm
      co_take 17 (termsT p Sh E Dn) (KM.rely n) hF hw (skip) (co_still (termsT p Sh E Dn))
      co_done
      co_apply wpC_cond (termsT p Sh E Dn) (t := false)
      focus (exact rfl)
      simp only [if_true, if_false, Bool.false_eq_true, reduceIte]
      co_apply wpC_skip (termsT p Sh E Dn)
      co_then
      exact ⟨trivial, ⟨_, _, _, _, _, _, _, _, _, _, _, _, _, _, _, _, _, _, rfl⟩, hF⟩
    · have hg : (0 : Int) < x.now := by omega
      have hb0 : ¬ x.bo = 0 := by omega
      have hm : x.now.tmod x.bo = x.now := by rw [Int.tmod_eq_emod_of_nonneg (by omega)]; exact Int.emod_eq_of_lt (by omega) (by omega)
      have hw0 : IntKind.i64.wrap x.now = x.now := by simp [IntKind.wrap_i64]; omega
      co_take 0 (termsT p Sh E Dn) (KM.rely n) hF hw (skip) (co_still (termsT p Sh E Dn))
      co_take 1 (termsT p Sh E Dn) (KM.rely n) hF hw (skip) (co_still (termsT p Sh E Dn))
      co_take 2 (termsT p Sh E Dn) (KM.rely n) hF hw (skip) (co_still (termsT p Sh E Dn))
      co_take 3 (termsT p Sh E Dn) (KM.rely n) hF hw (have hc := hw.k.cell hk.now) (refine dt_read ?_; co_evs (exact hw.evK n _))
      co_take 4 (termsT p Sh E Dn) (KM.rely n) hF hw (skip) (co_still (termsT p Sh E Dn))
      co_take 5 (termsT p Sh E Dn) (KM.rely n) hF hw (skip) (co_still (termsT p Sh E Dn))
      co_take 6 (termsT p Sh E Dn) (KM.rely n) hF hw (skip) (co_still (termsT p Sh E Dn))
      co_take 7 (termsT p Sh E Dn) (KM.rely n) hF hw (skip) (co_still (termsT p Sh E Dn))
      co_take 8 (termsT p Sh E Dn) (KM.rely n) hF hw (skip) (co_still (termsT p Sh E Dn))
      co_take 9 (termsT p Sh E Dn) (KM.rely n) hF hw (have hc := hw.k.cell hk.now) (refine dt_read ?_; co_evs (exact hw.evK n _))
      co_take 10 (termsT p Sh E Dn) (KM.rely n) hF hw (skip) (co_still (termsT p Sh E Dn))
      co_take 11 (termsT p Sh E Dn) (KM.rely n) hF hw (skip) (co_still (termsT p Sh E Dn))
      co_take 12 (termsT p Sh E Dn) (KM.rely n) hF hw (skip) (co_still (termsT p Sh E Dn))
      co_take 13 (termsT p Sh E Dn) (KM.rely n) hF hw (skip) (co_still (termsT p Sh E Dn))
      co_take 14 (termsT p Sh E Dn) (KM.rely n) hF hw (have hc := hw.k.cell hk.bo) (refine dt_read ?_; co_evs (exact hw.evK n _))
      co_take 15 (termsT p Sh E Dn) (KM.rely n) hF hw (skip) (co_still (termsT p Sh E Dn))
      co_take 16 (termsT p Sh E Dn) (KM.rely n) hF hw (skip) (co_still (termsT p Sh E Dn))
      co_take 17 (termsT p Sh E Dn) (KM.rely n) hF hw (skip) (co_still (termsT p Sh E Dn))
      co_done
      co_apply wpC_cond (termsT p Sh E Dn) (t := false)
      focus (simp [Act.eval, hn])
      simp only [if_true, if_false, Bool.false_eq_true, reduceIte]
      co_apply wpC_skip (termsT p Sh E Dn)
      co_then
      exact ⟨trivial, ⟨_, _, _, _, _, _, _, _, _, _, _, _, _, _, _, _, _, _, rfl⟩, hF⟩
  rintro e a' w' ⟨rfl, ⟨t5, t6, t7, t8, t9, t10, t11, t12, t13, t14, t15, t16, t17, t18, t19, t20, t21, t22, rfl⟩, hM⟩
  clear hF
  have hF := hM
  clear hM
  co_then
  co_apply wpX_seqC
  co_reg (termsT p Sh E Dn)
  co_op (KM.rely n) hF (co_still (termsT p Sh E Dn))
  co_op (KM.rely n) hF (co_still (termsT p Sh E Dn))
  co_op (KM.rely n) hF (co_still (termsT p Sh E Dn))
  co_apply opsC_call (termsT p Sh E Dn) rfl (by rfl) rfl
  · walk_nrm
    exact cf fr x kc pc Q cap qc _ (hC.at hF)
  intro v w' hv
  obtain ⟨rfl, hM⟩ := hv
  clear hF
  have hF := hM
  clear hM
  walk_nrm
  co_op (KM.rely n) hF (co_still (termsT p Sh E Dn))
  co_apply opsC_nil (termsT p Sh E Dn)
  co_then
  co_apply wpX_seqC
  co_apply wpC_seq (termsT p Sh E Dn)
  co_reg (termsT p Sh E Dn)
  co_op (KM.rely n) hF (co_still (termsT p Sh E Dn))
  co_op (KM.rely n) hF (co_still (termsT p Sh E Dn))
  co_apply opsC_nil (termsT p Sh E Dn)
  co_then
  co_apply wpC_cond (termsT p Sh E Dn) (t := false)
  focus (exact rfl)
  simp only [if_true, if_false, Bool.false_eq_true, reduceIte]
  co_apply wpC_skip (termsT p Sh E Dn)
  co_then
  co_apply wpX_seq
  co_apply wpX_region_held (S := (fun _ w => KM p Sh E Dn a kc pc Q qc w)) (nf := ke) (drawT p Sh E Dn) (by first | kernel_rfl | rfl)
  intro _ hR
  replace hF := (KM.rely n) ((KM.rely n) hF hR) (ownDrawT p E Dn _)
  clear hR
  simp only [List.size_toArray, List.length_cons, List.length_nil, Nat.reduceAdd, Nat.zero_add]
  co_applyP anyX_take (S := fun _ w => KM p Sh E Dn a kc pc Q qc w) (fun _ _ _ h r => KM.rely n h r) (fun _ _ _ _ h r => wpX_rely h r) (i := 0) rfl (by first | kernel_rfl | decide +kernel) (by first | kernel_rfl | decide +kernel) (by first | kernel_rfl | decide +kernel) (fun _ => .inl ⟨by rfl, fun _ hw => ⟨run_eq_of ?run12, ?guar12⟩⟩) hF ?rest12
  case run12 =>
    intro K hK
    (skip)
    go_simp
    exact hK
  case guar12 =>
    (skip)
    (co_still (termsT p Sh E Dn))
  try walk_nrm
  co_applyP anyX_take (S := fun _ w => KM p Sh E Dn a kc pc Q qc w) (fun _ _ _ h r => KM.rely n h r) (fun _ _ _ _ h r => wpX_rely h r) (i := 1) rfl (by first | kernel_rfl | decide +kernel) (by first | kernel_rfl | decide +kernel) (by first | kernel_rfl | decide +kernel) (fun _ => .inl ⟨by rfl, fun _ hw => ⟨run_eq_of ?run13, ?guar13⟩⟩) hF ?rest13
  case run13 =>
    intro K hK
    (skip)
    go_simp
    exact hK
  case guar13 =>
    (skip)
    (co_still (termsT p Sh E Dn))
  try walk_nrm
  co_applyP anyX_take (S := fun _ w => KM p Sh E Dn a kc pc Q qc w) (fun _ _ _ h r => KM.rely n h r) (fun _ _ _ _ h r => wpX_rely h r) (i := 2) rfl (by first | kernel_rfl | decide +kernel) (by first | kernel_rfl | decide +kernel) (by first | kernel_rfl | decide +kernel) (fun _ => .inl ⟨by rfl, fun _ hw => ⟨run_eq_of ?run14, ?guar14⟩⟩) hF ?rest14
  case run14 =>
    intro K hK
    (skip)
    go_simp
    exact hK
  case guar14 =>
    (skip)
    (co_still (termsT p Sh E Dn))
  try walk_nrm
  co_applyP anyX_take (S := fun _ w => KM p Sh E Dn a kc pc Q qc w) (fun _ _ _ h r => KM.rely n h r) (fun _ _ _ _ h r => wpX_rely h r) (i := 3) rfl (by first | kernel_rfl | decide +kernel) (by first | kernel_rfl | decide +kernel) (by first | kernel_rfl | decide +kernel) (fun _ => .inl ⟨by rfl, fun _ hw => ⟨run_eq_of ?run15, ?guar15⟩⟩) hF ?rest15
  case run15 =>
    intro K hK
    (skip)
    go_simp
    exact hK
  case guar15 =>
    (skip)
    (co_still (termsT p Sh E Dn))
  try walk_nrm
  co_applyP anyX_take (S := fun _ w => KM p Sh E Dn a kc pc Q qc w) (fun _ _ _ h r => KM.rely n h r) (fun _ _ _ _ h r => wpX_rely h r) (i := 4) rfl (by first | kernel_rfl | decide +kernel) (by first | kernel_rfl | decide +kernel) (by first | kernel_rfl | decide +kernel) (fun _ => .inl ⟨by rfl, fun _ hw => ⟨run_eq_of ?run16, ?guar16⟩⟩) hF ?rest16
  case run16 =>
    intro K hK
    (skip)
    go_simp
    exact hK
  case guar16 =>
    (skip)
    (co_still (termsT p Sh E Dn))
  try walk_nrm
  co_applyP anyX_take (S := fun _ w => KM p Sh E Dn a kc pc Q qc w) (fun _ _ _ h r => KM.rely n h r) (fun _ _ _ _ h r => wpX_rely h r) (i := 5) rfl (by first | kernel_rfl | decide +kernel) (by first | kernel_rfl | decide +kernel) (by first | kernel_rfl | decide +kernel) (fun _ => .inl ⟨by rfl, fun _ hw => ⟨run_eq_of ?run17, ?guar17⟩⟩) hF ?rest17
  case run17 =>
    intro K hK
    (skip)
    go_simp
    exact hK
  case guar17 =>
    (skip)
    (co_still (termsT p Sh E Dn))
  try walk_nrm
  co_applyP anyX_take (S := fun _ w => KM p Sh E Dn a kc pc Q qc w) (fun _ _ _ h r => KM.rely n h r) (fun _ _ _ _ h r => wpX_rely h r) (i := 6) rfl (by first | kernel_rfl | decide +kernel) (by first | kernel_rfl | decide +kernel) (by first | kernel_rfl | decide +kernel) (fun _ => .inl ⟨by rfl, fun _ hw => ⟨run_eq_of ?run18, ?guar18⟩⟩) hF ?rest18
  case run18 =>
    intro K hK
    (have hc := hw.pp.cell hp.id)
    go_simp
    exact hK
  case guar18 =>
    (have hc := hw.pp.cell hp.id)
    (refine dt_read ?_; co_evs (exact hw.evP n _))
  try walk_nrm
  co_applyP anyX_take (S := fun _ w => KM p Sh E Dn a kc pc Q qc w) (fun _ _ _ h r => KM.rely n h r) (fun _ _ _ _ h r => wpX_rely h r) (i := 7) rfl (by first | kernel_rfl | decide +kernel) (by first | kernel_rfl | decide +kernel) (by first | kernel_rfl | decide +kernel) (fun _ => .inl ⟨by rfl, fun _ hw => ⟨run_eq_of ?run19, ?guar19⟩⟩) hF ?rest19
  case run19 =>
    intro K hK
    (skip)
    go_simp
    exact hK
  case guar19 =>
    (skip)
    (co_still (termsT p Sh E Dn))
  try walk_nrm
  co_applyP anyX_take (S := fun _ w => KM p Sh E Dn a kc pc Q qc w) (fun _ _ _ h r => KM.rely n h r) (fun _ _ _ _ h r => wpX_rely h r) (i := 8) rfl (by first | kernel_rfl | decide +kernel) (by first | kernel_rfl | decide +kernel) (by first | kernel_rfl | decide +kernel) (fun _ => .inl ⟨by rfl, fun _ hw => ⟨run_eq_of ?run20, ?guar20⟩⟩) hF ?rest20
  case run20 =>
    intro K hK
    (skip)
    go_simp
    exact hK
  case guar20 =>
    (skip)
    (co_still (termsT p Sh E Dn))
  try walk_nrm
  co_applyP anyX_take (S := fun _ w => KM p Sh E Dn a kc pc Q qc w) (fun _ _ _ h r => KM.rely n h r) (fun _ _ _ _ h r => wpX_rely h r) (i := 9) rfl (by first | kernel_rfl | decide +kernel) (by first | kernel_rfl | decide +kernel) (by first | kernel_rfl | decide +kernel) (fun _ => .inl ⟨by rfl, fun _ hw => ⟨run_eq_of ?run21, ?guar21⟩⟩) hF ?rest21
  case run21 =>
    intro K hK
    (skip)
    go_simp
    exact hK
  case guar21 =>
    (skip)
    (co_still (termsT p Sh E Dn))
  try walk_nrm
  co_applyP anyX_take (S := fun _ w => KM p Sh E Dn a kc pc Q qc w) (fun _ _ _ h r => KM.rely n h r) (fun _ _ _ _ h r => wpX_rely h r) (i := 10) rfl (by first | kernel_rfl | decide +kernel) (by first | kernel_rfl | decide +kernel) (by first | kernel_rfl | decide +kernel) (fun _ => .inl ⟨by rfl, fun _ hw => ⟨run_eq_of ?run22, ?guar22⟩⟩) hF ?rest22
  case run22 =>
    intro K hK
    (skip)
    go_simp
    exact hK
  case guar22 =>
    (skip)
    (co_still (termsT p Sh E Dn))
  try walk_nrm
  co_applyP anyX_take (S := fun _ w => KM p Sh E Dn a kc pc Q qc w) (fun _ _ _ h r => KM.rely n h r) (fun _ _ _ _ h r => wpX_rely h r) (i := 11) rfl (by first | kernel_rfl | decide +kernel) (by first | kernel_rfl | decide +kernel) (by first | kernel_rfl | decide +kernel) (fun _ => .inl ⟨by rfl, fun _ hw => ⟨run_eq_of ?run23, ?guar23⟩⟩) hF ?rest23
  case run23 =>
    intro K hK
    (have hc := hw.pp.cell hp.at_)
    go_simp
    exact hK
  case guar23 =>
    (have hc := hw.pp.cell hp.at_)
    (refine dt_read ?_; co_evs (exact hw.evP n _))
  try walk_nrm
  co_applyP anyX_all (rs := [12]) (by first | kernel_rfl | decide +kernel) (by decide)
  intro qq hqq
  obtain rfl : qq = 12 := by simpa using hqq
  refine .inr ⟨_, 58, _, _, (fun s' _ w' => s' = vs ∧ KM p Sh E Dn a kc pc Q qc w'), rfl, by rfl, rfl, ?_, ?_⟩
  · walk_nrm
    exact ce kc pc Q qc x.s x.bo x.now r0 r1 r2 hk 1 1 q vs _ hF
  rintro s' v w' ⟨rfl, hM⟩
  clear hF
  have hF := hM
  clear hM
  refine ⟨hF, ?_⟩
  walk_nrm
  refine anyX_done (by first | kernel_rfl | decide +kernel) ?_ _
  try simp only [ThenX]
  try co_then
  co_apply wpX_seqC
  co_reg (termsT p Sh E Dn)
  co_op (KM.rely n) hF (co_still (termsT p Sh E Dn))
  co_op (KM.rely n) hF (co_still (termsT p Sh E Dn))
  co_op (KM.rely n) hF (co_still (termsT p Sh E Dn))
  co_op (KM.rely n) hF (co_still (termsT p Sh E Dn))
  co_op (KM.rely n) hF (co_still (termsT p Sh E Dn))
  co_apply opsC_call (termsT p Sh E Dn) rfl (by rfl) rfl
  · walk_nrm
    exact cs kc pc Q qc x.s x.bo x.now r0 r1 r2 hk q hp hq hgn o i y z ho9 g0 g1 g2 g3 (fun v w' => v = .nilIface ∧ ∃ pc', Pst pc' x.st x.status at' x.lv x.used r' m' ∧ KM p Sh E Dn a kc pc' Q qc w') (fun v w w₁ h r => ⟨h.1, h.2.choose, h.2.choose_spec.1, KM.rely n h.2.choose_spec.2 r⟩) (hdo kc pc Q qc hp) _ hF
  intro v w' hv
  obtain ⟨rfl, pc', hp', hM⟩ := hv
  clear hF
  have hF := hM
  clear hM
  walk_nrm
  co_op (KM.rely n) hF (co_still (termsT p Sh E Dn))
  co_apply opsC_call (termsT p Sh E Dn) rfl (by rfl) rfl
  · walk_nrm
    exact cz kc pc' Q qc _ hF
  intro v w' hv
  clear hF
  have hF := hv
  clear hv
  walk_nrm
  co_apply opsC_nil (termsT p Sh E Dn)
  co_then
  have q1 : IntKind.i64.wrap (x.used + 1) = x.used + 1 := by simp [IntKind.wrap_i64]; omega
  co_apply wpX_seqC
  co_reg (termsT p Sh E Dn)
  co_op (KM.rely n) hF (co_still (termsT p Sh E Dn))
  co_op (KM.rely n) hF (co_still (termsT p Sh E Dn))
  co_op (KM.rely n) hF (co_still (termsT p Sh E Dn))
  co_op (KM.rely n) hF (co_still (termsT p Sh E Dn))
  co_opw (KM.rely n) hF (have hc := hF.pp.cell hp'.us) (refine dt_read ?_; co_evs (exact hF.evP n _))
  clear hc
  co_op (KM.rely n) hF (co_still (termsT p Sh E Dn))
  co_op (KM.rely n) hF (co_still (termsT p Sh E Dn))
  co_op (KM.rely n) hF (co_still (termsT p Sh E Dn))
  co_op (KM.rely n) hF (co_still (termsT p Sh E Dn))
  co_opw (KM.rely n) hF (have hc := hF.pp.cell hp'.us; have hz := hF.pp.thaw 6) (refine hF.dtP n ?_; intro e he; have hm := mem_listed he; simp [go_sem, *] at hm; exact hm)
  clear hc hz
  replace hF := hF.setP n 6 (.int .i64 (x.used + 1))
  replace hp' := hp'.setUs (x.used + 1)
  co_apply opsC_nil (termsT p Sh E Dn)
  co_then
  co_apply wpX_seqC
  co_reg (termsT p Sh E Dn)
  co_op (KM.rely n) hF (co_still (termsT p Sh E Dn))
  co_op (KM.rely n) hF (co_still (termsT p Sh E Dn))
  co_op (KM.rely n) hF (co_still (termsT p Sh E Dn))
  co_op (KM.rely n) hF (co_still (termsT p Sh E Dn))
  co_opw (KM.rely n) hF (have hc := hF.pp.cell hp'.st) (refine dt_read ?_; co_evs (exact hF.evP n _))
  clear hc
  co_op (KM.rely n) hF (co_still (termsT p Sh E Dn))
  co_apply opsC_nil (termsT p Sh E Dn)
  co_then
  co_apply wpX_cond (t := true)
  focus (first | exact rfl | simp [Act.eval, hst])
  simp only [if_true, reduceIte]
  co_apply wpX_region
  simp only [List.size_toArray, List.length_cons, List.length_nil, Nat.reduceAdd, Nat.zero_add, List.range, List.range.loop]
  co_apply opsX_cons_k rfl (by rfl)
  intro _ hR K hK
  replace hF := (KM.rely n) hF hR
  clear hR
  skip
  go_simp
  try (unfold stored; go_simp)
  refine hK _ _ ⟨?_, ?_⟩
  · co_still (termsT p Sh E Dn)
  clear hK K
  try walk_nrm
  co_apply opsX_cons_k rfl (by rfl)
  intro _ hR K hK
  replace hF := (KM.rely n) hF hR
  clear hR
  skip
  go_simp
  try (unfold stored; go_simp)
  refine hK _ _ ⟨?_, ?_⟩
  · co_still (termsT p Sh E Dn)
  clear hK K
  try walk_nrm
  co_apply opsX_call rfl (by rfl) rfl
  · walk_nrm
    exact ct fr hfr { x with at_ := at', r := r', m := m', used := x.used + 1 } _ _ ⟨kc, _, Q, cap, qc, hC.did hF hp'⟩
  intro s' v w' hv
  obtain ⟨rfl, hM⟩ := hv
  walk_nrm
  co_apply opsX_nil
  exact ⟨rfl, _, resultsC_none (by rfl) _, rfl, hM⟩
end Go.Proofs.YtbnaccilnilcmaaDoor
/-
  Ticks pass, one by one.
  No condition but those that each statement names.
-/
namespace Go.Proofs.YtbnaccilnilcmaaDoor
open Go.Conc Go.RowKit Go.Hx

variable {p : Par} {Sh : Loc → Prop} {E Dn : Nat} {a : Ad} {PostB : World → Prop} {Aft : Goroutine → World → Prop}

/-- A tick that tells one word. -/
def TickOk (p : Par) (Sh : Loc → Prop) (E Dn : Nat) (a : Ad) (PostB : World → Prop) (Aft : Goroutine → World → Prop) (fr : Bool) (kt : Nat) (x : Now) (v : Value) (x' : Now) : Prop :=
  ∀ (vs : List Value) (w : World), Sit p Sh E Dn a fr x w → CallsX (tellF Tryd.prog p Sh E Dn PostB Aft) Tryd.prog false 45 #[.pointer (some ⟨a.K, 0, none⟩), .chan (some E)] kt (v :: vs) w fun s' _ w' => s' = vs ∧ Sit p Sh E Dn a fr x' w'

/-- Where the round begins. -/
def passAt (a : Ad) (E : Nat) (ticks i : Int) (t8 t9 t10 t11 t12 t13 t14 t15 t16 t17 t18 t19 t20 t21 : Value) : Act :=
  { tmps := #[.pointer (some ⟨a.K, 0, none⟩), .int .i64 ticks, .chan (some E), undef, undef, undef, .int .i64 ticks, .int .i64 i, t8, t9, t10, t11, t12, t13, t14, t15, t16, t17, t18, t19, t20, t21], defers := [] }

set_option maxRecDepth 100000 in
set_option maxHeartbeats 8000000 in
theorem pass_round (n : En p Sh E Dn a) (kt : Nat) : ∃ k, ∀ (c R0 : Code) (hc : Tryd.f19.body = some (.seq R0 (.block 0 (.loop c)))) (fr : Bool) (x x' : Now) (e : Value) (ht : TickOk p Sh E Dn a PostB Aft fr kt x e { x' with now := x.now }) (hn : x'.now = x.now + 1) (hn0 : 0 ≤ x.now ∧ x.now < 10000) (hst : x.st = 1) (ticks i : Int) (hi : 0 ≤ i ∧ i < ticks) (hti : ticks < 10000) (vs : List Value)
    (Qx : List Value → Exit → Act → World → Prop) (k2 : Nat) (H : ∀ t8 t9 t10 t11 t12 t13 t14 t15 t16 t17 t18 t19 t20 t21 w', Sit p Sh E Dn a fr x' w' → LoopX (tellF Tryd.prog p Sh E Dn PostB Aft) Tryd.prog false 19 c k2 vs Qx (passAt a E ticks (i + 1) t8 t9 t10 t11 t12 t13 t14 t15 t16 t17 t18 t19 t20 t21) w')
    (t8 t9 t10 t11 t12 t13 t14 t15 t16 t17 t18 t19 t20 t21 : Value) (w : World), Sit p Sh E Dn a fr x w →
    wpX (tellF Tryd.prog p Sh E Dn PostB Aft) Tryd.prog false 19 c k (e :: vs) (ThenX (fun s' a' w' => LoopX (tellF Tryd.prog p Sh E Dn PostB Aft) Tryd.prog false 19 c k2 s' Qx a' w') Qx) (passAt a E ticks i t8 t9 t10 t11 t12 t13 t14 t15 t16 t17 t18 t19 t20 t21) w := by
  obtain ⟨ko, co⟩ := over_c n
  co_apply Exists.intro
  intro c R0 hc fr x x' e ht hn hn0 hst ticks i hi hti vs Qx k2 H t8 t9 t10 t11 t12 t13 t14 t15 t16 t17 t18 t19 t20 t21 w hS
  have hlt := hi.2
  have q1 : IntKind.i64.wrap (i + 1) = i + 1 := by simp [IntKind.wrap_i64]; omega
  have q2 : IntKind.i64.wrap (x.now + 1) = x.now + 1 := by simp [IntKind.wrap_i64]; omega
  simp only [Tryd.f19, Option.some.injEq, Code.seq.injEq, Code.block.injEq, Code.loop.injEq, true_and] at hc
  obtain ⟨_, rfl⟩ := hc
  unfold passAt
  obtain ⟨kc, pc, Q, cap, qc, hC⟩ := hS
  have hF := hC.km
  obtain ⟨r0, r1, r2, hk⟩ := hC.ks
  have hp := hC.ps
  co_apply wpX_seqC
  co_reg (termsT p Sh E Dn)
  co_op (KM.rely n) hF (co_still (termsT p Sh E Dn))
  co_apply opsC_nil (termsT p Sh E Dn)
  co_then
  co_apply wpX_seqC
  co_apply wpC_cond (termsT p Sh E Dn) (t := true)
  focus (exact rfl)
  simp only [if_true, if_false, Bool.false_eq_true, reduceIte]
  co_apply wpC_skip (termsT p Sh E Dn)
  co_then
  co_apply wpX_seq
  co_apply wpX_block
  co_apply wpX_seqC
  co_apply wpC_seq (termsT p Sh E Dn)
  co_reg (termsT p Sh E Dn)
  co_op (KM.rely n) hF (co_still (termsT p Sh E Dn))
  co_apply opsC_call (termsT p Sh E Dn) rfl (by rfl) rfl
  · walk_nrm
    exact co kc pc Q qc _ _ _ r0 r1 r2 hk hp _ hF
  intro v w' hv
  obtain ⟨hv, hM⟩ := hv
  rw [hst] at hv
  obtain rfl : v = .bool false := by rw [hv]; rfl
  clear hv
  clear hF
  have hF := hM
  clear hM
  walk_nrm
  co_apply opsC_nil (termsT p Sh E Dn)
  co_then
  co_apply wpC_cond (termsT p Sh E Dn) (t := false)
  focus (exact rfl)
  simp only [if_true, if_false, Bool.false_eq_true, reduceIte]
  co_apply wpC_skip (termsT p Sh E Dn)
  co_then
  co_apply wpX_seq
  co_apply wpX_region
  simp only [List.size_toArray, List.length_cons, List.length_nil, Nat.reduceAdd, Nat.zero_add, List.range, List.range.loop]
  co_apply opsX_cons_k rfl (by rfl)
  intro _ hR K hK
  replace hF := (KM.rely n) hF hR
  clear hR
  skip
  go_simp
  try (unfold stored; go_simp)
  refine hK _ _ ⟨?_, ?_⟩
  · co_still (termsT p Sh E Dn)
  clear hK K
  try walk_nrm
  co_apply opsX_cons_k rfl (by rfl)
  intro _ hR K hK
  replace hF := (KM.rely n) hF hR
  clear hR
  skip
  go_simp
  try (unfold stored; go_simp)
  refine hK _ _ ⟨?_, ?_⟩
  · co_still (termsT p Sh E Dn)
  clear hK K
  try walk_nrm
  co_apply opsX_call rfl (by rfl) rfl
  · walk_nrm
    exact ht _ _ ⟨kc, pc, Q, cap, qc, hC.at hF⟩
  intro s' v w' hv
  obtain ⟨rfl, hS⟩ := hv
  clear hF hC hk hp
  clear kc pc Q cap qc r0 r1 r2
  obtain ⟨kc, pc, Q, cap, qc, hC⟩ := hS
  have hF := hC.km
  walk_nrm
  co_apply opsX_nil
  try simp only [ThenX]
  try co_then
  obtain ⟨r0, r1, r2, hk⟩ := hC.ks
  have hkn := hk.now
  simp only [] at hkn
  co_apply wpX_of
  co_reg (termsT p Sh E Dn)
  co_op (KM.rely n) hF (co_still (termsT p Sh E Dn))
  co_op (KM.rely n) hF (co_still (termsT p Sh E Dn))
  co_op (KM.rely n) hF (co_still (termsT p Sh E Dn))
  co_opw (KM.rely n) hF (have hc := hF.k.cell hkn) (refine dt_read ?_; co_evs (exact hF.evK n _))
  clear hc
  co_op (KM.rely n) hF (co_still (termsT p Sh E Dn))
  co_op (KM.rely n) hF (co_still (termsT p Sh E Dn))
  co_op (KM.rely n) hF (co_still (termsT p Sh E Dn))
  co_opw (KM.rely n) hF (have hc := hF.k.cell hkn; have hz := hF.k.thaw 9) (refine hF.dtK n ?_; intro e he; have hm := mem_listed he; simp [go_sem, *] at hm; exact hm)
  clear hc hz
  replace hF := hF.setK n 9 (.int .i64 (x.now + 1))
  have hC' := hC.later hF
  rw [show ({ ({ x' with now := x.now } : Now) with now := (x.now + 1 : Int) } : Now) = x' from by cases x'; simp at hn ⊢; omega] at hC'
  replace hC := hC'
  clear hC' hkn hk
  clear r0 r1 r2
  co_apply opsC_nil (termsT p Sh E Dn)
  try simp only [ThenX]
  try co_then
  co_apply wpX_of
  co_reg (termsT p Sh E Dn)
  co_op (KM.rely n) hF (co_still (termsT p Sh E Dn))
  co_op (KM.rely n) hF (co_still (termsT p Sh E Dn))
  co_apply opsC_nil (termsT p Sh E Dn)
  try simp only [ThenX]
  try co_then
  exact H _ _ _ _ _ _ _ _ _ _ _ _ _ _ _ ⟨_, _, _, _, _, hC.at hF⟩

/-- So many ticks, each with its word. -/
def Chain (p : Par) (Sh : Loc → Prop) (E Dn : Nat) (a : Ad) (PostB : World → Prop) (Aft : Goroutine → World → Prop) (fr : Bool) (kt : Nat) : Now → List Value → Now → Prop
  | x, [], z => x = z
  | x, e :: es, z => x.st = 1 ∧ ∃ x', TickOk p Sh E Dn a PostB Aft fr kt x e { x' with now := x.now } ∧ x'.now = x.now + 1 ∧ Chain p Sh E Dn a PostB Aft fr kt x' es z

set_option maxRecDepth 100000 in
set_option maxHeartbeats 8000000 in
theorem pass_end (n : En p Sh E Dn a) : ∃ k, ∀ (c R0 : Code) (hc : Tryd.f19.body = some (.seq R0 (.block 0 (.loop c)))) (ticks : Int) (vs : List Value) (Qx : List Value → Exit → Act → World → Prop) (fr : Bool) (x : Now) (t8 t9 t10 t11 t12 t13 t14 t15 t16 t17 t18 t19 t20 t21 : Value)
    (H : ∀ u8 w', Sit p Sh E Dn a fr x w' → Qx vs (.exit 0) (passAt a E ticks ticks u8 t9 t10 t11 t12 t13 t14 t15 t16 t17 t18 t19 t20 t21) w') (w : World), Sit p Sh E Dn a fr x w →
    wpX (tellF Tryd.prog p Sh E Dn PostB Aft) Tryd.prog false 19 c k vs (ThenX (fun s' a' w' => LoopX (tellF Tryd.prog p Sh E Dn PostB Aft) Tryd.prog false 19 c 0 s' Qx a' w') Qx) (passAt a E ticks ticks t8 t9 t10 t11 t12 t13 t14 t15 t16 t17 t18 t19 t20 t21) w := by
  co_apply Exists.intro
  intro c R0 hc ticks vs Qx fr x t8 t9 t10 t11 t12 t13 t14 t15 t16 t17 t18 t19 t20 t21 H w hF
  simp only [Tryd.f19, Option.some.injEq, Code.seq.injEq, Code.block.injEq, Code.loop.injEq, true_and] at hc
  obtain ⟨_, rfl⟩ := hc
  unfold passAt
  co_apply wpX_seqC
  co_reg (termsT p Sh E Dn)
  co_op (Sit.rely n) hF (co_still (termsT p Sh E Dn))
  co_apply opsC_nil (termsT p Sh E Dn)
  co_then
  co_apply wpX_seqC (n₂ := 0)
  co_apply wpC_cond (termsT p Sh E Dn) (t := false)
  focus (exact rfl)
  simp only [if_true, if_false, Bool.false_eq_true, reduceIte]
  co_apply wpC_exit (termsT p Sh E Dn)
  simp only [ThenX]
  co_then
  exact H _ _ hF

theorem pass_loop (n : En p Sh E Dn a) (kt : Nat) (es : List Value) : ∃ k, ∀ (c R0 : Code) (hc : Tryd.f19.body = some (.seq R0 (.block 0 (.loop c)))) (fr : Bool) (x z : Now) (h : Chain p Sh E Dn a PostB Aft fr kt x es z) (ticks i : Int) (hi : 0 ≤ i ∧ i + es.length = ticks) (hti : ticks < 10000) (hn0 : 0 ≤ x.now ∧ x.now + es.length < 10000) (vs : List Value)
    (Qx : List Value → Exit → Act → World → Prop) (H : ∀ t8 t9 t10 t11 t12 t13 t14 t15 t16 t17 t18 t19 t20 t21 w', Sit p Sh E Dn a fr z w' → Qx vs (.exit 0) (passAt a E ticks ticks t8 t9 t10 t11 t12 t13 t14 t15 t16 t17 t18 t19 t20 t21) w')
    (t8 t9 t10 t11 t12 t13 t14 t15 t16 t17 t18 t19 t20 t21 : Value) (w : World), Sit p Sh E Dn a fr x w →
    LoopX (tellF Tryd.prog p Sh E Dn PostB Aft) Tryd.prog false 19 c k (es ++ vs) Qx (passAt a E ticks i t8 t9 t10 t11 t12 t13 t14 t15 t16 t17 t18 t19 t20 t21) w := by
  induction es with
  | nil =>
    obtain ⟨k, g⟩ := pass_end (PostB := PostB) (Aft := Aft) n
    refine ⟨k + 0 + 1, fun c R0 hc fr x z h ticks i hi hti hn0 vs Qx H t8 t9 t10 t11 t12 t13 t14 t15 t16 t17 t18 t19 t20 t21 w hS => ?_⟩
    obtain rfl : x = z := h
    obtain rfl : i = ticks := by simpa using hi.2
    exact loopX1 (g c R0 hc i vs Qx fr x t8 t9 t10 t11 t12 t13 t14 t15 t16 t17 t18 t19 t20 t21 (fun u8 w' hw => H _ _ _ _ _ _ _ _ _ _ _ _ _ _ _ hw) w hS)
  | cons e es ih =>
    obtain ⟨k2, g2⟩ := ih
    obtain ⟨k, g⟩ := pass_round (PostB := PostB) (Aft := Aft) n kt
    refine ⟨k + k2 + 1, fun c R0 hc fr x z h ticks i hi hti hn0 vs Qx H t8 t9 t10 t11 t12 t13 t14 t15 t16 t17 t18 t19 t20 t21 w hS => ?_⟩
    obtain ⟨hst, x', ht, hn, hch⟩ := h
    have hl : ((e :: es).length : Int) = es.length + 1 := by simp
    rw [hl] at hi hn0
    refine loopX1 (g c R0 hc fr x x' e ht hn (by omega) hst ticks i (by omega) hti (es ++ vs) Qx k2 (fun u8 u9 u10 u11 u12 u13 u14 u15 u16 u17 u18 u19 u20 u21 w' hS' => ?_) t8 t9 t10 t11 t12 t13 t14 t15 t16 t17 t18 t19 t20 t21 w hS)
    exact g2 c R0 hc fr x' z hch ticks (i + 1) (by omega) hti (by omega) vs Qx H _ _ _ _ _ _ _ _ _ _ _ _ _ _ w' hS'
end Go.Proofs.YtbnaccilnilcmaaDoor
