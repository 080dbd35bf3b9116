/-
  A tick at which the process faults; the ticks of the second call.
  No condition but those that each statement names.
-/
import Derived.Test.YtbnaccilnilcmaaDoorHx26
import Derived.Test.YtbnaccilnilcmaaDoorHx23
import Derived.Test.YtbnaccilnilcmaaDoorHx24
set_option linter.unusedVariables false
set_option linter.unusedSimpArgs false
set_option linter.unusedSectionVars false
namespace Go.Proofs.YtbnaccilnilcmaaDoor
open Go.Conc Go.RowKit Go.Hx

variable {p : Par} {Sh : Loc → Prop} {E Dn : Nat} {a : Ad} {PostB : World → Prop} {Aft : Goroutine → World → Prop}

/-- The process has faulted. -/
def RestE (a : Ad) (x : Now) : Array Value → Array Value → Nat → Array Value → Prop := fun kc pc _ _ => (∃ r0 r1 r2, Kst a kc x.s x.bo x.now r0 r1 r2) ∧ Pst pc 6 65281 x.at_ x.lv x.used x.r x.m

set_option maxRecDepth 100000 in
set_option maxHeartbeats 8000000 in
theorem tick_f (n : En p Sh E Dn a) {ep : Addr} (g : Gl Sh a ep) (nd : Nat) : ∃ k, ∀ (fr : Bool) (x : Now) (q : Nat) (hat : x.at_ = q) (hq : q < a.gn) (hgn : a.gn ≤ 256) (o i y z : Int) (ho9 : o ≠ 9)
    (g0 : a.gc[q * 4]? = some (.int .u8 o)) (g1 : a.gc[q * 4 + 1]? = some (.int .u8 i)) (g2 : a.gc[q * 4 + 2]? = some (.int .u8 y)) (g3 : a.gc[q * 4 + 3]? = some (.int .u8 z)) (hst : x.st = 1) (hu : 0 ≤ x.used ∧ x.used < 100)
    (hn0 : 0 ≤ x.now ∧ x.now < 100) (hbo : 100 ≤ x.bo + 50 ∧ x.bo < 1001) (hnb : x.now < x.bo)
    (hdo : ∀ kc pc Q qc, Pst pc x.st x.status q x.lv x.used x.r x.m → ∀ w, KM p Sh E Dn a kc pc Q qc w → CallsC Tryd.prog false (RB p E Dn) (DT p Sh E Dn) 68 #[.pointer (some ⟨a.P, 0, none⟩), .agg #[.int .u8 o, .int .u8 i, .int .u8 y, .int .u8 z]] nd w
      fun v w' => v = .iface 168 (.pointer (some ep)) ∧ KM p Sh E Dn a kc pc Q qc w')
    (vs : List Value) (w : World), Sit p Sh E Dn a fr x w →
    CallsX (tellF Tryd.prog p Sh E Dn PostB Aft) Tryd.prog false 45 #[.pointer (some ⟨a.K, 0, none⟩), .chan (some E)] k (evt x.now 1 1 q :: evt x.now 4 1 65281 :: vs) w fun s' _ w' => s' = vs ∧ KR p Sh E Dn a (RestE a { x with used := x.used + 1 }) w' := by
  obtain ⟨kf, cf⟩ := first_s n
  obtain ⟨ke, ce⟩ := tell_x (PostB := PostB) (Aft := Aft) n
  obtain ⟨ks, cs⟩ := step_c n nd
  obtain ⟨kz, cz⟩ := settle_f (PostB := PostB) (Aft := Aft) n g
  have e1 := fun (w : World) (es : Array Event) => ev_eql_ptr_nil (w := w) (es := es) (some ⟨a.P, 0, none⟩) Tryd.underlying72
  co_apply Exists.intro
  intro fr x q hat hq hgn o i y z ho9 g0 g1 g2 g3 hst hu hn0 hbo hnb hdo vs w ⟨kc, pc, Q, cap, qc, hC⟩
  obtain ⟨r0, r1, r2, hk⟩ := hC.ks
  have hF := hC.km
  have hp := hC.ps
  rw [hat] at hp
  co_apply callsX_of_wpX Tryd.func45 (by rfl) rfl
  simp only [Tryd.ntmps45, List.size_toArray, List.length_cons, List.length_nil, Nat.reduceAdd, Nat.reduceSub, Array.replicate_succ, Array.replicate_zero, List.push_toArray, List.append_toArray, List.nil_append, List.cons_append]
  co_apply wpX_seqC
  co_apply wpC_mono (Q := fun e a' w' => e = .normal ∧ (∃ t5 t6 t7 t8 t9 t10 t11 t12 t13 t14 t15 t16 t17 t18 t19 t20 t21 t22 : Value, a' = { tmps := #[.pointer (some ⟨a.K, 0, none⟩), .chan (some E), undef, undef, undef, t5, t6, t7, t8, t9, t10, t11, t12, t13, t14, t15, t16, t17, t18, t19, t20, t21, t22, undef, undef, undef, undef, undef, undef, undef, undef, undef, undef, undef, undef, undef, undef, undef, undef, undef, undef, undef, undef, undef, undef, undef, undef, undef, undef, undef, undef, undef, undef, undef, undef, undef, undef, undef, undef, undef, undef, undef, undef, undef, undef, undef, undef, undef, undef, undef, undef, undef, undef], defers := [] }) ∧ KM p Sh E Dn a kc pc Q qc w')
  · co_apply wpC_seq (termsT p Sh E Dn)
    co_held (termsT p Sh E Dn) (drawT p Sh E Dn) (ownDrawT p E Dn) (KM p Sh E Dn a kc pc Q qc) (KM.rely n) hF
    by_cases hn : x.now = 0
    · have hk0 := hk.now
      rw [hn] at hk0
      co_take 0 (termsT p Sh E Dn) (KM.rely n) hF hw (skip) (co_still (termsT p Sh E Dn))
      co_take 1 (termsT p Sh E Dn) (KM.rely n) hF hw (skip) (co_still (termsT p Sh E Dn))
      co_take 2 (termsT p Sh E Dn) (KM.rely n) hF hw (skip) (co_still (termsT p Sh E Dn))
      co_take 3 (termsT p Sh E Dn) (KM.rely n) hF hw (have hc := hw.k.cell hk0) (refine dt_read ?_; co_evs (exact hw.evK n _))
      co_take 4 (termsT p Sh E Dn) (KM.rely n) hF hw (skip) (co_still (termsT p Sh E Dn))
      co_take 5 (termsT p Sh E Dn) (KM.rely n) hF hw (skip) (co_still (termsT p Sh E Dn))
      co_applyP anyCH_take (termsT p Sh E Dn) (fun _ _ h r => (KM.rely n) h r) (fun _ _ _ h r => wpC_rely (termsT p Sh E Dn) h r) (i := 6) rfl (by first | kernel_rfl | decide +kernel) (by first | kernel_rfl | decide +kernel) (by first | kernel_rfl | decide +kernel) (.inr ⟨by rfl, rfl⟩) hF ?rest1
      try walk_nrm
      co_applyP anyCH_take (termsT p Sh E Dn) (fun _ _ h r => (KM.rely n) h r) (fun _ _ _ h r => wpC_rely (termsT p Sh E Dn) h r) (i := 7) rfl (by first | kernel_rfl | decide +kernel) (by first | kernel_rfl | decide +kernel) (by first | kernel_rfl | decide +kernel) (.inr ⟨by rfl, rfl⟩) hF ?rest2
      try walk_nrm
      co_applyP anyCH_take (termsT p Sh E Dn) (fun _ _ h r => (KM.rely n) h r) (fun _ _ _ h r => wpC_rely (termsT p Sh E Dn) h r) (i := 8) rfl (by first | kernel_rfl | decide +kernel) (by first | kernel_rfl | decide +kernel) (by first | kernel_rfl | decide +kernel) (.inr ⟨by rfl, rfl⟩) hF ?rest3
      try walk_nrm
      co_applyP anyCH_take (termsT p Sh E Dn) (fun _ _ h r => (KM.rely n) h r) (fun _ _ _ h r => wpC_rely (termsT p Sh E Dn) h r) (i := 9) rfl (by first | kernel_rfl | decide +kernel) (by first | kernel_rfl | decide +kernel) (by first | kernel_rfl | decide +kernel) (.inr ⟨by rfl, rfl⟩) hF ?rest4
      try walk_nrm
      co_applyP anyCH_take (termsT p Sh E Dn) (fun _ _ h r => (KM.rely n) h r) (fun _ _ _ h r => wpC_rely (termsT p Sh E Dn) h r) (i := 10) rfl (by first | kernel_rfl | decide +kernel) (by first | kernel_rfl | decide +kernel) (by first | kernel_rfl | decide +kernel) (.inr ⟨by rfl, rfl⟩) hF ?rest5
      try walk_nrm
      co_applyP anyCH_take (termsT p Sh E Dn) (fun _ _ h r => (KM.rely n) h r) (fun _ _ _ h r => wpC_rely (termsT p Sh E Dn) h r) (i := 11) rfl (by first | kernel_rfl | decide +kernel) (by first | kernel_rfl | decide +kernel) (by first | kernel_rfl | decide +kernel) (.inr ⟨by rfl, rfl⟩) hF ?rest6
      try walk_nrm
      co_applyP anyCH_take (termsT p Sh E Dn) (fun _ _ h r => (KM.rely n) h r) (fun _ _ _ h r => wpC_rely (termsT p Sh E Dn) h r) (i := 12) rfl (by first | kernel_rfl | decide +kernel) (by first | kernel_rfl | decide +kernel) (by first | kernel_rfl | decide +kernel) (.inr ⟨by rfl, rfl⟩) hF ?rest7
      try walk_nrm
      co_applyP anyCH_take (termsT p Sh E Dn) (fun _ _ h r => (KM.rely n) h r) (fun _ _ _ h r => wpC_rely (termsT p Sh E Dn) h r) (i := 13) rfl (by first | kernel_rfl | decide +kernel) (by first | kernel_rfl | decide +kernel) (by first | kernel_rfl | decide +kernel) (.inr ⟨by rfl, rfl⟩) hF ?rest8
      try walk_nrm
      co_applyP anyCH_take (termsT p Sh E Dn) (fun _ _ h r => (KM.rely n) h r) (fun _ _ _ h r => wpC_rely (termsT p Sh E Dn) h r) (i := 14) rfl (by first | kernel_rfl | decide +kernel) (by first | kernel_rfl | decide +kernel) (by first | kernel_rfl | decide +kernel) (.inr ⟨by rfl, rfl⟩) hF ?rest9
      try walk_nrm
      co_applyP anyCH_take (termsT p Sh E Dn) (fun _ _ h r => (KM.rely n) h r) (fun _ _ _ h r => wpC_rely (termsT p Sh E Dn) h r) (i := 15) rfl (by first | kernel_rfl | decide +kernel) (by first | kernel_rfl | decide +kernel) (by first | kernel_rfl | decide +kernel) (.inr ⟨by rfl, rfl⟩) hF ?rest10
      try walk_nrm
      co_applyP anyCH_take (termsT p Sh E Dn) (fun _ _ h r => (KM.rely n) h r) (fun _ _ _ h r => wpC_rely (termsT p Sh E Dn) h r) (i := 16) rfl (by first | kernel_rfl | decide +kernel) (by first | kernel_rfl | decide +kernel) (by first | kernel_rfl | decide +kernel) (.inr ⟨by rfl, rfl⟩) hF ?rest11
      try walk_nrm
      co_take 17 (termsT p Sh E Dn) (KM.rely n) hF hw (skip) (co_still (termsT p Sh E Dn))
      co_done
      co_apply wpC_cond (termsT p Sh E Dn) (t := false)
      focus (exact rfl)
      simp only [if_true, if_false, Bool.false_eq_true, reduceIte]
      co_apply wpC_skip (termsT p Sh E Dn)
      co_then
      exact ⟨trivial, ⟨_, _, _, _, _, _, _, _, _, _, _, _, _, _, _, _, _, _, rfl⟩, hF⟩
    · have hg : (0 : Int) < x.now := by omega
      have hb0 : ¬ x.bo = 0 := by omega
      have hm : x.now.tmod x.bo = x.now := by rw [Int.tmod_eq_emod_of_nonneg (by omega)]; exact Int.emod_eq_of_lt (by omega) (by omega)
      have hw0 : IntKind.i64.wrap x.now = x.now := by simp [IntKind.wrap_i64]; omega
      co_take 0 (termsT p Sh E Dn) (KM.rely n) hF hw (skip) (co_still (termsT p Sh E Dn))
      co_take 1 (termsT p Sh E Dn) (KM.rely n) hF hw (skip) (co_still (termsT p Sh E Dn))
      co_take 2 (termsT p Sh E Dn) (KM.rely n) hF hw (skip) (co_still (termsT p Sh E Dn))
      co_take 3 (termsT p Sh E Dn) (KM.rely n) hF hw (have hc := hw.k.cell hk.now) (refine dt_read ?_; co_evs (exact hw.evK n _))
      co_take 4 (termsT p Sh E Dn) (KM.rely n) hF hw (skip) (co_still (termsT p Sh E Dn))
      co_take 5 (termsT p Sh E Dn) (KM.rely n) hF hw (skip) (co_still (termsT p Sh E Dn))
      co_take 6 (termsT p Sh E Dn) (KM.rely n) hF hw (skip) (co_still (termsT p Sh E Dn))
      co_take 7 (termsT p Sh E Dn) (KM.rely n) hF hw (skip) (co_still (termsT p Sh E Dn))
      co_take 8 (termsT p Sh E Dn) (KM.rely n) hF hw (skip) (co_still (termsT p Sh E Dn))
      co_take 9 (termsT p Sh E Dn) (KM.rely n) hF hw (have hc := hw.k.cell hk.now) (refine dt_read ?_; co_evs (exact hw.evK n _))
      co_take 10 (termsT p Sh E Dn) (KM.rely n) hF hw (skip) (co_still (termsT p Sh E Dn))
      co_take 11 (termsT p Sh E Dn) (KM.rely n) hF hw (skip) (co_still (termsT p Sh E Dn))
      co_take 12 (termsT p Sh E Dn) (KM.rely n) hF hw (skip) (co_still (termsT p Sh E Dn))
      co_take 13 (termsT p Sh E Dn) (KM.rely n) hF hw (skip) (co_still (termsT p Sh E Dn))
      co_take 14 (termsT p Sh E Dn) (KM.rely n) hF hw (have hc := hw.k.cell hk.bo) (refine dt_read ?_; co_evs (exact hw.evK n _))
      co_take 15 (termsT p Sh E Dn) (KM.rely n) hF hw (skip) (co_still (termsT p Sh E Dn))
      co_take 16 (termsT p Sh E Dn) (KM.rely n) hF hw (skip) (co_still (termsT p Sh E Dn))
      co_take 17 (termsT p Sh E Dn) (KM.rely n) hF hw (skip) (co_still (termsT p Sh E Dn))
      co_done
      co_apply wpC_cond (termsT p Sh E Dn) (t := false)
      focus (simp [Act.eval, hn])
      simp only [if_true, if_false, Bool.false_eq_true, reduceIte]
      co_apply wpC_skip (termsT p Sh E Dn)
      co_then
      exact ⟨trivial, ⟨_, _, _, _, _, _, _, _, _, _, _, _, _, _, _, _, _, _, rfl⟩, hF⟩
  rintro e a' w' ⟨rfl, ⟨t5, t6, t7, t8, t9, t10, t11, t12, t13, t14, t15, t16, t17, t18, t19, t20, t21, t22, rfl⟩, hM⟩
  clear hF
  have hF := hM
  clear hM
  co_then
  co_apply wpX_seqC
  co_reg (termsT p Sh E Dn)
  co_op (KM.rely n) hF (co_still (termsT p Sh E Dn))
  co_op (KM.rely n) hF (co_still (termsT p Sh E Dn))
  co_op (KM.rely n) hF (co_still (termsT p Sh E Dn))
  co_apply opsC_call (termsT p Sh E Dn) rfl (by rfl) rfl
  · walk_nrm
    exact cf fr x kc pc Q cap qc _ (hC.at hF)
  intro v w' hv
  obtain ⟨rfl, hM⟩ := hv
  clear hF
  have hF := hM
  clear hM
  walk_nrm
  co_op (KM.rely n) hF (co_still (termsT p Sh E Dn))
  co_apply opsC_nil (termsT p Sh E Dn)
  co_then
  co_apply wpX_seqC
  co_apply wpC_seq (termsT p Sh E Dn)
  co_reg (termsT p Sh E Dn)
  co_op (KM.rely n) hF (co_still (termsT p Sh E Dn))
  co_op (KM.rely n) hF (co_still (termsT p Sh E Dn))
  co_apply opsC_nil (termsT p Sh E Dn)
  co_then
  co_apply wpC_cond (termsT p Sh E Dn) (t := false)
  focus (exact rfl)
  simp only [if_true, if_false, Bool.false_eq_true, reduceIte]
  co_apply wpC_skip (termsT p Sh E Dn)
  co_then
  co_apply wpX_seq
  co_apply wpX_region_held (S := (fun _ w => KM p Sh E Dn a kc pc Q qc w)) (nf := ke) (drawT p Sh E Dn) (by first | kernel_rfl | rfl)
  intro _ hR
  replace hF := (KM.rely n) ((KM.rely n) hF hR) (ownDrawT p E Dn _)
  clear hR
  simp only [List.size_toArray, List.length_cons, List.length_nil, Nat.reduceAdd, Nat.zero_add]
  co_applyP anyX_take (S := fun _ w => KM p Sh E Dn a kc pc Q qc w) (fun _ _ _ h r => KM.rely n h r) (fun _ _ _ _ h r => wpX_rely h r) (i := 0) rfl (by first | kernel_rfl | decide +kernel) (by first | kernel_rfl | decide +kernel) (by first | kernel_rfl | decide +kernel) (fun _ => .inl ⟨by rfl, fun _ hw => ⟨run_eq_of ?run12, ?guar12⟩⟩) hF ?rest12
  case run12 =>
    intro K hK
    (skip)
    go_simp
    exact hK
  case guar12 =>
    (skip)
    (co_still (termsT p Sh E Dn))
  try walk_nrm
  co_applyP anyX_take (S := fun _ w => KM p Sh E Dn a kc pc Q qc w) (fun _ _ _ h r => KM.rely n h r) (fun _ _ _ _ h r => wpX_rely h r) (i := 1) rfl (by first | kernel_rfl | decide +kernel) (by first | kernel_rfl | decide +kernel) (by first | kernel_rfl | decide +kernel) (fun _ => .inl ⟨by rfl, fun _ hw => ⟨run_eq_of ?run13, ?guar13⟩⟩) hF ?rest13
  case run13 =>
    intro K hK
    (skip)
    go_simp
    exact hK
  case guar13 =>
    (skip)
    (co_still (termsT p Sh E Dn))
  try walk_nrm
  co_applyP anyX_take (S := fun _ w => KM p Sh E Dn a kc pc Q qc w) (fun _ _ _ h r => KM.rely n h r) (fun _ _ _ _ h r => wpX_rely h r) (i := 2) rfl (by first | kernel_rfl | decide +kernel) (by first | kernel_rfl | decide +kernel) (by first | kernel_rfl | decide +kernel) (fun _ => .inl ⟨by rfl, fun _ hw => ⟨run_eq_of ?run14, ?guar14⟩⟩) hF ?rest14
  case run14 =>
    intro K hK
    (skip)
    go_simp
    exact hK
  case guar14 =>
    (skip)
    (co_still (termsT p Sh E Dn))
  try walk_nrm
  co_applyP anyX_take (S := fun _ w => KM p Sh E Dn a kc pc Q qc w) (fun _ _ _ h r => KM.rely n h r) (fun _ _ _ _ h r => wpX_rely h r) (i := 3) rfl (by first | kernel_rfl | decide +kernel) (by first | kernel_rfl | decide +kernel) (by first | kernel_rfl | decide +kernel) (fun _ => .inl ⟨by rfl, fun _ hw => ⟨run_eq_of ?run15, ?guar15⟩⟩) hF ?rest15
  case run15 =>
    intro K hK
    (skip)
    go_simp
    exact hK
  case guar15 =>
    (skip)
    (co_still (termsT p Sh E Dn))
  try walk_nrm
  co_applyP anyX_take (S := fun _ w => KM p Sh E Dn a kc pc Q qc w) (fun _ _ _ h r => KM.rely n h r) (fun _ _ _ _ h r => wpX_rely h r) (i := 4) rfl (by first | kernel_rfl | decide +kernel) (by first | kernel_rfl | decide +kernel) (by first | kernel_rfl | decide +kernel) (fun _ => .inl ⟨by rfl, fun _ hw => ⟨run_eq_of ?run16, ?guar16⟩⟩) hF ?rest16
  case run16 =>
    intro K hK
    (skip)
    go_simp
    exact hK
  case guar16 =>
    (skip)
    (co_still (termsT p Sh E Dn))
  try walk_nrm
  co_applyP anyX_take (S := fun _ w => KM p Sh E Dn a kc pc Q qc w) (fun _ _ _ h r => KM.rely n h r) (fun _ _ _ _ h r => wpX_rely h r) (i := 5) rfl (by first | kernel_rfl | decide +kernel) (by first | kernel_rfl | decide +kernel) (by first | kernel_rfl | decide +kernel) (fun _ => .inl ⟨by rfl, fun _ hw => ⟨run_eq_of ?run17, ?guar17⟩⟩) hF ?rest17
  case run17 =>
    intro K hK
    (skip)
    go_simp
    exact hK
  case guar17 =>
    (skip)
    (co_still (termsT p Sh E Dn))
  try walk_nrm
  co_applyP anyX_take (S := fun _ w => KM p Sh E Dn a kc pc Q qc w) (fun _ _ _ h r => KM.rely n h r) (fun _ _ _ _ h r => wpX_rely h r) (i := 6) rfl (by first | kernel_rfl | decide +kernel) (by first | kernel_rfl | decide +kernel) (by first | kernel_rfl | decide +kernel) (fun _ => .inl ⟨by rfl, fun _ hw => ⟨run_eq_of ?run18, ?guar18⟩⟩) hF ?rest18
  case run18 =>
    intro K hK
    (have hc := hw.pp.cell hp.id)
    go_simp
    exact hK
  case guar18 =>
    (have hc := hw.pp.cell hp.id)
    (refine dt_read ?_; co_evs (exact hw.evP n _))
  try walk_nrm
  co_applyP anyX_take (S := fun _ w => KM p Sh E Dn a kc pc Q qc w) (fun _ _ _ h r => KM.rely n h r) (fun _ _ _ _ h r => wpX_rely h r) (i := 7) rfl (by first | kernel_rfl | decide +kernel) (by first | kernel_rfl | decide +kernel) (by first | kernel_rfl | decide +kernel) (fun _ => .inl ⟨by rfl, fun _ hw => ⟨run_eq_of ?run19, ?guar19⟩⟩) hF ?rest19
  case run19 =>
    intro K hK
    (skip)
    go_simp
    exact hK
  case guar19 =>
    (skip)
    (co_still (termsT p Sh E Dn))
  try walk_nrm
  co_applyP anyX_take (S := fun _ w => KM p Sh E Dn a kc pc Q qc w) (fun _ _ _ h r => KM.rely n h r) (fun _ _ _ _ h r => wpX_rely h r) (i := 8) rfl (by first | kernel_rfl | decide +kernel) (by first | kernel_rfl | decide +kernel) (by first | kernel_rfl | decide +kernel) (fun _ => .inl ⟨by rfl, fun _ hw => ⟨run_eq_of ?run20, ?guar20⟩⟩) hF ?rest20
  case run20 =>
    intro K hK
    (skip)
    go_simp
    exact hK
  case guar20 =>
    (skip)
    (co_still (termsT p Sh E Dn))
  try walk_nrm
  co_applyP anyX_take (S := fun _ w => KM p Sh E Dn a kc pc Q qc w) (fun _ _ _ h r => KM.rely n h r) (fun _ _ _ _ h r => wpX_rely h r) (i := 9) rfl (by first | kernel_rfl | decide +kernel) (by first | kernel_rfl | decide +kernel) (by first | kernel_rfl | decide +kernel) (fun _ => .inl ⟨by rfl, fun _ hw => ⟨run_eq_of ?run21, ?guar21⟩⟩) hF ?rest21
  case run21 =>
    intro K hK
    (skip)
    go_simp
    exact hK
  case guar21 =>
    (skip)
    (co_still (termsT p Sh E Dn))
  try walk_nrm
  co_applyP anyX_take (S := fun _ w => KM p Sh E Dn a kc pc Q qc w) (fun _ _ _ h r => KM.rely n h r) (fun _ _ _ _ h r => wpX_rely h r) (i := 10) rfl (by first | kernel_rfl | decide +kernel) (by first | kernel_rfl | decide +kernel) (by first | kernel_rfl | decide +kernel) (fun _ => .inl ⟨by rfl, fun _ hw => ⟨run_eq_of ?run22, ?guar22⟩⟩) hF ?rest22
  case run22 =>
    intro K hK
    (skip)
    go_simp
    exact hK
  case guar22 =>
    (skip)
    (co_still (termsT p Sh E Dn))
  try walk_nrm
  co_applyP anyX_take (S := fun _ w => KM p Sh E Dn a kc pc Q qc w) (fun _ _ _ h r => KM.rely n h r) (fun _ _ _ _ h r => wpX_rely h r) (i := 11) rfl (by first | kernel_rfl | decide +kernel) (by first | kernel_rfl | decide +kernel) (by first | kernel_rfl | decide +kernel) (fun _ => .inl ⟨by rfl, fun _ hw => ⟨run_eq_of ?run23, ?guar23⟩⟩) hF ?rest23
  case run23 =>
    intro K hK
    (have hc := hw.pp.cell hp.at_)
    go_simp
    exact hK
  case guar23 =>
    (have hc := hw.pp.cell hp.at_)
    (refine dt_read ?_; co_evs (exact hw.evP n _))
  try walk_nrm
  co_applyP anyX_all (rs := [12]) (by first | kernel_rfl | decide +kernel) (by decide)
  intro qq hqq
  obtain rfl : qq = 12 := by simpa using hqq
  refine .inr ⟨_, 58, _, _, (fun s' _ w' => s' = evt x.now 4 1 65281 :: vs ∧ KM p Sh E Dn a kc pc Q qc w'), rfl, by rfl, rfl, ?_, ?_⟩
  · walk_nrm
    exact ce kc pc Q qc x.s x.bo x.now r0 r1 r2 hk 1 1 q (evt x.now 4 1 65281 :: vs) _ hF
  rintro s' v w' ⟨rfl, hM⟩
  clear hF
  have hF := hM
  clear hM
  refine ⟨hF, ?_⟩
  walk_nrm
  refine anyX_done (by first | kernel_rfl | decide +kernel) ?_ _
  try simp only [ThenX]
  try co_then
  co_apply wpX_seq
  co_apply wpX_region
  simp only [List.size_toArray, List.length_cons, List.length_nil, Nat.reduceAdd, Nat.zero_add, List.range, List.range.loop]
  co_apply opsX_cons_k rfl (by rfl)
  intro _ hR K hK
  replace hF := (KM.rely n) hF hR
  clear hR
  skip
  go_simp
  try (unfold stored; go_simp)
  refine hK _ _ ⟨?_, ?_⟩
  · co_still (termsT p Sh E Dn)
  clear hK K
  try walk_nrm
  co_apply opsX_cons_k rfl (by rfl)
  intro _ hR K hK
  replace hF := (KM.rely n) hF hR
  clear hR
  skip
  go_simp
  try (unfold stored; go_simp)
  refine hK _ _ ⟨?_, ?_⟩
  · co_still (termsT p Sh E Dn)
  clear hK K
  try walk_nrm
  co_apply opsX_cons_k rfl (by rfl)
  intro _ hR K hK
  replace hF := (KM.rely n) hF hR
  clear hR
  skip
  go_simp
  try (unfold stored; go_simp)
  refine hK _ _ ⟨?_, ?_⟩
  · co_still (termsT p Sh E Dn)
  clear hK K
  try walk_nrm
  co_apply opsX_cons_k rfl (by rfl)
  intro _ hR K hK
  replace hF := (KM.rely n) hF hR
  clear hR
  skip
  go_simp
  try (unfold stored; go_simp)
  refine hK _ _ ⟨?_, ?_⟩
  · co_still (termsT p Sh E Dn)
  clear hK K
  try walk_nrm
  co_apply opsX_cons_k rfl (by rfl)
  intro _ hR K hK
  replace hF := (KM.rely n) hF hR
  clear hR
  skip
  go_simp
  try (unfold stored; go_simp)
  refine hK _ _ ⟨?_, ?_⟩
  · co_still (termsT p Sh E Dn)
  clear hK K
  try walk_nrm
  co_apply opsX_call rfl (by rfl) rfl
  · walk_nrm
    exact callsX_of (Post := fun s' v w' => s' = evt x.now 4 1 65281 :: vs ∧ v = .iface 168 (.pointer (some ep)) ∧ KM p Sh E Dn a kc pc Q qc w') (CallsC.mono (cs kc pc Q qc x.s x.bo x.now r0 r1 r2 hk q hp hq hgn o i y z ho9 g0 g1 g2 g3 (fun v w' => v = .iface 168 (.pointer (some ep)) ∧ KM p Sh E Dn a kc pc Q qc w') (fun v w w₁ h r => ⟨h.1, h.2.rely n r⟩) (hdo kc pc Q qc hp) _ hF) fun v w h => ⟨rfl, h⟩)
  intro s' v w' hv
  obtain ⟨rfl, rfl, hM⟩ := hv
  clear hF
  have hF := hM
  clear hM
  walk_nrm
  co_apply opsX_cons_k rfl (by rfl)
  intro _ hR K hK
  replace hF := (KM.rely n) hF hR
  clear hR
  skip
  go_simp
  try (unfold stored; go_simp)
  refine hK _ _ ⟨?_, ?_⟩
  · co_still (termsT p Sh E Dn)
  clear hK K
  try walk_nrm
  co_apply opsX_call rfl (by rfl) rfl
  · walk_nrm
    exact cz kc pc Q cap qc hC.rq hC.c1 hC.q0 x.lv hC.hlv hp x.s x.bo x.now r0 r1 r2 hk hC.row vs _ hF
  intro s' v w' hv
  obtain ⟨rfl, kc', pc', ⟨q0, q1, q2, hk'⟩, hp', hM⟩ := hv
  clear hF
  have hF := hM
  clear hM
  walk_nrm
  co_apply opsX_nil
  try simp only [ThenX]
  try co_then
  have w1 : IntKind.i64.wrap (x.used + 1) = x.used + 1 := by simp [IntKind.wrap_i64]; omega
  co_apply wpX_seqC
  co_reg (termsT p Sh E Dn)
  co_op (KM.rely n) hF (co_still (termsT p Sh E Dn))
  co_op (KM.rely n) hF (co_still (termsT p Sh E Dn))
  co_op (KM.rely n) hF (co_still (termsT p Sh E Dn))
  co_op (KM.rely n) hF (co_still (termsT p Sh E Dn))
  co_opw (KM.rely n) hF (have hc := hF.pp.cell hp'.us) (refine dt_read ?_; co_evs (exact hF.evP n _))
  clear hc
  co_op (KM.rely n) hF (co_still (termsT p Sh E Dn))
  co_op (KM.rely n) hF (co_still (termsT p Sh E Dn))
  co_op (KM.rely n) hF (co_still (termsT p Sh E Dn))
  co_op (KM.rely n) hF (co_still (termsT p Sh E Dn))
  co_opw (KM.rely n) hF (have hc := hF.pp.cell hp'.us; have hz := hF.pp.thaw 6) (refine hF.dtP n ?_; intro e he; have hm := mem_listed he; simp [go_sem, *] at hm; exact hm)
  clear hc hz
  replace hF := hF.setP n 6 (.int .i64 (x.used + 1))
  replace hp' := hp'.setUs (x.used + 1)
  co_apply opsC_nil (termsT p Sh E Dn)
  co_then
  co_apply wpX_seqC
  co_reg (termsT p Sh E Dn)
  co_op (KM.rely n) hF (co_still (termsT p Sh E Dn))
  co_op (KM.rely n) hF (co_still (termsT p Sh E Dn))
  co_op (KM.rely n) hF (co_still (termsT p Sh E Dn))
  co_op (KM.rely n) hF (co_still (termsT p Sh E Dn))
  co_opw (KM.rely n) hF (have hc := hF.pp.cell hp'.st) (refine dt_read ?_; co_evs (exact hF.evP n _))
  clear hc
  co_op (KM.rely n) hF (co_still (termsT p Sh E Dn))
  co_apply opsC_nil (termsT p Sh E Dn)
  co_then
  co_apply wpX_cond (t := false)
  focus (exact rfl)
  simp only [if_true, if_false, Bool.false_eq_true, reduceIte]
  co_apply wpX_of
  co_apply wpC_skip (termsT p Sh E Dn)
  exact ⟨rfl, _, resultsC_none (by rfl) _, rfl, _, _, _, _, hF, ⟨q0, q1, q2, hk'⟩, by rw [hat]; exact hp'⟩

set_option maxRecDepth 100000 in
set_option maxHeartbeats 8000000 in
/-- So many ticks, of which the first one faults. -/
theorem pass_f (n : En p Sh E Dn a) (kt : Nat) : ∃ k, ∀ (fr : Bool) (x : Now) (e1 e2 : Value) (y : Now) (hst : x.st = 1) (hn0 : 0 ≤ y.now ∧ y.now < 100) (ht : ∀ (vs : List Value) (w : World), Sit p Sh E Dn a fr x w → CallsX (tellF Tryd.prog p Sh E Dn PostB Aft) Tryd.prog false 45 #[.pointer (some ⟨a.K, 0, none⟩), .chan (some E)] kt (e1 :: e2 :: vs) w fun s' _ w' => s' = vs ∧ KR p Sh E Dn a (RestE a y) w')
    (ticks : Int) (hti : 2 ≤ ticks ∧ ticks < 10000) (vs : List Value) (w : World), Sit p Sh E Dn a fr x w →
    CallsX (tellF Tryd.prog p Sh E Dn PostB Aft) Tryd.prog false 19 #[.pointer (some ⟨a.K, 0, none⟩), .int .i64 ticks, .chan (some E)] k (e1 :: e2 :: vs) w fun s' _ w' => s' = vs ∧ KR p Sh E Dn a (RestE a { y with now := y.now + 1 }) w' := by
  obtain ⟨ko, co⟩ := over_c n
  co_apply Exists.intro
  intro fr x e1 e2 y hst hn0 ht ticks hti vs w hS
  have b0 : (0 : Int) < ticks := by omega
  have b1 : (1 : Int) < ticks := by omega
  have q1 : IntKind.i64.wrap (0 + 1) = 1 := by decide
  have q1' : IntKind.i64.wrap 1 = 1 := by decide
  have q2 : IntKind.i64.wrap (y.now + 1) = y.now + 1 := by simp [IntKind.wrap_i64]; omega
  obtain ⟨kc, pc, Q, cap, qc, hC⟩ := hS
  have hF := hC.km
  obtain ⟨r0, r1, r2, hk⟩ := hC.ks
  have hp := hC.ps
  co_apply callsX_of_wpX Tryd.func19 (by rfl) rfl
  simp only [Tryd.ntmps19, List.size_toArray, List.length_cons, List.length_nil, Nat.reduceAdd, Nat.reduceSub, Array.replicate_succ, Array.replicate_zero, List.push_toArray, List.append_toArray, List.nil_append, List.cons_append]
  co_apply wpX_seqC
  co_reg (termsT p Sh E Dn)
  co_op (KM.rely n) hF (co_still (termsT p Sh E Dn))
  co_op (KM.rely n) hF (co_still (termsT p Sh E Dn))
  co_apply opsC_nil (termsT p Sh E Dn)
  co_then
  co_apply wpX_block
  co_apply wpX_loop1
  co_apply wpX_seqC
  co_reg (termsT p Sh E Dn)
  co_op (KM.rely n) hF (co_still (termsT p Sh E Dn))
  co_apply opsC_nil (termsT p Sh E Dn)
  co_then
  co_apply wpX_seqC
  co_apply wpC_cond (termsT p Sh E Dn) (t := true)
  focus (exact rfl)
  simp only [if_true, if_false, Bool.false_eq_true, reduceIte]
  co_apply wpC_skip (termsT p Sh E Dn)
  co_then
  co_apply wpX_seq
  co_apply wpX_block
  co_apply wpX_seqC
  co_apply wpC_seq (termsT p Sh E Dn)
  co_reg (termsT p Sh E Dn)
  co_op (KM.rely n) hF (co_still (termsT p Sh E Dn))
  co_apply opsC_call (termsT p Sh E Dn) rfl (by rfl) rfl
  · walk_nrm
    exact co kc pc Q qc _ _ _ r0 r1 r2 hk hp _ hF
  intro v w' hv
  obtain ⟨hv, hM⟩ := hv
  rw [hst] at hv
  obtain rfl : v = .bool false := by rw [hv]; rfl
  clear hv hF
  have hF := hM
  clear hM
  walk_nrm
  co_apply opsC_nil (termsT p Sh E Dn)
  co_then
  co_apply wpC_cond (termsT p Sh E Dn) (t := false)
  focus (exact rfl)
  simp only [if_true, if_false, Bool.false_eq_true, reduceIte]
  co_apply wpC_skip (termsT p Sh E Dn)
  co_then
  co_apply wpX_seq
  co_apply wpX_region
  simp only [List.size_toArray, List.length_cons, List.length_nil, Nat.reduceAdd, Nat.zero_add, List.range, List.range.loop]
  co_apply opsX_cons_k rfl (by rfl)
  intro _ hR K hK
  replace hF := (KM.rely n) hF hR
  clear hR
  skip
  go_simp
  try (unfold stored; go_simp)
  refine hK _ _ ⟨?_, ?_⟩
  · co_still (termsT p Sh E Dn)
  clear hK K
  try walk_nrm
  co_apply opsX_cons_k rfl (by rfl)
  intro _ hR K hK
  replace hF := (KM.rely n) hF hR
  clear hR
  skip
  go_simp
  try (unfold stored; go_simp)
  refine hK _ _ ⟨?_, ?_⟩
  · co_still (termsT p Sh E Dn)
  clear hK K
  try walk_nrm
  co_apply opsX_call rfl (by rfl) rfl
  · walk_nrm
    exact ht _ _ ⟨kc, pc, Q, cap, qc, hC.at hF⟩
  intro s' v w' hv
  obtain ⟨rfl, kc', pc', Q', qc', hM, ⟨s0, s1, s2, hk'⟩, hp'⟩ := hv
  clear hF hC hk hp
  have hF := hM
  clear hM
  walk_nrm
  co_apply opsX_nil
  try simp only [ThenX]
  try co_then
  co_apply wpX_of
  co_reg (termsT p Sh E Dn)
  co_op (KM.rely n) hF (co_still (termsT p Sh E Dn))
  co_op (KM.rely n) hF (co_still (termsT p Sh E Dn))
  co_op (KM.rely n) hF (co_still (termsT p Sh E Dn))
  co_opw (KM.rely n) hF (have hc := hF.k.cell hk'.now) (refine dt_read ?_; co_evs (exact hF.evK n _))
  clear hc
  co_op (KM.rely n) hF (co_still (termsT p Sh E Dn))
  co_op (KM.rely n) hF (co_still (termsT p Sh E Dn))
  co_op (KM.rely n) hF (co_still (termsT p Sh E Dn))
  co_opw (KM.rely n) hF (have hc := hF.k.cell hk'.now; have hz := hF.k.thaw 9) (refine hF.dtK n ?_; intro e he; have hm := mem_listed he; simp [go_sem, *] at hm; exact hm)
  clear hc hz
  replace hF := hF.setK n 9 (.int .i64 (y.now + 1))
  replace hk' := hk'.setNow (y.now + 1)
  co_apply opsC_nil (termsT p Sh E Dn)
  try simp only [ThenX]
  try co_then
  co_apply wpX_of
  co_reg (termsT p Sh E Dn)
  co_op (KM.rely n) hF (co_still (termsT p Sh E Dn))
  co_op (KM.rely n) hF (co_still (termsT p Sh E Dn))
  co_apply opsC_nil (termsT p Sh E Dn)
  try simp only [ThenX]
  try co_then
  co_apply loopX1 (n₂ := 0)
  co_apply wpX_seqC
  co_reg (termsT p Sh E Dn)
  co_op (KM.rely n) hF (co_still (termsT p Sh E Dn))
  co_apply opsC_nil (termsT p Sh E Dn)
  co_then
  co_apply wpX_seqC
  co_apply wpC_cond (termsT p Sh E Dn) (t := true)
  focus (exact rfl)
  simp only [if_true, if_false, Bool.false_eq_true, reduceIte]
  co_apply wpC_skip (termsT p Sh E Dn)
  co_then
  co_apply wpX_seq (n₂ := 0)
  co_apply wpX_block
  co_apply wpX_seqC (n₂ := 0)
  co_apply wpC_seq (termsT p Sh E Dn)
  co_reg (termsT p Sh E Dn)
  co_op (KM.rely n) hF (co_still (termsT p Sh E Dn))
  co_apply opsC_call (termsT p Sh E Dn) rfl (by rfl) rfl
  · walk_nrm
    exact co _ _ _ _ _ _ _ s0 s1 s2 hk' hp' _ hF
  intro v w' hv
  obtain ⟨hv, hM⟩ := hv
  obtain rfl : v = .bool true := by rw [hv]; rfl
  clear hv hF
  have hF := hM
  clear hM
  walk_nrm
  co_apply opsC_nil (termsT p Sh E Dn)
  co_then
  co_apply wpC_cond (termsT p Sh E Dn) (t := true)
  focus (exact rfl)
  simp only [if_true, if_false, Bool.false_eq_true, reduceIte]
  co_apply wpC_ret (termsT p Sh E Dn)
  exact ⟨rfl, _, resultsC_none (by rfl) _, rfl, _, _, _, _, hF, ⟨s0, s1, s2, hk'⟩, hp'⟩
end Go.Proofs.YtbnaccilnilcmaaDoor
/-
  The worker's ticks of the two calls, as Run's caller wants them.
  No condition but those that each statement names.
-/
namespace Go.Proofs.YtbnaccilnilcmaaDoor
open Go.Conc Go.RowKit Go.Hx

variable {p : Par} {Sh : Loc → Prop} {E Dn : Nat} {a : Ad} {PostB : World → Prop} {Aft : Goroutine → World → Prop}

def words10 : List Wd := (List.range 10).map fun (q : Nat) => ((q : Int), (1 : Int), (1 : Int), (q : Int))
def words2 : List Wd := [(10, 1, 1, 10), (10, 4, 1, 65281)]
theorem words10_told : words10.map Wd.v = told10 := rfl

theorem pass1 (n : En p Sh E Dn a) (hgn : a.gn = 11) (A B : Int) (at_ : Nat) (hA : 0 ≤ A ∧ A < 65536) (hB : 0 ≤ B ∧ B < 65536) (hat : at_ < 64) (hg : ∀ i, i < 44 → a.gc[i]? = (progCells A B at_)[i]?) :
    ∃ kp, ∀ w, Sit p Sh E Dn a true (sx A B at_ 0) w → CallsX (tellF Tryd.prog p Sh E Dn PostB Aft) Tryd.prog false 19 #[.pointer (some ⟨a.K, 0, none⟩), .int .i64 10, .chan (some E)] kp (words10.map Wd.v) w fun s' _ w' => s' = [] ∧ KR p Sh E Dn a (RestS p a true (sx A B at_ 10)) w' := by
  obtain ⟨kt, hch⟩ := chain1 (PostB := PostB) (Aft := Aft) n hgn A B at_ hA hB hat hg
  obtain ⟨k, hk⟩ := pass_x (PostB := PostB) (Aft := Aft) n kt (evt 0 1 1 0) ((List.range 9).map fun (q : Nat) => evt ((q : Int) + 1) 1 1 ((q : Int) + 1))
  refine ⟨k, fun w hS => ?_⟩
  have h := hk true (sx A B at_ 0) (sx A B at_ 10) hch 10 rfl (by omega) ⟨by simp [sx, usOf, rg, rj, put], by simp [sx, usOf, rg, rj, put]⟩ [] w hS
  refine CallsX.mono h fun s v w' hp => ⟨hp.1, ?_⟩
  obtain ⟨kc, pc, Q, cap, qc, hC⟩ := hp.2
  exact ⟨kc, pc, Q, qc, hC.km, hC.rest⟩

theorem pass2 (n : En p Sh E Dn a) (hgn : a.gn = 11) (A B : Int) (at_ : Nat) (hg : ∀ i, i < 44 → a.gc[i]? = (progCells A B at_)[i]?) {ep : Addr} (g : Gl Sh a ep) :
    ∃ kp, ∀ w, Sit p Sh E Dn a false (sx A B at_ 10) w → CallsX (tellF Tryd.prog p Sh E Dn PostB Aft) Tryd.prog false 19 #[.pointer (some ⟨a.K, 0, none⟩), .int .i64 5, .chan (some E)] kp (words2.map Wd.v) w fun s' _ w' => s' = [] ∧ KR p Sh E Dn a (RestE a { sx A B at_ 10 with used := 2, now := 11 }) w' := by
  obtain ⟨nd, hd⟩ := do_load_f n g
  obtain ⟨kt, ht⟩ := tick_f (PostB := PostB) (Aft := Aft) n g nd
  obtain ⟨k, hk⟩ := pass_f (PostB := PostB) (Aft := Aft) n kt
  refine ⟨k, fun w hS => ?_⟩
  exact hk false (sx A B at_ 10) (evt 10 1 1 10) (evt 10 4 1 65281) { sx A B at_ 10 with used := 2 } rfl ⟨by simp [sx, usOf, rg, rj, put], by simp [sx, usOf, rg, rj, put]⟩ (fun vs w hS => ht false (sx A B at_ 10) 10 rfl (by omega) (by omega) 7 7 5 0 (by decide) (hg _ (by omega)) (hg _ (by omega)) (hg _ (by omega)) (hg _ (by omega)) rfl ⟨by simp [sx, usOf, rg, rj, put], by simp [sx, usOf, rg, rj, put]⟩ ⟨by simp [sx, usOf, rg, rj, put], by simp [sx, usOf, rg, rj, put]⟩ ⟨by simp [sx, usOf, rg, rj, put], by simp [sx, usOf, rg, rj, put]⟩ (by simp [sx])
    (fun kc pc Q qc hp w hF => hd kc pc Q qc hp ⟨by simp [sx, usOf, rg, rj, put], by simp [sx, usOf, rg, rj, put]⟩ 7 5 (by omega) (by omega) 5 0 ⟨by simp [sx, usOf, rg, rj, put], by simp [sx, usOf, rg, rj, put]⟩ ⟨by simp [sx, usOf, rg, rj, put], by simp [sx, usOf, rg, rj, put]⟩ rfl ⟨by simp [sx, usOf, rg, rj, put], by simp [sx, usOf, rg, rj, put]⟩ (by simp [sx, rg, rj, put]) w hF) vs w hS) 5 ⟨by simp [sx, usOf, rg, rj, put], by simp [sx, usOf, rg, rj, put]⟩ [] w hS
end Go.Proofs.YtbnaccilnilcmaaDoor
