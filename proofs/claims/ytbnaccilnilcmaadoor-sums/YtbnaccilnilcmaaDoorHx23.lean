/-
  So many ticks pass: the function as a whole.
  No condition but those that each statement names.
-/
import Derived.Test.YtbnaccilnilcmaaDoorHx22
import Derived.Test.YtbnaccilnilcmaaDoorHx11
import Derived.Test.YtbnaccilnilcmaaDoorHx09
import Derived.Conc.FxGenDone
import Derived.Test.YtbnaccilnilcmaaDoorHx12
import Derived.Test.YtbnaccilnilcmaaDoorHx13
import Derived.Conc.FxGenLone
set_option linter.unusedVariables false
set_option linter.unusedSimpArgs false
set_option linter.unusedSectionVars false
namespace Go.Proofs.YtbnaccilnilcmaaDoor
open Go.Conc Go.RowKit Go.Hx

variable {p : Par} {Sh : Loc → Prop} {E Dn : Nat} {a : Ad} {PostB : World → Prop} {Aft : Goroutine → World → Prop}

set_option maxRecDepth 100000 in
set_option maxHeartbeats 8000000 in
theorem pass_x (n : En p Sh E Dn a) (kt : Nat) (e : Value) (es : List Value) : ∃ k, ∀ (fr : Bool) (x z : Now) (h : Chain p Sh E Dn a PostB Aft fr kt x (e :: es) z) (ticks : Int) (hi : (es.length : Int) + 1 = ticks) (hti : ticks < 10000) (hn0 : 0 ≤ x.now ∧ x.now + es.length + 1 < 10000) (vs : List Value) (w : World), Sit p Sh E Dn a fr x w →
    CallsX (tellF Tryd.prog p Sh E Dn PostB Aft) Tryd.prog false 19 #[.pointer (some ⟨a.K, 0, none⟩), .int .i64 ticks, .chan (some E)] k (e :: es ++ vs) w fun s' _ w' => s' = vs ∧ Sit p Sh E Dn a fr z w' := by
  obtain ⟨k2, g2⟩ := pass_loop (PostB := PostB) (Aft := Aft) n kt es
  obtain ⟨k1, g1⟩ := pass_round (PostB := PostB) (Aft := Aft) n kt
  co_apply Exists.intro
  intro fr x z h ticks hi hti hn0 vs w hF
  obtain ⟨hst, x', ht, hn, hch⟩ := h
  co_apply callsX_of_wpX Tryd.func19 (by rfl) rfl
  simp only [Tryd.ntmps19, List.size_toArray, List.length_cons, List.length_nil, Nat.reduceAdd, Nat.reduceSub, Array.replicate_succ, Array.replicate_zero, List.push_toArray, List.append_toArray, List.nil_append, List.cons_append]
  co_apply wpX_seqC
  co_reg (termsT p Sh E Dn)
  co_op (Sit.rely n) hF (co_still (termsT p Sh E Dn))
  co_op (Sit.rely n) hF (co_still (termsT p Sh E Dn))
  co_apply opsC_nil (termsT p Sh E Dn)
  co_then
  co_apply wpX_block
  co_apply wpX_loop1
  exact g1 _ _ rfl fr x x' e ht hn (by omega) hst ticks 0 (by omega) hti (es ++ vs) _ k2 (fun u8 u9 u10 u11 u12 u13 u14 u15 u16 u17 u18 u19 u20 u21 w' hS' => g2 _ _ rfl fr x' z hch ticks (0 + 1) (by omega) hti (by omega) vs _ (fun v8 v9 v10 v11 v12 v13 v14 v15 v16 v17 v18 v19 v20 v21 w'' hS'' => ⟨rfl, _, resultsC_none (by rfl) _, rfl, hS''⟩) _ _ _ _ _ _ _ _ _ _ _ _ _ _ w' hS') _ _ _ _ _ _ _ _ _ _ _ _ _ _ _ hF
end Go.Proofs.YtbnaccilnilcmaaDoor
/-
  The worker's whole life: its ticks, the close, Done.
  No condition but those that each statement names.
-/
namespace Go.Proofs.YtbnaccilnilcmaaDoor
open Go.Conc Go.RowKit Go.Hx Go.ConcX Go.Conc.Lib Go.ConcX.Gen

/-- What the go statement calls. -/
def call17 (Wg db kb tb eb : Nat) : Deferred := { target := .fn (.func 17) #[.pointer (some ⟨Wg, 0, none⟩), .pointer (some ⟨db, 0, none⟩), .pointer (some ⟨kb, 0, none⟩), .pointer (some ⟨tb, 0, none⟩), .pointer (some ⟨eb, 0, none⟩)], args := #[] }
noncomputable def bot : Frame := { (default : Frame) with fn := Tryd.prog.funcs.size, defers := [], mode := .panicking [goexitEntry] }

theorem born_step (Wg db kb tb eb : Nat) (w : World) : ∃ c, Tryd.f17.body = some c ∧ stepG Tryd.prog false (born Tryd.prog (call17 Wg db kb tb eb)) w =
    .go (G ((baseD 17).at ⟨#[.pointer (some ⟨Wg, 0, none⟩), .pointer (some ⟨db, 0, none⟩), .pointer (some ⟨kb, 0, none⟩), .pointer (some ⟨tb, 0, none⟩), .pointer (some ⟨eb, 0, none⟩), undef, undef, undef, undef, undef], []⟩ [.code c]) [bot]) w #[] := by
  refine ⟨_, rfl, ?_⟩
  simp [born, call17, stepG, unwind, callDeferred, invoke, callFunc, Tryd.func17, Tryd.f17, seen, GStep.after, G, Frame.enter, Frame.at, baseD, bot]

/-- The literal's own way out, once Done has left: it only leaves. -/
theorem quitsTail (T : Array Value) : QuitsD Tryd.prog 2 0 (G { (baseD 17).at ⟨T, []⟩ [] with mode := .returning } [bot]) := by
  refine QuitsD.ctl (g' := G bot []) rfl (fun w => ?_) ?_
  · simp [G, stepG, unwind, doReturn, results, Frame.at, baseD, bot, Tryd.func17, Tryd.f17, seen, GStep.after, goexitEntry]
  refine QuitsD.ctl (g' := { G bot [] with status := .finished }) rfl (fun w => ?_) ⟨rfl, rfl⟩
  simp [G, stepG, unwind, bot, goexitEntry, Frame.catches]
  rfl

variable {p : Par} {Sh : Loc → Prop} {E Dn : Nat} {a : Ad} {Wg C Low kb db eb : Nat} {ticks : Int} {Mine : Loc → Prop} [Shy Wg C] {fr : Bool}

/-- Memory, and what its cells are. -/
def KR (p : Par) (Sh : Loc → Prop) (E Dn : Nat) (a : Ad) (Rest : Array Value → Array Value → Nat → Array Value → Prop) (w : World) : Prop := ∃ kc pc Q qc, KM p Sh E Dn a kc pc Q qc w ∧ Rest kc pc Q qc
/-- What the caller finds when all is told. -/
def PostW (p : Par) (Sh : Loc → Prop) (E Dn : Nat) (a : Ad) (Wg C : Nat) (Rest : Array Value → Array Value → Nat → Array Value → Prop) (w : World) : Prop :=
  ∃ kc pc Q qc, Q ≠ C ∧ Q ≠ Wg ∧ KM p Sh E Dn { a with keep := [] } kc pc Q qc w ∧ Rest kc pc Q qc

omit [Shy Wg C] in
theorem KR.rely (n : En p Sh E Dn a) {Rest : Array Value → Array Value → Nat → Array Value → Prop} {w w₁ : World} (h : KR p Sh E Dn a Rest w) (r : RB p E Dn w w₁) : KR p Sh E Dn a Rest w₁ := by
  obtain ⟨kc, pc, Q, qc, h1, h2⟩ := h
  exact ⟨kc, pc, Q, qc, h1.rely n r, h2⟩
omit [Shy Wg C] in
theorem km_bare {kc pc : Array Value} {Q : Nat} {qc : Array Value} {w : World} (h : KM p Sh E Dn a kc pc Q qc w) : KM p Sh E Dn { a with keep := [] } kc pc Q qc w :=
  ⟨h.k, h.pp, h.rr, h.gg, h.q, h.aQ, h.sz, fun t ht => (by simp at ht), fun t ht => (by simp at ht), ⟨h.od.q, h.od.t, h.od.o, h.od.u, h.od.b⟩⟩

set_option maxRecDepth 100000 in
set_option maxHeartbeats 4000000 in
/-- Behind the close: Done. -/
theorem afterD (hW : Wg < Low) (hC : C < Low) (hCW : C ≠ Wg) (T : Array Value) (w : World) (h1 : WgAt 66 Wg w KK 0) (h2 : Full C [.int .i64 ticks] w) :
    AfterD Tryd.prog 66 Wg C Low [.int .i64 ticks] Mine (G { (baseD 17).at ⟨T, [dcall 18 #[.pointer (some ⟨Wg, 0, none⟩)]]⟩ [] with mode := .returning } [bot]) w := by
  refine ⟨h1, 24, Goes.step rfl fun w₁ h₁ => ?_⟩
  rw [stepG_unwind_enter rfl Tryd.func18 (nm_done Tryd.link) rfl]
  refine ⟨dcs_none (by simp), ?_⟩
  walk_nrmf Tryd.f18
  have hA := @doneD _ Tryd.link Tryd.prog Tryd.wgLib Mine Wg C Low _ [.int .i64 ticks] hW hC hCW
  simp only [body_done, doneFn, Option.getD_some] at hA
  exact hA rfl (quitsTail _) _ ⟨h₁.k (.inl h1), h2.of_block (h₁.low C hC hCW)⟩

omit [Shy Wg C] in
theorem sit_read (n : En p Sh E Dn a) {x : Now} {w : World} (hS : Sit p Sh E Dn a fr x w) {t : Nat × TypeId × Array Value} (ht : t ∈ a.keep) (hns : ∀ i, ¬ Sh (.cell ⟨t.1, i, none⟩)) : Has t.1 t.2.1 t.2.2 w ∧ ∀ i, EvB p Sh w ⟨.cell ⟨t.1, i, none⟩, false, false⟩ := by
  obtain ⟨kc, pc, Q, cap, qc, h⟩ := hS
  exact ⟨h.km.kp t ht, fun i => evB_cell (h.km.kp t ht) (by rw [n.ty]; exact (n.kd t ht).2.2.1) i false (hns i) (by simp)⟩

set_option maxRecDepth 100000 in
set_option maxHeartbeats 4000000 in
/-- The worker's script. -/
theorem run1_tells (n : En p Sh E Dn a) (hW : Wg < Low) (hC' : C < Low) (hCW : C ≠ Wg) (hWD : Wg ≠ Dn) (hCD : C ≠ Dn) (h0 : (kb, 25, #[.pointer (some ⟨a.K, 0, none⟩)]) ∈ a.keep) (h1 : (C, 3, #[.int .i64 ticks]) ∈ a.keep) (h2 : (eb, 55, #[.chan (some E)]) ∈ a.keep) (h3 : (db, 56, #[.chan (some Dn)]) ∈ a.keep) (h4 : (Wg, 66, #[.int .u64 KK, .int .u32 0]) ∈ a.keep)
    (n0 : ∀ i, ¬ Sh (.cell ⟨kb, i, none⟩)) (n1 : ∀ i, ¬ Sh (.cell ⟨C, i, none⟩)) (n2 : ∀ i, ¬ Sh (.cell ⟨eb, i, none⟩)) (n3 : ∀ i, ¬ Sh (.cell ⟨db, i, none⟩))
    (Rest : Array Value → Array Value → Nat → Array Value → Prop) (k : Nat) (es : List Value) (x : Now) (hpass : ∀ w, Sit p Sh E Dn a fr x w → CallsX (tellF Tryd.prog p Sh E Dn (PostW p Sh E Dn a Wg C Rest) (AfterD Tryd.prog 66 Wg C Low [.int .i64 ticks] Mine)) Tryd.prog false 19 #[.pointer (some ⟨a.K, 0, none⟩), .int .i64 ticks, .chan (some E)] k es w fun s' _ w' => s' = [] ∧ KR p Sh E Dn a Rest w')
    (w : World) (hS : Sit p Sh E Dn a fr x w) : Tells Tryd.prog p Sh E Dn (PostW p Sh E Dn a Wg C Rest) (AfterD Tryd.prog 66 Wg C Low [.int .i64 ticks] Mine) es (born Tryd.prog (call17 Wg db kb C eb)) w := by
  rw [tells_iff]
  co_apply Exists.intro
  co_apply Goes.step rfl
  intro w₁ h₁
  replace hS := hS.rely n h₁
  clear h₁
  obtain ⟨c, hc, hb⟩ := born_step Wg db kb C eb w₁
  rw [hb]
  refine ⟨(termsT p Sh E Dn).idle _, ?_⟩
  simp only [Tryd.f17, Option.some.injEq] at hc
  subst hc
  clear hb
  co_apply goes_ctl (termsT p Sh E Dn) rfl (fun _ => stepG_seq)
  co_apply goes_ctl (termsT p Sh E Dn) rfl (fun _ => stepG_region)
  simp only [List.size_toArray, List.length_cons, List.length_nil, Nat.reduceAdd, Nat.zero_add, List.range, List.range.loop]
  co_apply goes_ctl (termsT p Sh E Dn) rfl (fun _ => stepG_defer rfl rfl (by decide) rfl)
  walk_nrm
  co_apply goes_ctl (termsT p Sh E Dn) rfl (fun _ => stepG_region_end)
  co_apply goes_ctl (termsT p Sh E Dn) rfl (fun _ => stepG_seq)
  co_apply goes_ctl (termsT p Sh E Dn) rfl (fun _ => stepG_region)
  simp only [List.size_toArray, List.length_cons, List.length_nil, Nat.reduceAdd, Nat.zero_add, List.range, List.range.loop]
  co_apply Goes.step rfl
  intro w₁ h₁
  replace hS := hS.rely n h₁
  clear h₁
  refine goes_oper_k rfl rfl (by decide) (fun K hK => ?_)
  have hr := sit_read n hS h3 n3
  have hc := hr.1.cell (i := 0) rfl
  go_simp
  refine hK _ _ ⟨?_, ?_⟩
  · refine dt_read ?_
    co_evs (exact hr.2 _)
  clear hK K hc hr
  try walk_nrm
  co_apply goes_ctl (termsT p Sh E Dn) rfl (fun _ => stepG_deferClose rfl rfl (by decide) rfl rfl)
  try walk_nrm
  co_apply goes_ctl (termsT p Sh E Dn) rfl (fun _ => stepG_region_end)
  co_apply wpX_goes (F := tellF Tryd.prog p Sh E Dn (PostW p Sh E Dn a Wg C Rest) (AfterD Tryd.prog 66 Wg C Low [.int .i64 ticks] Mine)) (s := es) (Q := fun s' e a' w' => e = .normal ∧ s' = [] ∧ (∃ T, a' = ⟨T, [dclose #[56] 0 Dn, dcall 18 #[.pointer (some ⟨Wg, 0, none⟩)]]⟩) ∧ KR p Sh E Dn a Rest w') (b := baseD 17) (k := []) (cs := [bot]) (fn := 17) ?_ rfl (by decide) ?_
  · have hF := hS
    clear hS
    co_apply wpX_region
    simp only [List.size_toArray, List.length_cons, List.length_nil, Nat.reduceAdd, Nat.zero_add, List.range, List.range.loop]
    co_apply opsX_cons_k rfl (by rfl)
    intro _ hR K hK
    replace hF := (Sit.rely n) hF hR
    clear hR
    (have hr := sit_read n hF h0 n0; have hc := hr.1.cell (i := 0) rfl)
    go_simp
    try (unfold stored; go_simp)
    refine hK _ _ ⟨?_, ?_⟩
    · (refine dt_read ?_; co_evs (exact hr.2 _))
    clear hK K
    try walk_nrm
    clear hc hr
    co_apply opsX_cons_k rfl (by rfl)
    intro _ hR K hK
    replace hF := (Sit.rely n) hF hR
    clear hR
    (have hr := sit_read n hF h1 n1; have hc := hr.1.cell (i := 0) rfl)
    go_simp
    try (unfold stored; go_simp)
    refine hK _ _ ⟨?_, ?_⟩
    · (refine dt_read ?_; co_evs (exact hr.2 _))
    clear hK K
    try walk_nrm
    clear hc hr
    co_apply opsX_cons_k rfl (by rfl)
    intro _ hR K hK
    replace hF := (Sit.rely n) hF hR
    clear hR
    (have hr := sit_read n hF h2 n2; have hc := hr.1.cell (i := 0) rfl)
    go_simp
    try (unfold stored; go_simp)
    refine hK _ _ ⟨?_, ?_⟩
    · (refine dt_read ?_; co_evs (exact hr.2 _))
    clear hK K
    try walk_nrm
    clear hc hr
    co_apply opsX_call rfl (by rfl) rfl
    · walk_nrm
      exact hpass _ hF
    intro s' v w' hv
    obtain ⟨rfl, hS⟩ := hv
    walk_nrm
    co_apply opsX_nil
    exact ⟨rfl, rfl, ⟨_, rfl⟩, hS⟩
  · rintro s' e a' w' ⟨rfl, rfl, ⟨T, rfl⟩, hS⟩
    show Goes Tryd.prog false (RB p E Dn) (DT p Sh E Dn) (AtOver Tryd.prog Dn (PostW p Sh E Dn a Wg C Rest) (AfterD Tryd.prog 66 Wg C Low [.int .i64 ticks] Mine)) _ (G ((baseD 17).at ⟨T, [dclose #[56] 0 Dn, dcall 18 #[.pointer (some ⟨Wg, 0, none⟩)]]⟩ []) [bot]) w'
    co_apply goes_ctl (n := 0) (termsT p Sh E Dn) rfl (fun _ => stepG_end)
    refine Goes.stop fun w₁ h₁ => ?_
    replace hS := hS.rely n h₁
    obtain ⟨kc, pc, Q, qc, hC, hR⟩ := hS
    refine ⟨rfl, rfl, ⟨kc, pc, Q, qc, Ne.symm (hC.kq _ h1), Ne.symm (hC.kq _ h4), km_bare hC, hR⟩, _, rfl, fun hD => stepG_unwindClose rfl hD (by kernel_rfl), ?_⟩
    refine afterD hW hC' hCW T _ ?_ ?_
    · unfold WgAt
      rw [setChan_ne hWD]
      exact hC.kp _ h4
    · intro _
      rw [setChan_ne hCD]
      exact hC.kp _ h1
end Go.Proofs.YtbnaccilnilcmaaDoor
/-
  A call of Run, from the group's Add on: the go statement, what is gathered, Wait; as a stop of goroutine 0's walk.
  No condition but those that each statement names.
-/
namespace Go.Proofs.YtbnaccilnilcmaaDoor
open Go.Conc Go.RowKit Go.Hx Go.ConcX Go.Conc.Lib Go.ConcX.Gen

noncomputable def tl6 : Code := match Tryd.f11.body with | some (.seq _ (.seq _ (.seq _ (.seq _ (.seq _ t))))) => t | _ => .skip
noncomputable def tl7 : Code := match tl6 with | .seq _ t => t | _ => .skip
noncomputable def tl8 : Code := match tl7 with | .seq _ t => t | _ => .skip
noncomputable def tl9 : Code := match tl8 with | .seq _ t => t | _ => .skip
noncomputable def tl10 : Code := match tl9 with | .seq _ t => t | _ => .skip
noncomputable def r8 : Code := match tl8 with | .seq r _ => r | _ => .skip
theorem tl8_eq : tl8 = .seq r8 tl9 := by simp only [r8, tl9, tl8, tl7, tl6, Tryd.f11]
noncomputable def ops7 : Array Oper := match tl7 with | .seq (.region _ ops _) _ => ops | _ => #[]
noncomputable def ops9 : Array Oper := match tl9 with | .seq (.region _ ops _) _ => ops | _ => #[]

/-- Run's slots. -/
def TR (N K : Nat) (ticks : Int) (t9 t18 t19 t20 t21 t22 t23 : Value) : Array Value :=
  #[.pointer (some ⟨K, 0, none⟩), .int .i64 ticks, .pointer (some ⟨N, 0, none⟩), .pointer (some ⟨N + 1, 0, none⟩), .slice none 0 0, .int .i64 0, .pointer (some ⟨N + 3, 0, none⟩), .pointer (some ⟨N + 5, 0, none⟩), .pointer (some ⟨N + 6, 0, none⟩), t9,
    .int .i64 ticks, .bool false, .bool false, .int .i64 ticks, .bool false, .bool false, .chan (some (N + 2)), .chan (some (N + 4)), t18, t19, t20, t21, t22, t23, undef]
/-- What is captured, and what is started. -/
def caps (N : Nat) : Array Value := #[.pointer (some ⟨N + 6, 0, none⟩), .pointer (some ⟨N + 5, 0, none⟩), .pointer (some ⟨N, 0, none⟩), .pointer (some ⟨N + 1, 0, none⟩), .pointer (some ⟨N + 3, 0, none⟩)]
def fv (N : Nat) : Value := .func (.func 17) #[] (caps N)
def started (N : Nat) : Deferred := { target := .fn (.func 17) (caps N), args := #[] }
noncomputable def fW (N K : Nat) (ticks : Int) (b : Frame) (k : List Item) (told : Value) : Frame :=
  b.at ⟨TR N K ticks told (.tuple #[]) (fv N) (.chan (some (N + 2))) (.chan (some (N + 4))) told undef, []⟩ (.inRegion ops9 (0 :: []) :: .code tl10 :: k)

/-- What is known while it waits. -/
def FJ (N : Nat) (PostB : World → Prop) (ws : List Wd) (told : Value) (w : World) : Prop := PostB w ∧ Hx.Told (pR N) told ws.length (ws.flatMap Wd.c) w
def AncR (N K : Nat) [Shy (N + 6) (N + 1)] (ticks : Int) (b : Frame) (k : List Item) (cs : List Frame) (PostB : World → Prop) (ws : List Wd) (g : Goroutine) (w : World) : Prop :=
  ∃ told, AnchW7 Tryd.link (FJ N PostB ws told) (N + 6) (N + 1) [.int .i64 ticks] (fW N K ticks b k told) cs g w

/-- What is known behind the go statement. -/
structure BI (N : Nat) (w : World) : Prop where
  e : w.heap[N + 3]? = some (.cells #[.chan (some (N + 2))] 55 (0, 0))
  d : w.heap[N + 5]? = some (.cells #[.chan (some (N + 4))] 56 (0, 0))
  z : N + 7 ≤ w.heap.size
theorem BI.rely {N : Nat} {w w₁ : World} (h : BI N w) (r : RA (pR N) w w₁) : BI N w₁ :=
  ⟨r.still _ _ _ _ ⟨0, _, rfl, .inl rfl⟩ h.e, r.still _ _ _ _ ⟨0, _, rfl, .inr rfl⟩ h.d, Nat.le_trans h.z r.kept.size⟩
theorem BI.ce {N : Nat} {w : World} (h : BI N w) : w.cell? ⟨N + 3, 0, none⟩ = some (.chan (some (N + 2))) := by simp [World.cell?, h.e]
theorem BI.cd {N : Nat} {w : World} (h : BI N w) : w.cell? ⟨N + 5, 0, none⟩ = some (.chan (some (N + 4))) := by simp [World.cell?, h.d]
theorem evA_still {p : Par} {w : World} {ad : Addr} (h : p.Still (.cell ad)) : EvA p w ⟨.cell ad, false, false⟩ :=
  ⟨fun x hx _ => .inr (by simp [MemAct.ofEvent, MemAct.touch?] at hx; subst hx; exact ⟨h, rfl⟩), by simp, by simp⟩

section
variable {N K : Nat} [Shy (N + 6) (N + 1)] {ticks : Int} {b : Frame} {k : List Item} {cs : List Frame} {PostB : World → Prop} {ws : List Wd}

theorem fj2 (hPc : ∀ w w₁, Aside2 (N + 1) (N + 6) w w₁ → PostB w → PostB w₁) (told : Value) : ∀ w w', Aside2 (N + 1) (N + 6) w w' → FJ N PostB ws told w → FJ N PostB ws told w' := fun _ _ h1 h2 =>
  ⟨hPc _ _ h1 h2.1, Told.aside h2.2 (show N + 1 < N + 7 by omega) (show N + 6 < N + 7 by omega) h1⟩

set_option maxRecDepth 100000 in
set_option maxHeartbeats 4000000 in
/-- Into Wait. -/
theorem run_wait (hk : b.kind ≠ .early) (hPc : ∀ w w₁, Aside2 (N + 1) (N + 6) w w₁ → PostB w → PostB w₁) (told : Value) (w : World) (hF : EI (N + 6) (N + 1) [.int .i64 ticks] PostB (pR N) told ws.length (ws.flatMap Wd.c) w) :
    Goes Tryd.prog true (RPa 66 (N + 6) (N + 1) [.int .i64 ticks]) (DPi Mine0 (N + 6) (N + 1) (N + 7)) (AtKd Tryd.prog 66 (N + 6) (N + 1) (N + 7) [.int .i64 ticks] Mine0 (AncR N K ticks b k cs PostB ws)) 6
      (G (b.at ⟨TR N K ticks told (.tuple #[]) (fv N) (.chan (some (N + 2))) (.chan (some (N + 4))) told undef, []⟩ (.code tl9 :: k)) cs) w := by
  have T := termsP 66 (N + 6) (N + 1) (N + 7) [.int .i64 ticks] Mine0
  have hA := @waitStart _ Tryd.link Mine0 (N + 6) (N + 1) (N + 7) _ [.int .i64 ticks] (FJ N PostB ws told) b ⟨TR N K ticks told (.tuple #[]) (fv N) (.chan (some (N + 2))) (.chan (some (N + 4))) told undef, []⟩ ops9 0 [] (.code tl10 :: k) cs Tryd.prog Tryd.wgLib (fj2 hPc told)
  simp only [ops9, tl10, tl9, tl8, tl7, tl6, Tryd.f11, body_wait, waitFn, Option.getD_some] at hA ⊢
  refine goes_ctl T rfl (fun _ => stepG_seq) ?_
  refine goes_ctl T rfl (fun _ => stepG_region) ?_
  simp only [List.size_toArray, List.length_cons, List.length_nil, Nat.reduceAdd, Nat.zero_add, List.range, List.range.loop]
  refine Goes.step rfl fun w₁ h₁ => ?_
  replace hF := EI.rely (show N + 1 < N + 7 by omega) (show N + 6 < N + 7 by omega) hPc hF h₁
  refine goes_call rfl rfl hk rfl Tryd.func21 (nm_wait Tryd.link) rfl ⟨T.idle _, ?_⟩
  simp only [TR] at hA ⊢
  walk_nrmf Tryd.f21
  refine goes_turn (fun _ _ _ h => h) (fun g w h => ?_) _ _ _ (hA w₁ ⟨⟨hF.1, hF.2.2⟩, hF.2.1⟩)
  obtain ⟨h1, g', h2, m, h3⟩ := h
  exact ⟨h1, g', h2, m, goes_turn (fun _ _ _ h => h) (fun g w h => ⟨told, h⟩) _ _ _ h3⟩

theorem atW1_mono {P : Program} {ty : TypeId} {Wg C Low : Nat} [Shy Wg C] {vals : List Value} {Mine : Loc → Prop} {A A' : Goroutine → World → Prop} {Post : Value → World → Prop} (hA : ∀ g w, A g w → A' g w) (g : Goroutine) (w : World) (h : AtW1 P ty Wg C Low vals Mine A Post g w) : AtW1 P ty Wg C Low vals Mine A' Post g w := by
  obtain ⟨h1, g', h2, h3, h4⟩ := h
  refine ⟨h1, g', h2, fun hw => ?_, h4⟩
  obtain ⟨m, hm⟩ := h3 hw
  refine ⟨m, goes_turn (fun _ _ _ h => h) (fun g w h => ?_) _ _ _ hm⟩
  obtain ⟨h5, h6, h7⟩ := h
  refine ⟨h5, h6, fun hk => ?_⟩
  obtain ⟨g'', h8, m', h9⟩ := h7 hk
  exact ⟨g'', h8, m', goes_turn (fun _ _ _ h => h) hA _ _ _ h9⟩
end

set_option maxRecDepth 100000 in
theorem run_anch {N K : Nat} {ticks : Int} {b : Frame} {k : List Item} {cs : List Frame} {PostB : World → Prop} {ws : List Wd} {Next : Goroutine → World → Prop} (hPc : ∀ w w₁, Aside2 (N + 1) (N + 6) w w₁ → PostB w → PostB w₁)
    (hc : ∀ told w', FJ N PostB ws told w' → Next (G (b.at ⟨TR N K ticks told (.tuple #[]) (fv N) (.chan (some (N + 2))) (.chan (some (N + 4))) told (.tuple #[]), []⟩ (.inRegion ops9 [] :: .code tl10 :: k)) cs) w') :
    letI := shyW (N + 6) (N + 1) Next; ∀ (Post : Value → World → Prop) g w, AncR N K ticks b k cs PostB ws g w → ∃ m, Goes Tryd.prog true (RPa 66 (N + 6) (N + 1) [.int .i64 ticks]) (DPi Mine0 (N + 6) (N + 1) (N + 7)) (AtW1 Tryd.prog 66 (N + 6) (N + 1) (N + 7) [.int .i64 ticks] Mine0 (AncR N K ticks b k cs PostB ws) Post) m g w := by
  intro Post g w h
  letI := shyW (N + 6) (N + 1) Next
  obtain ⟨told, h⟩ := h
  obtain ⟨m, hm⟩ := waitRound (Mine := Mine0) (Low := N + 7) (Post := Post) (mT := 0) Tryd.wgLib (by omega) (fj2 (ws := ws) hPc told) (fun w hF _ _ => Goes.stop fun w₁ h₁ => ⟨rfl, by
    obtain ⟨d, rfl⟩ := h₁
    have := hc told (w.at d) (fj2 (ws := ws) hPc told w _ ⟨rfl, rfl, rfl, rfl, fun _ _ _ => rfl⟩ hF)
    exact this⟩) g w h
  exact ⟨m, goes_turn (fun _ _ _ h => h) (atW1_mono fun g w h => ⟨told, h⟩) _ _ _ hm⟩

section
variable {N K : Nat} [Shy (N + 6) (N + 1)] {ticks : Int} {b : Frame} {k : List Item} {cs : List Frame} {PostB : World → Prop} {ws : List Wd}

set_option maxRecDepth 100000 in
set_option maxHeartbeats 4000000 in
/-- What goroutine 0 does behind the go statement. -/
theorem run_gathers (hb : b.fn = 11) (hk : b.kind ≠ .early) (hPc : ∀ w w₁, Aside2 (N + 1) (N + 6) w w₁ → PostB w → PostB w₁) (hws : ws.length < 10000) (w : World) (hF : BI N w) :
    Gathers Tryd.prog (pR N) (N + 2) (N + 4) zE44 zD57 PostB (FinW Tryd.prog 66 (N + 6) (N + 1) (N + 7) [.int .i64 ticks] Mine0 (AncR N K ticks b k cs PostB ws)) (ws.map Wd.v)
      (G (b.at ⟨TR N K ticks undef (.tuple #[]) (fv N) undef undef undef undef, []⟩ (.inRegion ops7 [] :: .code tl8 :: k)) cs) w := by
  rw [gathers_iff]
  obtain ⟨k20, g20⟩ := gather_x (p := pR N) (E := N + 2) (Dn := N + 4) (Wg := N + 6) (C := N + 1) (Low := N + 7) (vals := [.int .i64 ticks]) (Mine := Mine0) (AnchW := AncR N K ticks b k cs PostB ws) (PostB := PostB) rfl (show N + 2 < N + 7 by omega) (show N + 4 < N + 7 by omega) (show N + 1 < N + 7 by omega) (show N + 6 < N + 7 by omega) hPc ws hws
  rw [tl8_eq]
  co_apply Exists.intro
  co_apply goes_ctl (termsG (pR N) (N + 2) (N + 4)) rfl (fun _ => stepG_region_end)
  co_apply goes_ctl (termsG (pR N) (N + 2) (N + 4)) rfl (fun _ => stepG_seq)
  co_apply wpX_goes (F := gF Tryd.prog 66 (N + 6) (N + 1) (N + 7) [.int .i64 ticks] Mine0 (AncR N K ticks b k cs PostB ws) (pR N) (N + 2) (N + 4) zE44 zD57 PostB) (s := some (ws.map Wd.v)) (m := 6)
    (Q := fun s' e a' w' => e = .normal ∧ s' = none ∧ ∃ told, a' = ⟨TR N K ticks told (.tuple #[]) (fv N) (.chan (some (N + 2))) (.chan (some (N + 4))) told undef, []⟩ ∧ EI (N + 6) (N + 1) [.int .i64 ticks] PostB (pR N) told ws.length (ws.flatMap Wd.c) w') (b := b) (k := .code tl9 :: k) (cs := cs) (fn := 11) ?_ hb hk ?_
  · simp only [TR, r8, tl8, tl7, tl6, Tryd.f11]
    co_apply wpX_region
    simp only [List.size_toArray, List.length_cons, List.length_nil, Nat.reduceAdd, Nat.zero_add, List.range, List.range.loop]
    co_apply opsX_cons_k rfl (by rfl)
    intro _ hR K hK
    replace hF := (BI.rely) hF hR
    clear hR
    have hc := hF.ce
    go_simp
    try (unfold stored; go_simp)
    refine hK _ _ ⟨?_, ?_⟩
    · (refine dg_read ?_; co_evs (exact evA_still ⟨_, rfl, .inl rfl⟩))
    clear hK K
    try walk_nrm
    clear hc
    co_apply opsX_cons_k rfl (by rfl)
    intro _ hR K hK
    replace hF := (BI.rely) hF hR
    clear hR
    have hc := hF.cd
    go_simp
    try (unfold stored; go_simp)
    refine hK _ _ ⟨?_, ?_⟩
    · (refine dg_read ?_; co_evs (exact evA_still ⟨_, rfl, .inr rfl⟩))
    clear hK K
    try walk_nrm
    clear hc
    co_apply opsX_call rfl (by rfl) rfl
    · walk_nrm
      exact g20 _ hF.z
    intro s' v w' hv
    obtain ⟨rfl, hI⟩ := hv
    clear hF
    have hF := hI
    clear hI
    walk_nrm
    co_apply opsX_cons_k rfl (by rfl)
    intro _ hR K hK
    replace hF := (EI.rely (show N + 1 < N + 7 by omega) (show N + 6 < N + 7 by omega) hPc) hF hR
    clear hR
    skip
    go_simp
    try (unfold stored; go_simp)
    refine hK _ _ ⟨?_, ?_⟩
    · co_still (termsP 66 (N + 6) (N + 1) (N + 7) [.int .i64 ticks] Mine0)
    clear hK K
    try walk_nrm
    co_apply opsX_nil
    exact ⟨rfl, rfl, _, rfl, hF⟩
  · rintro s' e a' w' ⟨rfl, rfl, told, rfl, hI⟩
    exact run_wait hk hPc told w' hI
end

theorem ev_makeFunc (P : Program) (fn : Fn) (first cap : Array Value) (w : World) (es : Array Event) : (Instr.makeFunc fn first cap).events P w es = es := rfl
/-- Where it goes on. -/
abbrev NextQ (Fin : Value → World → Prop) (nn N : Nat) (s : List Nat) : Goroutine → World → Prop := fun g' w' => ∃ m, Goes Tryd.prog true AtRel (D0 (Shs (N :: s))) (StopQ Tryd.prog Fin nn (N :: s)) m g' w'
noncomputable def ops6 : Array Oper := match tl6 with | .seq (.region _ ops _) _ => ops | _ => #[]

set_option maxRecDepth 100000 in
set_option maxHeartbeats 4000000 in
/-- From Add on. -/
theorem run_tail {Fin : Value → World → Prop} {nn : Nat} {s : List Nat} {W : World} {K : Nat} {ticks : Int} {b : Frame} {k : List Item} {cs : List Frame} {PostB : World → Prop} {ws : List Wd} (hb : b.fn = 11) (hk : b.kind ≠ .early) (hE : Elder (Shs s) W.heap.size) (hws : ws.length < 10000)
    (hPb : ∀ w w₁, RB (pR W.heap.size) (W.heap.size + 2) (W.heap.size + 4) w w₁ → PostB w → PostB w₁) (hPc : ∀ w w₁, Aside2 (W.heap.size + 1) (W.heap.size + 6) w w₁ → PostB w → PostB w₁) (hPn : ∀ w, PostB w → W.heap.size + 7 ≤ w.heap.size)
    (hT : ∀ [Shy (W.heap.size + 6) (W.heap.size + 1)] (w' : World), New W (boxes W.heap.size K ticks KK) w' → Tells Tryd.prog (pR W.heap.size) (ShR (Shs s) W.heap.size) (W.heap.size + 2) (W.heap.size + 4) PostB (AfterD Tryd.prog 66 (W.heap.size + 6) (W.heap.size + 1) (W.heap.size + 7) [.int .i64 ticks] Mine0) (ws.map Wd.v) (born Tryd.prog (started W.heap.size)) w')
    (hc : ∀ told w', FJ W.heap.size PostB ws told w' → ∃ m, Goes Tryd.prog true AtRel (D0 (Shs (W.heap.size :: s))) (StopQ Tryd.prog Fin nn (W.heap.size :: s)) m (G (b.at ⟨TR W.heap.size K ticks told (.tuple #[]) (fv W.heap.size) (.chan (some (W.heap.size + 2))) (.chan (some (W.heap.size + 4))) told (.tuple #[]), []⟩ (.inRegion ops9 [] :: .code tl10 :: k)) cs) w')
    (w : World) (hn : New W (boxes W.heap.size K ticks 0) w) :
    Goes Tryd.prog true AtRel (D0 (Shs s)) (StopQ Tryd.prog Fin (nn + 1) s) 15 (G (b.at ⟨TR W.heap.size K ticks undef undef undef undef undef undef undef, []⟩ (.code tl6 :: k)) cs) w := by
  letI := shyW (W.heap.size + 6) (W.heap.size + 1) (NextQ Fin nn W.heap.size s)
  have T := terms0 (Shs s)
  have T2 : Terms AtRel (DE (EvS (W.heap.size + 6) (W.heap.size + 1))) := ⟨atRel_trans, fun w e he => by simp at he⟩
  have hAn := run_anch (K := K) (ticks := ticks) (b := b) (k := k) (cs := cs) (ws := ws) (Next := NextQ Fin nn W.heap.size s) hPc hc
  have e6 : ∃ i6, tl6 = .seq (.region i6 ops6 false) tl7 := ⟨_, by simp only [ops6, tl7, tl6, Tryd.f11]; rfl⟩
  obtain ⟨i6, e6⟩ := e6
  have hA := fun (w : World) (hw) (mT) (hT') => @addPos Tryd.link (W.heap.size + 6) (W.heap.size + 1) _ b ⟨TR W.heap.size K ticks undef undef undef undef undef undef undef, []⟩ ops6 0 [] (.code tl7 :: k) cs (AtFork Tryd.prog (Shs s) (Both Tryd.prog 66 (W.heap.size + 6) (W.heap.size + 1) (W.heap.size + 7) [.int .i64 ticks] Mine0 (AncR W.heap.size K ticks b k cs PostB ws) (pR W.heap.size) (ShR (Shs s) W.heap.size) (W.heap.size + 2) (W.heap.size + 4) zE44 zD57 PostB)) mT Tryd.prog Tryd.wgLib w hw hT'
  rw [e6]
  refine goes_ctl T rfl (fun _ => stepG_seq) ?_
  refine goes_ctl T rfl (fun _ => stepG_region) ?_
  rw [show List.range ops6.size = [0] from by simp only [ops6, tl6, Tryd.f11]; rfl]
  refine Goes.step rfl fun w₁ h₁ => ?_
  replace hn := hn.rely h₁
  have hwg : WgAt 66 (W.heap.size + 6) w₁ 0 0 := hn.get (i := 6) rfl
  have hn' : New W (boxes W.heap.size K ticks KK) (w₁.setCell (stA (W.heap.size + 6)) (.int .u64 KK)) := hn.set (i := 6) rfl 0 (.int .u64 KK)
  refine goes_call (o := (ops6[0]?).getD default) (by simp only [ops6, tl6, Tryd.f11]; rfl) (by simp only [ops6, tl6, Tryd.f11]; rfl) hk (by simp only [ops6, tl6, Tryd.f11]; rfl) Tryd.func16 (nm_add Tryd.link) rfl ⟨T.idle _, ?_⟩
  have hA := hA w₁ hwg 4 ?_
  · refine goes_turn (okRS hE (NextQ Fin nn W.heap.size s)) (fun g w h => ⟨W.heap.size, hE, [.int .i64 ticks], _, Fin, PostB, zE44, zD57, hPb, hPc, hPn, (fun g w h => by obtain ⟨_, _, hg, _⟩ := h; rw [hg]; rfl), hAn Fin, h⟩) _ _ _ ?_
    simp only [TR, body_add, addFn, Option.getD_some] at hA ⊢
    walk_nrmf Tryd.f16
    exact hA
  · have e7 : ∃ i7, tl7 = .seq (.region i7 ops7 false) tl8 := ⟨_, by simp only [ops7, tl8, tl7, tl6, Tryd.f11]; rfl⟩
    obtain ⟨i7, e7⟩ := e7
    rw [show (⟨TR W.heap.size K ticks undef undef undef undef undef undef undef, []⟩ : Act).put ((ops6[0]?).bind (·.dst)) (.tuple #[]) = ⟨TR W.heap.size K ticks undef (.tuple #[]) undef undef undef undef undef, []⟩ from by simp only [ops6, tl6, Tryd.f11]; rfl]
    refine goes_ctl T2 rfl (fun _ => stepG_region_end) ?_
    rw [e7]
    refine goes_ctl T2 rfl (fun _ => stepG_seq) ?_
    refine goes_ctl T2 rfl (fun _ => stepG_region) ?_
    rw [show List.range ops7.size = [0, 1] from by simp only [ops7, tl7, tl6, Tryd.f11]; rfl]
    refine Goes.step rfl fun w₂ h₂ => ?_
    replace hn' := hn'.rely h₂
    clear h₂
    refine goes_oper_k (o := (ops7[0]?).getD default) (by simp only [ops7, tl7, tl6, Tryd.f11]; rfl) (by simp only [ops7, tl7, tl6, Tryd.f11]; rfl) hk (fun K2 hK => ?_)
    have hK' := hK ⟨TR W.heap.size K ticks undef (.tuple #[]) (fv W.heap.size) undef undef undef undef, []⟩ w₂ ⟨?_, ?_⟩
    · simp only [ops7, tl7, tl6, Tryd.f11]
      simp only [TR] at hK' ⊢
      go_simp
      exact hK'
    · intro e he
      have hm := mem_listed he
      simp [ops7, tl7, tl6, Tryd.f11, go_sem, ev_makeFunc] at hm
    · refine Goes.stop fun w₃ h₃ => ?_
      replace hn' := hn'.rely h₃
      clear h₃
      refine ⟨rfl, G (b.at ⟨TR W.heap.size K ticks undef (.tuple #[]) (fv W.heap.size) undef undef undef undef, []⟩ (.inRegion ops7 [] :: .code tl8 :: k)) cs, born Tryd.prog (started W.heap.size), #[], ?_, by simp, ws.map Wd.v, hn'.get (i := 2) rfl, hn'.get (i := 4) rfl, run_gathers hb hk hPc hws w₃ ⟨hn'.get (i := 3) rfl, hn'.get (i := 5) rfl, by rw [hn'.size]; exact Nat.le_refl _⟩, hT w₃ hn'⟩
      have h := stepG_spawn (P := Tryd.prog) (main := true) (b := b) (a := ⟨TR W.heap.size K ticks undef (.tuple #[]) (fv W.heap.size) undef undef undef undef, []⟩) (k := .code tl8 :: k) (cs := cs) (ops := ops7) (i := 1) (rest := []) (o := (ops7[1]?).getD default) (d := started W.heap.size) (w := w₃) (w' := w₃) (f := .func 17) (c := caps W.heap.size)
        (by simp only [ops7, tl7, tl6, Tryd.f11]; rfl) (by simp only [ops7, tl7, tl6, Tryd.f11]; rfl) hk (by simp [ops7, tl7, tl6, Tryd.f11, go_sem, TR, fv, started, Deferred.ofValue]) rfl
      rw [h]
      simp [listed, ops7, tl7, tl6, Tryd.f11, go_sem, seen, Deferred.ofValue, TR, fv]
      rfl
end Go.Proofs.YtbnaccilnilcmaaDoor
