/-
  A call that starts a worker, gathers what it tells, and joins it, as one stretch of the run of a program beside goroutines that only leave: from a frame to a frame, on whatever tape.
  No condition but those that each statement names.
-/
import Derived.Test.YtbnaccilnilcmaaDoorHx06
set_option linter.unusedVariables false
set_option linter.unusedSimpArgs false
set_option linter.unusedSectionVars false
namespace Go.Hx
open Go.Conc
open Go.ConcX
open Go.ConcN (sumTo upd sumTo_upd upd_ne upd_same)

/-- What goroutine 0's step may list beside leavers. -/
def EvP (Sh : Loc → Prop) (e : Event) : Prop := (∀ x, (MemAct.ofEvent e).touch? = some x → Sh x.loc → x.kind ≠ .plain) ∧ (e.loc ≠ .mark .disable ∧ e.loc ≠ .mark .enable)

section
variable {Sh : Loc → Prop} {t : Trace} {d₀ : Nat}

theorem Past0.own (h : Past0 Sh t d₀) (fn : FuncId) (pos : String) {es : Array Event} (hes : ∀ e ∈ es, EvP Sh e) : Past0 Sh (t ++ MemOp.ofEvents 0 fn pos es) d₀ := by
  refine ⟨fun said => noRace_append (h.clean said) g_ofEvents fun i a ha op hop b hb hc => ?_, fun i a ha hm => ?_, handedOver_app h.over fun op hop => .inl (g_ofEvents op hop), (deaf_same (fun e he => (hes e he).2) t 0 fn pos 0).trans h.hears⟩
  · obtain ⟨e, he, rfl⟩ := Conc.mem_ofEvents hop
    rcases h.known i a ha hc.2.1 with x | ⟨s, hk⟩
    · exact x
    · have hkb := (hes e he).1 b hb (hc.1 ▸ s)
      obtain ⟨_, _, _, hcase⟩ := hc
      rw [hk] at hcase
      rcases hcase with z | z | ⟨_, z, _⟩
      · cases z
      · exact absurd z hkb
      · cases z
  · obtain ⟨x, hx, hxa⟩ := touch_of ha
    rcases getElem?_append_cases hx with ⟨hi, hx'⟩ | ⟨_, hxu⟩
    · exact (h.known i a (by rw [touchAt_of hx']; exact hxa) hm).imp (·.app _) id
    · have hxg := g?_new hx
      rw [g_ofEvents x hxu] at hxg
      exact .inl (knows_of_g hxg)

theorem Past0.mute (h : Past0 Sh t d₀) {g : Nat} (hg : g ≠ 0) (fn : FuncId) (pos : String) {es : Array Event} (hm : ∀ e ∈ es, e.mute = true) : Past0 Sh (t ++ MemOp.ofEvents g fn pos es) d₀ := by
  have hu := still_mute (g := g) (fn := fn) (pos := pos) hm
  refine ⟨fun said => no_touch_append (h.clean said) hu, fun i a ha hm' => ?_, handedOver_app h.over fun op hop => .inr (hu op hop), (Deaf_other t hg _ g_ofEvents).trans h.hears⟩
  obtain ⟨x, hx, hxa⟩ := touch_of ha
  rcases getElem?_append_cases hx with ⟨hi, hx'⟩ | ⟨_, hxu⟩
  · exact (h.known i a (by rw [touchAt_of hx']; exact hxa) hm').imp (·.app _) id
  · rw [hu x hxu] at hxa; cases hxa

/-- Goroutine 0 says a word that turns its hearing. -/
theorem Past0.word (h : Past0 Sh t d₀) (fn : FuncId) (pos : String) {m : Mark} (hm : m = .disable ∨ m = .enable) : Past0 Sh (t ++ MemOp.ofEvents 0 fn pos #[ConcX.mk m]) (deafBehind d₀ #[ConcX.mk m]) := by
  have hu : ∀ op ∈ MemOp.ofEvents 0 fn pos #[ConcX.mk m], op.act.touch? = none := fun op hop => by
    obtain ⟨e, he, rfl⟩ := Conc.mem_ofEvents hop
    rw [Array.mem_singleton] at he
    subst he
    rcases hm with rfl | rfl <;> rfl
  refine ⟨fun said => no_touch_append (h.clean said) hu, fun i a ha hm' => ?_, handedOver_app h.over fun op hop => .inl (g_ofEvents op hop), by rw [Deaf_own, h.hears]⟩
  obtain ⟨x, hx, hxa⟩ := touch_of ha
  rcases getElem?_append_cases hx with ⟨hi, hx'⟩ | ⟨_, hxu⟩
  · exact (h.known i a (by rw [touchAt_of hx']; exact hxa) hm').imp (·.app _) id
  · rw [hu x hxu] at hxa; cases hxa

theorem past0_nil : Past0 Sh #[] :=
  ⟨fun said => by rintro ⟨i, j, _, ⟨a, b, ha, _⟩, _⟩; simp [Trace.act?] at ha, fun i a ha => by simp [touchAt, Trace.act?] at ha, fun i g hg => by simp [Trace.g?] at hg, rfl⟩
theorem Past0.mono {Sh' : Loc → Prop} (h : Past0 Sh t d₀) (hs : ∀ l, Sh l → Sh' l) : Past0 Sh' t d₀ := ⟨h.clean, fun i a ha hm => (h.known i a ha hm).imp id fun x => ⟨hs _ x.1, x.2⟩, h.over, h.hears⟩
end

section
variable {P : Program} {Sh : Loc → Prop} {D : World → World → Array Event → Prop} {Stop : Goroutine → World → Prop}

/-- Goroutine 0's walk beside leavers, to where the scheduler has picked it at its stop. -/
theorem walk0 {d₀ : Nat} (hSr : ∀ g w, Stop g w → g.status = .running) (hD : ∀ w w' es, D w w' es → ∀ e ∈ es, EvP Sh e) :
    ∀ (M n : Nat) (gs : Array Goroutine) (a : Goroutine) (w : World) (sl : Option (Nat × Nat)) (t : Trace) (q : Nat → Nat), n + sumTo gs.size q = M → gs[0]? = some a → Leavers P t gs q → Past0 Sh t d₀ →
      Goes P true AtRel D Stop n a w →
      ∃ (N : Nat) (gs' : Array Goroutine) (a' : Goroutine) (w' : World) (sl' : Option (Nat × Nat)) (t' : Trace) (q' : Nat → Nat) (d : Nat) (sl'' : Option (Nat × Nat)),
        runNT P N (crowd gs w sl) t = (.next (crowd gs' w' sl'), t') ∧ gs'.size = gs.size ∧ gs'[0]? = some a' ∧ Leavers P t' gs' q' ∧ Past0 Sh t' d₀ ∧ Stop a' (w'.at d) ∧ stepT P (crowd gs' w' sl') = runT P (crowd gs' (w'.at d) sl'') 0 := by
  intro M
  induction M using Nat.strongRecOn with
  | _ M ih =>
    intro n gs a w sl T q hM h0 hL hP hG
    have hrun : a.status = .running := hG.running hSr w (atRel_refl w)
    have hpos : 0 < gs.size := (Array.getElem?_eq_some_iff.1 h0).1
    have haw : ∀ g ∈ gs, awake g := by
      intro g hg
      obtain ⟨i, hi, rfl⟩ := Array.mem_iff_getElem.1 hg
      rcases Nat.eq_zero_or_pos i with rfl | hp
      · have : gs[0] = a := by simpa [Array.getElem?_eq_getElem hi] using h0
        rw [this]; exact awake_of (.inl hrun)
      · exact awake_of ((hL.old i _ hp (Array.getElem?_eq_getElem hi)).status.elim .inl fun x => .inr (.inr x))
    obtain ⟨i, g, d, sl', hi, hg, hst⟩ := crowd_pick (P := P) (w := w) (sl := sl) haw ⟨0, a, h0, hrun⟩
    rcases Nat.eq_zero_or_pos i with rfl | hp
    · obtain rfl : g = a := by rw [h0] at hi; exact (Option.some.inj hi).symm
      rcases hG.cases with hstop | ⟨n', rfl, hstep⟩
      · exact ⟨0, gs, g, w, sl, T, q, d, sl', rfl, rfl, h0, hL, hP, hstop (w.at d) ⟨d, rfl⟩, hst⟩
      · obtain ⟨a', w', es, hgo, hd, hG'⟩ := hstep (w.at d) ⟨d, rfl⟩
        have hrunT := runT_crowd_go (P := P) (sl := sl') (i := 0) hi (show stepG P (0 == 0) g (w.at d) = _ from hgo)
        have hsz : ((gs.map (Go.Conc.woken P g a' w')).setIfInBounds 0 a').size = gs.size := by simp
        have hL' : Leavers P (T ++ MemOp.ofEvents 0 g.frame.fn g.frame.place es) ((gs.map (Go.Conc.woken P g a' w')).setIfInBounds 0 a') q :=
          ⟨fun j x hj hx => by
            rw [Array.getElem?_setIfInBounds_ne (by omega), Array.getElem?_map] at hx
            obtain ⟨y, hy, rfl⟩ := Option.map_eq_some_iff.1 hx
            have hq := hL.old j y hj hy
            rw [woken_quitsD hq, Deaf_other T (g' := 0) (by omega) _ g_ofEvents]
            exact hq,
           fun j hj => by
            have hj' : gs.size ≤ j := by simpa using hj
            rw [Deaf_other T (g' := 0) (by omega) _ g_ofEvents]
            exact hL.above j hj'⟩
        obtain ⟨N, gs', a'', w'', sl₂, T', q', d', sl₃, hr, hs', h0', hL2, hP2, hS, hst'⟩ := ih (n' + sumTo gs.size q) (by omega) n' ((gs.map (Go.Conc.woken P g a' w')).setIfInBounds 0 a') a' w' sl'
          (T ++ MemOp.ofEvents 0 g.frame.fn g.frame.place es) q (by rw [hsz]) (by simp [hpos]) hL' (hP.own _ _ (hD _ _ _ hd)) hG'
        exact ⟨N + 1, gs', a'', w'', sl₂, T', q', d', sl₃, by simp only [runNT, hst, hrunT]; exact hr, hs'.trans hsz, h0', hL2, hP2, hS, hst'⟩
    · have hq := hL.old i g hp hi
      have hi0 : (i == 0) = false := by simp; omega
      have hlt : i < gs.size := (Array.getElem?_eq_some_iff.1 hi).1
      cases hqi : q i with
      | zero => rw [hqi] at hq; rw [hq.1] at hg; cases hg
      | succ k =>
        rw [hqi] at hq
        rcases hq with ⟨hf, _⟩ | ⟨_, g', es, hm, hstp, hq'⟩
        · rw [hf] at hg; cases hg
        have hrunT := runT_crowd_go (P := P) (sl := sl') (i := i) hi (by rw [hi0]; exact hstp (w.at d))
        have hsz : ((gs.map (Go.Conc.woken P g g' (w.at d))).setIfInBounds i g').size = gs.size := by simp
        have hsum := sum_leaver (c := gs.size) hlt hqi
        obtain ⟨N, gs', a'', w'', sl₂, T', q', d', sl₃, hr, hs', h0', hL2, hP2, hS, hst'⟩ := ih (n + sumTo gs.size (upd q i k)) (by omega) n ((gs.map (Go.Conc.woken P g g' (w.at d))).setIfInBounds i g') a (w.at d) sl'
          (T ++ MemOp.ofEvents i g.frame.fn g.frame.place es) (upd q i k) (by rw [hsz])
          (by rw [Array.getElem?_setIfInBounds_ne (by omega), Array.getElem?_map, h0]; simp [woken_run hrun])
          ⟨fun j x hj hx => by
            by_cases hji : i = j
            · subst hji
              rw [Array.getElem?_setIfInBounds_self_of_lt (by simpa using hlt)] at hx
              obtain rfl := Option.some.inj hx
              rw [upd_same, Deaf_own]
              exact hq'
            · rw [Array.getElem?_setIfInBounds_ne hji, Array.getElem?_map] at hx
              obtain ⟨y, hy, rfl⟩ := Option.map_eq_some_iff.1 hx
              have hqj := hL.old j y hj hy
              rw [woken_quitsD hqj, upd_ne q k (Ne.symm hji), Deaf_other T hji _ g_ofEvents]
              exact hqj,
           fun j hj => by
            have hj' : gs.size ≤ j := by simpa using hj
            rw [Deaf_other T (g' := i) (by omega) _ g_ofEvents]
            exact hL.above j hj'⟩
          (hP.mute (by omega) _ _ hm) (Goes.rely atRel_trans hG ⟨d, rfl⟩)
        exact ⟨N + 1, gs', a'', w'', sl₂, T', q', d', sl₃, by simp only [runNT, hst, hrunT]; exact hr, hs'.trans hsz, h0', hL2, hP2, hS, hst'⟩

/-- Over a word that turns its hearing. -/
theorem leg0 {d₀ : Nat} {m : Mark} {Next : Goroutine → World → Prop} (hm : m = .disable ∨ m = .enable) (hD : ∀ w w' es, D w w' es → ∀ e ∈ es, EvP Sh e) {gs : Array Goroutine} {a : Goroutine} {w : World} {sl : Option (Nat × Nat)} {t : Trace} {q : Nat → Nat} {n : Nat}
    (h0 : gs[0]? = some a) (hL : Leavers P t gs q) (hP : Past0 Sh t d₀) (hG : Goes P true AtRel D (AtMkS P m Next) n a w) :
    ∃ (N : Nat) (gs' : Array Goroutine) (a' : Goroutine) (w' : World) (sl' : Option (Nat × Nat)) (t' : Trace) (q' : Nat → Nat),
      runNT P N (crowd gs w sl) t = (.next (crowd gs' w' sl'), t') ∧ gs'.size = gs.size ∧ gs'[0]? = some a' ∧ Leavers P t' gs' q' ∧ Past0 Sh t' (deafBehind d₀ #[mk m]) ∧ Next a' w' := by
  obtain ⟨N, gs', a', w', sl', t', q', d, sl'', hr, hsz, h0', hL', hP', ⟨hrun, g', hgo, hnext⟩, hst⟩ := walk0 (fun _ _ h => h.1) hD _ n gs a w sl t q rfl h0 hL hP hG
  have hpos : 0 < gs'.size := (Array.getElem?_eq_some_iff.1 h0').1
  have hrunT := runT_crowd_go (P := P) (sl := sl'') (i := 0) h0' (show stepG P (0 == 0) a' (w'.at d) = _ from hgo)
  refine ⟨N + 1, (gs'.map (Go.Conc.woken P a' g' (w'.at d))).setIfInBounds 0 g', g', w'.at d, sl'', _, q', ?_, by simp [hsz], by simp [hpos], ⟨fun j x hj hx => ?_, fun j hj => ?_⟩, hP'.word a'.frame.fn a'.frame.place hm, hnext⟩
  · rw [runNT_add, hr]; simp only [runNT, hst, hrunT]
  · rw [Array.getElem?_setIfInBounds_ne (by omega), Array.getElem?_map] at hx
    obtain ⟨y, hy, rfl⟩ := Option.map_eq_some_iff.1 hx
    have hq := hL'.old j y hj hy
    rw [woken_quitsD hq, Deaf_other t' (g' := 0) (by omega) _ g_ofEvents]
    exact hq
  · have hj' : gs'.size ≤ j := by simpa using hj
    rw [Deaf_other t' (g' := 0) (by omega) _ g_ofEvents]
    exact hL'.above j hj'

/-- Goroutine 0's next step is the return. -/
def AtEnd0 (P : Program) (Sh : Loc → Prop) (Post : Value → World → Prop) (g : Goroutine) (w : World) : Prop :=
  g.status = .running ∧ ∃ v es, stepG P true g w = .ended (.done v) w es ∧ (∀ e ∈ es, EvP Sh e) ∧ Post v w

/-- The last walk: the run ends by goroutine 0's return, and all is well. -/
theorem ends0 {Post : Value → World → Prop} (hD : ∀ w w' es, D w w' es → ∀ e ∈ es, EvP Sh e) {gs : Array Goroutine} {a : Goroutine} {w : World} {sl : Option (Nat × Nat)} {t : Trace} {q : Nat → Nat} {n : Nat}
    (h0 : gs[0]? = some a) (hL : Leavers P t gs q) (hP : Past0 Sh t) (hG : Goes P true AtRel D (AtEnd0 P Sh Post) n a w) :
    ∃ N last o w' t', runNT P (N + 1) (crowd gs w sl) t = (.ended o w', t') ∧ runN P N (crowd gs w sl) = .next last ∧ step P last = .ended o w' ∧ Good P Post last o w' t' := by
  obtain ⟨N, gs', a', w', sl', t', q', d, sl'', hr, hsz, h0', hL', hP', ⟨hrun, v, es, hend, hes, hpost⟩, hst⟩ := walk0 (fun _ _ h => h.1) hD _ n gs a w sl t q rfl h0 hL hP hG
  have hone : runT P (crowd gs' (w'.at d) sl'') 0 = (.ended (.done v) (w'.at d), MemOp.ofEvents 0 a'.frame.fn a'.frame.place es) := by
    obtain ⟨hlt, rfl⟩ := Array.getElem?_eq_some_iff.1 h0'
    have hsw := swapAt_of_lt hlt { (default : Goroutine) with status := .finished }
    show runT P { world := w'.at d, gs := gs', rest := { timers := #[], alone := none, slice := sl'' } } 0 = _
    unfold runT
    simp only [hsw, beq_self_eq_true, hend, GStep.es]
  have hP2 := hP'.own a'.frame.fn a'.frame.place hes
  refine ⟨N, crowd gs' w' sl', .done v, w'.at d, t' ++ MemOp.ofEvents 0 a'.frame.fn a'.frame.place es, ?_, ?_, ?_, v, rfl, hpost, hP2.clean, hP2.over, ⟨fun g hg => ?_, rfl⟩, fun i g hi hne => ?_⟩
  · rw [runNT_add, hr]; simp only [runNT, hst, hone]
  · rw [← runNT_fst P _ _ t, hr]
  · unfold step; rw [hst, hone]
  · obtain ⟨i, hi⟩ := List.mem_iff_getElem?.1 hg
    rw [List.getElem?_drop] at hi
    have hi' : gs'[1 + i]? = some g := by simpa [crowd] using hi
    exact ⟨_, (hL'.old (1 + i) g (by omega) hi').leaves⟩
  · have hi' : gs'[i]? = some g := hi
    have hq := hL'.old i g (by omega) hi'
    have hd : (t' ++ MemOp.ofEvents 0 a'.frame.fn a'.frame.place es).deaf i (t' ++ MemOp.ofEvents 0 a'.frame.fn a'.frame.place es).size = Deaf t' i := Deaf_other t' (g' := 0) (by omega) _ g_ofEvents
    rw [hd]
    exact ⟨_, hq.hears _⟩

/-- Goroutine 0 stands at a go statement. -/
def AtFork (P : Program) (Sh : Loc → Prop) (K : Goroutine → Goroutine → World → Prop) (g : Goroutine) (w : World) : Prop :=
  g.status = .running ∧ ∃ g' child es, stepG P true g w = .spawn g' child w es ∧ (∀ e ∈ es, EvP Sh e) ∧ K g' child w

theorem fork_core {p : Par} {Sh Sh' : Loc → Prop} {c : Nat} {w : World} {t : Trace} (h : Past0 Sh t) (hs : ∀ l, Sh l → Sh' l) (hc : Deaf t c = 0) (f1 f2 : FuncId) (p1 p2 : String) :
    Talk p Sh' c w (t ++ #[{ g := 0, fn := f1, pos := p1, act := .go c }, { g := c, fn := f2, pos := p2, act := .start }]) 0 := by
  have hu : ∀ op ∈ (#[{ g := 0, fn := f1, pos := p1, act := .go c }, { g := c, fn := f2, pos := p2, act := .start }] : Trace), op.act.touch? = none := by
    intro op hop
    simp only [List.mem_toArray, List.mem_cons, List.not_mem_nil, or_false] at hop
    rcases hop with rfl | rfl <;> rfl
  have hd : ∀ g, Deaf (t ++ #[{ g := 0, fn := f1, pos := p1, act := .go c }, { g := c, fn := f2, pos := p2, act := .start }]) g = Deaf t g := fun g => by
    rw [show (#[{ g := 0, fn := f1, pos := p1, act := .go c }, { g := c, fn := f2, pos := p2, act := .start }] : Trace) = ([{ g := 0, fn := f1, pos := p1, act := .go c }, { g := c, fn := f2, pos := p2, act := .start }] : List MemOp).toArray from rfl, Deaf_append]
    simp [deafStep]
  generalize hgen : (#[{ g := 0, fn := f1, pos := p1, act := .go c }, { g := c, fn := f2, pos := p2, act := .start }] : Trace) = u at hu hd
  have h1 : (t ++ u)[t.size]? = some { g := 0, fn := f1, pos := p1, act := .go c } := by subst hgen; simp
  have h2 : (t ++ u)[t.size + 1]? = some { g := c, fn := f2, pos := p2, act := .start } := by subst hgen; simp
  have e1 : (t ++ u).heard t.size := ⟨0, by simp [Trace.g?, h1], by rw [deaf_old (Nat.le_refl _)]; exact h.hears⟩
  have e2 : (t ++ u).heard (t.size + 1) := ⟨c, by simp [Trace.g?, h2], by rw [deaf_succ h1, deaf_old (Nat.le_refl _)]; simp [deafStep]; exact hc⟩
  have edge : HappensBefore (t ++ u) t.size (t.size + 1) := .single (.inr ⟨.spawn (child := c) (by rw [act?_of h1]) (by rw [act?_of h2]) (by simp [Trace.g?, h2]), e1, e2⟩)
  refine ⟨⟨fun said => no_touch_append (h.clean said) hu, fun i a ha hm => ?_, fun i g hg h0 _ hcn => ?_⟩, (hd 0).trans h.hears, (hd c).trans hc⟩
  · obtain ⟨x, hx, hxa⟩ := touch_of ha
    rcases getElem?_append_cases hx with ⟨hi, hx'⟩ | ⟨_, hxu⟩
    · rcases h.known i a (by rw [touchAt_of hx']; exact hxa) hm with k | ⟨s, hk⟩
      · exact .inl ⟨k.app u, t.size + 1, _, h2, rfl, .inr ((k.hb_new (Nat.le_refl _) h1 rfl).trans edge)⟩
      · exact .inr (.inl ⟨hs _ s, .inl hk⟩)
    · rw [hu x hxu] at hxa; cases hxa
  · exact (handedOver_app h.over fun op hop => .inr (hu op hop)) i g hg h0 hcn

/-- From a frame to where the worker has been started. -/
theorem fork_runs {K : Goroutine → Goroutine → World → Prop} {Sh' : Loc → Prop} {p : Par} (hs : ∀ l, Sh l → Sh' l) (hD : ∀ w w' es, D w w' es → ∀ e ∈ es, EvP Sh e) {gs : Array Goroutine} {a : Goroutine} {w : World} {sl : Option (Nat × Nat)} {t : Trace} {q : Nat → Nat} {n : Nat}
    (h0 : gs[0]? = some a) (hL : Leavers P t gs q) (hP : Past0 Sh t) (hG : Goes P true AtRel D (AtFork P Sh K) n a w) :
    ∃ (N : Nat) (gs' : Array Goroutine) (a' b' : Goroutine) (w' : World) (sl' : Option (Nat × Nat)) (t' : Trace) (q' : Nat → Nat),
      runNT P N (crowd gs w sl) t = (.next (crowd gs' w' sl'), t') ∧ Crew P gs.size gs' a' b' t' q' ∧ Talk p Sh' gs.size w' t' 0 ∧ K a' b' w' := by
  obtain ⟨N, gs', a', w', sl', t', q', d, sl'', hr, hsz, h0', hL', hP', ⟨hrun, g', child, es, hsp, hes, hK⟩, hst⟩ := walk0 (fun _ _ h => h.1) hD _ n gs a w sl t q rfl h0 hL hP hG
  have hpos : 0 < gs'.size := (Array.getElem?_eq_some_iff.1 h0').1
  have hone := runT_crowd_spawn (P := P) (sl := sl'') (i := 0) h0' (show stepG P (0 == 0) a' (w'.at d) = _ from hsp)
  have hP2 := hP'.own a'.frame.fn a'.frame.place hes
  have hda : ∀ j, j ≠ 0 → Deaf (t' ++ MemOp.ofEvents 0 a'.frame.fn a'.frame.place es) j = Deaf t' j := fun j hj => Deaf_other t' (Ne.symm hj) _ g_ofEvents
  have hT := fork_core (p := p) (w := w'.at d) (c := gs.size) hP2 hs (by rw [hda _ (by omega)]; exact hL'.above _ (by omega)) a'.frame.fn child.frame.fn a'.frame.place a'.frame.place
  have eT : t' ++ ((MemOp.ofEvents 0 a'.frame.fn a'.frame.place es).push { g := 0, fn := a'.frame.fn, pos := a'.frame.place, act := .go gs'.size }).push { g := gs'.size, fn := child.frame.fn, pos := a'.frame.place, act := .start }
      = t' ++ MemOp.ofEvents 0 a'.frame.fn a'.frame.place es ++ #[{ g := 0, fn := a'.frame.fn, pos := a'.frame.place, act := .go gs.size }, { g := gs.size, fn := child.frame.fn, pos := a'.frame.place, act := .start }] := by
    rw [hsz]; apply Array.ext'; simp
  have hd2 : ∀ g, Deaf (t' ++ MemOp.ofEvents 0 a'.frame.fn a'.frame.place es ++ #[{ g := 0, fn := a'.frame.fn, pos := a'.frame.place, act := .go gs.size }, { g := gs.size, fn := child.frame.fn, pos := a'.frame.place, act := .start }]) g = Deaf (t' ++ MemOp.ofEvents 0 a'.frame.fn a'.frame.place es) g := fun g => by
    rw [show (#[{ g := 0, fn := a'.frame.fn, pos := a'.frame.place, act := .go gs.size }, { g := gs.size, fn := child.frame.fn, pos := a'.frame.place, act := .start }] : Trace) = ([{ g := 0, fn := a'.frame.fn, pos := a'.frame.place, act := .go gs.size }, { g := gs.size, fn := child.frame.fn, pos := a'.frame.place, act := .start }] : List MemOp).toArray from rfl, Deaf_append]
    simp [deafStep]
  refine ⟨N + 1, (gs'.setIfInBounds 0 g').push child, g', child, w'.at d, sl'', _, q', ?_, ⟨by simp [hsz], by omega, ?_, ?_, fun i g hi hic hg => ?_, fun j hj => ?_⟩, hT, hK⟩
  · rw [runNT_add, hr]; simp only [runNT, hst, hone, eT]
  · rw [Array.getElem?_push_lt (by simpa using hpos)]; simp
  · have e : gs.size = (gs'.setIfInBounds 0 g').size := by simp [hsz]
    rw [e, Array.getElem?_push_size]
  · have hx : gs'[i]? = some g := by
      rw [Array.getElem?_push, if_neg (by simp; omega), Array.getElem?_setIfInBounds_ne (by omega)] at hg
      exact hg
    rw [hd2, hda i (by omega)]
    exact hL'.old i g hi hx
  · rw [hd2, hda j (by omega)]
    exact hL'.above j (by omega)
end

/-! ### the phase -/
section
variable [Payload] {P : Program} {ty : TypeId} {Wg C Low : Nat} [Shy Wg C] {vals : List Value} {Mine : Loc → Prop} {AnchW : Goroutine → World → Prop} {Post : Value → World → Prop} {p : Par} {Sh Sh' : Loc → Prop} {E Dn : Nat} {zE zD : Value} {PostB : World → Prop} {D : World → World → Array Event → Prop}

/-- What is to be shown at the go statement. -/
def Both (P : Program) (ty : TypeId) (Wg C Low : Nat) [Shy Wg C] (vals : List Value) (Mine : Loc → Prop) (AnchW : Goroutine → World → Prop) (p : Par) (Sh' : Loc → Prop) (E Dn : Nat) (zE zD : Value) (PostB : World → Prop) (a b : Goroutine) (w : World) : Prop :=
  ∃ vs, w.heap[E]? = some (.chan 0 #[] false 0 0 false) ∧ w.heap[Dn]? = some (.chan 0 #[] false 0 0 false) ∧ Gathers P p E Dn zE zD PostB (FinW P ty Wg C Low vals Mine AnchW) vs a w ∧ Tells P p Sh' E Dn PostB (AfterD P ty Wg C Low vals Mine) vs b w

theorem phase0 (hs : ∀ l, Sh l → Sh' l) (hF : ∀ c, c ≠ 0 → Fix Wg C Low Mine p Sh' c) (hED : E ≠ Dn) (hEW : E ≠ Wg ∧ E ≠ C) (hDW : Dn ≠ Wg ∧ Dn ≠ C) (hDN : Dn < p.N0) (hDS : ∀ l, Sh' l → l ≠ .obj Dn) (ok1 : ∀ w, p.N0 ≤ w.heap.size → ∀ e, EvQ Mine Wg C 1 e → EvB p Sh' w e)
    (okJ : ∀ e, EvJ Mine Wg C e → EvP Sh' e)
    (hPb : ∀ w w₁, RB p E Dn w w₁ → PostB w → PostB w₁) (hPc : ∀ w w₁, Aside2 C Wg w w₁ → PostB w → PostB w₁) (hPn : ∀ w, PostB w → p.N0 ≤ w.heap.size)
    (hAr : ∀ g w, AnchW g w → g.status = .running) (hAn : ∀ g w, AnchW g w → ∃ m, Goes P true (RPa ty Wg C vals) (DPi Mine Wg C Low) (AtW1 P ty Wg C Low vals Mine AnchW Post) m g w)
    (hD : ∀ w w' es, D w w' es → ∀ e ∈ es, EvP Sh e) {gs : Array Goroutine} {a : Goroutine} {w : World} {sl : Option (Nat × Nat)} {t : Trace} {q : Nat → Nat} {n : Nat}
    (h0 : gs[0]? = some a) (hL : Leavers P t gs q) (hP : Past0 Sh t) (hG : Goes P true AtRel D (AtFork P Sh (Both P ty Wg C Low vals Mine AnchW p Sh' E Dn zE zD PostB)) n a w) :
    ∃ (N : Nat) (gs' : Array Goroutine) (a' : Goroutine) (w' : World) (sl' : Option (Nat × Nat)) (t' : Trace) (q' : Nat → Nat),
      runNT P N (crowd gs w sl) t = (.next (crowd gs' w' sl'), t') ∧ gs'.size = gs.size + 1 ∧ gs'[0]? = some a' ∧ a'.status = .running ∧ (∃ d, Shy.stop Wg C a' (w'.at d)) ∧ Leavers P t' gs' q' ∧ Past0 Sh' t' := by
  have hpos : 0 < gs.size := (Array.getElem?_eq_some_iff.1 h0).1
  obtain ⟨N1, gs1, a1, b1, w1, sl1, t1, q1, r1, Cr, hT, vs, hE, hDn, hA, hB⟩ := fork_runs (p := p) (sl := sl) hs hD h0 hL hP hG
  obtain ⟨nA, hA⟩ := (gathers_iff _ _ _ _ _ _ _ _ _ _ _).1 hA
  obtain ⟨nB, hB⟩ := (tells_iff _ _ _ _ _ _ _ _ _ _).1 hB
  obtain ⟨N2, M2, t2, r2, gs2, a2, b2, w2, sl2, q2, k, m, rfl, Cr2, hP2, hq2, hG2⟩ := gather_runs (hF gs.size (by omega)) hED hEW hDW hDN hDS ok1 hPb hPc hPn hAr hAn _ _ _
    (⟨gs1, a1, b1, w1, sl1, q1, vs, 0, nA + 1, nB + 1, rfl, Cr, hT, hE, hDn, .inl ⟨nA, rfl, hA⟩, .inl ⟨nB, rfl, hB⟩, by omega, rfl⟩ : Inv1 P p Sh' E Dn zE zD PostB (AfterD P ty Wg C Low vals Mine) (FinW P ty Wg C Low vals Mine AnchW) gs.size _ (crowd gs1 w1 sl1) t1)
  have hL2 : Leavers P t2 gs2 (upd q2 gs.size k) := ⟨fun i g hi hg => by
      by_cases e : i = gs.size
      · subst e
        rw [Cr2.hc] at hg
        obtain rfl := Option.some.inj hg
        rw [upd_same]; exact hq2
      · have hlt := (Array.getElem?_eq_some_iff.1 hg).1
        rw [upd_ne _ _ e]
        exact Cr2.old i g hi (by have := Cr2.size; omega) hg,
    fun j hj => Cr2.above j (by have := Cr2.size; omega)⟩
  obtain ⟨N3, gs3, a3, w3, sl3, t3, q3, d, sl4, r3, z3, h03, hL3, hP3, hS, _⟩ := walk0 (fun _ _ h => h.1) (fun _ _ _ hd e he => okJ e (hd.2 e he)) _ m gs2 a2 w2 sl2 t2 _ rfl Cr2.h0 hL2 hP2 hG2
  refine ⟨N1 + N2 + N3, gs3, a3, w3, sl3, t3, q3, ?_, by have := Cr2.size; omega, h03, hS.1, ⟨d, hS.2⟩, hL3, hP3⟩
  rw [runNT_add, runNT_add, r1]
  simp only [r2]
  exact r3
end
#print axioms phase0
end Go.Hx
/-
  The places of one call of Run, by the bound N of what was there before; what the wait group's own steps may touch.
  No condition but those that each statement names.
-/
namespace Go.Hx
open Go.Conc Go.ConcX

/-- New blocks: N the kernel's box, N+1 the ticks' box, N+2 events, N+3 its box, N+4 done, N+5 its box, N+6 the group. -/
def pR (N : Nat) : Par := ⟨44, N + 7, fun l => ∃ a : Addr, l = .cell a ∧ (a.block = N + 3 ∨ a.block = N + 5)⟩
/-- Shunned: elder groups, and this one. -/
def ShR (Sh : Loc → Prop) (N : Nat) : Loc → Prop := fun l => Sh l ∨ InWg (N + 6) l

/-- What the group's own steps may touch. -/
def OkW (Wg C : Nat) (act : MemAct) : Prop := (∀ x, act.touch? = some x → ∃ a : Addr, x.loc = .cell a ∧ ((a.block = Wg ∧ x.kind ≠ .plain) ∨ (a.block = C ∧ x.kind = .plain))) ∧ ∀ a, act ≠ .mark (.release a)

@[reducible] def shyW (Wg C : Nat) (stop : Goroutine → World → Prop) : Shy Wg C where
  ok := OkW Wg C
  atomicWg := fun a wr h => ⟨fun x hx => by simp only [MemAct.touch?, Option.some.injEq] at hx; subst hx; exact ⟨a, rfl, .inl ⟨h, by simp⟩⟩, by simp⟩
  readWg := fun a h => ⟨fun x hx => by simp only [MemAct.touch?, Option.some.injEq] at hx; subst hx; exact ⟨a, rfl, .inl ⟨h, by simp⟩⟩, by simp⟩
  writeWg := fun a h => ⟨fun x hx => by simp only [MemAct.touch?, Option.some.injEq] at hx; subst hx; exact ⟨a, rfl, .inl ⟨h, by simp⟩⟩, by simp⟩
  theirs := fun a wr h => ⟨fun x hx => by simp only [MemAct.touch?, Option.some.injEq] at hx; subst hx; exact ⟨a, rfl, .inr ⟨h, by simp⟩⟩, by simp⟩
  disable := ⟨fun x hx => by simp [MemAct.touch?] at hx, by simp⟩
  enable := ⟨fun x hx => by simp [MemAct.touch?] at hx, by simp⟩
  relMerge := ⟨fun x hx => by simp [MemAct.touch?] at hx, by simp⟩
  acquire := ⟨fun x hx => by simp [MemAct.touch?] at hx, by simp⟩
  go1 := ⟨fun x hx => by simp [MemAct.touch?] at hx, by simp⟩
  start := ⟨fun x hx => by simp [MemAct.touch?] at hx, by simp⟩
  stop := stop

section
variable {N : Nat} {Sh : Loc → Prop} {stop : Goroutine → World → Prop}

/-- Elder shunned places lie below. -/
def Elder (Sh : Loc → Prop) (N : Nat) : Prop := ∀ l, Sh l → ∃ b, blk l = some b ∧ b < N

theorem Elder.mono {N' : Nat} (h : Elder Sh N) (hN : N ≤ N') : Elder Sh N' := fun l hl => by obtain ⟨b, h1, h2⟩ := h l hl; exact ⟨b, h1, by omega⟩
theorem Elder.not (h : Elder Sh N) {b : Nat} (hb : N ≤ b) (i : Nat) : ¬ Sh (.cell ⟨b, i, none⟩) := fun s => by
  obtain ⟨x, h1, h2⟩ := h _ s
  simp [blk] at h1
  omega
theorem Elder.next (h : Elder Sh N) : Elder (ShR Sh N) (N + 7) := fun l hl => by
  rcases hl with s | ⟨a, rfl, ha⟩
  · obtain ⟨b, h1, h2⟩ := h l s; exact ⟨b, h1, by omega⟩
  · exact ⟨_, rfl, by omega⟩

theorem shOk (h : Elder Sh N) : ShOk (pR N) (ShR Sh N) where
  low := fun l b hl hb => by
    obtain ⟨x, h1, h2⟩ := h.next l hl
    rw [hb] at h1
    cases h1
    exact h2
  st := fun l b hl hb => by
    obtain ⟨a, rfl, ha⟩ := hl
    simp only [blk, Option.some.injEq] at hb
    show b < N + 7
    omega
  ap := fun l hl hs => by
    obtain ⟨a, rfl, ha⟩ := hl
    rcases hs with s | ⟨a', e, ha'⟩
    · obtain ⟨x, h1, h2⟩ := h _ s
      simp only [blk, Option.some.injEq] at h1
      omega
    · cases e; omega

theorem mark_of_loc {e : Event} {m : Mark} (h : e.loc = .mark m) : MemAct.ofEvent e = .mark m := by
  obtain ⟨l, wr, sy⟩ := e
  simp only at h
  subst h
  rfl

theorem okw_evP (h : Elder Sh N) {e : Event} (hk : OkW (N + 6) (N + 1) (MemAct.ofEvent e)) (h1 : e.loc ≠ .mark .disable) (h2 : e.loc ≠ .mark .enable) : EvP Sh e :=
  ⟨fun x hx hs => by
    obtain ⟨a, ha, hb⟩ := hk.1 x hx
    rw [ha] at hs
    obtain ⟨y, h3, h4⟩ := h _ hs
    simp only [blk, Option.some.injEq] at h3
    rcases hb with ⟨z, _⟩ | ⟨z, _⟩ <;> omega, h1, h2⟩

theorem okw_evP' (h : Elder Sh N) {e : Event} (hk : OkW (N + 6) (N + 1) (MemAct.ofEvent e)) (h1 : e.loc ≠ .mark .disable) (h2 : e.loc ≠ .mark .enable) : EvP (ShR Sh N) e :=
  ⟨fun x hx hs => by
    obtain ⟨a, ha, hb⟩ := hk.1 x hx
    rcases hb with ⟨_, z⟩ | ⟨z, _⟩
    · exact z
    · rw [ha] at hs
      rcases hs with s | ⟨a', e', ha'⟩
      · obtain ⟨y, h3, h4⟩ := h _ s
        simp only [blk, Option.some.injEq] at h3
        omega
      · cases e'; omega, h1, h2⟩

theorem thJ_of {a : Addr} (ha : a.block = N + 1) : ThJ (N + 6) (N + 1) (.cell a) := ⟨a, rfl, ha, by omega⟩
theorem shJ_of {a : Addr} (ha : a.block = N + 6) : ShJ (N + 6) (N + 1) (.cell a) := .inl ⟨a, rfl, ha⟩

theorem okR0 (Mine : Loc → Prop) (stop : Goroutine → World → Prop) : letI := shyW (N + 6) (N + 1) stop; ∀ e, EvQ Mine (N + 6) (N + 1) 0 e → Ev0 (ShR Sh N) e := by
  intro e he
  obtain ⟨_, h2, _, hk⟩ := he.1 0 ""
  refine ⟨fun x hx => ?_, fun a ha => hk.2 a (mark_of_loc ha)⟩
  obtain ⟨a, ha, hb⟩ := hk.1 x hx
  rcases hb with ⟨z, z'⟩ | ⟨z, _⟩
  · exact ⟨.inr ⟨a, ha, z⟩, z'⟩
  · have := ((h2 x hx).2.2 (by rw [ha]; exact thJ_of z)).1
    omega

theorem okR1 (h : Elder Sh N) (Mine : Loc → Prop) (stop : Goroutine → World → Prop) : letI := shyW (N + 6) (N + 1) stop; ∀ w : World, (pR N).N0 ≤ w.heap.size → ∀ e, EvQ Mine (N + 6) (N + 1) 1 e → EvB (pR N) (ShR Sh N) w e := by
  intro w hw e he
  obtain ⟨_, h2, _, hk⟩ := he.1 0 ""
  refine ⟨fun x hx hm => ?_, he.2.1, he.2.2.1⟩
  have hw' : N + 7 ≤ w.heap.size := hw
  obtain ⟨a, ha, hb⟩ := hk.1 x hx
  have hcls : a.block = N + 6 ∨ a.block = N + 1 → ClsB (pR N) w x := fun hz => ⟨a.block, by rw [ha]; rfl, by omega, fun f => by have : N + 7 ≤ a.block := f.1; omega⟩
  have hst : a.block = N + 6 ∨ a.block = N + 1 → ((pR N).Still x.loc → x.write = false) := fun hz hs => by
    obtain ⟨a', e', hs⟩ := hs
    rw [ha] at e'
    cases e'
    omega
  rcases hb with ⟨z, z'⟩ | ⟨z, z'⟩
  · refine ⟨hcls (.inl z), fun _ => ?_, hst (.inl z)⟩
    have := ((h2 x hx).2.1 (by rw [ha]; exact shJ_of z)).2
    cases hkk : x.kind with
    | plain => exact absurd hkk z'
    | atomic => rfl
    | said => exact absurd (this hkk) (by decide)
  · refine ⟨hcls (.inr z), fun hs => ?_, hst (.inr z)⟩
    rw [ha] at hs
    rcases hs with s | ⟨a', e', ha'⟩
    · obtain ⟨y, h3, h4⟩ := h _ s
      simp only [blk, Option.some.injEq] at h3
      omega
    · cases e'; omega

theorem okRJ (h : Elder Sh N) (Mine : Loc → Prop) (stop : Goroutine → World → Prop) : letI := shyW (N + 6) (N + 1) stop; ∀ e, EvJ Mine (N + 6) (N + 1) e → EvP (ShR Sh N) e := by
  intro e he
  obtain ⟨_, _, _, hk⟩ := he.1 0 ""
  exact okw_evP' h hk he.2.1 he.2.2

theorem okRS (h : Elder Sh N) (stop : Goroutine → World → Prop) : letI := shyW (N + 6) (N + 1) stop; ∀ w w' es, DE (EvS (N + 6) (N + 1)) w w' es → ∀ e ∈ es, EvP Sh e := by
  intro w w' es he e hm
  obtain ⟨_, _, _, h1, h2, hk⟩ := he e hm
  exact okw_evP h hk (fun z => h1 (mark_of_loc z)) (fun z => h2 (mark_of_loc z))

theorem fixR (h : Elder Sh N) (Mine : Loc → Prop) (stop : Goroutine → World → Prop) : letI := shyW (N + 6) (N + 1) stop; ∀ c, c ≠ 0 → Fix (N + 6) (N + 1) (N + 7) Mine (pR N) (ShR Sh N) c := by
  intro c hc
  letI := shyW (N + 6) (N + 1) stop
  exact ⟨by omega, by omega, by omega, Nat.le_refl _, hc, shOk h, fun l hl => .inr hl, fun i s => by obtain ⟨a, e, ha⟩ := s; cases e; simp only at ha; omega, okR0 Mine stop⟩
end
end Go.Hx
