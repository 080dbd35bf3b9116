/-
  Part 6 of the proof.
  No condition but those that each statement names.
-/
import Derived.Test.YtejkelcaljmnoaaGreatDoorHy05
import Derived.Conc.CompanyMem
import Derived.Conc.Starve
import Derived.Laws.MakeOwn
import Derived.Below
import Derived.OwnWalk
import Derived.Conc.AppendWalk
import Derived.RowKit
import Derived.KernelRfl
import Derived.LaidEqlPtr
import Derived.WideLaws
set_option maxRecDepth 100000
set_option linter.unusedVariables false
set_option linter.unusedSimpArgs false
set_option linter.unusedSectionVars false
namespace Go.Hx
open Go.Conc
open Go.ConcX
open Go.ConcN (sumTo upd sumTo_upd upd_ne upd_same)
def EvP (Sh : Loc → Prop) (e : Event) : Prop := (∀ x, (MemAct.ofEvent e).touch? = some x → Sh x.loc → x.kind ≠ .plain) ∧ (e.loc ≠ .mark .disable ∧ e.loc ≠ .mark .enable)
section
variable {Sh : Loc → Prop} {t : Trace} {d₀ : Nat}
theorem Past0.own (h : Past0 Sh t d₀) (fn : FuncId) (pos : String) {es : Array Event} (hes : ∀ e ∈ es, EvP Sh e) : Past0 Sh (t ++ MemOp.ofEvents 0 fn pos es) d₀ := by
 refine ⟨fun said => noRace_append (h.clean said) g_ofEvents fun i a ha op hop b hb hc => ?_, fun i a ha hm => ?_, handedOver_app h.over fun op hop => .inl (g_ofEvents op hop), (deaf_same (fun e he => (hes e he).2) t 0 fn pos 0).trans h.hears⟩
 · obtain ⟨e, he, rfl⟩ := Conc.mem_ofEvents hop
   rcases h.known i a ha hc.2.1 with x | ⟨s, hk⟩
   · exact x
   · have hkb := (hes e he).1 b hb (hc.1 ▸ s)
     obtain ⟨_, _, _, hcase⟩ := hc
     rw [hk] at hcase
     rcases hcase with z | z | ⟨_, z, _⟩
     · cases z
     · exact absurd z hkb
     · cases z
 · obtain ⟨x, hx, hxa⟩ := touch_of ha
   rcases getElem?_append_cases hx with ⟨hi, hx'⟩ | ⟨_, hxu⟩
   · exact (h.known i a (by rw [touchAt_of hx']; exact hxa) hm).imp (·.app _) id
   · have hxg := g?_new hx
     rw [g_ofEvents x hxu] at hxg
     exact .inl (knows_of_g hxg)
theorem Past0.mute (h : Past0 Sh t d₀) {g : Nat} (hg : g ≠ 0) (fn : FuncId) (pos : String) {es : Array Event} (hm : ∀ e ∈ es, e.mute = true) : Past0 Sh (t ++ MemOp.ofEvents g fn pos es) d₀ := by
 have hu := still_mute (g := g) (fn := fn) (pos := pos) hm
 refine ⟨fun said => no_touch_append (h.clean said) hu, fun i a ha hm' => ?_, handedOver_app h.over fun op hop => .inr (hu op hop), (Deaf_other t hg _ g_ofEvents).trans h.hears⟩
 obtain ⟨x, hx, hxa⟩ := touch_of ha
 rcases getElem?_append_cases hx with ⟨hi, hx'⟩ | ⟨_, hxu⟩
 · exact (h.known i a (by rw [touchAt_of hx']; exact hxa) hm').imp (·.app _) id
 · rw [hu x hxu] at hxa; cases hxa
theorem Past0.word (h : Past0 Sh t d₀) (fn : FuncId) (pos : String) {m : Mark} (hm : m = .disable ∨ m = .enable) : Past0 Sh (t ++ MemOp.ofEvents 0 fn pos #[ConcX.mk m]) (deafBehind d₀ #[ConcX.mk m]) := by
 have hu : ∀ op ∈ MemOp.ofEvents 0 fn pos #[ConcX.mk m], op.act.touch? = none := fun op hop => by
   obtain ⟨e, he, rfl⟩ := Conc.mem_ofEvents hop
   rw [Array.mem_singleton] at he
   subst he
   rcases hm with rfl | rfl <;> rfl
 refine ⟨fun said => no_touch_append (h.clean said) hu, fun i a ha hm' => ?_, handedOver_app h.over fun op hop => .inl (g_ofEvents op hop), by rw [Deaf_own, h.hears]⟩
 obtain ⟨x, hx, hxa⟩ := touch_of ha
 rcases getElem?_append_cases hx with ⟨hi, hx'⟩ | ⟨_, hxu⟩
 · exact (h.known i a (by rw [touchAt_of hx']; exact hxa) hm').imp (·.app _) id
 · rw [hu x hxu] at hxa; cases hxa
theorem past0_nil : Past0 Sh #[] :=
 ⟨fun said => by rintro ⟨i, j, _, ⟨a, b, ha, _⟩, _⟩; simp [Trace.act?] at ha, fun i a ha => by simp [touchAt, Trace.act?] at ha, fun i g hg => by simp [Trace.g?] at hg, rfl⟩
end
section
variable {P : Program} {Sh : Loc → Prop} {D : World → World → Array Event → Prop} {Stop : Goroutine → World → Prop}
theorem walk0 {d₀ : Nat} (hSr : ∀ g w, Stop g w → g.status = .running) (hD : ∀ w w' es, D w w' es → ∀ e ∈ es, EvP Sh e) :
   ∀ (M n : Nat) (gs : Array Goroutine) (a : Goroutine) (w : World) (sl : Option (Nat × Nat)) (t : Trace) (q : Nat → Nat), n + sumTo gs.size q = M → gs[0]? = some a → Leavers P t gs q → Past0 Sh t d₀ →
     Goes P true AtRel D Stop n a w →
     ∃ (N : Nat) (gs' : Array Goroutine) (a' : Goroutine) (w' : World) (sl' : Option (Nat × Nat)) (t' : Trace) (q' : Nat → Nat) (d : Nat) (sl'' : Option (Nat × Nat)),
       runNT P N (crowd gs w sl) t = (.next (crowd gs' w' sl'), t') ∧ gs'.size = gs.size ∧ gs'[0]? = some a' ∧ Leavers P t' gs' q' ∧ Past0 Sh t' d₀ ∧ Stop a' (w'.at d) ∧ stepT P (crowd gs' w' sl') = runT P (crowd gs' (w'.at d) sl'') 0 := by
 intro M
 induction M using Nat.strongRecOn with
 | _ M ih =>
   intro n gs a w sl T q hM h0 hL hP hG
   have hrun : a.status = .running := hG.running hSr w (atRel_refl w)
   have hpos : 0 < gs.size := (Array.getElem?_eq_some_iff.1 h0).1
   have haw : ∀ g ∈ gs, awake g := by
     intro g hg
     obtain ⟨i, hi, rfl⟩ := Array.mem_iff_getElem.1 hg
     rcases Nat.eq_zero_or_pos i with rfl | hp
     · have : gs[0] = a := by simpa [Array.getElem?_eq_getElem hi] using h0
       rw [this]; exact awake_of (.inl hrun)
     · exact awake_of ((hL.old i _ hp (Array.getElem?_eq_getElem hi)).status.elim .inl fun x => .inr (.inr x))
   obtain ⟨i, g, d, sl', hi, hg, hst⟩ := crowd_pick (P := P) (w := w) (sl := sl) haw ⟨0, a, h0, hrun⟩
   rcases Nat.eq_zero_or_pos i with rfl | hp
   · obtain rfl : g = a := by rw [h0] at hi; exact (Option.some.inj hi).symm
     rcases hG.cases with hstop | ⟨n', rfl, hstep⟩
     · exact ⟨0, gs, g, w, sl, T, q, d, sl', rfl, rfl, h0, hL, hP, hstop (w.at d) ⟨d, rfl⟩, hst⟩
     · obtain ⟨a', w', es, hgo, hd, hG'⟩ := hstep (w.at d) ⟨d, rfl⟩
       have hrunT := runT_crowd_go (P := P) (sl := sl') (i := 0) hi (show stepG P (0 == 0) g (w.at d) = _ from hgo)
       have hsz : ((gs.map (Go.Conc.woken P g a' w')).setIfInBounds 0 a').size = gs.size := by simp
       have hL' : Leavers P (T ++ MemOp.ofEvents 0 g.frame.fn g.frame.place es) ((gs.map (Go.Conc.woken P g a' w')).setIfInBounds 0 a') q :=
         ⟨fun j x hj hx => by
           rw [Array.getElem?_setIfInBounds_ne (by omega), Array.getElem?_map] at hx
           obtain ⟨y, hy, rfl⟩ := Option.map_eq_some_iff.1 hx
           have hq := hL.old j y hj hy
           rw [woken_quitsD hq, Deaf_other T (g' := 0) (by omega) _ g_ofEvents]
           exact hq,
          fun j hj => by
           have hj' : gs.size ≤ j := by simpa using hj
           rw [Deaf_other T (g' := 0) (by omega) _ g_ofEvents]
           exact hL.above j hj'⟩
       obtain ⟨N, gs', a'', w'', sl₂, T', q', d', sl₃, hr, hs', h0', hL2, hP2, hS, hst'⟩ := ih (n' + sumTo gs.size q) (by omega) n' ((gs.map (Go.Conc.woken P g a' w')).setIfInBounds 0 a') a' w' sl'
         (T ++ MemOp.ofEvents 0 g.frame.fn g.frame.place es) q (by rw [hsz]) (by simp [hpos]) hL' (hP.own _ _ (hD _ _ _ hd)) hG'
       exact ⟨N + 1, gs', a'', w'', sl₂, T', q', d', sl₃, by simp only [runNT, hst, hrunT]; exact hr, hs'.trans hsz, h0', hL2, hP2, hS, hst'⟩
   · have hq := hL.old i g hp hi
     have hi0 : (i == 0) = false := by simp; omega
     have hlt : i < gs.size := (Array.getElem?_eq_some_iff.1 hi).1
     cases hqi : q i with
     | zero => rw [hqi] at hq; rw [hq.1] at hg; cases hg
     | succ k =>
       rw [hqi] at hq
       rcases hq with ⟨hf, _⟩ | ⟨_, g', es, hm, hstp, hq'⟩
       · rw [hf] at hg; cases hg
       have hrunT := runT_crowd_go (P := P) (sl := sl') (i := i) hi (by rw [hi0]; exact hstp (w.at d))
       have hsz : ((gs.map (Go.Conc.woken P g g' (w.at d))).setIfInBounds i g').size = gs.size := by simp
       have hsum := sum_leaver (c := gs.size) hlt hqi
       obtain ⟨N, gs', a'', w'', sl₂, T', q', d', sl₃, hr, hs', h0', hL2, hP2, hS, hst'⟩ := ih (n + sumTo gs.size (upd q i k)) (by omega) n ((gs.map (Go.Conc.woken P g g' (w.at d))).setIfInBounds i g') a (w.at d) sl'
         (T ++ MemOp.ofEvents i g.frame.fn g.frame.place es) (upd q i k) (by rw [hsz])
         (by rw [Array.getElem?_setIfInBounds_ne (by omega), Array.getElem?_map, h0]; simp [woken_run hrun])
         ⟨fun j x hj hx => by
           by_cases hji : i = j
           · subst hji
             rw [Array.getElem?_setIfInBounds_self_of_lt (by simpa using hlt)] at hx
             obtain rfl := Option.some.inj hx
             rw [upd_same, Deaf_own]
             exact hq'
           · rw [Array.getElem?_setIfInBounds_ne hji, Array.getElem?_map] at hx
             obtain ⟨y, hy, rfl⟩ := Option.map_eq_some_iff.1 hx
             have hqj := hL.old j y hj hy
             rw [woken_quitsD hqj, upd_ne q k (Ne.symm hji), Deaf_other T hji _ g_ofEvents]
             exact hqj,
          fun j hj => by
           have hj' : gs.size ≤ j := by simpa using hj
           rw [Deaf_other T (g' := i) (by omega) _ g_ofEvents]
           exact hL.above j hj'⟩
         (hP.mute (by omega) _ _ hm) (Goes.rely atRel_trans hG ⟨d, rfl⟩)
       exact ⟨N + 1, gs', a'', w'', sl₂, T', q', d', sl₃, by simp only [runNT, hst, hrunT]; exact hr, hs'.trans hsz, h0', hL2, hP2, hS, hst'⟩
theorem leg0 {d₀ : Nat} {m : Mark} {Next : Goroutine → World → Prop} (hm : m = .disable ∨ m = .enable) (hD : ∀ w w' es, D w w' es → ∀ e ∈ es, EvP Sh e) {gs : Array Goroutine} {a : Goroutine} {w : World} {sl : Option (Nat × Nat)} {t : Trace} {q : Nat → Nat} {n : Nat}
   (h0 : gs[0]? = some a) (hL : Leavers P t gs q) (hP : Past0 Sh t d₀) (hG : Goes P true AtRel D (AtMkS P m Next) n a w) :
   ∃ (N : Nat) (gs' : Array Goroutine) (a' : Goroutine) (w' : World) (sl' : Option (Nat × Nat)) (t' : Trace) (q' : Nat → Nat),
     runNT P N (crowd gs w sl) t = (.next (crowd gs' w' sl'), t') ∧ gs'.size = gs.size ∧ gs'[0]? = some a' ∧ Leavers P t' gs' q' ∧ Past0 Sh t' (deafBehind d₀ #[mk m]) ∧ Next a' w' := by
 obtain ⟨N, gs', a', w', sl', t', q', d, sl'', hr, hsz, h0', hL', hP', ⟨hrun, g', hgo, hnext⟩, hst⟩ := walk0 (fun _ _ h => h.1) hD _ n gs a w sl t q rfl h0 hL hP hG
 have hpos : 0 < gs'.size := (Array.getElem?_eq_some_iff.1 h0').1
 have hrunT := runT_crowd_go (P := P) (sl := sl'') (i := 0) h0' (show stepG P (0 == 0) a' (w'.at d) = _ from hgo)
 refine ⟨N + 1, (gs'.map (Go.Conc.woken P a' g' (w'.at d))).setIfInBounds 0 g', g', w'.at d, sl'', _, q', ?_, by simp [hsz], by simp [hpos], ⟨fun j x hj hx => ?_, fun j hj => ?_⟩, hP'.word a'.frame.fn a'.frame.place hm, hnext⟩
 · rw [runNT_add, hr]; simp only [runNT, hst, hrunT]
 · rw [Array.getElem?_setIfInBounds_ne (by omega), Array.getElem?_map] at hx
   obtain ⟨y, hy, rfl⟩ := Option.map_eq_some_iff.1 hx
   have hq := hL'.old j y hj hy
   rw [woken_quitsD hq, Deaf_other t' (g' := 0) (by omega) _ g_ofEvents]
   exact hq
 · have hj' : gs'.size ≤ j := by simpa using hj
   rw [Deaf_other t' (g' := 0) (by omega) _ g_ofEvents]
   exact hL'.above j hj'
def AtEnd0 (P : Program) (Sh : Loc → Prop) (Post : Value → World → Prop) (g : Goroutine) (w : World) : Prop :=
 g.status = .running ∧ ∃ v es, stepG P true g w = .ended (.done v) w es ∧ (∀ e ∈ es, EvP Sh e) ∧ Post v w
theorem ends0 {Post : Value → World → Prop} (hD : ∀ w w' es, D w w' es → ∀ e ∈ es, EvP Sh e) {gs : Array Goroutine} {a : Goroutine} {w : World} {sl : Option (Nat × Nat)} {t : Trace} {q : Nat → Nat} {n : Nat}
   (h0 : gs[0]? = some a) (hL : Leavers P t gs q) (hP : Past0 Sh t) (hG : Goes P true AtRel D (AtEnd0 P Sh Post) n a w) :
   ∃ N last o w' t', runNT P (N + 1) (crowd gs w sl) t = (.ended o w', t') ∧ runN P N (crowd gs w sl) = .next last ∧ step P last = .ended o w' ∧ Good P Post last o w' t' := by
 obtain ⟨N, gs', a', w', sl', t', q', d, sl'', hr, hsz, h0', hL', hP', ⟨hrun, v, es, hend, hes, hpost⟩, hst⟩ := walk0 (fun _ _ h => h.1) hD _ n gs a w sl t q rfl h0 hL hP hG
 have hone : runT P (crowd gs' (w'.at d) sl'') 0 = (.ended (.done v) (w'.at d), MemOp.ofEvents 0 a'.frame.fn a'.frame.place es) := by
   obtain ⟨hlt, rfl⟩ := Array.getElem?_eq_some_iff.1 h0'
   have hsw := swapAt_of_lt hlt { (default : Goroutine) with status := .finished }
   show runT P { world := w'.at d, gs := gs', rest := { timers := #[], alone := none, slice := sl'' } } 0 = _
   unfold runT
   simp only [hsw, beq_self_eq_true, hend, GStep.es]
 have hP2 := hP'.own a'.frame.fn a'.frame.place hes
 refine ⟨N, crowd gs' w' sl', .done v, w'.at d, t' ++ MemOp.ofEvents 0 a'.frame.fn a'.frame.place es, ?_, ?_, ?_, v, rfl, hpost, hP2.clean, hP2.over, ⟨fun g hg => ?_, rfl⟩, fun i g hi hne => ?_⟩
 · rw [runNT_add, hr]; simp only [runNT, hst, hone]
 · rw [← runNT_fst P _ _ t, hr]
 · unfold step; rw [hst, hone]
 · obtain ⟨i, hi⟩ := List.mem_iff_getElem?.1 hg
   rw [List.getElem?_drop] at hi
   have hi' : gs'[1 + i]? = some g := by simpa [crowd] using hi
   exact ⟨_, (hL'.old (1 + i) g (by omega) hi').leaves⟩
 · have hi' : gs'[i]? = some g := hi
   have hq := hL'.old i g (by omega) hi'
   have hd : (t' ++ MemOp.ofEvents 0 a'.frame.fn a'.frame.place es).deaf i (t' ++ MemOp.ofEvents 0 a'.frame.fn a'.frame.place es).size = Deaf t' i := Deaf_other t' (g' := 0) (by omega) _ g_ofEvents
   rw [hd]
   exact ⟨_, hq.hears _⟩
def AtFork (P : Program) (Sh : Loc → Prop) (K : Goroutine → Goroutine → World → Prop) (g : Goroutine) (w : World) : Prop :=
 g.status = .running ∧ ∃ g' child es, stepG P true g w = .spawn g' child w es ∧ (∀ e ∈ es, EvP Sh e) ∧ K g' child w
theorem fork_core {p : Par} {Sh Sh' : Loc → Prop} {c : Nat} {w : World} {t : Trace} (h : Past0 Sh t) (hs : ∀ l, Sh l → Sh' l) (hc : Deaf t c = 0) (f1 f2 : FuncId) (p1 p2 : String) :
   Talk p Sh' c w (t ++ #[{ g := 0, fn := f1, pos := p1, act := .go c }, { g := c, fn := f2, pos := p2, act := .start }]) 0 := by
 have hu : ∀ op ∈ (#[{ g := 0, fn := f1, pos := p1, act := .go c }, { g := c, fn := f2, pos := p2, act := .start }] : Trace), op.act.touch? = none := by
   intro op hop
   simp only [List.mem_toArray, List.mem_cons, List.not_mem_nil, or_false] at hop
   rcases hop with rfl | rfl <;> rfl
 have hd : ∀ g, Deaf (t ++ #[{ g := 0, fn := f1, pos := p1, act := .go c }, { g := c, fn := f2, pos := p2, act := .start }]) g = Deaf t g := fun g => by
   rw [show (#[{ g := 0, fn := f1, pos := p1, act := .go c }, { g := c, fn := f2, pos := p2, act := .start }] : Trace) = ([{ g := 0, fn := f1, pos := p1, act := .go c }, { g := c, fn := f2, pos := p2, act := .start }] : List MemOp).toArray from rfl, Deaf_append]
   simp [deafStep]
 generalize hgen : (#[{ g := 0, fn := f1, pos := p1, act := .go c }, { g := c, fn := f2, pos := p2, act := .start }] : Trace) = u at hu hd
 have h1 : (t ++ u)[t.size]? = some { g := 0, fn := f1, pos := p1, act := .go c } := by subst hgen; simp
 have h2 : (t ++ u)[t.size + 1]? = some { g := c, fn := f2, pos := p2, act := .start } := by subst hgen; simp
 have e1 : (t ++ u).heard t.size := ⟨0, by simp [Trace.g?, h1], by rw [deaf_old (Nat.le_refl _)]; exact h.hears⟩
 have e2 : (t ++ u).heard (t.size + 1) := ⟨c, by simp [Trace.g?, h2], by rw [deaf_succ h1, deaf_old (Nat.le_refl _)]; simp [deafStep]; exact hc⟩
 have edge : HappensBefore (t ++ u) t.size (t.size + 1) := .single (.inr ⟨.spawn (child := c) (by rw [act?_of h1]) (by rw [act?_of h2]) (by simp [Trace.g?, h2]), e1, e2⟩)
 refine ⟨⟨fun said => no_touch_append (h.clean said) hu, fun i a ha hm => ?_, fun i g hg h0 _ hcn => ?_⟩, (hd 0).trans h.hears, (hd c).trans hc⟩
 · obtain ⟨x, hx, hxa⟩ := touch_of ha
   rcases getElem?_append_cases hx with ⟨hi, hx'⟩ | ⟨_, hxu⟩
   · rcases h.known i a (by rw [touchAt_of hx']; exact hxa) hm with k | ⟨s, hk⟩
     · exact .inl ⟨k.app u, t.size + 1, _, h2, rfl, .inr ((k.hb_new (Nat.le_refl _) h1 rfl).trans edge)⟩
     · exact .inr (.inl ⟨hs _ s, .inl hk⟩)
   · rw [hu x hxu] at hxa; cases hxa
 · exact (handedOver_app h.over fun op hop => .inr (hu op hop)) i g hg h0 hcn
theorem fork_runs {K : Goroutine → Goroutine → World → Prop} {Sh' : Loc → Prop} {p : Par} (hs : ∀ l, Sh l → Sh' l) (hD : ∀ w w' es, D w w' es → ∀ e ∈ es, EvP Sh e) {gs : Array Goroutine} {a : Goroutine} {w : World} {sl : Option (Nat × Nat)} {t : Trace} {q : Nat → Nat} {n : Nat}
   (h0 : gs[0]? = some a) (hL : Leavers P t gs q) (hP : Past0 Sh t) (hG : Goes P true AtRel D (AtFork P Sh K) n a w) :
   ∃ (N : Nat) (gs' : Array Goroutine) (a' b' : Goroutine) (w' : World) (sl' : Option (Nat × Nat)) (t' : Trace) (q' : Nat → Nat),
     runNT P N (crowd gs w sl) t = (.next (crowd gs' w' sl'), t') ∧ Crew P gs.size gs' a' b' t' q' ∧ Talk p Sh' gs.size w' t' 0 ∧ K a' b' w' := by
 obtain ⟨N, gs', a', w', sl', t', q', d, sl'', hr, hsz, h0', hL', hP', ⟨hrun, g', child, es, hsp, hes, hK⟩, hst⟩ := walk0 (fun _ _ h => h.1) hD _ n gs a w sl t q rfl h0 hL hP hG
 have hpos : 0 < gs'.size := (Array.getElem?_eq_some_iff.1 h0').1
 have hone := runT_crowd_spawn (P := P) (sl := sl'') (i := 0) h0' (show stepG P (0 == 0) a' (w'.at d) = _ from hsp)
 have hP2 := hP'.own a'.frame.fn a'.frame.place hes
 have hda : ∀ j, j ≠ 0 → Deaf (t' ++ MemOp.ofEvents 0 a'.frame.fn a'.frame.place es) j = Deaf t' j := fun j hj => Deaf_other t' (Ne.symm hj) _ g_ofEvents
 have hT := fork_core (p := p) (w := w'.at d) (c := gs.size) hP2 hs (by rw [hda _ (by omega)]; exact hL'.above _ (by omega)) a'.frame.fn child.frame.fn a'.frame.place a'.frame.place
 have eT : t' ++ ((MemOp.ofEvents 0 a'.frame.fn a'.frame.place es).push { g := 0, fn := a'.frame.fn, pos := a'.frame.place, act := .go gs'.size }).push { g := gs'.size, fn := child.frame.fn, pos := a'.frame.place, act := .start }
     = t' ++ MemOp.ofEvents 0 a'.frame.fn a'.frame.place es ++ #[{ g := 0, fn := a'.frame.fn, pos := a'.frame.place, act := .go gs.size }, { g := gs.size, fn := child.frame.fn, pos := a'.frame.place, act := .start }] := by
   rw [hsz]; apply Array.ext'; simp
 have hd2 : ∀ g, Deaf (t' ++ MemOp.ofEvents 0 a'.frame.fn a'.frame.place es ++ #[{ g := 0, fn := a'.frame.fn, pos := a'.frame.place, act := .go gs.size }, { g := gs.size, fn := child.frame.fn, pos := a'.frame.place, act := .start }]) g = Deaf (t' ++ MemOp.ofEvents 0 a'.frame.fn a'.frame.place es) g := fun g => by
   rw [show (#[{ g := 0, fn := a'.frame.fn, pos := a'.frame.place, act := .go gs.size }, { g := gs.size, fn := child.frame.fn, pos := a'.frame.place, act := .start }] : Trace) = ([{ g := 0, fn := a'.frame.fn, pos := a'.frame.place, act := .go gs.size }, { g := gs.size, fn := child.frame.fn, pos := a'.frame.place, act := .start }] : List MemOp).toArray from rfl, Deaf_append]
   simp [deafStep]
 refine ⟨N + 1, (gs'.setIfInBounds 0 g').push child, g', child, w'.at d, sl'', _, q', ?_, ⟨by simp [hsz], by omega, ?_, ?_, fun i g hi hic hg => ?_, fun j hj => ?_⟩, hT, hK⟩
 · rw [runNT_add, hr]; simp only [runNT, hst, hone, eT]
 · rw [Array.getElem?_push_lt (by simpa using hpos)]; simp
 · have e : gs.size = (gs'.setIfInBounds 0 g').size := by simp [hsz]
   rw [e, Array.getElem?_push_size]
 · have hx : gs'[i]? = some g := by
     rw [Array.getElem?_push, if_neg (by simp; omega), Array.getElem?_setIfInBounds_ne (by omega)] at hg
     exact hg
   rw [hd2, hda i (by omega)]
   exact hL'.old i g hi hx
 · rw [hd2, hda j (by omega)]
   exact hL'.above j (by omega)
end
section
variable [Payload] {P : Program} {ty : TypeId} {Wg C Low : Nat} [Shy Wg C] {vals : List Value} {Mine : Loc → Prop} {AnchW : Goroutine → World → Prop} {Post : Value → World → Prop} {p : Par} {Sh Sh' : Loc → Prop} {E Dn : Nat} {zE zD : Value} {PostB : World → Prop} {D : World → World → Array Event → Prop}
def Both (P : Program) (ty : TypeId) (Wg C Low : Nat) [Shy Wg C] (vals : List Value) (Mine : Loc → Prop) (AnchW : Goroutine → World → Prop) (p : Par) (Sh' : Loc → Prop) (E Dn : Nat) (zE zD : Value) (PostB : World → Prop) (a b : Goroutine) (w : World) : Prop :=
 ∃ vs, w.heap[E]? = some (.chan 0 #[] false 0 0 false) ∧ w.heap[Dn]? = some (.chan 0 #[] false 0 0 false) ∧ Gathers P p E Dn zE zD PostB (FinW P ty Wg C Low vals Mine AnchW) vs a w ∧ Tells P p Sh' E Dn PostB (AfterD P ty Wg C Low vals Mine) vs b w
theorem phase0 (hs : ∀ l, Sh l → Sh' l) (hF : ∀ c, c ≠ 0 → Fix Wg C Low Mine p Sh' c) (hED : E ≠ Dn) (hEW : E ≠ Wg ∧ E ≠ C) (hDW : Dn ≠ Wg ∧ Dn ≠ C) (hDN : Dn < p.N0) (hDS : ∀ l, Sh' l → l ≠ .obj Dn) (ok1 : ∀ w, p.N0 ≤ w.heap.size → ∀ e, EvQ Mine Wg C 1 e → EvB p Sh' w e)
   (okJ : ∀ e, EvJ Mine Wg C e → EvP Sh' e)
   (hPb : ∀ w w₁, RB p E Dn w w₁ → PostB w → PostB w₁) (hPc : ∀ w w₁, Aside2 C Wg w w₁ → PostB w → PostB w₁) (hPn : ∀ w, PostB w → p.N0 ≤ w.heap.size)
   (hAr : ∀ g w, AnchW g w → g.status = .running) (hAn : ∀ g w, AnchW g w → ∃ m, Goes P true (RPa ty Wg C vals) (DPi Mine Wg C Low) (AtW1 P ty Wg C Low vals Mine AnchW Post) m g w)
   (hD : ∀ w w' es, D w w' es → ∀ e ∈ es, EvP Sh e) {gs : Array Goroutine} {a : Goroutine} {w : World} {sl : Option (Nat × Nat)} {t : Trace} {q : Nat → Nat} {n : Nat}
   (h0 : gs[0]? = some a) (hL : Leavers P t gs q) (hP : Past0 Sh t) (hG : Goes P true AtRel D (AtFork P Sh (Both P ty Wg C Low vals Mine AnchW p Sh' E Dn zE zD PostB)) n a w) :
   ∃ (N : Nat) (gs' : Array Goroutine) (a' : Goroutine) (w' : World) (sl' : Option (Nat × Nat)) (t' : Trace) (q' : Nat → Nat),
     runNT P N (crowd gs w sl) t = (.next (crowd gs' w' sl'), t') ∧ gs'.size = gs.size + 1 ∧ gs'[0]? = some a' ∧ a'.status = .running ∧ (∃ d, Shy.stop Wg C a' (w'.at d)) ∧ Leavers P t' gs' q' ∧ Past0 Sh' t' := by
 have hpos : 0 < gs.size := (Array.getElem?_eq_some_iff.1 h0).1
 obtain ⟨N1, gs1, a1, b1, w1, sl1, t1, q1, r1, Cr, hT, vs, hE, hDn, hA, hB⟩ := fork_runs (p := p) (sl := sl) hs hD h0 hL hP hG
 obtain ⟨nA, hA⟩ := (gathers_iff _ _ _ _ _ _ _ _ _ _ _).1 hA
 obtain ⟨nB, hB⟩ := (tells_iff _ _ _ _ _ _ _ _ _ _).1 hB
 obtain ⟨N2, M2, t2, r2, gs2, a2, b2, w2, sl2, q2, k, m, rfl, Cr2, hP2, hq2, hG2⟩ := gather_runs (hF gs.size (by omega)) hED hEW hDW hDN hDS ok1 hPb hPc hPn hAr hAn _ _ _
   (⟨gs1, a1, b1, w1, sl1, q1, vs, 0, nA + 1, nB + 1, rfl, Cr, hT, hE, hDn, .inl ⟨nA, rfl, hA⟩, .inl ⟨nB, rfl, hB⟩, by omega, rfl⟩ : Inv1 P p Sh' E Dn zE zD PostB (AfterD P ty Wg C Low vals Mine) (FinW P ty Wg C Low vals Mine AnchW) gs.size _ (crowd gs1 w1 sl1) t1)
 have hL2 : Leavers P t2 gs2 (upd q2 gs.size k) := ⟨fun i g hi hg => by
     by_cases e : i = gs.size
     · subst e
       rw [Cr2.hc] at hg
       obtain rfl := Option.some.inj hg
       rw [upd_same]; exact hq2
     · have hlt := (Array.getElem?_eq_some_iff.1 hg).1
       rw [upd_ne _ _ e]
       exact Cr2.old i g hi (by have := Cr2.size; omega) hg,
   fun j hj => Cr2.above j (by have := Cr2.size; omega)⟩
 obtain ⟨N3, gs3, a3, w3, sl3, t3, q3, d, sl4, r3, z3, h03, hL3, hP3, hS, _⟩ := walk0 (fun _ _ h => h.1) (fun _ _ _ hd e he => okJ e (hd.2 e he)) _ m gs2 a2 w2 sl2 t2 _ rfl Cr2.h0 hL2 hP2 hG2
 refine ⟨N1 + N2 + N3, gs3, a3, w3, sl3, t3, q3, ?_, by have := Cr2.size; omega, h03, hS.1, ⟨d, hS.2⟩, hL3, hP3⟩
 rw [runNT_add, runNT_add, r1]
 simp only [r2]
 exact r3
end
end Go.Hx
namespace Go.Hx
open Go.Conc Go.RowKit
variable {p : Par} {Sh : Loc → Prop} {E Dn : Nat} {w w₁ w' : World}
theorem termsT (p : Par) (Sh : Loc → Prop) (E Dn : Nat) : Terms (RB p E Dn) (DT p Sh E Dn) := ⟨RB.trans, fun w => ⟨RA.refl p w, rfl, rfl, by simp⟩⟩
def Has (b : Nat) (ty : TypeId) (cs : Array Value) (w : World) : Prop := w.heap[b]? = some (.cells cs ty (0, 0))
theorem alloc_get (w : World) (o : Obj) {b : Nat} (h : b ≠ w.heap.size) : (w.alloc o).heap[b]? = w.heap[b]? := by
 show (w.heap.push o)[b]? = w.heap[b]?
 rw [Array.getElem?_push, if_neg h]
theorem alloc_new (w : World) (o : Obj) : (w.alloc o).heap[w.heap.size]? = some o := by
 show (w.heap.push o)[w.heap.size]? = some o
 simp
theorem alloc_size (w : World) (o : Obj) : (w.alloc o).heap.size = w.heap.size + 1 := by
 show (w.heap.push o).size = w.heap.size + 1
 simp
theorem setCell_get (w : World) (a : Addr) (v : Value) {b : Nat} (h : b ≠ a.block) : (w.setCell a v).heap[b]? = w.heap[b]? := by
 simp [World.setCell, Array.getElem?_modify, Ne.symm h]
theorem dt_read {es : Array Event} (hes : ∀ e ∈ es, EvB p Sh w e) : DT p Sh E Dn w w es := ⟨RA.refl p w, rfl, rfl, hes⟩
end Go.Hx
namespace Go.Hx
open Go.Conc
end Go.Hx
namespace Go.Hx
open Go.Conc Go.RowKit
section
variable {P : Program} {main : Bool} {R : World → World → Prop} {D : World → World → Array Event → Prop} {fn : FuncId} {Q : Exit → Act → World → Prop} {a : Act} {w : World}
def LoopC (P : Program) (main : Bool) (R : World → World → Prop) (D : World → World → Array Event → Prop) (fn : FuncId) (c : Code) (n : Nat) (Q : Exit → Act → World → Prop) (a : Act) (w : World) : Prop :=
 ∀ (b : Frame) (k : List Item) (cs : List Frame) (Stop : Goroutine → World → Prop) (m : Nat), b.fn = fn → b.kind ≠ .early →
   (∀ e a' w', Q e a' w' → After P main R D Stop m b k cs e a' w') → Goes P main R D Stop (m + n) (G (b.at a (.inLoop c :: k)) cs) w
end
structure Apart (p : Par) (Sh : Loc → Prop) (E Dn b : Nat) : Prop where
 e : b ≠ E
 d : b ≠ Dn
 s : ∀ i, ¬ Sh (.cell ⟨b, i, none⟩)
 t : ∀ i, ¬ p.Still (.cell ⟨b, i, none⟩)
structure Ad where
 K : Nat
 P : Nat
 R : Nat
 G : Nat
 rcap : Nat
 gn : Nat
 gcap : Nat
 rc : Array Value
 gc : Array Value
 keep : List (Nat × TypeId × Array Value)
 W : World
 O : Nat
structure En (p : Par) (Sh : Loc → Prop) (E Dn : Nat) (a : Ad) : Prop where
 ty : p.ety = 44
 sh : ShOk p Sh
 hE : E < p.N0
 hD : Dn < p.N0
 aK : Apart p Sh E Dn a.K
 aP : Apart p Sh E Dn a.P
 aR : Apart p Sh E Dn a.R
 aG : Apart p Sh E Dn a.G
 r0 : a.rc[0]? = some (.pointer (some ⟨a.P, 0, none⟩))
 kp : a.K ≠ a.P
 kd : ∀ t ∈ a.keep, t.1 ≠ E ∧ t.1 ≠ Dn ∧ t.2.1 ≠ 44 ∧ t.1 ≠ a.K ∧ t.1 ≠ a.P ∧ t.1 < p.N0
 oo : a.O ≤ a.K ∧ a.O ≤ a.P ∧ a.O ≤ E ∧ a.O ≤ Dn ∧ a.O ≤ p.N0
structure Old (a : Ad) (Q : Nat) (w : World) : Prop where
 q : a.O ≤ Q
 t : w.tape = a.W.tape
 o : w.os = a.W.os
 u : w.output = a.W.output
 b : ∀ x, x < a.O → w.heap[x]? = a.W.heap[x]?
structure Kst (a : Ad) (kc : Array Value) (s : Nat → Int) (bo now : Int) (r0 r1 r2 : Value) : Prop where
 sz : kc.size = 10
 sl : ∀ i, i < 3 → kc[i]? = some (.int .i64 (s i))
 bo : kc[3]? = some (.int .i64 bo)
 pr : kc[4]? = some (.slice (some ⟨a.G, 0, none⟩) a.gn a.gcap)
 ps : kc[5]? = some (.slice (some ⟨a.R, 0, none⟩) 1 a.rcap)
 r0 : kc[6]? = some r0
 r1 : kc[7]? = some r1
 r2 : kc[8]? = some r2
 now : kc[9]? = some (.int .i64 now)
structure Pst (pc : Array Value) (st status at_ lv used : Int) (r m : Nat → Int) : Prop where
 sz : pc.size = 79
 id : pc[0]? = some (.int .i64 1)
 par : pc[1]? = some (.int .i64 0)
 st : pc[2]? = some (.int .i64 st)
 stat : pc[3]? = some (.int .i64 status)
 at_ : pc[4]? = some (.int .i64 at_)
 lv : pc[5]? = some (.int .i64 lv)
 us : pc[6]? = some (.int .i64 used)
 reg : ∀ i, i < 8 → pc[7 + i]? = some (.int .u16 (r i))
 mem : ∀ i, i < 64 → pc[15 + i]? = some (.int .u8 (m i))
section
variable {pc : Array Value} {st status at_ lv used : Int} {r m : Nat → Int}
def put (f : Nat → Int) (i : Nat) (v : Int) : Nat → Int := fun j => if j = i then v else f j
end
structure KM (p : Par) (Sh : Loc → Prop) (E Dn : Nat) (a : Ad) (kc pc : Array Value) (Q : Nat) (qc : Array Value) (w : World) : Prop where
 k : Has a.K 88 kc w
 pp : Has a.P 75 pc w
 rr : Has a.R 72 a.rc w
 gg : Has a.G 110 a.gc w
 q : Has Q 72 qc w
 aQ : Apart p Sh E Dn Q
 sz : p.N0 ≤ w.heap.size
 kp : ∀ t ∈ a.keep, Has t.1 t.2.1 t.2.2 w
 kq : ∀ t ∈ a.keep, t.1 ≠ Q
 od : Old a Q w
structure KB (p : Par) (Sh : Loc → Prop) (E Dn : Nat) (a : Ad) (kc pc : Array Value) (Q : Nat) (qc : Array Value) (nb : Nat) (ty : TypeId) (bx : Array Value) (w : World) : Prop where
 m : KM p Sh E Dn a kc pc Q qc w
 b : Has nb ty bx w
 ab : Apart p Sh E Dn nb
def KO (p : Par) (Sh : Loc → Prop) (E Dn : Nat) (a : Ad) (kc pc pc1 : Array Value) (Q : Nat) (qc : Array Value) (w : World) : Prop := KM p Sh E Dn a kc pc Q qc w ∨ KM p Sh E Dn a kc pc1 Q qc w
structure Off (a : Ad) (Q nb : Nat) : Prop where
 k : nb ≠ a.K
 p : nb ≠ a.P
 r : nb ≠ a.R
 g : nb ≠ a.G
 q : nb ≠ Q
 kp : ∀ t ∈ a.keep, nb ≠ t.1
 o : a.O ≤ nb
end Go.Hx
