/-
  The situation between two ticks, for a kernel whose one process is ready: where its row stands, what its cells are.
  No condition but those that each statement names.
-/
import Derived.Test.YtbnaccilnilcmaaDoorHx10
import Derived.Test.YtbnaccilnilcmaaDoorHx09
import Derived.Test.YtbnaccilnilcmaaDoorChecked
import Derived.Test.YtbnaccilnilcmaaDoorHx07
import Derived.Conc.DeferLaws
import Derived.Conc.EventLaws
import Derived.Conc.TokenWalk
import Derived.ArgAppend
import Derived.Conc.AppendWalk
set_option linter.unusedVariables false
set_option linter.unusedSimpArgs false
set_option linter.unusedSectionVars false
namespace Go.Hx
open Go.Conc

/-- What the kernel and its process are. -/
structure Now where
  s : Nat → Int
  bo : Int
  now : Int
  st : Int
  status : Int
  at_ : Int
  lv : Nat
  used : Int
  r : Nat → Int
  m : Nat → Int

structure SitC (p : Par) (Sh : Loc → Prop) (E Dn : Nat) (a : Ad) (fr : Bool) (x : Now) (kc pc : Array Value) (Q cap : Nat) (qc : Array Value) (w : World) : Prop where
  km : KM p Sh E Dn a kc pc Q qc w
  ks : ∃ r0 r1 r2, Kst a kc x.s x.bo x.now r0 r1 r2
  ps : Pst pc x.st x.status x.at_ x.lv x.used x.r x.m
  hlv : x.lv < 3
  row : kc[6 + x.lv]? = some (.slice (some ⟨Q, 0, none⟩) 1 cap)
  low : ∀ l, l < x.lv → ∃ b c, kc[6 + l]? = some (.slice b 0 c)
  high : ∀ l, x.lv < l → l < 3 → kc[6 + l]? = some (.slice none 0 0)
  c1 : 1 ≤ cap
  cm : cap ≤ maxLen
  cs : qc.size = cap
  rq : a.R ≠ Q
  q0 : qc[0]? = some (.pointer (some ⟨a.P, 0, none⟩))
  nq : fr = true → x.lv = 2 → p.N0 ≤ Q
def Sit (p : Par) (Sh : Loc → Prop) (E Dn : Nat) (a : Ad) (fr : Bool) (x : Now) (w : World) : Prop := ∃ kc pc Q cap qc, SitC p Sh E Dn a fr x kc pc Q cap qc w

section
variable {p : Par} {Sh : Loc → Prop} {E Dn : Nat} {a : Ad} {fr : Bool} {x : Now} {kc pc : Array Value} {Q cap : Nat} {qc : Array Value} {w w₁ : World}
theorem SitC.rely (n : En p Sh E Dn a) (h : SitC p Sh E Dn a fr x kc pc Q cap qc w) (r : RB p E Dn w w₁) : SitC p Sh E Dn a fr x kc pc Q cap qc w₁ := { h with km := h.km.rely n r }
theorem Sit.rely (n : En p Sh E Dn a) (h : Sit p Sh E Dn a fr x w) (r : RB p E Dn w w₁) : Sit p Sh E Dn a fr x w₁ := by
  obtain ⟨kc, pc, Q, cap, qc, h⟩ := h
  exact ⟨kc, pc, Q, cap, qc, h.rely n r⟩
/-- The same situation, elsewhere. -/
theorem SitC.at (h : SitC p Sh E Dn a fr x kc pc Q cap qc w) (k : KM p Sh E Dn a kc pc Q qc w₁) : SitC p Sh E Dn a fr x kc pc Q cap qc w₁ := { h with km := k }
/-- Behind something done to the process. -/
theorem SitC.did (h : SitC p Sh E Dn a fr x kc pc Q cap qc w) {pc' : Array Value} (k : KM p Sh E Dn a kc pc' Q qc w₁) {st status at_ used : Int} {r m : Nat → Int} (hp : Pst pc' st status at_ x.lv used r m) :
    SitC p Sh E Dn a fr { x with st := st, status := status, at_ := at_, used := used, r := r, m := m } kc pc' Q cap qc w₁ := { h with km := k, ps := hp }
theorem SitC.later (h : SitC p Sh E Dn a fr x kc pc Q cap qc w) {v : Int} (k : KM p Sh E Dn a (kc.setIfInBounds 9 (.int .i64 v)) pc Q qc w₁) :
    SitC p Sh E Dn a fr { x with now := v } (kc.setIfInBounds 9 (.int .i64 v)) pc Q cap qc w₁ :=
  { h with km := k, ks := by obtain ⟨r0, r1, r2, hk⟩ := h.ks; exact ⟨r0, r1, r2, hk.setNow v⟩, row := set_ne h.row (by have := h.hlv; show 9 ≠ 6 + x.lv; omega),
           low := fun l hl => by have := h.hlv; obtain ⟨b, c, hb⟩ := h.low l hl; exact ⟨b, c, set_ne hb (by have : l < x.lv := hl; omega)⟩, high := fun l h1 h2 => set_ne (h.high l h1 h2) (by omega) }

/-- Where it stands behind its turn. -/
def nxt (s : Nat → Int) (lv : Nat) (used : Int) : Nat × Int := if used < s lv then (lv, used) else if lv < 2 then (lv + 1, 0) else (2, 0)

theorem Kst.setRow {s : Nat → Int} {bo now : Int} {r0 r1 r2 : Value} (h : Kst a kc s bo now r0 r1 r2) (l : Nat) (hl : l < 3) (v : Value) : ∃ r0 r1 r2, Kst a (kc.setIfInBounds (6 + l) v) s bo now r0 r1 r2 := by
  rcases l with _ | _ | _ | l
  · exact ⟨_, _, _, h.setR0 v⟩
  · exact ⟨_, _, _, h.setR1 v⟩
  · exact ⟨_, _, _, h.setR2 v⟩
  · omega

/-- It has moved down a level. -/
theorem SitC.down (n : En p Sh E Dn a) (h : SitC p Sh E Dn a fr x kc pc Q cap qc w) (hl : x.lv < 2) {Q' cap' : Nat} {qc' : Array Value} (c1 : 1 ≤ cap') (cm : cap' ≤ maxLen) (cs : qc'.size = cap') (rq : a.R ≠ Q') (q0 : qc'[0]? = some (.pointer (some ⟨a.P, 0, none⟩))) (hN : p.N0 ≤ Q')
    (k : KM p Sh E Dn a ((kc.setIfInBounds (6 + x.lv) (.slice (some ⟨Q, 0, none⟩) 0 cap)).setIfInBounds (6 + (x.lv + 1)) (.slice (some ⟨Q', 0, none⟩) 1 cap')) ((pc.setIfInBounds 5 (.int .i64 ((x.lv : Int) + 1))).setIfInBounds 6 (.int .i64 0)) Q' qc' w₁) :
    Sit p Sh E Dn a fr { x with lv := x.lv + 1, used := 0 } w₁ := by
  obtain ⟨r0, r1, r2, hk⟩ := h.ks
  have hsz := hk.sz
  obtain ⟨_, _, _, hk1⟩ := hk.setRow x.lv (by omega) (.slice (some ⟨Q, 0, none⟩) 0 cap)
  have hk2 := hk1.setRow (x.lv + 1) (by omega) (.slice (some ⟨Q', 0, none⟩) 1 cap')
  refine ⟨_, _, Q', cap', qc', k, hk2, ?_, by show x.lv + 1 < 3; omega, set_eq (by simp [hsz]; omega), fun l hl' => ?_, fun l h1 h2 => ?_, c1, cm, cs, rq, q0, fun _ _ => hN⟩
  · have := (h.ps.setLv ((x.lv : Int) + 1)).setUs 0
    exact this
  · have hl'' : l < x.lv + 1 := hl'
    by_cases e : l = x.lv
    · subst e; exact ⟨_, _, set_ne (set_eq (by omega)) (by omega)⟩
    · obtain ⟨b, c, hb⟩ := h.low l (by omega); exact ⟨b, c, set_ne (set_ne hb (by omega)) (by omega)⟩
  · have h1' : x.lv + 1 < l := h1
    exact set_ne (set_ne (h.high l (by omega) h2) (by omega)) (by omega)

/-- It stays at the lowest level, behind all others there (there are none). -/
theorem SitC.stay (h : SitC p Sh E Dn a fr x kc pc Q cap qc w) (hl : x.lv = 2) 
    (k : KM p Sh E Dn a ((kc.setIfInBounds (6 + 2) (.slice (some ⟨Q, 0, none⟩) 0 cap)).setIfInBounds (6 + 2) (.slice (some ⟨Q, 0, none⟩) 1 cap)) ((pc.setIfInBounds 5 (.int .i64 2)).setIfInBounds 6 (.int .i64 0)) Q ((qc.setIfInBounds 0 (.pointer none)).setIfInBounds 0 (.pointer (some ⟨a.P, 0, none⟩))) w₁) :
    Sit p Sh E Dn a fr { x with lv := 2, used := 0 } w₁ := by
  obtain ⟨r0, r1, r2, hk⟩ := h.ks
  have hsz := hk.sz
  obtain ⟨_, _, _, hk1⟩ := hk.setRow 2 (by omega) (.slice (some ⟨Q, 0, none⟩) 0 cap)
  have hk2 := hk1.setRow 2 (by omega) (.slice (some ⟨Q, 0, none⟩) 1 cap)
  have hcs := h.cs
  have hc1 := h.c1
  refine ⟨_, _, Q, cap, _, k, hk2, ?_, by show 2 < 3; omega, set_eq (by simp [hsz]), fun l hl' => ?_, fun l h1 h2 => ?_, h.c1, h.cm, by simp [hcs], h.rq, set_eq (by simp [hcs]; omega), fun e _ => h.nq e hl⟩
  · exact (h.ps.setLv 2).setUs 0
  · have hl'' : l < 2 := hl'
    obtain ⟨b, c, hb⟩ := h.low l (by omega); exact ⟨b, c, set_ne (set_ne hb (by omega)) (by omega)⟩
  · have h1' : 2 < l := h1
    omega
end
end Go.Hx
/-
  The library's functions of sync.WaitGroup under this program's numbers; the type of the payload's cells.
  No condition but those that each statement names.
-/
namespace Go.Proofs
abbrev Tryd.link : Go.Conc.Lib.WgLink := { add := 16, done := 18, wait := 21, relMerge := 31, disable := 32, enable := 33, inBubble := 34, associate := 35, fatal := 36, uOr := 37, uAdd := 38, raceRead := 39, uLoad := 40, uStore := 41, disassociate := 42, semrelease := 43, acquire := 46, isAssociated := 47, uCas := 48, raceWrite := 49, semacquire := 50, orU64 := 52, addU64 := 53, loadU64 := 54, storeU64 := 55, casU64 := 62, tWgP := 90, tUP := 92, tAssoc := 93, tWg := 66, tAU := 63, tU64 := 61, tUint := 52, tU32 := 64, tPU32 := 97, tPAU := 111, tPU64 := 113, tNoCopy := 58, tANoCopy := 59, tAlign64 := 60 }
theorem Tryd.wgLib : Go.Conc.Lib.WgLib Tryd.prog Tryd.link :=
  ⟨Tryd.func16, Tryd.func18, Tryd.func21, Tryd.func31, Tryd.func32, Tryd.func33, Tryd.func34, Tryd.func35, Tryd.func36, Tryd.func37, Tryd.func38, Tryd.func39, Tryd.func40, Tryd.func41, Tryd.func42, Tryd.func43, Tryd.func46, Tryd.func47, Tryd.func48, Tryd.func49, Tryd.func50, Tryd.func52, Tryd.func53, Tryd.func54, Tryd.func55, Tryd.func62, Tryd.underlying90, Tryd.runUnderlying90, Tryd.sizeOf90, Tryd.isAgg90, Tryd.zeroValue90, Tryd.underlying92, Tryd.runUnderlying92, Tryd.sizeOf92, Tryd.isAgg92, Tryd.zeroValue92, Tryd.underlying93, Tryd.runUnderlying93, Tryd.sizeOf93, Tryd.isAgg93, Tryd.zeroValue93, Tryd.underlying66, Tryd.runUnderlying66, Tryd.sizeOf66, Tryd.isAgg66, Tryd.zeroValue66, Tryd.underlying63, Tryd.runUnderlying63, Tryd.sizeOf63, Tryd.isAgg63, Tryd.zeroValue63, Tryd.underlying61, Tryd.runUnderlying61, Tryd.sizeOf61, Tryd.isAgg61, Tryd.zeroValue61, Tryd.underlying52, Tryd.runUnderlying52, Tryd.sizeOf52, Tryd.isAgg52, Tryd.zeroValue52, Tryd.underlying64, Tryd.runUnderlying64, Tryd.sizeOf64, Tryd.isAgg64, Tryd.zeroValue64, Tryd.underlying97, Tryd.runUnderlying97, Tryd.sizeOf97, Tryd.isAgg97, Tryd.zeroValue97, Tryd.underlying111, Tryd.runUnderlying111, Tryd.sizeOf111, Tryd.isAgg111, Tryd.zeroValue111, Tryd.underlying113, Tryd.runUnderlying113, Tryd.sizeOf113, Tryd.isAgg113, Tryd.zeroValue113, Tryd.underlying0, Tryd.runUnderlying0, Tryd.sizeOf0, Tryd.isAgg0, Tryd.zeroValue0, Tryd.underlying3, Tryd.runUnderlying3, Tryd.sizeOf3, Tryd.isAgg3, Tryd.zeroValue3, Tryd.underlying4, Tryd.runUnderlying4, Tryd.sizeOf4, Tryd.isAgg4, Tryd.zeroValue4, Tryd.underlying9, Tryd.runUnderlying9, Tryd.sizeOf9, Tryd.isAgg9, Tryd.zeroValue9, Tryd.underlying20, Tryd.runUnderlying20, Tryd.sizeOf20, Tryd.isAgg20, Tryd.zeroValue20, Tryd.underlying21, Tryd.runUnderlying21, Tryd.sizeOf21, Tryd.isAgg21, Tryd.zeroValue21, (by kernel_rfl), (by kernel_rfl)⟩
end Go.Proofs
namespace Go.Proofs.YtbnaccilnilcmaaDoor
open Go.Conc Go.ConcX Go.RowKit Go.Conc.Lib Go.ConcX.Gen Go.Hx
/-- The payload's cells are ints. -/
instance : Payload := ⟨3⟩
end Go.Proofs.YtbnaccilnilcmaaDoor
/-
  Steps of a frame with deferred calls, at the model's own grain: a deferred close.
  No condition but those that each statement names.
-/
namespace Go.Hx
open Go.Conc

section
variable {P : Program} {main : Bool} {R : World → World → Prop} {D : World → World → Array Event → Prop} {Stop : Goroutine → World → Prop} {b : Frame} {a : Act} {k : List Item} {cs : List Frame} {w : World}

theorem goes_ctl (T : Terms R D) {g g' : Goroutine} {n : Nat} (hr : g.status = .running) (hs : ∀ w, stepG P main g w = .go g' w #[]) (h : Goes P main R D Stop n g' w) : Goes P main R D Stop (n + 1) g w :=
  Goes.step hr fun w₁ h₁ => by rw [hs w₁]; exact ⟨T.idle _, h.rely T.trans h₁⟩

/-- A deferred close. -/
def dclose (ats : Array TypeId) (ty : TypeId) (c : Nat) : Deferred := { target := .builtin .close ats ty #[false], args := #[.chan (some c)] }

theorem stepG_deferClose {ops : Array Oper} {i : Nat} {rest : List Nat} {o : Oper} {x : Tmp} {c : Nat} {ats : Array TypeId} (ho : ops[i]? = some o) (hw : Region.wanted o (yielded ops a.tmps) = true) (hk : b.kind ≠ .early)
    (hop : o.op = .defer { callee := .builtin .close, args := #[.tmp x], argTypes := ats }) (hx : a.eval (.tmp x) = .chan (some c)) :
    stepG P main (G (b.at a (.inRegion ops (i :: rest) :: k)) cs) w = .go (G (b.at (Act.put ⟨a.tmps, dclose ats o.type c :: a.defers⟩ o.dst undef) (.inRegion ops rest :: k)) cs) w #[] := by
  have hr : (execOp a.eval o).run P w = .ok (.defer (dclose ats o.type c)) w := by
    unfold execOp
    simp [hop, resolve, hx, dclose]
  have he : (execOp a.eval o).events P w #[] = #[] := by
    unfold execOp
    simp [hop, resolve]
  have hfin : (b.at ⟨a.tmps, dclose ats o.type c :: a.defers⟩ (.inRegion ops (i :: rest) :: k)).finish undef = b.at (Act.put ⟨a.tmps, dclose ats o.type c :: a.defers⟩ o.dst undef) (.inRegion ops rest :: k) := by rw [Frame.finish_at, ho]; rfl
  have hk' : (b.kind == CallKind.early) = false := by simpa using hk
  rw [stepG_oper ho hw, ← hfin]
  simp [stepG.apply, hr, he, G, Frame.at, hk', GStep.after, seen_none]

theorem stepG_unwindClose {ats : Array TypeId} {ty : TypeId} {ds : List Deferred} {todo : List Item} {c room s r : Nat} {buf : Array Value} {tm : Bool} (hd : a.defers = dclose ats ty c :: ds) (h : w.heap[c]? = some (.chan room buf false s r tm)) (hq : (P.funcs[b.fn]?).any (·.norace) = false) :
    stepG P main (G { b.at a todo with mode := .returning } cs) w = .go (G { b.at ⟨a.tmps, ds⟩ todo with mode := .returning } cs) (w.setChan c room buf true s r tm) (closeEvents c) := by
  have h1 := run_close_open (P := P) (w := w) ats ty h
  have h2 := events_close_open (P := P) (w := w) (es := #[]) ats ty h
  have hr : (invoke (.builtin .close ats ty #[false]) #[.chan (some c)]).run P w = .ok (.value (.tuple #[])) (w.setChan c room buf true s r tm) := by
    simp [invoke, go_sem, h1, World.setChan]
  have he : (invoke (.builtin .close ats ty #[false]) #[.chan (some c)]).events P w #[] = closeEvents c := by
    simp [invoke, go_sem, h1, h2, closeEvents]
  have hs : seen P b.fn (closeEvents c) = closeEvents c := by
    exact seen_eq hq (by intro e he f; simp only [closeEvents, List.mem_toArray, List.mem_cons, List.not_mem_nil, or_false] at he; rcases he with rfl | rfl <;> simp)
  simp [G, stepG, unwind, callDeferred, Frame.at, hd, dclose, hr, he, hs, GStep.after]
end
end Go.Hx
/-
  What the gatherer does to memory of its own: rows of events.
  No condition but those that each statement names.
-/
namespace Go.Hx
open Go.Conc

section
variable {p : Par} {E Dn : Nat} {w w₁ w' : World} {b : Nat} {cs : Array Value}

/-- A row of events of the gatherer's own. -/
def Fb (p : Par) (b : Nat) (cs : Array Value) (w : World) : Prop := p.N0 ≤ b ∧ w.heap[b]? = some (.cells cs p.ety (0, 0))

theorem Fb.fa (h : Fb p b cs w) : FA p w b := ⟨h.1, _, h.2, by simp [isEv]⟩
theorem Fb.lt (h : Fb p b cs w) : b < w.heap.size := (Array.getElem?_eq_some_iff.1 h.2).1
theorem Fb.rely (h : Fb p b cs w) (r : RA p w w₁) : Fb p b cs w₁ := ⟨h.1, (r.block b h.fa).trans h.2⟩
theorem Fb.cell (h : Fb p b cs w) {i : Nat} {v : Value} (hv : cs[i]? = some v) : w.cell? ⟨b, i, none⟩ = some v := by simp [World.cell?, h.2, hv]
theorem Fb.thaw (h : Fb p b cs w) (i : Nat) : w.frozen? ⟨b, i, none⟩ = false := by simp [World.frozen?, h.2]
theorem Fb.set (h : Fb p b cs w) (i : Nat) (v : Value) : Fb p b (cs.setIfInBounds i v) (w.setCell ⟨b, i, none⟩ v) := by
  refine ⟨h.1, ?_⟩
  have hlt := h.lt
  have h2 := h.2
  rw [Array.getElem?_eq_getElem hlt] at h2
  have h' := Option.some.inj h2
  simp [World.setCell, hlt, Array.getElem_modify, h']
theorem Fb.alloc (h : Fb p b cs w) (o : Obj) : Fb p b cs (w.alloc o) := ⟨h.1, (alloc_get w o (Nat.ne_of_lt h.lt)).trans h.2⟩
theorem Fb.new (hN : p.N0 ≤ w.heap.size) : Fb p w.heap.size cs (w.alloc (.cells cs p.ety)) := ⟨hN, alloc_new w _⟩
theorem Fb.setOther {b' : Nat} (h : Fb p b cs w) (hne : b' ≠ b) (i : Nat) (v : Value) : Fb p b cs (w.setCell ⟨b', i, none⟩ v) := ⟨h.1, by rw [setCell_get w _ v (Ne.symm hne)]; exact h.2⟩

theorem evA_cell (h : Fb p b cs w) {ad : Addr} (hb : ad.block = b) (wr sy : Bool) : EvA p w ⟨.cell ad, wr, sy⟩ := by
  refine ⟨fun x hx _ => .inl ⟨b, ?_, h.fa⟩, by simp, by simp⟩
  have hx' : x.loc = .cell ad := by cases sy <;> (simp [MemAct.ofEvent, MemAct.touch?] at hx; subst hx; rfl)
  rw [hx']; exact congrArg some hb
theorem evA_mark {m : Mark} (hm : Conc.Neutral m) : EvA p w ⟨.mark m, false, true⟩ :=
  ⟨fun x hx _ => by simp [MemAct.ofEvent, hm.touch] at hx, ⟨fun h => hm.ne_disable (by simpa using h), fun h => hm.ne_enable (by simpa using h)⟩, fun a h => by
    have hm' : m = .noRoom := hm
    subst hm'
    simp at h⟩

theorem dg_read {es : Array Event} (hes : ∀ e ∈ es, EvA p w e) : DG p E Dn w w es := ⟨RB.refl p E Dn w, rfl, rfl, hes⟩
theorem termsG (p : Par) (E Dn : Nat) : Terms (RA p) (DG p E Dn) := ⟨RA.trans, fun w => dg_read (by simp)⟩

theorem rb_alloc (hN : p.N0 ≤ w.heap.size) : RB p E Dn w (w.alloc (.cells cs p.ety)) := by
  refine ⟨rfl, rfl, rfl, ⟨by rw [alloc_size]; omega, fun x f => ?_, fun x hl hn f => hn ?_⟩, fun x hl _ _ _ => alloc_get w _ (Nat.ne_of_lt hl)⟩
  · obtain ⟨h1, o, ho, hi⟩ := f
    exact ⟨h1, o, by rw [alloc_get w _ (Nat.ne_of_lt (Array.getElem?_eq_some_iff.1 ho).1)]; exact ho, hi⟩
  · obtain ⟨h1, o, ho, hi⟩ := f
    exact ⟨h1, o, by rw [← alloc_get w _ (Nat.ne_of_lt hl)]; exact ho, hi⟩
theorem dg_alloc (hN : p.N0 ≤ w.heap.size) (hE : E < p.N0) (hD : Dn < p.N0) {es : Array Event} (hes : ∀ e ∈ es, False) : DG p E Dn w (w.alloc (.cells cs p.ety)) es :=
  ⟨rb_alloc hN, alloc_get w _ (by omega), alloc_get w _ (by omega), fun e he => (hes e he).elim⟩

/-- The one block turns, and stays a row of events. -/
theorem dg_turn {cs' : Array Value} (h : Fb p b cs w) (h' : Fb p b cs' w') (ht : w'.tape = w.tape) (ho : w'.os = w.os) (hu : w'.output = w.output) (hs : w'.heap.size = w.heap.size) (hb : ∀ x, x ≠ b → w'.heap[x]? = w.heap[x]?) (hE : E < p.N0) (hD : Dn < p.N0)
    {es : Array Event} (hes : ∀ e ∈ es, EvA p w' e) : DG p E Dn w w' es := by
  have hbN := h.1
  refine ⟨⟨ht, ho, hu, ⟨by omega, fun x f => ?_, fun x hl hn f => hn ?_⟩, fun x _ hn _ _ => hb x fun e => hn (e ▸ h.fa)⟩, hb E (by omega), hb Dn (by omega), hes⟩
  · by_cases e : x = b
    · subst e; exact h'.fa
    · obtain ⟨h1, o, ho, hi⟩ := f; exact ⟨h1, o, by rw [hb x e]; exact ho, hi⟩
  · by_cases e : x = b
    · subst e; exact h.fa
    · obtain ⟨h1, o, ho, hi⟩ := f; exact ⟨h1, o, by rw [← hb x e]; exact ho, hi⟩
theorem dg_set (h : Fb p b cs w) (hE : E < p.N0) (hD : Dn < p.N0) (i : Nat) (v : Value) {es : Array Event} (hes : ∀ e ∈ es, ∃ ad wr sy, e = ⟨.cell ad, wr, sy⟩ ∧ ad.block = b) : DG p E Dn w (w.setCell ⟨b, i, none⟩ v) es :=
  dg_turn h (h.set i v) rfl rfl rfl (by simp [World.setCell]) (fun x hx => setCell_get w _ v hx) hE hD fun e he => by
    obtain ⟨ad, wr, sy, rfl, hb⟩ := hes e he; exact evA_cell (h.set i v) hb wr sy
theorem dg_trans {es : Array Event} (h : DG p E Dn w w₁ #[]) (h' : DG p E Dn w₁ w' es) : DG p E Dn w w' es := ⟨RB.trans _ _ _ h.1 h'.1, h'.2.1.trans h.2.1, h'.2.2.1.trans h.2.2.1, h'.2.2.2⟩
/-- Four cells at once. -/
theorem dg_set4 (h : Fb p b cs w) (hE : E < p.N0) (hD : Dn < p.N0) (v0 v1 v2 v3 : Value) {es : Array Event} (hes : ∀ e ∈ es, ∃ ad wr sy, e = ⟨.cell ad, wr, sy⟩ ∧ ad.block = b) :
    DG p E Dn w ((((w.setCell ⟨b, 0, none⟩ v0).setCell ⟨b, 1, none⟩ v1).setCell ⟨b, 2, none⟩ v2).setCell ⟨b, 3, none⟩ v3) es :=
  dg_trans (dg_set h hE hD 0 v0 (by simp)) (dg_trans (dg_set (h.set 0 v0) hE hD 1 v1 (by simp)) (dg_trans (dg_set ((h.set 0 v0).set 1 v1) hE hD 2 v2 (by simp)) (dg_set (((h.set 0 v0).set 1 v1).set 2 v2) hE hD 3 v3 hes)))

/-- What has been told, as the gatherer holds it. -/
def Told (p : Par) (told : Value) (n : Nat) (xs : List Value) (w : World) : Prop := w.ownsRow p.N0 p.ety 4 told n xs

theorem Told.rely {told : Value} {n : Nat} {xs : List Value} (h : Told p told n xs w) (r : RA p w w₁) : Told p told n xs w₁ := by
  refine ⟨h.1, h.2.imp id ?_⟩
  rintro ⟨g, cap, cur, h1, h2, h3, h4⟩
  exact ⟨g, cap, cur, h1, h2, (r.block g (Fb.fa (p := p) ⟨h2, h3⟩)).trans h3, h4⟩
theorem Told.alloc {told : Value} {n : Nat} {xs : List Value} (h : Told p told n xs w) (o : Obj) : Told p told n xs (w.alloc o) := World.ownsRow.alloc h o

theorem dg_grown (hg : w.grownBy w' none) (hN : p.N0 ≤ w.heap.size) (hE : E < p.N0) (hD : Dn < p.N0) {es : Array Event} (hes : ∀ e ∈ es, EvA p w' e) : DG p E Dn w w' es :=
  ⟨⟨hg.tape, hg.os, hg.output, ⟨hg.size, fun b f => by obtain ⟨x, o, ho, hi⟩ := f; exact ⟨x, o, by rw [hg.block b (Array.getElem?_eq_some_iff.1 ho).1 (by simp)]; exact ho, hi⟩,
    fun b hl hn f => hn (by obtain ⟨x, o, ho, hi⟩ := f; exact ⟨x, o, by rw [← hg.block b hl (by simp)]; exact ho, hi⟩)⟩, fun b hl _ _ _ => hg.block b hl (by simp)⟩,
   hg.block E (by omega) (by simp), hg.block Dn (by omega) (by simp), hes⟩
theorem Fb.grown (h : Fb p b cs w) (hg : w.grownBy w' none) : Fb p b cs w' := ⟨h.1, (hg.block b h.lt (by simp)).trans h.2⟩

/-- One more is taken in. -/
theorem Told.app {P : Program} {t ty : TypeId} {i : TypeInfo} {z : Value} (ht : P.underlying t = some (.slice p.ety)) (hi : P.info? p.ety = some i) (hz : i.zero = some z) (hs : i.size = 4) (hb : i.bytes = 32) (hzs : z.cells.size = 4)
    (hE : E < p.N0) (hD : Dn < p.N0) (hN : p.N0 ≤ w.heap.size) {told : Value} {n : Nat} {xs : List Value} (h : Told p told n xs w) (hn : n < 10000) {nb : Nat} {v0 v1 v2 v3 : Value} (hnb : Fb p nb #[v0, v1, v2, v3] w) (h1 : ∀ u ∈ [v0, v1, v2, v3], u.oneCell' = true) :
    ∃ told' w', (Builtin.append_ #[t, t] ty #[told, .slice (some ⟨nb, 0, none⟩) 1 1]).run P w = .ok told' w' ∧ Told p told' (n + 1) (xs ++ [v0, v1, v2, v3]) w' ∧ p.N0 ≤ w'.heap.size ∧
      ∀ es : Array Event, (∀ e ∈ es, e ∈ (Builtin.append_ #[t, t] ty #[told, .slice (some ⟨nb, 0, none⟩) 1 1]).events P w #[]) → DG p E Dn w w' es := by
  have hnews : ∀ (j : Nat) (u : Value), [v0, v1, v2, v3][j]? = some u → w.cell? ((⟨nb, 0, none⟩ : Addr).add j) = some u := by
    intro j u hu
    have e : (⟨nb, 0, none⟩ : Addr).add j = ⟨nb, j, none⟩ := by unfold Addr.add; split <;> simp_all
    rw [e]
    exact hnb.cell (by simpa using hu)
  have hev := events_append_where (P := P) w p.N0 t ty p.ety i z 4 32 ht hi hz hs hb told n xs h ⟨nb, 0, none⟩ 1 1 [v0, v1, v2, v3] (by simp) hnews h1 (by simp [maxLen]; omega) (by omega)
  rcases h.2 with ⟨rfl, rfl⟩ | ⟨g, cap, cur, rfl, hbg, hgc, hnc, hcm, hcs, htake⟩
  · obtain ⟨v', w', hr, hown, hg, _⟩ := run_append_own (P := P) w p.N0 t ty p.ety i z 4 32 ht hi hz hs hb hzs (by decide) (.slice none 0 0) 0 xs h ⟨nb, 0, none⟩ 1 1 [v0, v1, v2, v3] (by simp) hnews h1 (by simp [maxLen]) (by decide) hN
    have hg' : w.grownBy w' none := hg
    refine ⟨v', w', hr, hown, Nat.le_trans hN hg'.size, fun es hes => dg_grown hg' hN hE hD fun e he => ?_⟩
    rcases hev e (hes e he) with ⟨ad, h2, h3⟩ | ⟨m, rfl, hm⟩
    · rcases h3 with ⟨_, hb⟩ | h3
      · obtain ⟨l, wr, sy⟩ := e
        simp only at h2
        subst h2
        exact evA_cell (hnb.grown hg') hb _ _
      · simp [Value.ownBlock] at h3
    · exact evA_mark hm
  · have hFg : Fb p g cur w := ⟨hbg, hgc⟩
    by_cases hroom : n + 1 ≤ cap
    · have hr := run_append_room (P := P) w t ty p.ety i ht hi g n cap cur hgc ⟨nb, 0, none⟩ 1 1 [v0, v1, v2, v3] (by simp [hs]) hnews h1 hroom (by rw [hs, hcs]; simp; omega)
      have hF' : Fb p g (cur.toList.take (n * i.size) ++ [v0, v1, v2, v3] ++ cur.toList.drop (n * i.size + [v0, v1, v2, v3].length)).toArray (w.setRow g (cur.toList.take (n * i.size) ++ [v0, v1, v2, v3] ++ cur.toList.drop (n * i.size + [v0, v1, v2, v3].length)).toArray) :=
        ⟨hbg, setRow_heap w g cur _ p.ety (0, 0) hgc⟩
      refine ⟨_, _, hr, ⟨by rw [List.length_append, h.1]; simp; omega, .inr ⟨g, cap, _, rfl, hbg, hF'.2, hroom, hcm, ?_, ?_⟩⟩, by rw [size_setRow]; exact hN, fun es hes => dg_turn hFg hF' rfl rfl rfl (by simp) (fun x hx => setRow_other w g x _ hx) hE hD fun e he => ?_⟩
      · simp [hs, hcs]; omega
      · rw [hs, List.append_assoc, htake, ← List.append_assoc]
        have e1 : (xs ++ [v0, v1, v2, v3]).length = (n + 1) * 4 := by rw [List.length_append, h.1]; simp; omega
        have e2 : ∀ (l r : List Value) (k : Nat), l.length = k → (l ++ r).take k = l := fun l r k hk => by subst hk; simp
        exact e2 _ _ _ e1
      · rcases hev e (hes e he) with ⟨ad, h2, h3⟩ | ⟨m, rfl, hm⟩
        · obtain ⟨l, wr, sy⟩ := e
          simp only at h2
          subst h2
          rcases h3 with ⟨_, hb⟩ | h3
          · by_cases hq : nb = g
            · exact evA_cell hF' (hb.trans hq) _ _
            · exact evA_cell (p := p) (b := nb) (cs := #[v0, v1, v2, v3]) ⟨hnb.1, by rw [setRow_other w g nb _ hq]; exact hnb.2⟩ hb _ _
          · exact evA_cell hF' (by simpa [Value.ownBlock] using h3) _ _
        · exact evA_mark hm
    · have holds : ∀ (j : Nat) (u : Value), xs[j]? = some u → w.cell? ((⟨g, 0, none⟩ : Addr).add j) = some u := World.ownsRow.cells (e := p.ety) (size := 4) (base := p.N0) h (g := g) rfl
      obtain ⟨v', w', hr, hown, hg⟩ := run_append_arg_grows (P := P) w t ty p.ety i z 4 32 ht hi hz hs hb hzs (by decide) ⟨g, 0, none⟩ n cap xs h.1 holds ⟨nb, 0, none⟩ 1 1 [v0, v1, v2, v3] (by simp) hnews (by omega) (by simp [maxLen]; omega) (by omega)
      refine ⟨v', w', hr, ?_, Nat.le_trans hN hg.size, fun es hes => dg_grown hg hN hE hD fun e he => ?_⟩
      · refine ⟨hown.1, hown.2.imp id ?_⟩
        rintro ⟨g', cap', cur', h1, h2, h3⟩
        exact ⟨g', cap', cur', h1, Nat.le_trans hN h2, h3⟩
      · rcases hev e (hes e he) with ⟨ad, h2, h3⟩ | ⟨m, rfl, hm⟩
        · obtain ⟨l, wr, sy⟩ := e
          simp only at h2
          subst h2
          rcases h3 with ⟨_, hb⟩ | h3
          · exact evA_cell (hnb.grown hg) hb _ _
          · exact evA_cell (hFg.grown hg) (by simpa [Value.ownBlock] using h3) _ _
        · exact evA_mark hm
end
end Go.Hx
/-
  The gatherer's walk: from word to word while the worker tells, and behind the close to Wait; the rule of a select.
  No condition but those that each statement names.
-/
namespace Go.Hx
open Go.Conc Go.RowKit
open Go.ConcX

section
variable [Payload] (P : Program) (ty : TypeId) (Wg C Low : Nat) [Shy Wg C] (vals : List Value) (Mine : Loc → Prop) (AnchW : Goroutine → World → Prop) (p : Par) (E Dn : Nat) (zE zD : Value) (PostB : World → Prop)

theorem rpa_trans : ∀ a b c : World, RPa ty Wg C vals a b → RPa ty Wg C vals b c → RPa ty Wg C vals a c := fun _ _ _ h k =>
  ⟨⟨k.aside.tape.trans h.aside.tape, k.aside.os.trans h.aside.os, k.aside.output.trans h.aside.output, k.aside.size.trans h.aside.size, fun x h1 h2 => (k.aside.block x h1 h2).trans (h.aside.block x h1 h2)⟩, fun x => k.ka (h.ka x), fun x => k.kc (h.kc x)⟩
theorem termsP : Terms (RPa ty Wg C vals) (DPi Mine Wg C Low) := ⟨rpa_trans ty Wg C vals, fun w => ⟨fun _ _ => rfl, by simp⟩⟩

/-- By the words that are still to be heard; behind the close: none. -/
def gF : Fam (Option (List Value)) where
  R := fun s => match s with | some _ => RA p | none => RPa ty Wg C vals
  D := fun s => match s with | some _ => DG p E Dn | none => DPi Mine Wg C Low
  Stop := fun s => match s with | some vs => StopG P p E Dn zE zD PostB (FinW P ty Wg C Low vals Mine AnchW) vs | none => AtKd P ty Wg C Low vals Mine AnchW
  terms := fun s => match s with | some _ => termsG p E Dn | none => termsP ty Wg C Low vals Mine
end

section
variable [Payload] {P : Program} {ty : TypeId} {Wg C Low : Nat} [Shy Wg C] {vals : List Value} {Mine : Loc → Prop} {AnchW : Goroutine → World → Prop} {p : Par} {E Dn : Nat} {zE zD : Value} {PostB : World → Prop} {fn : FuncId} {Q : Option (List Value) → Exit → Act → World → Prop} {a : Act} {w : World}

/-- A word is heard. -/
theorem opsX_sel {ops : Array Oper} {i : Nat} {rest : List Nat} {o : Oper} {n : Nat} {v : Value} {vs : List Value} (ho : ops[i]? = some o) (hw : Region.wanted o (yielded ops a.tmps) = true)
    (hrun : ∀ w₁, RA p w w₁ → (execOp a.eval o).run P w₁ = .ok (.comm (selCases E Dn zE zD) true .select) w₁ ∧ ∀ e ∈ listed P fn a o w₁, EvA p w₁ e)
    (hnext : ∀ w₂, RA p w w₂ → OpsX (gF P ty Wg C Low vals Mine AnchW p E Dn zE zD PostB) P true fn ops rest n (some vs) Q (a.put o.dst (commResult (selCases E Dn zE zD) .select 0 v true)) w₂) :
    OpsX (gF P ty Wg C Low vals Mine AnchW p E Dn zE zD PostB) P true fn ops (i :: rest) 0 (some (v :: vs)) Q a w := by
  intro b k cs m hb hk hc
  refine Goes.stop fun w₁ h₁ => ?_
  obtain ⟨hr, hev⟩ := hrun w₁ h₁
  refine (show AtSel P p E Dn zE zD (fun g₂ w₂ => Gathers P p E Dn zE zD PostB (FinW P ty Wg C Low vals Mine AnchW) vs (Conc.served g₂ (commResult (selCases E Dn zE zD) .select 0 v true)) w₂) _ w₁ from ⟨rfl, _, stepG_comm ho hw hk hr, by rw [hb]; exact hev, fun w₂ h₂ => ?_⟩)
  show Gathers P p E Dn zE zD PostB (FinW P ty Wg C Low vals Mine AnchW) vs (Conc.served (core (G (b.at a (.inRegion ops (i :: rest) :: k)) cs)) _) w₂
  rw [core_G, served_G, ho]
  exact (gathers_iff _ _ _ _ _ _ _ _ _ _ _).2 ⟨_, hnext w₂ (RA.trans _ _ _ h₁ h₂) b k cs m hb hk hc⟩

/-- The close is heard. -/
theorem opsX_sel0 {ops : Array Oper} {i : Nat} {rest : List Nat} {o : Oper} {n : Nat} (ho : ops[i]? = some o) (hw : Region.wanted o (yielded ops a.tmps) = true)
    (hrun : ∀ w₁, RA p w w₁ → (execOp a.eval o).run P w₁ = .ok (.comm (selCases E Dn zE zD) true .select) w₁ ∧ ∀ e ∈ listed P fn a o w₁, EvA p w₁ e)
    (hnext : ∀ w₂, RA p w w₂ → PostB w₂ → KPa ty Wg C vals w₂ → OpsX (gF P ty Wg C Low vals Mine AnchW p E Dn zE zD PostB) P true fn ops rest n none Q (a.put o.dst (commResult (selCases E Dn zE zD) .select 1 zD false)) w₂) :
    OpsX (gF P ty Wg C Low vals Mine AnchW p E Dn zE zD PostB) P true fn ops (i :: rest) 0 (some []) Q a w := by
  intro b k cs m hb hk hc
  refine Goes.stop fun w₁ h₁ => ?_
  obtain ⟨hr, hev⟩ := hrun w₁ h₁
  refine (show AtSel P p E Dn zE zD (fun g₂ w₂ => PostB w₂ → FinW P ty Wg C Low vals Mine AnchW (Conc.served g₂ (commResult (selCases E Dn zE zD) .select 1 zD false)) w₂) _ w₁ from ⟨rfl, _, stepG_comm ho hw hk hr, by rw [hb]; exact hev, fun w₂ h₂ hp hka => ?_⟩)
  show ∃ m, Goes P true (RPa ty Wg C vals) (DPi Mine Wg C Low) (AtKd P ty Wg C Low vals Mine AnchW) m (Conc.served (core (G (b.at a (.inRegion ops (i :: rest) :: k)) cs)) _) w₂
  rw [core_G, served_G, ho]
  exact ⟨_, hnext w₂ (RA.trans _ _ _ h₁ h₂) hp hka b k cs m hb hk hc⟩
end
end Go.Hx
