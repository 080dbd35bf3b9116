/-
  The worker's walk from word to word; the rule of a send.
  No condition but those that each statement names.
-/
import Derived.Test.YtbnaccilnilcmaaDoorHx09
import Derived.Test.YtbnaccilnilcmaaDoorHx07
import Derived.Test.YtbnaccilnilcmaaDoorHx08
import Derived.Laws.Slices
import Derived.Conc.AppendWalk
import Derived.Laws.AppendOwn
set_option linter.unusedVariables false
set_option linter.unusedSimpArgs false
set_option linter.unusedSectionVars false
namespace Go.Hx
open Go.Conc Go.RowKit

section
variable (P : Program) (p : Par) (Sh : Loc → Prop) (E Dn : Nat) (PostB : World → Prop) (Aft : Goroutine → World → Prop)
/-- By the words that are still to be told. -/
def tellF : Fam (List Value) := ⟨fun _ => RB p E Dn, fun _ => DT p Sh E Dn, StopT P p Sh E Dn PostB Aft, fun _ => termsT p Sh E Dn⟩
end

section
variable {P : Program} {p : Par} {Sh : Loc → Prop} {E Dn : Nat} {PostB : World → Prop} {Aft : Goroutine → World → Prop} {fn : FuncId} {Q : List Value → Exit → Act → World → Prop} {a : Act} {w : World}

/-- A word is told. -/
theorem opsX_tell {ops : Array Oper} {i : Nat} {rest : List Nat} {o : Oper} {n : Nat} {v z' : Value} {vs : List Value} (ho : ops[i]? = some o) (hw : Region.wanted o (yielded ops a.tmps) = true)
    (hrun : ∀ w₁, RB p E Dn w w₁ → (execOp a.eval o).run P w₁ = .ok (.comm #[scase E v z'] true .send) w₁ ∧ ∀ e ∈ listed P fn a o w₁, EvB p Sh w₁ e)
    (hnext : ∀ w₂, RB p E Dn w w₂ → OpsX (tellF P p Sh E Dn PostB Aft) P false fn ops rest n vs Q (a.put o.dst undef) w₂) :
    OpsX (tellF P p Sh E Dn PostB Aft) P false fn ops (i :: rest) 0 (v :: vs) Q a w := by
  intro b k cs m hb hk hc
  refine Goes.stop fun w₁ h₁ => ?_
  obtain ⟨hr, hev⟩ := hrun w₁ h₁
  refine (show AtTell P p Sh E Dn v (fun g₂ w₂ => Tells P p Sh E Dn PostB Aft vs (Conc.served g₂ undef) w₂) _ w₁ from ⟨rfl, _, z', stepG_comm ho hw hk hr, by rw [hb]; exact hev, fun w₂ h₂ => ?_⟩)
  show Tells P p Sh E Dn PostB Aft vs (Conc.served (core (G (b.at a (.inRegion ops (i :: rest) :: k)) cs)) undef) w₂
  rw [core_G, served_G, ho]
  exact (tells_iff _ _ _ _ _ _ _ _ _ _).2 ⟨_, hnext w₂ (RB.trans _ _ _ h₁ h₂) b k cs m hb hk hc⟩
end
end Go.Hx
/-
  A program whose goroutine 0 makes so many calls that start a worker, gather what it tells and join it, one after the other: the stops of its walk; on whatever tape the run ends by its return, and all is well.
  No condition but those that each statement names.
-/
namespace Go.Hx
open Go.Conc Go.ConcX
open Go.ConcN (sumTo upd sumTo_upd upd_ne upd_same)

/-- The places of the elder groups. -/
def Shs : List Nat → Loc → Prop
  | [] => fun _ => False
  | N :: s => ShR (Shs s) N

def D0 (Sh : Loc → Prop) : World → World → Array Event → Prop := fun _ _ es => ∀ e ∈ es, EvP Sh e
theorem terms0 (Sh : Loc → Prop) : Terms AtRel (D0 Sh) := ⟨atRel_trans, fun _ => by simp [D0]⟩
def Mine0 : Loc → Prop := fun _ => False

theorem goes_turn {P : Program} {main : Bool} {R : World → World → Prop} {D D' : World → World → Array Event → Prop} {Stop Stop' : Goroutine → World → Prop} (hD : ∀ w w' es, D w w' es → D' w w' es) (hS : ∀ g w, Stop g w → Stop' g w) :
    ∀ (n : Nat) (g : Goroutine) (w : World), Goes P main R D Stop n g w → Goes P main R D' Stop' n g w
  | 0, _, _, h => fun w₁ hr => hS _ _ (h w₁ hr)
  | n + 1, g, w, h => by
    rcases h with h | ⟨hr, h⟩
    · exact .inl fun w₁ h₁ => hS _ _ (h w₁ h₁)
    · refine .inr ⟨hr, fun w₁ h₁ => ?_⟩
      have := h w₁ h₁
      revert this
      cases stepG P main g w₁ with
      | go g' w' es => exact fun ⟨x, y⟩ => ⟨hD _ _ _ x, goes_turn hD hS n g' w' y⟩
      | _ => exact id

section
variable [Payload] (P : Program)
/-- Goroutine 0 inside the group's Add, ahead of the go statement. -/
def RunAt (N : Nat) (s : List Nat) (Next : Goroutine → World → Prop) (g : Goroutine) (w : World) : Prop :=
  letI := shyW (N + 6) (N + 1) Next
  Elder (Shs s) N ∧ ∃ (vals : List Value) (AnchW : Goroutine → World → Prop) (Post : Value → World → Prop) (PostB : World → Prop) (zE zD : Value),
    (∀ w w₁, RB (pR N) (N + 2) (N + 4) w w₁ → PostB w → PostB w₁) ∧ (∀ w w₁, Aside2 (N + 1) (N + 6) w w₁ → PostB w → PostB w₁) ∧ (∀ w, PostB w → N + 7 ≤ w.heap.size) ∧
    (∀ g w, AnchW g w → g.status = .running) ∧ (∀ g w, AnchW g w → ∃ m, Goes P true (RPa 66 (N + 6) (N + 1) vals) (DPi Mine0 (N + 6) (N + 1) (N + 7)) (AtW1 P 66 (N + 6) (N + 1) (N + 7) vals Mine0 AnchW Post) m g w) ∧
    AtMkS P .disable (fun a w => ∃ n, Goes P true AtRel (DE (EvS (N + 6) (N + 1))) (AtMkS P .enable fun a w => ∃ n, Goes P true AtRel (DE (EvS (N + 6) (N + 1))) (AtFork P (Shs s) (Both P 66 (N + 6) (N + 1) (N + 7) vals Mine0 AnchW (pR N) (ShR (Shs s) N) (N + 2) (N + 4) zE zD PostB)) n a w) n a w) g w

/-- Where its walk is to come, so many calls ahead of the end. -/
def StopQ (Post : Value → World → Prop) : Nat → List Nat → Goroutine → World → Prop
  | 0, s => AtEnd0 P (Shs s) Post
  | n + 1, s => fun g w => ∃ N, RunAt P N s (fun g' w' => ∃ m, Goes P true AtRel (D0 (Shs (N :: s))) (StopQ Post n (N :: s)) m g' w') g w

/-- By the calls still to come, and the elder groups. -/
def F0 (Post : Value → World → Prop) : Fam (Nat × List Nat) := ⟨fun _ => AtRel, fun s => D0 (Shs s.2), fun s => StopQ P Post s.1 s.2, fun s => terms0 _⟩
end

section
variable [Payload] {P : Program}

omit [Payload] in
theorem mark_step {Sh : Loc → Prop} {d₀ : Nat} {m : Mark} (hm : m = .disable ∨ m = .enable) {gs' : Array Goroutine} {a' g' : Goroutine} {w' : World} {sl' sl'' : Option (Nat × Nat)} {t' : Trace} {q' : Nat → Nat} {d : Nat}
    (h0' : gs'[0]? = some a') (hL' : Leavers P t' gs' q') (hP' : Past0 Sh t' d₀) (hgo : stepG P true a' (w'.at d) = .go g' (w'.at d) #[mk m]) (hst : stepT P (crowd gs' w' sl') = runT P (crowd gs' (w'.at d) sl'') 0) :
    ∃ (gs'' : Array Goroutine) (t'' : Trace), runNT P 1 (crowd gs' w' sl') t' = (.next (crowd gs'' (w'.at d) sl''), t'') ∧ gs''.size = gs'.size ∧ gs''[0]? = some g' ∧ Leavers P t'' gs'' q' ∧ Past0 Sh t'' (deafBehind d₀ #[mk m]) := by
  have hpos : 0 < gs'.size := (Array.getElem?_eq_some_iff.1 h0').1
  have hrunT := runT_crowd_go (P := P) (sl := sl'') (i := 0) h0' (show stepG P (0 == 0) a' (w'.at d) = _ from hgo)
  refine ⟨(gs'.map (Go.Conc.woken P a' g' (w'.at d))).setIfInBounds 0 g', _, ?_, by simp, by simp [hpos], ⟨fun j x hj hx => ?_, fun j hj => ?_⟩, hP'.word a'.frame.fn a'.frame.place hm⟩
  · simp only [runNT, hst, hrunT]
  · rw [Array.getElem?_setIfInBounds_ne (by omega), Array.getElem?_map] at hx
    obtain ⟨y, hy, rfl⟩ := Option.map_eq_some_iff.1 hx
    have hq := hL'.old j y hj hy
    rw [woken_quitsD hq, Deaf_other t' (g' := 0) (by omega) _ g_ofEvents]
    exact hq
  · have hj' : gs'.size ≤ j := by simpa using hj
    rw [Deaf_other t' (g' := 0) (by omega) _ g_ofEvents]
    exact hL'.above j hj'

/-- One call. -/
theorem run_leg {s : List Nat} {Next : Nat → Goroutine → World → Prop} {gs : Array Goroutine} {a : Goroutine} {w : World} {sl : Option (Nat × Nat)} {t : Trace} {q : Nat → Nat} {m : Nat}
    (h0 : gs[0]? = some a) (hL : Leavers P t gs q) (hP : Past0 (Shs s) t) (hG : Goes P true AtRel (D0 (Shs s)) (fun g w => ∃ N, RunAt P N s (Next N) g w) m a w) :
    ∃ (N : Nat) (k : Nat) (gs' : Array Goroutine) (a' : Goroutine) (w' : World) (sl' : Option (Nat × Nat)) (t' : Trace) (q' : Nat → Nat),
      runNT P k (crowd gs w sl) t = (.next (crowd gs' w' sl'), t') ∧ gs'[0]? = some a' ∧ Leavers P t' gs' q' ∧ Past0 (Shs (N :: s)) t' ∧ ∃ d, Next N a' (w'.at d) := by
  obtain ⟨k1, gs1, a1, w1, sl1, t1, q1, d, sl1', r1, hsz1, h01, hL1, hP1, ⟨N, hE, vals, AnchW, Post, PostB, zE, zD, x1, x2, x3, x4, x5, ⟨_, g', hgo, n2, hG2⟩⟩, hst1⟩ := walk0 (fun g w h => by obtain ⟨_, _, _, _, _, _, _, _, _, _, _, _, _, h⟩ := h; exact h.1) (fun _ _ _ h => h) _ m gs a w sl t q rfl h0 hL hP hG
  letI := shyW (N + 6) (N + 1) (Next N)
  obtain ⟨gs2, t2, r2, hsz2, h02, hL2, hP2⟩ := mark_step (.inl rfl) h01 hL1 hP1 hgo hst1
  obtain ⟨k3, gs3, a3, w3, sl3, t3, q3, r3, hsz3, h03, hL3, hP3, n3, hG3⟩ := leg0 (sl := sl1') (.inr rfl) (okRS hE (Next N)) h02 hL2 hP2 hG2
  have hP3' : Past0 (Shs s) t3 := by
    have e : deafBehind (deafBehind 0 #[mk .disable]) #[mk .enable] = 0 := by rfl
    rw [e] at hP3
    exact hP3
  obtain ⟨k4, gs4, a4, w4, sl4, t4, q4, r4, hsz4, h04, _, hS, hL4, hP4⟩ := phase0 (Wg := N + 6) (C := N + 1) (Low := N + 7) (Mine := Mine0) (p := pR N) (Sh' := ShR (Shs s) N) (E := N + 2) (Dn := N + 4) (sl := sl3) (Post := Post)
    (fun l h => .inl h) (fixR hE Mine0 (Next N)) (by omega) (by omega) (by omega) (show N + 4 < N + 7 by omega) (fun l hl e => by
      subst e
      rcases hl with s' | ⟨a, e, _⟩
      · obtain ⟨b, h1, h2⟩ := hE _ s'
        simp only [blk, Option.some.injEq] at h1
        omega
      · cases e) (okR1 hE Mine0 (Next N)) (okRJ hE Mine0 (Next N)) x1 x2 x3 x4 x5 (okRS hE (Next N)) h03 hL3 hP3' hG3
  refine ⟨N, k1 + (1 + (k3 + k4)), gs4, a4, w4, sl4, t4, q4, ?_, h04, hL4, hP4, hS⟩
  rw [runNT_add, r1]
  simp only []
  rw [runNT_add, r2]
  simp only []
  rw [runNT_add, r3]
  exact r4

/-- All of them, and the return. -/
theorem all_runs {Post : Value → World → Prop} : ∀ (n : Nat) (s : List Nat) (gs : Array Goroutine) (a : Goroutine) (w : World) (sl : Option (Nat × Nat)) (t : Trace) (q : Nat → Nat) (m : Nat),
    gs[0]? = some a → Leavers P t gs q → Past0 (Shs s) t → Goes P true AtRel (D0 (Shs s)) (StopQ P Post n s) m a w →
    ∃ k last o w' t', runNT P (k + 1) (crowd gs w sl) t = (.ended o w', t') ∧ runN P k (crowd gs w sl) = .next last ∧ step P last = .ended o w' ∧ Good P Post last o w' t'
  | 0, s, gs, a, w, sl, t, q, m, h0, hL, hP, hG => ends0 (fun _ _ _ h => h) h0 hL hP hG
  | n + 1, s, gs, a, w, sl, t, q, m, h0, hL, hP, hG => by
    obtain ⟨N, k1, gs1, a1, w1, sl1, t1, q1, r1, h01, hL1, hP1, d, m1, hG1⟩ := run_leg (sl := sl) h0 hL hP hG
    obtain ⟨k2, last, o, w', t', r2, r3, r4, r5⟩ := all_runs n (N :: s) gs1 a1 w1 sl1 t1 q1 m1 h01 hL1 hP1 (Goes.rely atRel_trans hG1 ⟨w1.drawn, rfl⟩)
    refine ⟨k1 + k2, last, o, w', t', ?_, ?_, r4, r5⟩
    · rw [Nat.add_assoc, runNT_add, r1]
      exact r2
    · rw [← runNT_fst P _ _ t, runNT_add, r1]
      simp only []
      rw [runNT_fst]
      exact r3
end
#print axioms all_runs
end Go.Hx
/-
  Memory as a stack of new objects above what was there; what goroutine 0 may list.
  No condition but those that each statement names.
-/
namespace Go.Hx
open Go.Conc

/-- W, and these objects above. -/
structure New (W : World) (os : List Obj) (w : World) : Prop where
  tape : w.tape = W.tape
  os' : w.os = W.os
  output : w.output = W.output
  heap : w.heap = W.heap ++ os.toArray

section
variable {W w w₁ : World} {os : List Obj}
theorem New.refl (W : World) : New W [] W := ⟨rfl, rfl, rfl, by simp⟩
theorem New.rely (h : New W os w) (r : AtRel w w₁) : New W os w₁ := by obtain ⟨d, rfl⟩ := r; exact ⟨h.tape, h.os', h.output, h.heap⟩
theorem New.alloc (h : New W os w) (o : Obj) : New W (os ++ [o]) (w.alloc o) := ⟨h.tape, h.os', h.output, by
  show w.heap.push o = _
  rw [h.heap]
  apply Array.ext'
  simp⟩
theorem New.size (h : New W os w) : w.heap.size = W.heap.size + os.length := by simp [h.heap]
theorem New.get (h : New W os w) {i : Nat} {o : Obj} (ho : os[i]? = some o) : w.heap[W.heap.size + i]? = some o := by
  rw [h.heap, Array.getElem?_append_right (by omega)]
  simpa using ho
theorem New.old (h : New W os w) {b : Nat} (hb : b < W.heap.size) : w.heap[b]? = W.heap[b]? := by rw [h.heap, Array.getElem?_append_left hb]
theorem New.cell (h : New W os w) {i : Nat} {cs : Array Value} {ty : TypeId} (ho : os[i]? = some (.cells cs ty (0, 0))) {j : Nat} {v : Value} (hv : cs[j]? = some v) : w.cell? ⟨W.heap.size + i, j, none⟩ = some v := by
  simp [World.cell?, h.get ho, hv]
theorem New.thaw (h : New W os w) {i : Nat} {cs : Array Value} {ty : TypeId} (ho : os[i]? = some (.cells cs ty (0, 0))) (j : Nat) : w.frozen? ⟨W.heap.size + i, j, none⟩ = false := by
  simp [World.frozen?, h.get ho]
theorem New.set (h : New W os w) {i : Nat} {cs : Array Value} {ty : TypeId} (ho : os[i]? = some (.cells cs ty (0, 0))) (j : Nat) (v : Value) : New W (os.set i (.cells (cs.setIfInBounds j v) ty (0, 0))) (w.setCell ⟨W.heap.size + i, j, none⟩ v) := by
  refine ⟨h.tape, h.os', h.output, ?_⟩
  have hlt : i < os.length := (List.getElem?_eq_some_iff.1 ho).1
  have hgi : os[i] = .cells cs ty (0, 0) := (List.getElem?_eq_some_iff.1 ho).2
  apply Array.ext_getElem?
  intro x
  by_cases hx : x = W.heap.size + i
  · subst hx
    have hg := h.get ho
    have hsz : W.heap.size + i < w.heap.size := (Array.getElem?_eq_some_iff.1 hg).1
    have hg2 : w.heap[W.heap.size + i] = .cells cs ty (0, 0) := (Array.getElem?_eq_some_iff.1 hg).2
    rw [Array.getElem?_append_right (by omega)]
    simp [World.setCell, hsz, Array.getElem_modify, hg2, hlt]
  · rw [setCell_get w _ v hx, h.heap]
    rcases Nat.lt_or_ge x W.heap.size with hl | hl
    · rw [Array.getElem?_append_left hl, Array.getElem?_append_left hl]
    · rw [Array.getElem?_append_right hl, Array.getElem?_append_right hl]
      have : i ≠ x - W.heap.size := by omega
      simp [List.getElem?_set_ne this]

/-! ### what goroutine 0 may list -/
variable {Sh : Loc → Prop}
theorem evP_cell {ad : Addr} (wr sy : Bool) (h : ¬ Sh (.cell ad)) : EvP Sh ⟨.cell ad, wr, sy⟩ :=
  ⟨fun x hx hs => by
    have hx' : x.loc = .cell ad := by cases sy <;> (simp [MemAct.ofEvent, MemAct.touch?] at hx; subst hx; rfl)
    rw [hx'] at hs
    exact absurd hs h, by simp, by simp⟩
theorem evP_mark {m : Mark} (hm : Conc.Neutral m) : EvP Sh ⟨.mark m, false, true⟩ :=
  ⟨fun x hx => by simp [MemAct.ofEvent, hm.touch] at hx, fun h => hm.ne_disable (by simpa using h), fun h => hm.ne_enable (by simpa using h)⟩
theorem d0_of [Go.ConcX.Payload] {P : Program} {Fin : Value → World → Prop} {s : Nat × List Nat} {es : Array Event} (h : ∀ e ∈ es, EvP (Shs s.2) e) : (F0 P Fin).D s w w₁ es := h
theorem d0_none {es : Array Event} (h : ∀ e ∈ es, False) : D0 Sh w w₁ es := fun e he => (h e he).elim
end
end Go.Hx
/-
  Slices of a slice: what they yield and that they list nothing.
  No condition but those that each statement names.
-/
namespace Go.Hx
open Go.Conc

section
variable {P : Program} {w : World} {es : Array Event} {t e : TypeId} {x : Option Addr} {len cap z : Nat}

theorem sl_lhm (ht : P.underlying t = some (.slice e)) (hs : (sizeOf e).run P w = .ok z w) (l h m : Nat) (h1 : l ≤ h) (h2 : h ≤ m) (h3 : m ≤ cap) :
    (Instr.sliceAt t (.slice x len cap) (some (.int .i64 l)) (some (.int .i64 h)) (some (.int .i64 m))).run P w = .ok (sliced x l h m z) w ∧
    (Instr.sliceAt t (.slice x len cap) (some (.int .i64 l)) (some (.int .i64 h)) (some (.int .i64 m))).events P w es = es := by
  have a1 : (l : Int) ≤ h := by omega
  have a2 : (h : Int) ≤ m := by omega
  have a3 : (m : Int) ≤ cap := by omega
  constructor <;> simp [Instr.sliceAt, Instr.slice, run_underlying ht, Instr.sliceBounds, Instr.sliceBound, asIntOf, hs, sliced, h1, h2, h3]
theorem sl_h (ht : P.underlying t = some (.slice e)) (hs : (sizeOf e).run P w = .ok z w) (h : Nat) (h3 : h ≤ cap) :
    (Instr.sliceAt t (.slice x len cap) none (some (.int .i64 h)) none).run P w = .ok (sliced x 0 h cap z) w ∧
    (Instr.sliceAt t (.slice x len cap) none (some (.int .i64 h)) none).events P w es = es := by
  constructor <;> simp [Instr.sliceAt, Instr.slice, run_underlying ht, Instr.sliceBounds, Instr.sliceBound, asIntOf, hs, sliced, h3]
theorem sl_l (ht : P.underlying t = some (.slice e)) (hs : (sizeOf e).run P w = .ok z w) (l : Nat) (h3 : l ≤ len) :
    (Instr.sliceAt t (.slice x len cap) (some (.int .i64 l)) none none).run P w = .ok (sliced x l len cap z) w ∧
    (Instr.sliceAt t (.slice x len cap) (some (.int .i64 l)) none none).events P w es = es := by
  constructor <;> simp [Instr.sliceAt, Instr.slice, run_underlying ht, Instr.sliceBounds, Instr.sliceBound, asIntOf, hs, sliced, h3]
theorem sl_lh (ht : P.underlying t = some (.slice e)) (hs : (sizeOf e).run P w = .ok z w) (l h : Nat) (h1 : l ≤ h) (h3 : h ≤ cap) :
    (Instr.sliceAt t (.slice x len cap) (some (.int .i64 l)) (some (.int .i64 h)) none).run P w = .ok (sliced x l h cap z) w ∧
    (Instr.sliceAt t (.slice x len cap) (some (.int .i64 l)) (some (.int .i64 h)) none).events P w es = es := by
  constructor <;> simp [Instr.sliceAt, Instr.slice, run_underlying ht, Instr.sliceBounds, Instr.sliceBound, asIntOf, hs, sliced, h1, h3]

/-- Nothing is appended. -/
theorem app0 {ty : TypeId} {b : Addr} {i : TypeInfo} {c : Nat} (ht : P.underlying t = some (.slice e)) (hi : P.info? e = some i) :
    (Builtin.append_ #[t, t] ty #[.slice (some b) 0 cap, .slice x 0 c]).run P w = .ok (.slice (some b) 0 cap) w ∧
    (Builtin.append_ #[t, t] ty #[.slice (some b) 0 cap, .slice x 0 c]).events P w es = es := by
  cases x <;> constructor <;> simp [Builtin.append_, run_underlying ht, sizeOf, typeInfo, hi, Builtin.lenOf, Builtin.firstCells, loadCells, loadCellsFrom, storeCells]
/-- One cell is cleared. -/
theorem clear1 {ty : TypeId} {g : Nat} {zv : Value} {c : Nat} (ht : P.underlying t = some (.slice e)) (hz : (zeroValue e).run P w = .ok zv w) (hzc : Builtin.zeroCells zv.cells 1 = #[.pointer none]) {u : Value} (hc : w.cell? ⟨g, 0, none⟩ = some u) (hf : w.frozen? ⟨g, 0, none⟩ = false) :
    (Builtin.clear_ #[t] ty #[.slice (some ⟨g, 0, none⟩) 1 c]).run P w = .ok (.tuple #[]) (w.setCell ⟨g, 0, none⟩ (.pointer none)) ∧
    (Builtin.clear_ #[t] ty #[.slice (some ⟨g, 0, none⟩) 1 c]).events P w #[] = #[⟨.cell ⟨g, 0, none⟩, true, false⟩] := by
  have ha : (⟨g, 0, none⟩ : Addr).add 0 = ⟨g, 0, none⟩ := rfl
  have e1 : (store ⟨g, 0, none⟩ (.pointer none)).run P w = .ok () (w.setCell ⟨g, 0, none⟩ (.pointer none)) := by
    go_simp
    try (unfold stored; go_simp)
  have e2 : (store ⟨g, 0, none⟩ (.pointer none)).events P w #[] = #[⟨.cell ⟨g, 0, none⟩, true, false⟩] := by
    rw [events_store P w _ _ _ _ rfl]
    simp [hc, hf]
  constructor <;> simp [Builtin.clear_, run_underlying ht, hz, hzc, storeCells, ha, e1, e2]
end
end Go.Hx
/-
  The worker's append of one pointer to a row: onto nil, and where there is room.
  No condition but those that each statement names.
-/
namespace Go.Hx
open Go.Conc

section
variable {p : Par} {Sh : Loc → Prop} {E Dn : Nat} {a : Ad} {kc pc : Array Value} {Q : Nat} {qc : Array Value} {nb : Nat} {w w' : World} {P : Program}

theorem notFA_of {b : Nat} {ty : TypeId} {cs : Array Value} (h : w.heap[b]? = some (.cells cs ty (0, 0))) (ht : ty ≠ p.ety) : ¬ FA p w b := Has.notFA (show Has b ty cs w from h) ht

theorem ra_grown (hg : w.grownBy w' none) : RA p w w' :=
  ⟨hg.tape, hg.os, hg.output, ⟨hg.size, fun b f => by obtain ⟨x, o, ho, hi⟩ := f; exact ⟨x, o, by rw [hg.block b (Array.getElem?_eq_some_iff.1 ho).1 (by simp)]; exact ho, hi⟩,
    fun b hl hn f => hn (by obtain ⟨x, o, ho, hi⟩ := f; exact ⟨x, o, by rw [← hg.block b hl (by simp)]; exact ho, hi⟩)⟩, fun b f => hg.block b f.lt (by simp), fun b cs ty fl _ hb => (hg.block b (Array.getElem?_eq_some_iff.1 hb).1 (by simp)).trans hb⟩

theorem Has.grown {b : Nat} {ty : TypeId} {cs : Array Value} (h : Has b ty cs w) (hg : w.grownBy w' none) : Has b ty cs w' := (hg.block b h.lt (by simp)).trans h
theorem KM.grown (h : KM p Sh E Dn a kc pc Q qc w) (hg : w.grownBy w' none) : KM p Sh E Dn a kc pc Q qc w' :=
  ⟨h.k.grown hg, h.pp.grown hg, h.rr.grown hg, h.gg.grown hg, h.q.grown hg, h.aQ, Nat.le_trans h.sz hg.size, fun t ht => (h.kp t ht).grown hg, h.kq, ⟨h.od.q, hg.tape.trans h.od.t, hg.os.trans h.od.o, hg.output.trans h.od.u, fun x hx => (hg.block x (by have := h.od.q; have := h.q.lt; omega) (by simp)).trans (h.od.b x hx)⟩⟩
theorem KM.swapQ {Q' : Nat} {qc' : Array Value} (n : En p Sh E Dn a) (h : KM p Sh E Dn a kc pc Q qc w) (hq : Has Q' 72 qc' w) (hQ : p.N0 ≤ Q') : KM p Sh E Dn a kc pc Q' qc' w :=
  ⟨h.k, h.pp, h.rr, h.gg, hq, Apart.new n.sh n.hE n.hD hQ, h.sz, h.kp, fun t ht => by have := (n.kd t ht).2.2.2.2.2; omega, ⟨by have := n.oo; omega, h.od.t, h.od.o, h.od.u, h.od.b⟩⟩

theorem evB_mark {m : Mark} (hm : Conc.Neutral m) : EvB p Sh w ⟨.mark m, false, true⟩ :=
  ⟨fun x hx _ => by simp [MemAct.ofEvent, hm.touch] at hx, fun h => hm.ne_disable (by simpa using h), fun h => hm.ne_enable (by simpa using h)⟩

theorem evB_read (hS : ShOk p Sh) {b : Nat} {ty : TypeId} {cs : Array Value} (h : Has b ty cs w) (ht : ty ≠ p.ety) (hN : p.N0 ≤ b) {ad : Addr} (hb : ad.block = b) (sy : Bool) : EvB p Sh w ⟨.cell ad, false, sy⟩ := by
  refine ⟨fun x hx _ => ?_, by simp, by simp⟩
  have hx' : x.loc = .cell ad ∧ x.write = false := by
    cases sy <;> (simp [MemAct.ofEvent, MemAct.touch?] at hx; subst hx; exact ⟨rfl, rfl⟩)
  have hbl : blk x.loc = some b := by rw [hx'.1]; exact congrArg some hb
  exact ⟨⟨b, hbl, h.lt, h.notFA ht⟩, fun s => by have := hS.low _ b s hbl; omega, fun _ => hx'.2⟩

theorem evB_new (hS : ShOk p Sh) {b : Nat} {ty : TypeId} {cs : Array Value} (h : Has b ty cs w) (ht : ty ≠ p.ety) (hN : p.N0 ≤ b) {ad : Addr} (hb : ad.block = b) (wr sy : Bool) : EvB p Sh w ⟨.cell ad, wr, sy⟩ := by
  refine ⟨fun x hx _ => ?_, by simp, by simp⟩
  have hx' : x.loc = .cell ad := by
    cases sy <;> (simp [MemAct.ofEvent, MemAct.touch?] at hx; subst hx; rfl)
  have hbl : blk x.loc = some b := by rw [hx']; exact congrArg some hb
  exact ⟨⟨b, hbl, h.lt, h.notFA ht⟩, fun s => by have := hS.low _ b s hbl; omega, fun s => by have := hS.st _ b s hbl; omega⟩

/-- Onto nil. -/
theorem KB.appNil (n : En p Sh E Dn a) {ty : TypeId} {i : TypeInfo} {z : Value} (ht : P.underlying 70 = some (.slice 72)) (hi : P.info? 72 = some i) (hz : i.zero = some z) (hs : i.size = 1) (hb : i.bytes = 8) (hzs : z.cells.size = 1)
    {x : Addr} (h : KB p Sh E Dn a kc pc Q qc nb 72 #[.pointer (some x)] w) (hN : p.N0 ≤ nb) :
    ∃ g cap cur w', (Builtin.append_ #[70, 70] ty #[.slice none 0 0, .slice (some ⟨nb, 0, none⟩) 1 1]).run P w = .ok (.slice (some ⟨g, 0, none⟩) 1 cap) w' ∧ 1 ≤ cap ∧ cap ≤ maxLen ∧ cur.size = cap ∧ cur[0]? = some (.pointer (some x)) ∧ a.R ≠ g ∧ p.N0 ≤ g ∧
      KM p Sh E Dn a kc pc g cur w' ∧ ∀ es : Array Event, (∀ e ∈ es, e ∈ (Builtin.append_ #[70, 70] ty #[.slice none 0 0, .slice (some ⟨nb, 0, none⟩) 1 1]).events P w #[]) → DT p Sh E Dn w w' es := by
  have hnews : ∀ (j : Nat) (u : Value), [Value.pointer (some x)][j]? = some u → w.cell? ((⟨nb, 0, none⟩ : Addr).add j) = some u := by
    intro j u hu
    rcases j with _ | j
    · simp at hu; subst hu; exact h.b.cell (i := 0) rfl
    · simp at hu
  have h1 : ∀ u ∈ [Value.pointer (some x)], u.oneCell' = true := by intro u hu; simp at hu; subst hu; rfl
  obtain ⟨v', w', hr, hown, hg, hnil⟩ := run_append_own (P := P) w w.heap.size 70 ty 72 i z 1 8 ht hi hz hs hb hzs (by decide) (.slice none 0 0) 0 [] (World.ownsRow_nil _ _ _ _) ⟨nb, 0, none⟩ 1 1 [.pointer (some x)] (by simp) hnews h1 (by simp [maxLen]) (by decide) (Nat.le_refl _)
  have hev := events_append_where (P := P) w w.heap.size 70 ty 72 i z 1 8 ht hi hz hs hb (.slice none 0 0) 0 [] (World.ownsRow_nil _ _ _ _) ⟨nb, 0, none⟩ 1 1 [.pointer (some x)] (by simp) hnews h1 (by simp [maxLen]) (by decide)
  rcases hown.2 with ⟨e, _⟩ | ⟨g, cap, cur, rfl, hbg, hgc, hnc, hcm, hcs, htake⟩
  · exact absurd ((hnil.1 e).2) (by decide)
  have hg' : w.grownBy w' none := hg
  have hR := h.m.rr.lt
  have hcur : cur[0]? = some (.pointer (some x)) := by
    have : cur.toList.take 1 = [.pointer (some x)] := by simpa using htake
    have h2 : (cur.toList.take 1)[0]? = some (.pointer (some x)) := by rw [this]; rfl
    rw [List.getElem?_take] at h2
    simpa using h2
  refine ⟨g, cap, cur, w', hr, by omega, hcm, by simpa using hcs, hcur, by omega, Nat.le_trans h.m.sz hbg, (h.m.grown hg').swapQ n hgc (Nat.le_trans h.m.sz hbg), fun es hes => ⟨ra_grown hg', ?_, ?_, fun e he => ?_⟩⟩
  · exact hg'.block E (Nat.lt_of_lt_of_le n.hE h.m.sz) (by simp)
  · exact hg'.block Dn (Nat.lt_of_lt_of_le n.hD h.m.sz) (by simp)
  · rcases hev e (hes e he) with ⟨ad, h2, h3⟩ | ⟨m, rfl, hm⟩
    · rcases h3 with ⟨hw, hb⟩ | h3
      · obtain ⟨l, wr, sy⟩ := e
        simp only at h2 hw
        subst h2 hw
        exact evB_read n.sh (h.b.grown hg') (by rw [n.ty]; decide) hN hb sy
      · simp [Value.ownBlock] at h3
    · exact evB_mark hm

/-- Where there is room. -/
theorem KB.appRoom (n : En p Sh E Dn a) {ty : TypeId} {i : TypeInfo} {z : Value} (ht : P.underlying 70 = some (.slice 72)) (hi : P.info? 72 = some i) (hz : i.zero = some z) (hs : i.size = 1) (hb : i.bytes = 8)
    {x : Addr} (h : KB p Sh E Dn a kc pc Q qc nb 72 #[.pointer (some x)] w) (hN : p.N0 ≤ nb) (hQN : p.N0 ≤ Q) (hRQ : a.R ≠ Q) {cap : Nat} (hc1 : 1 ≤ cap) (hcm : cap ≤ maxLen) (hcs : qc.size = cap) :
    (Builtin.append_ #[70, 70] ty #[.slice (some ⟨Q, 0, none⟩) 0 cap, .slice (some ⟨nb, 0, none⟩) 1 1]).run P w = .ok (.slice (some ⟨Q, 0, none⟩) 1 cap) (w.setCell ⟨Q, 0, none⟩ (.pointer (some x))) ∧
      KM p Sh E Dn a kc pc Q (qc.setIfInBounds 0 (.pointer (some x))) (w.setCell ⟨Q, 0, none⟩ (.pointer (some x))) ∧
      ∀ es : Array Event, (∀ e ∈ es, e ∈ (Builtin.append_ #[70, 70] ty #[.slice (some ⟨Q, 0, none⟩) 0 cap, .slice (some ⟨nb, 0, none⟩) 1 1]).events P w #[]) → DT p Sh E Dn w (w.setCell ⟨Q, 0, none⟩ (.pointer (some x))) es := by
  have hnews : ∀ (j : Nat) (u : Value), [Value.pointer (some x)][j]? = some u → w.cell? ((⟨nb, 0, none⟩ : Addr).add j) = some u := by
    intro j u hu
    rcases j with _ | j
    · simp at hu; subst hu; exact h.b.cell (i := 0) rfl
    · simp at hu
  have h1 : ∀ u ∈ [Value.pointer (some x)], u.oneCell' = true := by intro u hu; simp at hu; subst hu; rfl
  have hown : w.ownsRow 0 72 1 (.slice (some ⟨Q, 0, none⟩) 0 cap) 0 [] := ⟨by simp, .inr ⟨Q, cap, qc, rfl, Nat.zero_le _, h.m.q, Nat.zero_le _, hcm, by simpa using hcs, by simp⟩⟩
  have hev := events_append_where (P := P) w 0 70 ty 72 i z 1 8 ht hi hz hs hb (.slice (some ⟨Q, 0, none⟩) 0 cap) 0 [] hown ⟨nb, 0, none⟩ 1 1 [.pointer (some x)] (by simp) hnews h1 (by simp [maxLen]) (by decide)
  obtain ⟨u, hu⟩ : ∃ u, qc[0]? = some u := ⟨_, Array.getElem?_eq_getElem (by omega)⟩
  have hc := h.m.q.cell hu
  have hf := h.m.q.thaw 0
  have ha : (⟨Q, 0, none⟩ : Addr).add 0 = ⟨Q, 0, none⟩ := rfl
  have e1 : (store ⟨Q, 0, none⟩ (.pointer (some x))).run P w = .ok () (w.setCell ⟨Q, 0, none⟩ (.pointer (some x))) := by
    go_simp
    try (unfold stored; go_simp)
  have hfc := run_firstCells_some (P := P) w i.size 1 ⟨nb, 0, none⟩ 1 1 [.pointer (some x)] (by simp [hs]) hnews
  have hM := h.m.setQ hRQ 0 (.pointer (some x))
  refine ⟨?_, hM, fun es hes => ?_⟩
  · simp [Builtin.append_, run_underlying ht, sizeOf, typeInfo, hi, Builtin.lenOf, hc1, hfc, storeCells, ha, e1]
  · have d := h.m.dtQ n hRQ (i := 0) (v := .pointer (some x)) (es := #[]) (by simp)
    refine ⟨d.1, d.2.1, d.2.2.1, fun e he => ?_⟩
    rcases hev e (hes e he) with ⟨ad, h2, h3⟩ | ⟨m, rfl, hm⟩
    · obtain ⟨l, wr, sy⟩ := e
      simp only at h2
      subst h2
      rcases h3 with ⟨_, hb⟩ | h3
      · by_cases hq : nb = Q
        · exact evB_new n.sh hM.q (by rw [n.ty]; decide) hQN (hb.trans hq) _ _
        · exact evB_new n.sh (h.b.setOther (Ne.symm hq) _ _) (by rw [n.ty]; decide) hN hb _ _
      · exact evB_new n.sh hM.q (by rw [n.ty]; decide) hQN (by simpa [Value.ownBlock] using h3) _ _
    · exact evB_mark hm
end
end Go.Hx
