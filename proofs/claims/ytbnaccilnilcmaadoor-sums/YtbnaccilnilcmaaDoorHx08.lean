/-
  Small laws for a worker's walk in company: what it knows of a block stands; a read, a store and a new block are within its guarantee.
  No condition but those that each statement names.
-/
import Derived.Test.YtbnaccilnilcmaaDoorHx07
import Derived.Conc.CompanyMem
import Derived.Conc.Starve
import Derived.Laws.MakeOwn
import Derived.Below
import Derived.OwnWalk
import Derived.Conc.AppendWalk
import Derived.RowKit
import Derived.KernelRfl
import Derived.LaidEqlPtr
import Derived.WideLaws
set_option linter.unusedVariables false
set_option linter.unusedSimpArgs false
set_option linter.unusedSectionVars false
namespace Go.Hx
open Go.Conc Go.RowKit

variable {p : Par} {Sh : Loc → Prop} {E Dn : Nat} {w w₁ w' : World}

theorem termsT (p : Par) (Sh : Loc → Prop) (E Dn : Nat) : Terms (RB p E Dn) (DT p Sh E Dn) := ⟨RB.trans, fun w => ⟨RA.refl p w, rfl, rfl, by simp⟩⟩
theorem drawT (p : Par) (Sh : Loc → Prop) (E Dn : Nat) : LetsDraw (DT p Sh E Dn) := fun w => ⟨RA.at p w (w.drawn + 1), rfl, rfl, by simp⟩
theorem ownDrawT (p : Par) (E Dn : Nat) (w : World) : RB p E Dn w { w with drawn := w.drawn + 1 } := RB.at p E Dn w (w.drawn + 1)

/-- Block b holds these cells. -/
def Has (b : Nat) (ty : TypeId) (cs : Array Value) (w : World) : Prop := w.heap[b]? = some (.cells cs ty (0, 0))

theorem Has.lt {b : Nat} {ty : TypeId} {cs : Array Value} (h : Has b ty cs w) : b < w.heap.size := (Array.getElem?_eq_some_iff.1 h).1
theorem Has.notFA {b : Nat} {ty : TypeId} {cs : Array Value} (h : Has b ty cs w) (ht : ty ≠ p.ety) : ¬ FA p w b := by
  rintro ⟨_, o, ho, hi⟩
  unfold Has at h
  rw [h] at ho
  cases ho
  simp [isEv, ht] at hi
theorem Has.rely {b : Nat} {ty : TypeId} {cs : Array Value} (h : Has b ty cs w) (ht : ty ≠ p.ety) (hE : b ≠ E) (hD : b ≠ Dn) (r : RB p E Dn w w₁) : Has b ty cs w₁ :=
  (r.block b h.lt (h.notFA ht) hE hD).trans h
theorem Has.cell {b : Nat} {ty : TypeId} {cs : Array Value} (h : Has b ty cs w) {i : Nat} {v : Value} (hv : cs[i]? = some v) : w.cell? ⟨b, i, none⟩ = some v := by
  unfold Has at h
  simp [World.cell?, h, hv]
theorem Has.thaw {b : Nat} {ty : TypeId} {cs : Array Value} (h : Has b ty cs w) (i : Nat) : w.frozen? ⟨b, i, none⟩ = false := by
  unfold Has at h
  simp [World.frozen?, h]
theorem Has.set {b : Nat} {ty : TypeId} {cs : Array Value} (h : Has b ty cs w) (i : Nat) (v : Value) : Has b ty (cs.setIfInBounds i v) (w.setCell ⟨b, i, none⟩ v) := by
  have hlt := h.lt
  unfold Has at h ⊢
  rw [Array.getElem?_eq_getElem hlt] at h
  have h' := Option.some.inj h
  simp [World.setCell, hlt, Array.getElem_modify, h']
theorem Has.setOther {b b' : Nat} {ty : TypeId} {cs : Array Value} (h : Has b ty cs w) (hb : b' ≠ b) (i : Nat) (v : Value) : Has b ty cs (w.setCell ⟨b', i, none⟩ v) := by
  unfold Has at h ⊢
  rw [← h]
  simp [World.setCell, Array.getElem?_modify, hb]
theorem alloc_get (w : World) (o : Obj) {b : Nat} (h : b ≠ w.heap.size) : (w.alloc o).heap[b]? = w.heap[b]? := by
  show (w.heap.push o)[b]? = w.heap[b]?
  rw [Array.getElem?_push, if_neg h]
theorem alloc_new (w : World) (o : Obj) : (w.alloc o).heap[w.heap.size]? = some o := by
  show (w.heap.push o)[w.heap.size]? = some o
  simp
theorem alloc_size (w : World) (o : Obj) : (w.alloc o).heap.size = w.heap.size + 1 := by
  show (w.heap.push o).size = w.heap.size + 1
  simp
theorem Has.alloc {b : Nat} {ty : TypeId} {cs : Array Value} (h : Has b ty cs w) (o : Obj) : Has b ty cs (w.alloc o) := by
  have hlt := h.lt
  unfold Has at h ⊢
  rw [← h]
  exact alloc_get w o (Nat.ne_of_lt hlt)
theorem Has.new {w : World} {ty : TypeId} {cs : Array Value} : Has w.heap.size ty cs (w.alloc (.cells cs ty)) := alloc_new w _

theorem setCell_get (w : World) (a : Addr) (v : Value) {b : Nat} (h : b ≠ a.block) : (w.setCell a v).heap[b]? = w.heap[b]? := by
  simp [World.setCell, Array.getElem?_modify, Ne.symm h]

theorem fa_setCell {b : Nat} {ty : TypeId} {cs : Array Value} (h : Has b ty cs w) (ht : ty ≠ p.ety) (i : Nat) (v : Value) (x : Nat) : FA p (w.setCell ⟨b, i, none⟩ v) x ↔ FA p w x := by
  by_cases e : x = b
  · subst e
    exact ⟨fun f => absurd f ((h.set i v).notFA ht), fun f => absurd f (h.notFA ht)⟩
  · unfold FA
    rw [setCell_get w _ v e]

theorem ra_setCell {b : Nat} {ty : TypeId} {cs : Array Value} (h : Has b ty cs w) (ht : ty ≠ p.ety) (hT : ∀ i, ¬ p.Still (.cell ⟨b, i, none⟩)) (i : Nat) (v : Value) : RA p w (w.setCell ⟨b, i, none⟩ v) :=
  ⟨rfl, rfl, rfl, ⟨by simp [World.setCell], fun x f => (fa_setCell h ht i v x).2 f, fun x _ n f => n ((fa_setCell h ht i v x).1 f)⟩,
   fun x f => setCell_get w _ v fun e => h.notFA ht (by have e' : x = b := e; rw [← e']; exact f),
   fun x cs' ty' fl hs hx => (setCell_get w _ v fun e => by obtain ⟨j, hj⟩ := hs; have e' : x = b := e; rw [e'] at hj; exact hT j hj).trans hx⟩

theorem fa_alloc {o : Obj} (ho : isEv p.ety o = false) (x : Nat) : FA p (w.alloc o) x ↔ FA p w x := by
  unfold FA
  by_cases e : x = w.heap.size
  · subst e
    constructor
    · rintro ⟨_, o', ho', hi⟩
      rw [alloc_new] at ho'
      cases ho'
      rw [ho] at hi
      cases hi
    · rintro ⟨_, o', ho', _⟩
      have := (Array.getElem?_eq_some_iff.1 ho').1
      omega
  · rw [alloc_get w o e]

theorem ra_alloc {o : Obj} (ho : isEv p.ety o = false) : RA p w (w.alloc o) :=
  ⟨rfl, rfl, rfl, ⟨by rw [alloc_size]; omega, fun x f => (fa_alloc ho x).2 f, fun x _ n f => n ((fa_alloc ho x).1 f)⟩,
   fun x f => alloc_get w o (Nat.ne_of_lt f.lt), fun x cs' ty' fl _ hx => (alloc_get w o (Nat.ne_of_lt (Array.getElem?_eq_some_iff.1 hx).1)).trans hx⟩

/-- A plain access of a cell of such a block. -/
theorem evB_cell {b : Nat} {ty : TypeId} {cs : Array Value} (h : Has b ty cs w) (ht : ty ≠ p.ety) (i : Nat) (wr : Bool) (hS : ¬ Sh (.cell ⟨b, i, none⟩)) (hSt : wr = true → ¬ p.Still (.cell ⟨b, i, none⟩)) : EvB p Sh w ⟨.cell ⟨b, i, none⟩, wr, false⟩ := by
  refine ⟨fun x hx _ => ?_, by simp, by simp⟩
  simp only [MemAct.ofEvent, MemAct.touch?, Option.some.injEq] at hx
  subst hx
  refine ⟨⟨b, rfl, h.lt, h.notFA ht⟩, fun s => absurd s hS, fun s => ?_⟩
  cases wr with
  | false => rfl
  | true => exact absurd s (hSt rfl)

theorem dt_read {es : Array Event} (hes : ∀ e ∈ es, EvB p Sh w e) : DT p Sh E Dn w w es := ⟨RA.refl p w, rfl, rfl, hes⟩
theorem dt_store {b : Nat} {ty : TypeId} {cs : Array Value} {i : Nat} {v : Value} {es : Array Event} (h : Has b ty cs w) (ht : ty ≠ p.ety) (hE : b ≠ E) (hD : b ≠ Dn) (hT : ∀ i, ¬ p.Still (.cell ⟨b, i, none⟩)) (hes : ∀ e ∈ es, EvB p Sh (w.setCell ⟨b, i, none⟩ v) e) : DT p Sh E Dn w (w.setCell ⟨b, i, none⟩ v) es :=
  ⟨ra_setCell h ht hT i v, setCell_get w _ v (Ne.symm hE), setCell_get w _ v (Ne.symm hD), hes⟩
theorem dt_alloc {o : Obj} {es : Array Event} (ho : isEv p.ety o = false) (hE : E < w.heap.size) (hD : Dn < w.heap.size) (hes : ∀ e ∈ es, EvB p Sh (w.alloc o) e) : DT p Sh E Dn w (w.alloc o) es :=
  ⟨ra_alloc ho, alloc_get w o (Nat.ne_of_lt hE), alloc_get w o (Nat.ne_of_lt hD), hes⟩
end Go.Hx
/-
  What some operations list: nothing.
  No condition but those that each statement names.
-/
namespace Go.Hx
open Go.Conc

section
variable {P : Program} {w : World} {es : Array Event}

theorem eqIn_ptr_nil (d : Nat) {t e : TypeId} (x : Option Addr) (h : P.underlying t = some (.pointer e)) : (Op.equalIn (d + 1) t (.pointer x) (.pointer none)).events P w es = es ∧ (Op.equalIn (d + 1) t (.pointer x) (.pointer none)).run P w = .ok x.isNone w := by
  constructor <;> cases x <;> simp [Op.equalIn, run_underlying h]
theorem eqIn_iface_nil (d : Nat) {t : TypeId} {ms : Array (String × TypeId)} (u : TypeId) (v : Value) (h : P.underlying t = some (.interface ms)) : (Op.equalIn (d + 1) t (.iface u v) .nilIface).events P w es = es ∧ (Op.equalIn (d + 1) t (.iface u v) .nilIface).run P w = .ok false w := by
  constructor <;> simp [Op.equalIn, run_underlying h]
theorem eqIn_nil_nil (d : Nat) {t : TypeId} {ms : Array (String × TypeId)} (h : P.underlying t = some (.interface ms)) : (Op.equalIn (d + 1) t .nilIface .nilIface).events P w es = es ∧ (Op.equalIn (d + 1) t .nilIface .nilIface).run P w = .ok true w := by
  constructor <;> simp [Op.equalIn, run_underlying h]
theorem ev_equal_ptr_nil {t e : TypeId} (x : Option Addr) (h : P.underlying t = some (.pointer e)) : (Op.equal t (.pointer x) (.pointer none)).events P w es = es ∧ (Op.equal t (.pointer x) (.pointer none)).run P w = .ok x.isNone w := eqIn_ptr_nil 9999 x h
theorem ev_equal_iface_nil {t : TypeId} {ms : Array (String × TypeId)} (u : TypeId) (v : Value) (h : P.underlying t = some (.interface ms)) : (Op.equal t (.iface u v) .nilIface).events P w es = es ∧ (Op.equal t (.iface u v) .nilIface).run P w = .ok false w := eqIn_iface_nil 9999 u v h
theorem ev_equal_nil_nil {t : TypeId} {ms : Array (String × TypeId)} (h : P.underlying t = some (.interface ms)) : (Op.equal t .nilIface .nilIface).events P w es = es ∧ (Op.equal t .nilIface .nilIface).run P w = .ok true w := eqIn_nil_nil 9999 h
theorem ev_eql_ptr_nil {t e : TypeId} (x : Option Addr) (h : P.underlying t = some (.pointer e)) : (binOp .eql t (.pointer x) (.pointer none)).events P w es = es := by
  simp only [binOp]
  simp [(ev_equal_ptr_nil (w := w) (es := es) x h).1, (ev_equal_ptr_nil (w := w) (es := es) x h).2]
theorem ev_eql_iface_nil {t : TypeId} {ms : Array (String × TypeId)} (u : TypeId) (v : Value) (h : P.underlying t = some (.interface ms)) : (binOp .eql t (.iface u v) .nilIface).events P w es = es := by
  simp only [binOp]
  simp [(ev_equal_iface_nil (w := w) (es := es) u v h).1, (ev_equal_iface_nil (w := w) (es := es) u v h).2]
theorem ev_neq_iface_nil {t : TypeId} {ms : Array (String × TypeId)} (u : TypeId) (v : Value) (h : P.underlying t = some (.interface ms)) : (binOp .neq t (.iface u v) .nilIface).events P w es = es := by
  simp only [binOp]
  simp [(ev_equal_iface_nil (w := w) (es := es) u v h).1, (ev_equal_iface_nil (w := w) (es := es) u v h).2]
theorem ev_eql_nil_nil {t : TypeId} {ms : Array (String × TypeId)} (h : P.underlying t = some (.interface ms)) : (binOp .eql t .nilIface .nilIface).events P w es = es := by
  simp only [binOp]
  simp [(ev_equal_nil_nil (w := w) (es := es) h).1, (ev_equal_nil_nil (w := w) (es := es) h).2]
theorem ev_neq_nil_nil {t : TypeId} {ms : Array (String × TypeId)} (h : P.underlying t = some (.interface ms)) : (binOp .neq t .nilIface .nilIface).events P w es = es := by
  simp only [binOp]
  simp [(ev_equal_nil_nil (w := w) (es := es) h).1, (ev_equal_nil_nil (w := w) (es := es) h).2]
end
end Go.Hx
/-
  What the worker knows of the kernel in memory, for a kernel with one process; a loop taken round by round.
  No condition but those that each statement names.
-/
namespace Go.Hx
open Go.Conc Go.RowKit

theorem wrap_u16 (n : Int) : IntKind.u16.wrap n = n % 65536 := by simp [IntKind.wrap, IntKind.bits, IntKind.signed]

/-! ### a loop, round by round -/
section
variable {P : Program} {main : Bool} {R : World → World → Prop} {D : World → World → Array Event → Prop} {fn : FuncId} {Q : Exit → Act → World → Prop} {a : Act} {w : World}

/-- Behind a round of the loop c. -/
def LoopC (P : Program) (main : Bool) (R : World → World → Prop) (D : World → World → Array Event → Prop) (fn : FuncId) (c : Code) (n : Nat) (Q : Exit → Act → World → Prop) (a : Act) (w : World) : Prop :=
  ∀ (b : Frame) (k : List Item) (cs : List Frame) (Stop : Goroutine → World → Prop) (m : Nat), b.fn = fn → b.kind ≠ .early →
    (∀ e a' w', Q e a' w' → After P main R D Stop m b k cs e a' w') → Goes P main R D Stop (m + n) (G (b.at a (.inLoop c :: k)) cs) w

theorem loop_round (T : Terms R D) {c : Code} {n₁ n₂ : Nat} (h : c.wpC P main R D fn n₁ (Exit.then (fun a' w' => LoopC P main R D fn c n₂ Q a' w') Q) a w)
    (b : Frame) (k : List Item) (cs : List Frame) (Stop : Goroutine → World → Prop) (m : Nat) (hb : b.fn = fn) (hk : b.kind ≠ .early) (hc : ∀ e a' w', Q e a' w' → After P main R D Stop m b k cs e a' w') :
    Goes P main R D Stop (m + n₂ + n₁) (G (b.at a (.code c :: .inLoop c :: k)) cs) w := by
  refine h b (.inLoop c :: k) cs Stop (m + n₂) hb hk fun e a' w' q => ?_
  cases e with
  | normal => exact q b k cs Stop m hb hk hc
  | exit id => exact ((hc _ _ _ q).mono (Nat.le_add_right _ _)).push rfl (by simp)
  | ret => exact ((hc _ _ _ q).mono (Nat.le_add_right _ _)).push (x := .inLoop c) rfl (by simp)
  | goto l => exact hc _ _ _ q
  | panic ch => exact hc _ _ _ q
  | outgrown => exact hc _ _ _ q

theorem wpC_loop1 (T : Terms R D) {c : Code} {n₁ n₂ : Nat} (h : c.wpC P main R D fn n₁ (Exit.then (fun a' w' => LoopC P main R D fn c n₂ Q a' w') Q) a w) : (Code.loop c).wpC P main R D fn (n₁ + n₂ + 1) Q a w := by
  intro b k cs Stop m hb hk hc
  have hx := loop_round T h b k cs Stop m hb hk hc
  have e : m + (n₁ + n₂ + 1) = (m + n₂ + n₁) + 1 := by omega
  rw [e]
  exact Goes.step rfl fun w₁ h₁ => by rw [stepG_loop]; exact ⟨T.idle _, hx.rely T.trans h₁⟩

theorem loopC1 (T : Terms R D) {c : Code} {n₁ n₂ : Nat} (h : c.wpC P main R D fn n₁ (Exit.then (fun a' w' => LoopC P main R D fn c n₂ Q a' w') Q) a w) : LoopC P main R D fn c (n₁ + n₂ + 1) Q a w := by
  intro b k cs Stop m hb hk hc
  have hx := loop_round T h b k cs Stop m hb hk hc
  have e : m + (n₁ + n₂ + 1) = (m + n₂ + n₁) + 1 := by omega
  rw [e]
  exact Goes.step rfl fun w₁ h₁ => by rw [stepG_inLoop]; exact ⟨T.idle _, hx.rely T.trans h₁⟩

/-- A loop that is left in its first round. -/
theorem wpC_loop0 (T : Terms R D) {c : Code} {n : Nat} (h : c.wpC P main R D fn n (Exit.then (fun _ _ => False) Q) a w) : (Code.loop c).wpC P main R D fn (n + 0 + 1) Q a w :=
  wpC_loop1 (n₂ := 0) T (wpC_mono h fun e a' w' q => by cases e <;> first | exact q.elim | exact q)
theorem loopC0 (T : Terms R D) {c : Code} {n : Nat} (h : c.wpC P main R D fn n (Exit.then (fun _ _ => False) Q) a w) : LoopC P main R D fn c (n + 0 + 1) Q a w :=
  loopC1 (n₂ := 0) T (wpC_mono h fun e a' w' q => by cases e <;> first | exact q.elim | exact q)
end

/-! ### the kernel in memory -/
/-- Neither a channel's block, nor shunned, nor still. -/
structure Apart (p : Par) (Sh : Loc → Prop) (E Dn b : Nat) : Prop where
  e : b ≠ E
  d : b ≠ Dn
  s : ∀ i, ¬ Sh (.cell ⟨b, i, none⟩)
  t : ∀ i, ¬ p.Still (.cell ⟨b, i, none⟩)

theorem Apart.new {p : Par} {Sh : Loc → Prop} {E Dn b : Nat} (hS : ShOk p Sh) (hE : E < p.N0) (hD : Dn < p.N0) (hb : p.N0 ≤ b) : Apart p Sh E Dn b :=
  ⟨by omega, by omega, fun i s => by have := hS.low _ b s rfl; omega, fun i s => by have := hS.st _ b s rfl; omega⟩

/-- Where the kernel, its process, its list of processes and its program lie. -/
structure Ad where
  K : Nat
  P : Nat
  R : Nat
  G : Nat
  rcap : Nat
  gn : Nat
  gcap : Nat
  rc : Array Value
  gc : Array Value
  keep : List (Nat × TypeId × Array Value)
  /-- What was there at first, and up to where. -/
  W : World
  O : Nat

structure En (p : Par) (Sh : Loc → Prop) (E Dn : Nat) (a : Ad) : Prop where
  ty : p.ety = 44
  sh : ShOk p Sh
  hE : E < p.N0
  hD : Dn < p.N0
  aK : Apart p Sh E Dn a.K
  aP : Apart p Sh E Dn a.P
  aR : Apart p Sh E Dn a.R
  aG : Apart p Sh E Dn a.G
  r0 : a.rc[0]? = some (.pointer (some ⟨a.P, 0, none⟩))
  kp : a.K ≠ a.P
  kd : ∀ t ∈ a.keep, t.1 ≠ E ∧ t.1 ≠ Dn ∧ t.2.1 ≠ 44 ∧ t.1 ≠ a.K ∧ t.1 ≠ a.P ∧ t.1 < p.N0
  oo : a.O ≤ a.K ∧ a.O ≤ a.P ∧ a.O ≤ E ∧ a.O ≤ Dn ∧ a.O ≤ p.N0

/-- What was there at first stands. -/
structure Old (a : Ad) (Q : Nat) (w : World) : Prop where
  q : a.O ≤ Q
  t : w.tape = a.W.tape
  o : w.os = a.W.os
  u : w.output = a.W.output
  b : ∀ x, x < a.O → w.heap[x]? = a.W.heap[x]?

/-- The kernel's own cells. -/
structure Kst (a : Ad) (kc : Array Value) (s : Nat → Int) (bo now : Int) (r0 r1 r2 : Value) : Prop where
  sz : kc.size = 10
  sl : ∀ i, i < 3 → kc[i]? = some (.int .i64 (s i))
  bo : kc[3]? = some (.int .i64 bo)
  pr : kc[4]? = some (.slice (some ⟨a.G, 0, none⟩) a.gn a.gcap)
  ps : kc[5]? = some (.slice (some ⟨a.R, 0, none⟩) 1 a.rcap)
  r0 : kc[6]? = some r0
  r1 : kc[7]? = some r1
  r2 : kc[8]? = some r2
  now : kc[9]? = some (.int .i64 now)

/-- The process's own cells. -/
structure Pst (pc : Array Value) (st status at_ lv used : Int) (r m : Nat → Int) : Prop where
  sz : pc.size = 79
  id : pc[0]? = some (.int .i64 1)
  par : pc[1]? = some (.int .i64 0)
  st : pc[2]? = some (.int .i64 st)
  stat : pc[3]? = some (.int .i64 status)
  at_ : pc[4]? = some (.int .i64 at_)
  lv : pc[5]? = some (.int .i64 lv)
  us : pc[6]? = some (.int .i64 used)
  reg : ∀ i, i < 8 → pc[7 + i]? = some (.int .u16 (r i))
  mem : ∀ i, i < 64 → pc[15 + i]? = some (.int .u8 (m i))

theorem set_ne {xs : Array Value} {i j : Nat} {v u : Value} (h : xs[j]? = some u) (hij : i ≠ j) : (xs.setIfInBounds i v)[j]? = some u := by rw [Array.getElem?_setIfInBounds_ne hij]; exact h
theorem set_eq {xs : Array Value} {i : Nat} {v : Value} (h : i < xs.size) : (xs.setIfInBounds i v)[i]? = some v := Array.getElem?_setIfInBounds_self_of_lt h

section
variable {pc : Array Value} {st status at_ lv used : Int} {r m : Nat → Int}
theorem Pst.setSt (h : Pst pc st status at_ lv used r m) (v : Int) : Pst (pc.setIfInBounds 2 (.int .i64 v)) v status at_ lv used r m :=
  ⟨by simp [h.sz], set_ne h.id (by decide), set_ne h.par (by decide), set_eq (by rw [h.sz]; decide), set_ne h.stat (by decide), set_ne h.at_ (by decide), set_ne h.lv (by decide), set_ne h.us (by decide), fun i hi => set_ne (h.reg i hi) (by omega), fun i hi => set_ne (h.mem i hi) (by omega)⟩
theorem Pst.setStat (h : Pst pc st status at_ lv used r m) (v : Int) : Pst (pc.setIfInBounds 3 (.int .i64 v)) st v at_ lv used r m :=
  ⟨by simp [h.sz], set_ne h.id (by decide), set_ne h.par (by decide), set_ne h.st (by decide), set_eq (by rw [h.sz]; decide), set_ne h.at_ (by decide), set_ne h.lv (by decide), set_ne h.us (by decide), fun i hi => set_ne (h.reg i hi) (by omega), fun i hi => set_ne (h.mem i hi) (by omega)⟩
theorem Pst.setAt (h : Pst pc st status at_ lv used r m) (v : Int) : Pst (pc.setIfInBounds 4 (.int .i64 v)) st status v lv used r m :=
  ⟨by simp [h.sz], set_ne h.id (by decide), set_ne h.par (by decide), set_ne h.st (by decide), set_ne h.stat (by decide), set_eq (by rw [h.sz]; decide), set_ne h.lv (by decide), set_ne h.us (by decide), fun i hi => set_ne (h.reg i hi) (by omega), fun i hi => set_ne (h.mem i hi) (by omega)⟩
theorem Pst.setLv (h : Pst pc st status at_ lv used r m) (v : Int) : Pst (pc.setIfInBounds 5 (.int .i64 v)) st status at_ v used r m :=
  ⟨by simp [h.sz], set_ne h.id (by decide), set_ne h.par (by decide), set_ne h.st (by decide), set_ne h.stat (by decide), set_ne h.at_ (by decide), set_eq (by rw [h.sz]; decide), set_ne h.us (by decide), fun i hi => set_ne (h.reg i hi) (by omega), fun i hi => set_ne (h.mem i hi) (by omega)⟩
theorem Pst.setUs (h : Pst pc st status at_ lv used r m) (v : Int) : Pst (pc.setIfInBounds 6 (.int .i64 v)) st status at_ lv v r m :=
  ⟨by simp [h.sz], set_ne h.id (by decide), set_ne h.par (by decide), set_ne h.st (by decide), set_ne h.stat (by decide), set_ne h.at_ (by decide), set_ne h.lv (by decide), set_eq (by rw [h.sz]; decide), fun i hi => set_ne (h.reg i hi) (by omega), fun i hi => set_ne (h.mem i hi) (by omega)⟩
/-- f with v at i. -/
def put (f : Nat → Int) (i : Nat) (v : Int) : Nat → Int := fun j => if j = i then v else f j
theorem Pst.setReg (h : Pst pc st status at_ lv used r m) {i : Nat} (hi : i < 8) (v : Int) : Pst (pc.setIfInBounds (7 + i) (.int .u16 v)) st status at_ lv used (put r i v) m :=
  ⟨by simp [h.sz], set_ne h.id (by omega), set_ne h.par (by omega), set_ne h.st (by omega), set_ne h.stat (by omega), set_ne h.at_ (by omega), set_ne h.lv (by omega), set_ne h.us (by omega),
   fun j hj => by
    by_cases e : j = i
    · subst e; rw [set_eq (by rw [h.sz]; omega)]; simp [put]
    · rw [set_ne (h.reg j hj) (by omega)]; simp [put, e],
   fun j hj => set_ne (h.mem j hj) (by omega)⟩
theorem Pst.setMem (h : Pst pc st status at_ lv used r m) {i : Nat} (hi : i < 64) (v : Int) : Pst (pc.setIfInBounds (15 + i) (.int .u8 v)) st status at_ lv used r (put m i v) :=
  ⟨by simp [h.sz], set_ne h.id (by omega), set_ne h.par (by omega), set_ne h.st (by omega), set_ne h.stat (by omega), set_ne h.at_ (by omega), set_ne h.lv (by omega), set_ne h.us (by omega),
   fun j hj => set_ne (h.reg j hj) (by omega),
   fun j hj => by
    by_cases e : j = i
    · subst e; rw [set_eq (by rw [h.sz]; omega)]; simp [put]
    · rw [set_ne (h.mem j hj) (by omega)]; simp [put, e]⟩
end

section
variable {a : Ad} {kc : Array Value} {s : Nat → Int} {bo now : Int} {r0 r1 r2 : Value}
theorem Kst.setNow (h : Kst a kc s bo now r0 r1 r2) (v : Int) : Kst a (kc.setIfInBounds 9 (.int .i64 v)) s bo v r0 r1 r2 :=
  ⟨by simp [h.sz], fun i hi => set_ne (h.sl i hi) (by omega), set_ne h.bo (by decide), set_ne h.pr (by decide), set_ne h.ps (by decide), set_ne h.r0 (by decide), set_ne h.r1 (by decide), set_ne h.r2 (by decide), set_eq (by rw [h.sz]; decide)⟩
theorem Kst.setR0 (h : Kst a kc s bo now r0 r1 r2) (v : Value) : Kst a (kc.setIfInBounds 6 v) s bo now v r1 r2 :=
  ⟨by simp [h.sz], fun i hi => set_ne (h.sl i hi) (by omega), set_ne h.bo (by decide), set_ne h.pr (by decide), set_ne h.ps (by decide), set_eq (by rw [h.sz]; decide), set_ne h.r1 (by decide), set_ne h.r2 (by decide), set_ne h.now (by decide)⟩
theorem Kst.setR1 (h : Kst a kc s bo now r0 r1 r2) (v : Value) : Kst a (kc.setIfInBounds 7 v) s bo now r0 v r2 :=
  ⟨by simp [h.sz], fun i hi => set_ne (h.sl i hi) (by omega), set_ne h.bo (by decide), set_ne h.pr (by decide), set_ne h.ps (by decide), set_ne h.r0 (by decide), set_eq (by rw [h.sz]; decide), set_ne h.r2 (by decide), set_ne h.now (by decide)⟩
theorem Kst.setR2 (h : Kst a kc s bo now r0 r1 r2) (v : Value) : Kst a (kc.setIfInBounds 8 v) s bo now r0 r1 v :=
  ⟨by simp [h.sz], fun i hi => set_ne (h.sl i hi) (by omega), set_ne h.bo (by decide), set_ne h.pr (by decide), set_ne h.ps (by decide), set_ne h.r0 (by decide), set_ne h.r1 (by decide), set_eq (by rw [h.sz]; decide), set_ne h.now (by decide)⟩
end

/-- The memory as a whole: kc, pc, and the row's block Q with its cells qc. -/
structure KM (p : Par) (Sh : Loc → Prop) (E Dn : Nat) (a : Ad) (kc pc : Array Value) (Q : Nat) (qc : Array Value) (w : World) : Prop where
  k : Has a.K 88 kc w
  pp : Has a.P 75 pc w
  rr : Has a.R 72 a.rc w
  gg : Has a.G 110 a.gc w
  q : Has Q 72 qc w
  aQ : Apart p Sh E Dn Q
  sz : p.N0 ≤ w.heap.size
  kp : ∀ t ∈ a.keep, Has t.1 t.2.1 t.2.2 w
  kq : ∀ t ∈ a.keep, t.1 ≠ Q
  od : Old a Q w

section
variable {p : Par} {Sh : Loc → Prop} {E Dn : Nat} {a : Ad} {kc pc : Array Value} {Q : Nat} {qc : Array Value} {w w₁ : World}

theorem KM.rely (n : En p Sh E Dn a) (h : KM p Sh E Dn a kc pc Q qc w) (r : RB p E Dn w w₁) : KM p Sh E Dn a kc pc Q qc w₁ :=
  ⟨h.k.rely (by rw [n.ty]; decide) n.aK.e n.aK.d r, h.pp.rely (by rw [n.ty]; decide) n.aP.e n.aP.d r, h.rr.rely (by rw [n.ty]; decide) n.aR.e n.aR.d r, h.gg.rely (by rw [n.ty]; decide) n.aG.e n.aG.d r,
   h.q.rely (by rw [n.ty]; decide) h.aQ.e h.aQ.d r, h.aQ, Nat.le_trans h.sz r.kept.size, fun t ht => (h.kp t ht).rely (by rw [n.ty]; exact (n.kd t ht).2.2.1) (n.kd t ht).1 (n.kd t ht).2.1 r, h.kq,
   ⟨h.od.q, r.tape.trans h.od.t, r.os.trans h.od.o, r.output.trans h.od.u, fun x hx => (r.block x (by have := n.oo; have := h.sz; omega) (fun f => by have := f.1; have := n.oo; omega) (by have := n.oo; omega) (by have := n.oo; omega)).trans (h.od.b x hx)⟩⟩

/-- Reads of the known blocks are within the guarantee. -/
theorem KM.evK (n : En p Sh E Dn a) (h : KM p Sh E Dn a kc pc Q qc w) (i : Nat) : EvB p Sh w ⟨.cell ⟨a.K, i, none⟩, false, false⟩ := evB_cell h.k (by rw [n.ty]; decide) _ _ (n.aK.s _) (by simp)
theorem KM.evP (n : En p Sh E Dn a) (h : KM p Sh E Dn a kc pc Q qc w) (i : Nat) : EvB p Sh w ⟨.cell ⟨a.P, i, none⟩, false, false⟩ := evB_cell h.pp (by rw [n.ty]; decide) _ _ (n.aP.s _) (by simp)
theorem KM.evR (n : En p Sh E Dn a) (h : KM p Sh E Dn a kc pc Q qc w) (i : Nat) : EvB p Sh w ⟨.cell ⟨a.R, i, none⟩, false, false⟩ := evB_cell h.rr (by rw [n.ty]; decide) _ _ (n.aR.s _) (by simp)
theorem KM.evG (n : En p Sh E Dn a) (h : KM p Sh E Dn a kc pc Q qc w) (i : Nat) : EvB p Sh w ⟨.cell ⟨a.G, i, none⟩, false, false⟩ := evB_cell h.gg (by rw [n.ty]; decide) _ _ (n.aG.s _) (by simp)
theorem KM.evQ (n : En p Sh E Dn a) (h : KM p Sh E Dn a kc pc Q qc w) (i : Nat) : EvB p Sh w ⟨.cell ⟨Q, i, none⟩, false, false⟩ := evB_cell h.q (by rw [n.ty]; decide) _ _ (h.aQ.s _) (by simp)

theorem Has.ne {b b' : Nat} {ty ty' : TypeId} {cs cs' : Array Value} (h : Has b ty cs w) (h' : Has b' ty' cs' w) (ht : ty ≠ ty') : b ≠ b' := fun e => by
  unfold Has at h h'
  rw [e, h'] at h
  cases h
  exact ht rfl
theorem KM.dP (h : KM p Sh E Dn a kc pc Q qc w) : a.P ≠ a.R ∧ a.P ≠ a.G ∧ a.P ≠ Q := ⟨h.pp.ne h.rr (by decide), h.pp.ne h.gg (by decide), h.pp.ne h.q (by decide)⟩
theorem KM.dK (h : KM p Sh E Dn a kc pc Q qc w) : a.K ≠ a.R ∧ a.K ≠ a.G ∧ a.K ≠ Q := ⟨h.k.ne h.rr (by decide), h.k.ne h.gg (by decide), h.k.ne h.q (by decide)⟩
theorem Old.set {Q b : Nat} (h : Old a Q w) (hb : a.O ≤ b) (i : Nat) (v : Value) : Old a Q (w.setCell ⟨b, i, none⟩ v) := ⟨h.q, h.t, h.o, h.u, fun x hx => (setCell_get w _ v (show x ≠ b by omega)).trans (h.b x hx)⟩
theorem Old.alloc {Q : Nat} (h : Old a Q w) (hb : a.O ≤ w.heap.size) (o : Obj) : Old a Q (w.alloc o) := ⟨h.q, h.t, h.o, h.u, fun x hx => (alloc_get w o (by omega)).trans (h.b x hx)⟩
/-- A store into the process. -/
theorem KM.setP (n : En p Sh E Dn a) (h : KM p Sh E Dn a kc pc Q qc w) (i : Nat) (v : Value) : KM p Sh E Dn a kc (pc.setIfInBounds i v) Q qc (w.setCell ⟨a.P, i, none⟩ v) :=
  ⟨h.k.setOther (Ne.symm n.kp) i v, h.pp.set i v, h.rr.setOther h.dP.1 i v, h.gg.setOther h.dP.2.1 i v, h.q.setOther h.dP.2.2 i v, h.aQ, by simpa [World.setCell] using h.sz, fun t ht => (h.kp t ht).setOther (Ne.symm (n.kd t ht).2.2.2.2.1) i v, h.kq, h.od.set (n.oo.2.1) i v⟩
/-- A store into the kernel. -/
theorem KM.setK (n : En p Sh E Dn a) (h : KM p Sh E Dn a kc pc Q qc w) (i : Nat) (v : Value) : KM p Sh E Dn a (kc.setIfInBounds i v) pc Q qc (w.setCell ⟨a.K, i, none⟩ v) :=
  ⟨h.k.set i v, h.pp.setOther n.kp i v, h.rr.setOther h.dK.1 i v, h.gg.setOther h.dK.2.1 i v, h.q.setOther h.dK.2.2 i v, h.aQ, by simpa [World.setCell] using h.sz, fun t ht => (h.kp t ht).setOther (Ne.symm (n.kd t ht).2.2.2.1) i v, h.kq, h.od.set (n.oo.1) i v⟩
/-- A new block beside. -/
theorem KM.alloc (h : KM p Sh E Dn a kc pc Q qc w) (o : Obj) : KM p Sh E Dn a kc pc Q qc (w.alloc o) :=
  ⟨h.k.alloc o, h.pp.alloc o, h.rr.alloc o, h.gg.alloc o, h.q.alloc o, h.aQ, by rw [alloc_size]; exact Nat.le_succ_of_le h.sz, fun t ht => (h.kp t ht).alloc o, h.kq, h.od.alloc (Nat.le_of_lt (Nat.lt_of_le_of_lt h.od.q h.q.lt)) o⟩
end

/-- .. and a block of the worker's own beside. -/
structure KB (p : Par) (Sh : Loc → Prop) (E Dn : Nat) (a : Ad) (kc pc : Array Value) (Q : Nat) (qc : Array Value) (nb : Nat) (ty : TypeId) (bx : Array Value) (w : World) : Prop where
  m : KM p Sh E Dn a kc pc Q qc w
  b : Has nb ty bx w
  ab : Apart p Sh E Dn nb

section
variable {p : Par} {Sh : Loc → Prop} {E Dn : Nat} {a : Ad} {kc pc : Array Value} {Q : Nat} {qc : Array Value} {nb : Nat} {ty : TypeId} {bx : Array Value} {w w₁ : World}
theorem KB.rely (n : En p Sh E Dn a) (ht : ty ≠ 44) (h : KB p Sh E Dn a kc pc Q qc nb ty bx w) (r : RB p E Dn w w₁) : KB p Sh E Dn a kc pc Q qc nb ty bx w₁ :=
  ⟨h.m.rely n r, h.b.rely (by rw [n.ty]; exact ht) h.ab.e h.ab.d r, h.ab⟩
theorem KB.new (n : En p Sh E Dn a) (h : KM p Sh E Dn a kc pc Q qc w) (ty : TypeId) (bx : Array Value) : KB p Sh E Dn a kc pc Q qc w.heap.size ty bx (w.alloc (.cells bx ty)) :=
  ⟨h.alloc _, Has.new, Apart.new n.sh n.hE n.hD h.sz⟩
theorem KB.ev (n : En p Sh E Dn a) (ht : ty ≠ 44) (h : KB p Sh E Dn a kc pc Q qc nb ty bx w) (i : Nat) : EvB p Sh w ⟨.cell ⟨nb, i, none⟩, false, false⟩ := evB_cell h.b (by rw [n.ty]; exact ht) _ _ (h.ab.s _) (by simp)
/-- A store into the process, beside the own block. -/
theorem KB.setP (n : En p Sh E Dn a) (h : KB p Sh E Dn a kc pc Q qc nb ty bx w) (ht : ty ≠ 75) (i : Nat) (v : Value) : KB p Sh E Dn a kc (pc.setIfInBounds i v) Q qc nb ty bx (w.setCell ⟨a.P, i, none⟩ v) :=
  ⟨h.m.setP n i v, h.b.setOther (h.m.pp.ne h.b (Ne.symm ht)) i v, h.ab⟩
theorem KM.dtP (n : En p Sh E Dn a) (h : KM p Sh E Dn a kc pc Q qc w) {i : Nat} {v : Value} {es : Array Event} (hes : ∀ e ∈ es, e = ⟨.cell ⟨a.P, i, none⟩, true, false⟩) : DT p Sh E Dn w (w.setCell ⟨a.P, i, none⟩ v) es :=
  dt_store h.pp (by rw [n.ty]; decide) n.aP.e n.aP.d n.aP.t fun e he => by rw [hes e he]; exact evB_cell (h.setP n i v).pp (by rw [n.ty]; decide) _ _ (n.aP.s _) (fun _ => n.aP.t _)
theorem KM.dtK (n : En p Sh E Dn a) (h : KM p Sh E Dn a kc pc Q qc w) {i : Nat} {v : Value} {es : Array Event} (hes : ∀ e ∈ es, e = ⟨.cell ⟨a.K, i, none⟩, true, false⟩) : DT p Sh E Dn w (w.setCell ⟨a.K, i, none⟩ v) es :=
  dt_store h.k (by rw [n.ty]; decide) n.aK.e n.aK.d n.aK.t fun e he => by rw [hes e he]; exact evB_cell (h.setK n i v).k (by rw [n.ty]; decide) _ _ (n.aK.s _) (fun _ => n.aK.t _)
theorem KM.dtAlloc (n : En p Sh E Dn a) (h : KM p Sh E Dn a kc pc Q qc w) (ht : ty ≠ 44) {es : Array Event} (hes : ∀ e ∈ es, False) : DT p Sh E Dn w (w.alloc (.cells bx ty)) es :=
  dt_alloc (by simp [isEv, n.ty, ht]) (Nat.lt_of_lt_of_le n.hE h.sz) (Nat.lt_of_lt_of_le n.hD h.sz) fun e he => (hes e he).elim
end

/-- The process's cells are these or those. -/
def KO (p : Par) (Sh : Loc → Prop) (E Dn : Nat) (a : Ad) (kc pc pc1 : Array Value) (Q : Nat) (qc : Array Value) (w : World) : Prop := KM p Sh E Dn a kc pc Q qc w ∨ KM p Sh E Dn a kc pc1 Q qc w
section
variable {p : Par} {Sh : Loc → Prop} {E Dn : Nat} {a : Ad} {kc pc pc1 : Array Value} {Q : Nat} {qc : Array Value} {w w₁ : World}
theorem KO.rely (n : En p Sh E Dn a) (h : KO p Sh E Dn a kc pc pc1 Q qc w) (r : RB p E Dn w w₁) : KO p Sh E Dn a kc pc pc1 Q qc w₁ := h.imp (·.rely n r) (·.rely n r)
theorem KO.cell (h : KO p Sh E Dn a kc pc pc1 Q qc w) {i : Nat} {v : Value} (h1 : pc[i]? = some v) (h2 : pc1[i]? = some v) : w.cell? ⟨a.P, i, none⟩ = some v := h.elim (fun x => x.pp.cell h1) (fun x => x.pp.cell h2)
theorem KO.evP (n : En p Sh E Dn a) (h : KO p Sh E Dn a kc pc pc1 Q qc w) (i : Nat) : EvB p Sh w ⟨.cell ⟨a.P, i, none⟩, false, false⟩ := h.elim (fun x => x.evP n i) (fun x => x.evP n i)
end

/-- One operation of a drawn region, with what follows behind a variable. -/
theorem opC_k {P : Program} {R : World → World → Prop} {D : World → World → Array Event → Prop} {fn : FuncId} {ops : Array Oper} {i : Nat} {o : Oper} {K : Act → World → Prop} {a : Act} {w : World} (ho : ops[i]? = some o) (hw : Region.wanted o (yielded ops a.tmps) = true)
    (h : ∀ w₁, R w w₁ → ∀ K' : Act → World → Prop, (∀ a' w', D w₁ w' (listed P fn a o w₁) ∧ K a' w' → K' a' w') → uponK o a K' ((execOp a.eval o).run P w₁)) : OpC P R D fn ops i K a w := by
  unfold OpC
  simp only [ho, hw, if_true]
  exact fun w₁ h₁ => h w₁ h₁ _ fun _ _ x => x
end Go.Hx
