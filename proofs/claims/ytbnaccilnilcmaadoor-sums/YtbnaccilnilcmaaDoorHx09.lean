/-
  More of the worker's memory: stores into a block of its own; guarantees of several stores.
  No condition but those that each statement names.
-/
import Derived.Test.YtbnaccilnilcmaaDoorHx08
set_option linter.unusedVariables false
set_option linter.unusedSimpArgs false
set_option linter.unusedSectionVars false
namespace Go.Hx
open Go.Conc Go.RowKit

section
variable {p : Par} {Sh : Loc → Prop} {E Dn : Nat} {w w₁ w' : World}
theorem dt_trans {es : Array Event} (h : DT p Sh E Dn w w₁ #[]) (h' : DT p Sh E Dn w₁ w' es) : DT p Sh E Dn w w' es :=
  ⟨RA.trans _ _ _ h.1 h'.1, h'.2.1.trans h.2.1, h'.2.2.1.trans h.2.2.1, h'.2.2.2⟩
theorem dt_store0 {b : Nat} {ty : TypeId} {cs : Array Value} {i : Nat} {v : Value} (h : Has b ty cs w) (ht : ty ≠ p.ety) (hE : b ≠ E) (hD : b ≠ Dn) (hT : ∀ i, ¬ p.Still (.cell ⟨b, i, none⟩)) : DT p Sh E Dn w (w.setCell ⟨b, i, none⟩ v) #[] := dt_store h ht hE hD hT (by simp)
end

/-- A block that is none of the kernel's. -/
structure Off (a : Ad) (Q nb : Nat) : Prop where
  k : nb ≠ a.K
  p : nb ≠ a.P
  r : nb ≠ a.R
  g : nb ≠ a.G
  q : nb ≠ Q
  kp : ∀ t ∈ a.keep, nb ≠ t.1
  o : a.O ≤ nb

section
variable {p : Par} {Sh : Loc → Prop} {E Dn : Nat} {a : Ad} {kc pc : Array Value} {Q : Nat} {qc : Array Value} {nb : Nat} {ty : TypeId} {bx : Array Value} {w w₁ : World}
theorem KM.off (h : KM p Sh E Dn a kc pc Q qc w) : Off a Q w.heap.size := by
  have h1 := h.k.lt; have h2 := h.pp.lt; have h3 := h.rr.lt; have h4 := h.gg.lt; have h5 := h.q.lt
  exact ⟨by omega, by omega, by omega, by omega, by omega, fun t ht => by have := (h.kp t ht).lt; omega, by have := h.od.q; omega⟩
theorem KM.setOff (h : KM p Sh E Dn a kc pc Q qc w) (o : Off a Q nb) (i : Nat) (v : Value) : KM p Sh E Dn a kc pc Q qc (w.setCell ⟨nb, i, none⟩ v) :=
  ⟨h.k.setOther o.k i v, h.pp.setOther o.p i v, h.rr.setOther o.r i v, h.gg.setOther o.g i v, h.q.setOther o.q i v, h.aQ, by simpa [World.setCell] using h.sz, fun t ht => (h.kp t ht).setOther (o.kp t ht) i v, h.kq, h.od.set o.o i v⟩
theorem KB.setB (h : KB p Sh E Dn a kc pc Q qc nb ty bx w) (o : Off a Q nb) (i : Nat) (v : Value) : KB p Sh E Dn a kc pc Q qc nb ty (bx.setIfInBounds i v) (w.setCell ⟨nb, i, none⟩ v) :=
  ⟨h.m.setOff o i v, h.b.set i v, h.ab⟩
theorem KB.dtB (n : En p Sh E Dn a) (ht : ty ≠ 44) (h : KB p Sh E Dn a kc pc Q qc nb ty bx w) (i : Nat) (v : Value) : DT p Sh E Dn w (w.setCell ⟨nb, i, none⟩ v) #[] := dt_store0 h.b (by rw [n.ty]; exact ht) h.ab.e h.ab.d h.ab.t
theorem KB.evW (n : En p Sh E Dn a) (ht : ty ≠ 44) (h : KB p Sh E Dn a kc pc Q qc nb ty bx w) (i : Nat) : EvB p Sh w ⟨.cell ⟨nb, i, none⟩, true, false⟩ := evB_cell h.b (by rw [n.ty]; exact ht) _ _ (h.ab.s _) (fun _ => h.ab.t _)
/-- Four cells at once. -/
theorem KB.dt4 (n : En p Sh E Dn a) (ht : ty ≠ 44) (h : KB p Sh E Dn a kc pc Q qc nb ty bx w) (o : Off a Q nb) (v0 v1 v2 v3 : Value) {es : Array Event} (hes : ∀ e ∈ es, ∃ i, e = ⟨.cell ⟨nb, i, none⟩, true, false⟩) :
    DT p Sh E Dn w ((((w.setCell ⟨nb, 0, none⟩ v0).setCell ⟨nb, 1, none⟩ v1).setCell ⟨nb, 2, none⟩ v2).setCell ⟨nb, 3, none⟩ v3) es := by
  have h1 := h.setB o 0 v0
  have h2 := h1.setB o 1 v1
  have h3 := h2.setB o 2 v2
  have h4 := h3.setB o 3 v3
  refine dt_trans (h.dtB n ht 0 v0) (dt_trans (h1.dtB n ht 1 v1) (dt_trans (h2.dtB n ht 2 v2) ?_))
  refine ⟨(h3.dtB n ht 3 v3).1, (h3.dtB n ht 3 v3).2.1, (h3.dtB n ht 3 v3).2.2.1, fun e he => ?_⟩
  obtain ⟨i, rfl⟩ := hes e he
  exact h4.evW n ht i
/-- A store into the row. -/
theorem KM.setQ (h : KM p Sh E Dn a kc pc Q qc w) (hRQ : a.R ≠ Q) (i : Nat) (v : Value) : KM p Sh E Dn a kc pc Q (qc.setIfInBounds i v) (w.setCell ⟨Q, i, none⟩ v) :=
  ⟨h.k.setOther (Ne.symm h.dK.2.2) i v, h.pp.setOther (Ne.symm h.dP.2.2) i v, h.rr.setOther (Ne.symm hRQ) i v, h.gg.setOther (h.q.ne h.gg (by decide)) i v, h.q.set i v, h.aQ, by simpa [World.setCell] using h.sz, fun t ht => (h.kp t ht).setOther (Ne.symm (h.kq t ht)) i v, h.kq, h.od.set h.od.q i v⟩
theorem KM.dtQ (n : En p Sh E Dn a) (h : KM p Sh E Dn a kc pc Q qc w) (hRQ : a.R ≠ Q) {i : Nat} {v : Value} {es : Array Event} (hes : ∀ e ∈ es, e = ⟨.cell ⟨Q, i, none⟩, true, false⟩) : DT p Sh E Dn w (w.setCell ⟨Q, i, none⟩ v) es :=
  dt_store h.q (by rw [n.ty]; decide) h.aQ.e h.aQ.d h.aQ.t fun e he => by rw [hes e he]; exact evB_cell (h.setQ hRQ i v).q (by rw [n.ty]; decide) _ _ (h.aQ.s _) (fun _ => h.aQ.t _)
end
end Go.Hx
/-
  A walk in company that passes stops (a word told, a word heard ..): the judgement of a piece of code, indexed by what is still to be told; its rules; regions whose order is drawn and that hold calls.
  No condition but those that each statement names.
-/
namespace Go.Hx
open Go.Conc Go.RowKit

/-- What the others may do, what is granted, and the stop, by what is still to be told. -/
structure Fam (σ : Type) where
  R : σ → World → World → Prop
  D : σ → World → World → Array Event → Prop
  Stop : σ → Goroutine → World → Prop
  terms : ∀ s, Terms (R s) (D s)

section
variable {σ : Type} (F : Fam σ) (P : Program) (main : Bool) (fn : FuncId)

def wpX (c : Code) (n : Nat) (s : σ) (Q : σ → Exit → Act → World → Prop) (a : Act) (w : World) : Prop :=
  ∀ (b : Frame) (k : List Item) (cs : List Frame) (m : Nat), b.fn = fn → b.kind ≠ .early →
    (∀ s' e a' w', Q s' e a' w' → After P main (F.R s') (F.D s') (F.Stop s') m b k cs e a' w') → Goes P main (F.R s) (F.D s) (F.Stop s) (m + n) (G (b.at a (.code c :: k)) cs) w
def OpsX (ops : Array Oper) (todo : List Nat) (n : Nat) (s : σ) (Q : σ → Exit → Act → World → Prop) (a : Act) (w : World) : Prop :=
  ∀ (b : Frame) (k : List Item) (cs : List Frame) (m : Nat), b.fn = fn → b.kind ≠ .early →
    (∀ s' e a' w', Q s' e a' w' → After P main (F.R s') (F.D s') (F.Stop s') m b k cs e a' w') → Goes P main (F.R s) (F.D s) (F.Stop s) (m + n) (G (b.at a (.inRegion ops todo :: k)) cs) w
/-- Behind a round of the loop c. -/
def LoopX (c : Code) (n : Nat) (s : σ) (Q : σ → Exit → Act → World → Prop) (a : Act) (w : World) : Prop :=
  ∀ (b : Frame) (k : List Item) (cs : List Frame) (m : Nat), b.fn = fn → b.kind ≠ .early →
    (∀ s' e a' w', Q s' e a' w' → After P main (F.R s') (F.D s') (F.Stop s') m b k cs e a' w') → Goes P main (F.R s) (F.D s) (F.Stop s) (m + n) (G (b.at a (.inLoop c :: k)) cs) w
def ThenX (K : σ → Act → World → Prop) (Q : σ → Exit → Act → World → Prop) : σ → Exit → Act → World → Prop := fun s => Exit.then (K s) (Q s)
def BodyX (f : Func) (Post : σ → Value → World → Prop) : σ → Exit → Act → World → Prop := fun s => bodyPostC P f (Post s)
/-- A contract. -/
def CallsX (f : FuncId) (args : Array Value) (n : Nat) (s : σ) (w : World) (Post : σ → Value → World → Prop) : Prop :=
  ∃ fn c, P.funcs[f]? = some fn ∧ (fn.name == "runtime.NumGoroutine") = false ∧ fn.body = some c ∧
    wpX F P main f c n s (BodyX P fn Post) { tmps := args ++ Array.replicate (fn.ntmps - args.size) undef, defers := [] } w
end

section
variable {σ : Type} {F : Fam σ} {P : Program} {main : Bool} {fn : FuncId} {Q : σ → Exit → Act → World → Prop} {s : σ} {a : Act} {w : World}

theorem wpX_of {c : Code} {n : Nat} (h : c.wpC P main (F.R s) (F.D s) fn n (Q s) a w) : wpX F P main fn c n s Q a w :=
  fun b k cs m hb hk hc => h b k cs _ m hb hk (hc s)
theorem opsX_of {ops : Array Oper} {todo : List Nat} {n : Nat} (h : OpsC P main (F.R s) (F.D s) fn ops todo n (Q s) a w) : OpsX F P main fn ops todo n s Q a w :=
  fun b k cs m hb hk hc => h b k cs _ m hb hk (hc s)
theorem callsX_of {f : FuncId} {args : Array Value} {n : Nat} {Post : σ → Value → World → Prop} (h : CallsC P main (F.R s) (F.D s) f args n w (Post s)) : CallsX F P main f args n s w Post := by
  obtain ⟨g, c, h1, h2, h3, h4⟩ := h
  exact ⟨g, c, h1, h2, h3, wpX_of h4⟩

theorem wpX_rely {c : Code} {n : Nat} {w₁ : World} (h : wpX F P main fn c n s Q a w) (hr : F.R s w w₁) : wpX F P main fn c n s Q a w₁ :=
  fun b k cs m hb hk hc => (h b k cs m hb hk hc).rely (F.terms s).trans hr
theorem opsX_rely {ops : Array Oper} {todo : List Nat} {n : Nat} {w₁ : World} (h : OpsX F P main fn ops todo n s Q a w) (hr : F.R s w w₁) : OpsX F P main fn ops todo n s Q a w₁ :=
  fun b k cs m hb hk hc => (h b k cs m hb hk hc).rely (F.terms s).trans hr
theorem callsX_rely {f : FuncId} {args : Array Value} {n : Nat} {Post : σ → Value → World → Prop} {w₁ : World} (h : CallsX F P main f args n s w Post) (hr : F.R s w w₁) : CallsX F P main f args n s w₁ Post := by
  obtain ⟨g, c, h1, h2, h3, h4⟩ := h
  exact ⟨g, c, h1, h2, h3, wpX_rely h4 hr⟩
theorem wpX_more {c : Code} {n n' : Nat} (h : wpX F P main fn c n s Q a w) (hn : n ≤ n') : wpX F P main fn c n' s Q a w :=
  fun b k cs m hb hk hc => (h b k cs m hb hk hc).mono (by omega)
theorem opsX_more {ops : Array Oper} {todo : List Nat} {n n' : Nat} (h : OpsX F P main fn ops todo n s Q a w) (hn : n ≤ n') : OpsX F P main fn ops todo n' s Q a w :=
  fun b k cs m hb hk hc => (h b k cs m hb hk hc).mono (by omega)
theorem wpX_mono {c : Code} {n : Nat} {Q' : σ → Exit → Act → World → Prop} (h : wpX F P main fn c n s Q a w) (hq : ∀ s e a w, Q s e a w → Q' s e a w) : wpX F P main fn c n s Q' a w :=
  fun b k cs m hb hk hc => h b k cs m hb hk fun s' e a' w' q => hc s' e a' w' (hq s' e a' w' q)

theorem after_then {K : σ → Act → World → Prop} {b : Frame} {x : Item} {k : List Item} {cs : List Frame} {m m' : Nat} (hx : x.plain = true) (hm : m ≤ m')
    (hc : ∀ s' e a' w', Q s' e a' w' → After P main (F.R s') (F.D s') (F.Stop s') m b k cs e a' w')
    (hK : ∀ s' a' w', K s' a' w' → Goes P main (F.R s') (F.D s') (F.Stop s') m' (G (b.at a' (x :: k)) cs) w') :
    ∀ s' e a' w', ThenX K Q s' e a' w' → After P main (F.R s') (F.D s') (F.Stop s') m' b (x :: k) cs e a' w' := by
  intro s' e a' w' q
  cases e with
  | normal => exact hK s' a' w' q
  | exit id => exact ((hc _ _ _ _ q).mono hm).push hx (by simp)
  | ret => exact ((hc _ _ _ _ q).mono hm).push (x := x) hx (by simp)
  | goto l => exact hc _ _ _ _ q
  | panic ch => exact hc _ _ _ _ q
  | outgrown => exact hc _ _ _ _ q

theorem wpX_seq {x y : Code} {n₁ n₂ : Nat} (h : wpX F P main fn x n₁ s (ThenX (fun s' a' w' => wpX F P main fn y n₂ s' Q a' w') Q) a w) : wpX F P main fn (Code.seq x y) (n₁ + n₂ + 1) s Q a w := by
  intro b k cs m hb hk hc
  have hx := h b (.code y :: k) cs (m + n₂) hb hk (after_then rfl (Nat.le_add_right _ _) hc fun s' a' w' q => q b k cs m hb hk hc)
  have e : m + (n₁ + n₂ + 1) = (m + n₂ + n₁) + 1 := by omega
  rw [e]
  exact Goes.step rfl fun w₁ h₁ => by rw [stepG_seq]; exact ⟨(F.terms s).idle _, hx.rely (F.terms s).trans h₁⟩
/-- .. where the first piece passes no stop. -/
theorem wpX_seqC {x y : Code} {n₁ n₂ : Nat} (h : x.wpC P main (F.R s) (F.D s) fn n₁ (Exit.then (fun a' w' => wpX F P main fn y n₂ s Q a' w') (Q s)) a w) : wpX F P main fn (Code.seq x y) (n₁ + n₂ + 1) s Q a w :=
  wpX_seq (wpX_of h)

theorem wpX_cond {c : Operand} {x y : Code} {t : Bool} {n : Nat} (hc : a.eval c = .bool t) (h : wpX F P main fn (if t then x else y) n s Q a w) : wpX F P main fn (Code.cond c x y) (n + 1) s Q a w :=
  fun b k cs m hb hk hq => Goes.step rfl fun w₁ h₁ => by rw [stepG_cond hc]; exact ⟨(F.terms s).idle _, (h b k cs m hb hk hq).rely (F.terms s).trans h₁⟩

theorem wpX_block {id : Nat} {c : Code} {n : Nat} (h : wpX F P main fn c n s (fun s' => Exit.inBlock id (Q s')) a w) : wpX F P main fn (Code.block id c) (n + 2) s Q a w := by
  intro b k cs m hb hk hc
  have hx : Goes P main (F.R s) (F.D s) (F.Stop s) (m + 1 + n) (G (b.at a (.code c :: .inBlock id :: k)) cs) w := by
    refine h b (.inBlock id :: k) cs (m + 1) hb hk fun s' e a' w' q => ?_
    cases e with
    | normal => exact Goes.step rfl fun w₁ h₁ => by rw [stepG_inBlock]; exact ⟨(F.terms s').idle _, Goes.rely (F.terms s').trans (hc _ _ _ _ q) h₁⟩
    | exit id' =>
      by_cases hid : id' = id
      · simp only [Exit.inBlock, hid, if_true] at q
        exact ⟨k, by simp [exitTo, hid], Goes.more (hc _ _ _ _ q)⟩
      · simp only [Exit.inBlock, hid, if_false] at q
        obtain ⟨k', hk', hg⟩ := hc _ _ _ _ q
        have : (id == id') = false := by simp; exact fun h => hid h.symm
        exact ⟨k', by simp [exitTo, this, hk'], hg.more⟩
    | ret => exact fun todo => (hc _ _ _ _ q todo).more
    | goto l => exact hc _ _ _ _ q
    | panic ch => exact hc _ _ _ _ q
    | outgrown => exact hc _ _ _ _ q
  have e : m + (n + 2) = (m + 1 + n) + 1 := by omega
  rw [e]
  exact Goes.step rfl fun w₁ h₁ => by rw [stepG_block]; exact ⟨(F.terms s).idle _, hx.rely (F.terms s).trans h₁⟩

theorem wpX_loop1 {c : Code} {n₁ n₂ : Nat} (h : wpX F P main fn c n₁ s (ThenX (fun s' a' w' => LoopX F P main fn c n₂ s' Q a' w') Q) a w) : wpX F P main fn (Code.loop c) (n₁ + n₂ + 1) s Q a w := by
  intro b k cs m hb hk hc
  have hx := h b (.inLoop c :: k) cs (m + n₂) hb hk (after_then rfl (Nat.le_add_right _ _) hc fun s' a' w' q => q b k cs m hb hk hc)
  have e : m + (n₁ + n₂ + 1) = (m + n₂ + n₁) + 1 := by omega
  rw [e]
  exact Goes.step rfl fun w₁ h₁ => by rw [stepG_loop]; exact ⟨(F.terms s).idle _, hx.rely (F.terms s).trans h₁⟩
theorem loopX1 {c : Code} {n₁ n₂ : Nat} (h : wpX F P main fn c n₁ s (ThenX (fun s' a' w' => LoopX F P main fn c n₂ s' Q a' w') Q) a w) : LoopX F P main fn c (n₁ + n₂ + 1) s Q a w := by
  intro b k cs m hb hk hc
  have hx := h b (.inLoop c :: k) cs (m + n₂) hb hk (after_then rfl (Nat.le_add_right _ _) hc fun s' a' w' q => q b k cs m hb hk hc)
  have e : m + (n₁ + n₂ + 1) = (m + n₂ + n₁) + 1 := by omega
  rw [e]
  exact Goes.step rfl fun w₁ h₁ => by rw [stepG_inLoop]; exact ⟨(F.terms s).idle _, hx.rely (F.terms s).trans h₁⟩

theorem wpX_region {id : Nat} {ops : Array Oper} {n : Nat} (h : OpsX F P main fn ops (List.range ops.size) n s Q a w) : wpX F P main fn (Code.region id ops false) (n + 1) s Q a w :=
  fun b k cs m hb hk hc => Goes.step rfl fun w₁ h₁ => by rw [stepG_region]; exact ⟨(F.terms s).idle _, (h b k cs m hb hk hc).rely (F.terms s).trans h₁⟩
theorem opsX_nil {ops : Array Oper} (h : Q s .normal a w) : OpsX F P main fn ops [] 1 s Q a w := opsX_of (opsC_nil (F.terms s) h)
theorem opsX_cons {ops : Array Oper} {i : Nat} {rest : List Nat} {o : Oper} {n : Nat} (ho : ops[i]? = some o) (hw : Region.wanted o (yielded ops a.tmps) = true)
    (h : ∀ w₁, F.R s w w₁ → uponK o a (fun a' w' => F.D s w₁ w' (listed P fn a o w₁) ∧ OpsX F P main fn ops rest n s Q a' w') ((execOp a.eval o).run P w₁)) : OpsX F P main fn ops (i :: rest) (n + 1) s Q a w := by
  intro b k cs m hb hk hc
  refine Goes.step rfl fun w₁ h₁ => goes_oper ho hw hk ?_
  have := h w₁ h₁
  revert this
  cases (execOp a.eval o).run P w₁ with
  | ok x w' => cases x <;> first | exact fun ⟨d, g⟩ => ⟨hb ▸ d, g b k cs m hb hk hc⟩ | exact id
  | halt _ _ => exact id
theorem opsX_cons_k {ops : Array Oper} {i : Nat} {rest : List Nat} {o : Oper} {n : Nat} (ho : ops[i]? = some o) (hw : Region.wanted o (yielded ops a.tmps) = true)
    (h : ∀ w₁, F.R s w w₁ → ∀ K : Act → World → Prop, (∀ a' w', F.D s w₁ w' (listed P fn a o w₁) ∧ OpsX F P main fn ops rest n s Q a' w' → K a' w') → uponK o a K ((execOp a.eval o).run P w₁)) : OpsX F P main fn ops (i :: rest) (n + 1) s Q a w :=
  opsX_cons ho hw fun w₁ h₁ => h w₁ h₁ _ fun _ _ x => x
theorem opsX_unwanted {ops : Array Oper} {i : Nat} {rest : List Nat} {o : Oper} {n : Nat} (ho : ops[i]? = some o) (hw : Region.wanted o (yielded ops a.tmps) = false)
    (h : OpsX F P main fn ops rest n s Q (a.put o.dst undef) w) : OpsX F P main fn ops (i :: rest) (n + 1) s Q a w :=
  fun b k cs m hb hk hc => Goes.step rfl fun w₁ h₁ => by rw [stepG_unwanted ho hw]; exact ⟨(F.terms s).idle _, (h b k cs m hb hk hc).rely (F.terms s).trans h₁⟩

theorem callsX_of_wpX {f : FuncId} {g : Func} {c : Code} {args : Array Value} {n : Nat} {Post : σ → Value → World → Prop} (hf : P.funcs[f]? = some g) (hname : (g.name == "runtime.NumGoroutine") = false) (hb : g.body = some c)
    (h : wpX F P main f c n s (BodyX P g Post) { tmps := args ++ Array.replicate (g.ntmps - args.size) undef, defers := [] } w) : CallsX F P main f args n s w Post := ⟨g, c, hf, hname, hb, h⟩

theorem CallsX.mono {f : FuncId} {args : Array Value} {n : Nat} {Post Post' : σ → Value → World → Prop} (h : CallsX F P main f args n s w Post) (hp : ∀ s v w, Post s v w → Post' s v w) : CallsX F P main f args n s w Post' := by
  obtain ⟨g, c, hf, hn, hb, hw⟩ := h
  refine ⟨g, c, hf, hn, hb, wpX_mono hw fun s e a w q => ?_⟩
  cases e <;> first | exact ⟨q.1, q.2.choose, q.2.choose_spec.1, hp _ _ _ q.2.choose_spec.2⟩ | exact q

/-- Through a call. -/
theorem goesX_call {b : Frame} {k : List Item} {cs : List Frame} {ops : Array Oper} {i : Nat} {rest : List Nat} {o : Oper} {f : FuncId} {args : Array Operand} {ats : Array TypeId}
    {nf m : Nat} {Post : σ → Value → World → Prop}
    (ho : ops[i]? = some o) (hw : Region.wanted o (yielded ops a.tmps) = true) (hk : b.kind ≠ .early) (hop : o.op = .call { callee := .value (.func f), args, argTypes := ats })
    (hcall : CallsX F P main f (args.map a.eval) nf s w Post)
    (hnext : ∀ s' v w', Post s' v w' → Goes P main (F.R s') (F.D s') (F.Stop s') m (G (b.at (a.put o.dst v) (.inRegion ops rest :: k)) cs) w') :
    Goes P main (F.R s) (F.D s) (F.Stop s) (m + nf + 3) (G (b.at a (.inRegion ops (i :: rest) :: k)) cs) w := by
  obtain ⟨g, c, hf, hname, hbody, hwp⟩ := hcall
  have hfin : ∀ v, (b.at a (.inRegion ops (i :: rest) :: k)).finish v = b.at (a.put o.dst v) (.inRegion ops rest :: k) := fun v => by rw [Frame.finish_at, ho]; rfl
  have hleave : ∀ (s' : σ) (a' : Act) (w' : World) (todo : List Item), (a'.defers = [] ∧ ∃ v, ResultsC P g a'.tmps v ∧ Post s' v w') →
      Goes P main (F.R s') (F.D s') (F.Stop s') (m + 1) (G { (base f).at a' todo with mode := .returning } (b.at a (.inRegion ops (i :: rest) :: k) :: cs)) w' := by
    rintro s' a' w' todo ⟨hd, v, hr, hp⟩
    refine Goes.step rfl fun w₁ h₁ => ?_
    rw [stepG_leave (b := base f) rfl hd hf (hr w₁).1 (hr w₁).2, hfin]
    exact ⟨(F.terms s').idle _, (hnext s' v w' hp).rely (F.terms s').trans h₁⟩
  have hbodyG : Goes P main (F.R s) (F.D s) (F.Stop s) (m + 2 + nf) (G ((base f).at { tmps := args.map a.eval ++ Array.replicate (g.ntmps - (args.map a.eval).size) undef, defers := [] } [.code c]) (b.at a (.inRegion ops (i :: rest) :: k) :: cs)) w := by
    refine hwp (base f) [] _ (m + 2) rfl (by simp [base]) fun s' e a' w' q => ?_
    cases e with
    | normal => exact Goes.step rfl fun w₁ h₁ => by rw [stepG_end]; exact ⟨(F.terms s').idle _, (hleave s' a' w' [] q).rely (F.terms s').trans h₁⟩
    | ret => exact fun todo => (hleave s' a' w' todo q).more
    | exit id => exact q.elim
    | goto l => exact q.elim
    | panic ch => exact q.elim
    | outgrown => exact q.elim
  have e : m + nf + 3 = (m + 2 + nf) + 1 := by omega
  rw [e]
  exact Goes.step rfl fun w₁ h₁ => goes_call ho hw hk hop hf hname hbody ⟨(F.terms s).idle _, hbodyG.rely (F.terms s).trans h₁⟩

theorem opsX_call {ops : Array Oper} {i : Nat} {rest : List Nat} {o : Oper} {f : FuncId} {args : Array Operand} {ats : Array TypeId} {nf n : Nat} {Post : σ → Value → World → Prop}
    (ho : ops[i]? = some o) (hw : Region.wanted o (yielded ops a.tmps) = true) (hop : o.op = .call { callee := .value (.func f), args, argTypes := ats })
    (hcall : CallsX F P main f (args.map a.eval) nf s w Post) (hnext : ∀ s' v w', Post s' v w' → OpsX F P main fn ops rest n s' Q (a.put o.dst v) w') : OpsX F P main fn ops (i :: rest) (n + nf + 3) s Q a w := by
  intro b k cs m hb hk hc
  have := goesX_call (m := m + n) (b := b) (k := k) (cs := cs) ho hw hk hop hcall fun s' v w' hp => hnext s' v w' hp b k cs m hb hk hc
  exact this.mono (by omega)
end

/-! ### a region that draws its order and holds calls -/
section
variable {σ : Type} (F : Fam σ) (P : Program) (main : Bool) (fn : FuncId) (ops : Array Oper) (md : Region.Mode) (S : σ → World → Prop) (Q : σ → Exit → Act → World → Prop) (nf : Nat)

/-- Operation number i comes up. -/
def OpX (i : Nat) (K : σ → Act → World → Prop) (s : σ) (a : Act) (w : World) : Prop :=
  OpC P (F.R s) (F.D s) fn ops i (K s) a w ∨
  ∃ o f args ats Post, ops[i]? = some o ∧ Region.wanted o (yielded ops a.tmps) = true ∧ o.op = .call { callee := .value (.func f), args := args, argTypes := ats } ∧ CallsX F P main f (args.map a.eval) nf s w Post ∧
    ∀ s' v w', Post s' v w' → K s' (a.put o.dst v) w'

def AnyX : Nat → Array Bool → σ → Act → World → Prop
  | 0, listed, s, a, w => Region.ready md ops listed = [] ∧ Q s .normal a w
  | fuel + 1, listed, s, a, w =>
    (Region.ready md ops listed = [] → Q s .normal a w) ∧
    ∀ i ∈ Region.ready md ops listed, OpX F P main fn ops nf i (fun s' a' w' => S s' w' ∧ AnyX fuel (listed.setIfInBounds i true) s' a' w') s a w
end

section
variable {σ : Type} {F : Fam σ} {P : Program} {main : Bool} {fn : FuncId} {ops : Array Oper} {md : Region.Mode} {S : σ → World → Prop} {Q : σ → Exit → Act → World → Prop} {nf : Nat}

theorem OpX_mono {i : Nat} {s : σ} {a : Act} {w : World} {K K' : σ → Act → World → Prop} (h : ∀ s a w, K s a w → K' s a w) (hh : OpX F P main fn ops nf i K s a w) : OpX F P main fn ops nf i K' s a w := by
  rcases hh with x | ⟨o, f, args, ats, Post, h1, h2, h3, h4, h5⟩
  · exact .inl (OpC_mono (h s) x)
  · exact .inr ⟨o, f, args, ats, Post, h1, h2, h3, h4, fun s' v w' hp => h _ _ _ (h5 s' v w' hp)⟩

theorem opsX_of_opX {i : Nat} {rest : List Nat} {n : Nat} {s : σ} {a : Act} {w : World} (h : OpX F P main fn ops nf i (fun s' a' w' => OpsX F P main fn ops rest n s' Q a' w') s a w) : OpsX F P main fn ops (i :: rest) (n + nf + 3) s Q a w := by
  rcases h with h | ⟨o, f, args, ats, Post, h1, h2, h3, h4, h5⟩
  · unfold OpC at h
    split at h
    · exact h.elim
    · rename_i o ho
      split at h
      · rename_i hw; exact opsX_more (opsX_cons ho hw h) (by omega)
      · rename_i hw; exact opsX_more (opsX_unwanted ho (by simpa using hw) h) (by omega)
  · exact opsX_call h1 h2 h3 h4 h5

theorem AnyX.rely (hSR : ∀ s x y, S s x → F.R s x y → S s y) (hQR : ∀ s a x y, Q s .normal a x → F.R s x y → Q s .normal a y) :
    ∀ (fuel : Nat) (listed : Array Bool) (s : σ) (a : Act) (w w₁ : World), AnyX F P main fn ops md S Q nf fuel listed s a w → F.R s w w₁ → AnyX F P main fn ops md S Q nf fuel listed s a w₁
  | 0, _, _, _, _, _, h, r => ⟨h.1, hQR _ _ _ _ h.2 r⟩
  | fuel + 1, listed, s, a, w, w₁, h, r => ⟨fun e => hQR _ _ _ _ (h.1 e) r, fun i hi => by
      rcases h.2 i hi with this | ⟨o, f, args, ats, Post, h1, h2, h3, h4, h5⟩
      · refine .inl ?_
        unfold OpC at *
        split
        · simp_all
        · rename_i o ho
          simp only [ho] at this
          split
          · rename_i hw; simp only [hw, if_true] at this; exact fun w₂ h₂ => this w₂ ((F.terms s).trans _ _ _ r h₂)
          · rename_i hw; simp only [hw] at this; exact ⟨hSR _ _ _ this.1 r, AnyX.rely hSR hQR fuel _ _ _ _ _ this.2 r⟩
      · exact .inr ⟨o, f, args, ats, Post, h1, h2, h3, callsX_rely h4 r, h5⟩⟩

theorem anyX_sound : ∀ (fuel t : Nat) (listed : Array Bool) (s : σ) (a : Act) (w : World), AnyX F P main fn ops md S Q nf fuel listed s a w →
    OpsX F P main fn ops (Region.linearise.go md ops fuel t listed []) (fuel * (nf + 3) + 1) s Q a w := by
  intro fuel
  induction fuel with
  | zero => intro t listed s a w h; simpa [Region.linearise.go] using opsX_nil h.2
  | succ fuel ih =>
    intro t listed s a w h
    obtain ⟨h₀, h₁⟩ := h
    simp only [Region.linearise.go]
    change OpsX F P main fn ops (match (Region.ready md ops listed)[t % (Region.ready md ops listed).length]? with
      | some i => Region.linearise.go md ops fuel (t / (Region.ready md ops listed).length) (listed.setIfInBounds i true) [i]
      | none => [].reverse) ((fuel + 1) * (nf + 3) + 1) s Q a w
    cases hi : (Region.ready md ops listed)[t % (Region.ready md ops listed).length]? with
    | none =>
      have hnil : Region.ready md ops listed = [] := by
        cases hr : Region.ready md ops listed with
        | nil => rfl
        | cons x xs =>
          rw [hr] at hi
          have hlt : t % (x :: xs).length < (x :: xs).length := Nat.mod_lt _ (by simp)
          simp at hi
          simp at hlt
          omega
      exact opsX_more (by simpa using opsX_nil (h₀ hnil)) (by omega)
    | some i =>
      simp only []
      rw [linearise_go_acc, List.reverse_singleton, List.singleton_append]
      have := opsX_of_opX (OpX_mono (fun s' a' w' x => ih (t / (Region.ready md ops listed).length) _ s' a' w' x.2) (h₁ i (List.mem_of_getElem? hi)))
      exact opsX_more this (by rw [Nat.succ_mul]; omega)

def YieldsX (F : Fam σ) (P : Program) (fn : FuncId) (ops : Array Oper) (S : σ → World → Prop) (o : Oper) (v : Value) (a : Act) : Prop := ∀ s, YieldsIfC P (F.D s) fn ops (S s) o v a

theorem YieldsX.opX (hSR : ∀ s x y, S s x → F.R s x y → S s y) {i : Nat} {o : Oper} {v : Value} {s : σ} {a : Act} (hi : ops[i]? = some o) (hy : YieldsX F P fn ops S o v a)
    {K : σ → Act → World → Prop} (hK : ∀ s a x y, K s a x → F.R s x y → K s a y) {w : World} (hS : S s w) (h : K s (a.put o.dst v) w) : OpX F P main fn ops nf i K s a w :=
  .inl ((hy s).opC (hSR s) hi (hK s) hS h)

theorem OpX_putIf {j : Nat} {oi oj : Oper} {v : Value} (hj : ops[j]? = some oj) (hap : oi.apart ops oj = true)
    (hsi : ∀ cs b, oi.op ≠ .select cs b) (hsj : ∀ cs b, oj.op ≠ .select cs b) {K : σ → Act → World → Prop} {s : σ} {a : Act} {w : World}
    (hy : YieldsX F P fn ops S oi v a) (h : OpX F P main fn ops nf j K s (a.put oi.dst v) w) :
    OpX F P main fn ops nf j (fun s' a' w' => YieldsX F P fn ops S oi v a' ∧ K s' (a'.put oi.dst v) w') s a w := by
  obtain ⟨h1, h2, h3⟩ := Oper.apart_spec hap
  have keep : ∀ (a : Act), YieldsX F P fn ops S oi v a → ∀ u, YieldsX F P fn ops S oi v (a.put oj.dst u) := fun a hy u s =>
    (hy s).of_same (execOp_put oi hsi a oj.dst u h3) (wanted_put oi a oj.dst u h3)
  rcases h with h | ⟨o, f, args, ats, Post, g1, g2, g3, g4, g5⟩
  · refine .inl ?_
    unfold OpC at *
    simp only [hj] at *
    rw [wanted_put oj a oi.dst v h1] at h
    split
    · rename_i hw
      simp only [hw, if_true] at h
      intro w₁ h₁
      have h := h w₁ h₁
      unfold listed at *
      rw [execOp_put oj hsj a oi.dst v h1] at h
      generalize (execOp a.eval oj).run P w₁ = r at *
      cases r with
      | ok n w' =>
        cases n <;> simp only [uponK] at h ⊢
        case value u => exact ⟨h.1, keep a hy u, by rw [← Act.put_comm a v u h2]; exact h.2⟩
        case skip => exact ⟨h.1, keep a hy _, by rw [← Act.put_comm a v undef h2]; exact h.2⟩
      | halt x w' => simp only [uponK] at h
    · rename_i hw
      simp only [hw] at h
      exact ⟨keep a hy _, by rw [← Act.put_comm a v undef h2]; exact h⟩
  · obtain rfl : oj = o := Option.some.inj (hj.symm.trans g1)
    refine .inr ⟨oj, f, args, ats, Post, hj, by rw [wanted_put oj a oi.dst v h1] at g2; exact g2, g3, ?_, fun s' u w' hp => ⟨keep a hy u, by rw [← Act.put_comm a v u h2]; exact g5 s' u w' hp⟩⟩
    have : args.map (a.put oi.dst v).eval = args.map a.eval := by
      apply Array.map_congr_left
      intro x hx
      refine Act.eval_put fun d hd hxd => h1 d hd ?_
      subst hxd
      refine List.mem_append_left _ (List.mem_filterMap.2 ⟨.tmp d, ?_, rfl⟩)
      simp [g3, Op.operands, Call.operands, hx]
    rw [this] at g4
    exact g4

theorem anyX_first (hSR : ∀ s x y, S s x → F.R s x y → S s y) (hQR : ∀ s a x y, Q s .normal a x → F.R s x y → Q s .normal a y) {i : Nat} {oi : Oper} {v : Value} (hi : ops[i]? = some oi)
    (hsel : ∀ (j : Nat) (o : Oper) cs b, ops[j]? = some o → o.op ≠ .select cs b) :
    ∀ (fuel : Nat) (listed : Array Bool) (s : σ) (a : Act) (w : World),
      (∀ j oj, ops[j]? = some oj → j ≠ i → listed.getD j true = false → (∀ e ∈ oj.after, Region.binds md e = true → e.on ≠ i) → oi.apart ops oj = true) →
      i ∈ Region.ready md ops listed → YieldsX F P fn ops S oi v a → S s w →
      AnyX F P main fn ops md S Q nf fuel (listed.setIfInBounds i true) s (a.put oi.dst v) w → AnyX F P main fn ops md S Q nf (fuel + 1) listed s a w := by
  have hK : ∀ fuel listed, ∀ s a x y, (S s x ∧ AnyX F P main fn ops md S Q nf fuel listed s a x) → F.R s x y → (S s y ∧ AnyX F P main fn ops md S Q nf fuel listed s a y) :=
    fun fuel listed s a x y h r => ⟨hSR _ _ _ h.1 r, AnyX.rely hSR hQR fuel listed s a x y h.2 r⟩
  intro fuel
  induction fuel with
  | zero =>
    intro listed s a w _ hr hy hS H
    refine ⟨fun h => (by rw [h] at hr; cases hr), fun j hj => ?_⟩
    by_cases hji : j = i
    · subst hji; exact hy.opX hSR hi (hK _ _) hS ⟨hS, H⟩
    · have := ready_mono hj hji
      rw [H.1] at this
      cases this
  | succ fuel ih =>
    intro listed s a w hfree hr hy hS H
    refine ⟨fun h => (by rw [h] at hr; cases hr), fun j hj => ?_⟩
    by_cases hji : j = i
    · subst hji; exact hy.opX hSR hi (hK _ _) hS ⟨hS, H⟩
    · have h1 := H.2 j (ready_mono hj hji)
      obtain ⟨hjun, oj, hoj, hall⟩ := mem_ready.1 hj
      have hnot : ∀ e ∈ oj.after, Region.binds md e = true → e.on ≠ i := fun e he hb heq => by
        have h1 := hall e he hb
        have h0 := (mem_ready.1 hr).1
        rw [heq] at h1
        rcases Nat.lt_or_ge i listed.size with h' | h'
        · simp [h'] at h0 h1; rw [h0] at h1; cases h1
        · simp [Array.getElem?_eq_none h'] at h1
      have h2 := OpX_putIf hoj (hfree j oj hoj hji hjun hnot) (fun cs b => hsel i oi cs b hi) (fun cs b => hsel j oj cs b hoj) hy h1
      have hfree' : ∀ k ok, ops[k]? = some ok → k ≠ i → (listed.setIfInBounds j true).getD k true = false →
          (∀ e ∈ ok.after, Region.binds md e = true → e.on ≠ i) → oi.apart ops ok = true := fun k ok hk hki hun hno => by
        refine hfree k ok hk hki ?_ hno
        by_cases hjk : j = k
        · subst hjk; exact hjun
        · rw [getD_set_ne true hjk] at hun; exact hun
      refine OpX_mono (fun s' a' w' h3 => ⟨h3.2.1, ih (listed.setIfInBounds j true) s' a' w' hfree' (ready_mono hr (Ne.symm hji)) h3.1 h3.2.1 ?_⟩) h2
      rw [Array.setIfInBounds_comm _ _ hji]
      exact h3.2.2

theorem anyX_take (hSR : ∀ s x y, S s x → F.R s x y → S s y) (hQR : ∀ s a x y, Q s .normal a x → F.R s x y → Q s .normal a y) {i : Nat} {oi : Oper} {v : Value} {fuel : Nat} {listed : Array Bool} {s : σ} {a : Act} {w : World} (hi : ops[i]? = some oi)
    (hs : Region.noSelect ops = true) (hf : Region.free md ops listed i = true) (hr : (Region.ready md ops listed).contains i = true)
    (hy : YieldsX F P fn ops S oi v a) (hS : S s w) (h : AnyX F P main fn ops md S Q nf fuel (listed.setIfInBounds i true) s (a.put oi.dst v) w) : AnyX F P main fn ops md S Q nf (fuel + 1) listed s a w :=
  anyX_first hSR hQR hi (Region.noSelect_spec hs) fuel listed s a w (Region.free_spec hi hf) (by simpa using hr) hy hS h
theorem anyX_all {rs : List Nat} {fuel : Nat} {listed : Array Bool} {s : σ} {a : Act} {w : World} (hr : Region.ready md ops listed = rs) (hne : rs ≠ [])
    (h : ∀ i ∈ rs, OpX F P main fn ops nf i (fun s' a' w' => S s' w' ∧ AnyX F P main fn ops md S Q nf fuel (listed.setIfInBounds i true) s' a' w') s a w) : AnyX F P main fn ops md S Q nf (fuel + 1) listed s a w :=
  ⟨fun h0 => absurd (hr ▸ h0) hne, hr ▸ h⟩
theorem anyX_done {listed : Array Bool} {s : σ} {a : Act} {w : World} (hr : Region.ready md ops listed = []) (h : Q s .normal a w) : ∀ fuel, AnyX F P main fn ops md S Q nf fuel listed s a w
  | 0 => ⟨hr, h⟩
  | _ + 1 => ⟨fun _ => h, fun i hi => by rw [hr] at hi; cases hi⟩
theorem wpX_region_held {s : σ} (hd : LetsDraw (F.D s)) {id : Nat} {a : Act} {w : World} (hm : P.follows .mixedOrders = true)
    (h : ∀ w₁, F.R s w w₁ → AnyX F P main fn ops .any S Q nf ops.size (Array.replicate ops.size false) s a { w₁ with drawn := w₁.drawn + 1 }) : wpX F P main fn (Code.region id ops true) (ops.size * (nf + 3) + 1 + 1) s Q a w :=
  fun b k cs m hb hk hc => Goes.step rfl fun w₁ h₁ => by
    rw [stepG_region_draw]
    refine ⟨hd _, ?_⟩
    have := anyX_sound ops.size (w₁.tape w₁.drawn (.order b.fn id)) _ s a _ (h w₁ h₁) b k cs m hb hk hc
    simp only [Region.schedule, hm, Bool.true_or, if_true]
    exact this
end
end Go.Hx
/-
  From the judgement to the goroutine's own steps.
  No condition but those that each statement names.
-/
namespace Go.Hx
open Go.Conc
theorem wpX_goes {σ : Type} {F : Fam σ} {P : Program} {main : Bool} {fn : FuncId} {Q : σ → Exit → Act → World → Prop} {s : σ} {a : Act} {w : World} {c : Code} {n m : Nat} {b : Frame} {k : List Item} {cs : List Frame} (h : wpX F P main fn c n s Q a w) (hb : b.fn = fn) (hk : b.kind ≠ .early)
    (hc : ∀ s' e a' w', Q s' e a' w' → After P main (F.R s') (F.D s') (F.Stop s') m b k cs e a' w') : Goes P main (F.R s) (F.D s) (F.Stop s) (m + n) (G (b.at a (.code c :: k)) cs) w := h b k cs m hb hk hc
end Go.Hx
