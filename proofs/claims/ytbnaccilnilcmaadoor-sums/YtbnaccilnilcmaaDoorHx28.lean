/-
  Goroutine 0 alone in memory: what has grown above, and what the new blocks hold.
  No condition but those that each statement names.
-/
import Derived.Test.YtbnaccilnilcmaaDoorHx10
import Derived.OwnWalk
import Derived.Laws.IdiomStrings
import Derived.Conc.AppendEvents
import Derived.Conc.EventLaws2
import Derived.Conc.AppendWalk
import Derived.Test.YtbnaccilnilcmaaDoorHx09
import Derived.Test.YtbnaccilnilcmaaDoorChecked
import Derived.Laws.Concat
set_option linter.unusedVariables false
set_option linter.unusedSimpArgs false
set_option linter.unusedSectionVars false
namespace Go.Hx
open Go.Conc

structure GR (W : World) (bs : List (Nat × TypeId × Array Value)) (w : World) : Prop where
  g : W.grownBy w none
  b : ∀ t ∈ bs, Has t.1 t.2.1 t.2.2 w ∧ W.heap.size ≤ t.1

section
variable {W w w₁ w' : World} {bs : List (Nat × TypeId × Array Value)} {Sh : Loc → Prop}
theorem grown_refl (w : World) : w.grownBy w none := ⟨rfl, rfl, rfl, Nat.le_refl _, fun _ _ _ => rfl⟩
theorem grown_trans (h : W.grownBy w none) (k : w.grownBy w' none) : W.grownBy w' none :=
  ⟨k.os.trans h.os, k.tape.trans h.tape, k.output.trans h.output, Nat.le_trans h.size k.size, fun b hb hn => (k.block b (Nat.lt_of_lt_of_le hb h.size) hn).trans (h.block b hb hn)⟩
theorem grown_alloc (w : World) (o : Obj) : w.grownBy (w.alloc o) none := ⟨rfl, rfl, rfl, by rw [alloc_size]; omega, fun b hb _ => alloc_get w o (Nat.ne_of_lt hb)⟩
theorem Has.gr {b : Nat} {ty : TypeId} {cs : Array Value} (h : Has b ty cs w) (hg : w.grownBy w' none) : Has b ty cs w' := (hg.block b h.lt (by simp)).trans h

theorem GR.refl (W : World) : GR W [] W := ⟨grown_refl W, fun t ht => by simp at ht⟩
theorem GR.rely (h : GR W bs w) (r : AtRel w w₁) : GR W bs w₁ := by
  obtain ⟨d, rfl⟩ := r
  exact ⟨⟨h.g.os, h.g.tape, h.g.output, h.g.size, h.g.block⟩, h.b⟩
theorem GR.grown (h : GR W bs w) (hg : w.grownBy w' none) : GR W bs w' := ⟨grown_trans h.g hg, fun t ht => ⟨(h.b t ht).1.gr hg, (h.b t ht).2⟩⟩
theorem GR.alloc (h : GR W bs w) (ty : TypeId) (cs : Array Value) : GR W ((w.heap.size, ty, cs) :: bs) (w.alloc (.cells cs ty)) :=
  ⟨grown_trans h.g (grown_alloc w _), fun t hm => by
    rcases List.mem_cons.1 hm with rfl | hm
    · exact ⟨Has.new, h.g.size⟩
    · exact ⟨(h.b t hm).1.alloc _, (h.b t hm).2⟩⟩
theorem GR.cell (h : GR W bs w) {nb : Nat} {ty : TypeId} {cs : Array Value} (hm : (nb, ty, cs) ∈ bs) {i : Nat} {v : Value} (hv : cs[i]? = some v) : w.cell? ⟨nb, i, none⟩ = some v := (h.b _ hm).1.cell hv
theorem GR.thaw (h : GR W bs w) {nb : Nat} {ty : TypeId} {cs : Array Value} (hm : (nb, ty, cs) ∈ bs) (i : Nat) : w.frozen? ⟨nb, i, none⟩ = false := (h.b _ hm).1.thaw i
theorem GR.top {nb : Nat} {ty : TypeId} {cs : Array Value} (h : GR W ((nb, ty, cs) :: bs) w) {i : Nat} {v : Value} (hv : cs[i]? = some v) : w.cell? ⟨nb, i, none⟩ = some v := h.cell (List.mem_cons_self) hv
theorem GR.topz {nb : Nat} {ty : TypeId} {cs : Array Value} (h : GR W ((nb, ty, cs) :: bs) w) (i : Nat) : w.frozen? ⟨nb, i, none⟩ = false := h.thaw (List.mem_cons_self) i
theorem GR.sub {bs' : List (Nat × TypeId × Array Value)} (h : GR W bs w) (hs : ∀ t ∈ bs', t ∈ bs) : GR W bs' w := ⟨h.g, fun t ht => h.b t (hs t ht)⟩
/-- A store into the one block of its type. -/
theorem GR.set (h : GR W bs w) {nb : Nat} {ty : TypeId} (i : Nat) (v : Value) (hn : W.heap.size ≤ nb) (ho : ∀ t ∈ bs, t.2.1 = ty → t.1 = nb) (hty : ∃ cs, Has nb ty cs w) : GR W (bs.map fun t => if t.2.1 = ty then (t.1, t.2.1, t.2.2.setIfInBounds i v) else t) (w.setCell ⟨nb, i, none⟩ v) := by
  refine ⟨⟨h.g.os, h.g.tape, h.g.output, by simpa [World.setCell] using h.g.size, fun b hb hn' => (setCell_get w _ v (show b ≠ nb by omega)).trans (h.g.block b hb hn')⟩, fun t ht => ?_⟩
  obtain ⟨u, hu, rfl⟩ := List.mem_map.1 ht
  obtain ⟨h1, h2⟩ := h.b u hu
  by_cases e : u.2.1 = ty
  · rw [if_pos e]
    have := ho u hu e
    rw [← this]
    exact ⟨h1.set i v, h2⟩
  · rw [if_neg e]
    obtain ⟨cs, hc⟩ := hty
    exact ⟨h1.setOther (fun x => by
      rw [x] at hc
      unfold Has at h1 hc
      rw [h1] at hc
      cases hc
      exact e rfl) i v, h2⟩

/-- A store into the only block. -/
theorem GR.set1 {nb : Nat} {ty : TypeId} {cs : Array Value} (h : GR W [(nb, ty, cs)] w) (i : Nat) (v : Value) : GR W [(nb, ty, cs.setIfInBounds i v)] (w.setCell ⟨nb, i, none⟩ v) := by
  obtain ⟨h1, h2⟩ := h.b _ (List.mem_cons_self)
  have := h.set (ty := ty) i v h2 (fun t ht _ => by simp at ht; rw [ht]) ⟨cs, h1⟩
  simpa using this
theorem evP0 {ad : Addr} {wr sy : Bool} : EvP (fun _ => False) ⟨.cell ad, wr, sy⟩ := ⟨fun _ _ h => h.elim, by simp, by simp⟩
theorem evP0m {m : Mark} (hm : Conc.Neutral m) : EvP (fun _ => False) ⟨.mark m, false, true⟩ := evP_mark hm
theorem d0c {es : Array Event} (h : ∀ e ∈ es, EvP Sh e) : D0 Sh w w₁ es := h
end
/-- Nobody is shunned yet. -/
abbrev NoSh : Loc → Prop := fun _ => False
theorem drawD0 (Sh : Loc → Prop) : LetsDraw (D0 Sh) := fun w => by simp [D0]
theorem drawAt (w : World) : AtRel w { w with drawn := w.drawn + 1 } := ⟨w.drawn + 1, rfl⟩
end Go.Hx
/-
  What conversions between strings and bytes list: reads of cells at most.
  No condition but those that each statement names.
-/
namespace Go.Hx
open Go.Conc

theorem evP_read0 {e : Event} (h : e.isRead) : EvP NoSh e := by
  obtain ⟨ad, h1, _⟩ := h
  exact ⟨fun _ _ h => h.elim, by rw [h1]; simp, by rw [h1]; simp⟩

theorem ev_forIn_bytes {P : Program} {w : World} (f : Value → ByteArray → Sem (ForInStep ByteArray))
    (hf : ∀ (n : Int) (r : ByteArray), (f (.int .u8 n) r).run P w = .ok (.yield (r.push (UInt8.ofNat n.toNat))) w) (hfe : ∀ (n : Int) (r : ByteArray) (es : Array Event), (f (.int .u8 n) r).events P w es = es) :
    ∀ (ns : List Int) (s : ByteArray) (es : Array Event), (forIn (ns.map (Value.int .u8)) s f).events P w es = es := by
  intro ns
  induction ns with
  | nil => intro s es; simp
  | cons n ns ih =>
    intro s es
    simp only [List.map_cons, List.forIn_cons, Sem.events_bind, hf, hfe]
    exact ih _ _

theorem ev_bytesToString {P : Program} (w : World) (a : Addr) (len cap : Nat) (ns : List Int) (h : (loadCells a len).run P w = .ok (ns.map (Value.int .u8)).toArray w) (es : Array Event) :
    ∀ e ∈ (Conv.bytesToString (.slice (some a) len cap)).events P w es, e ∈ es ∨ e.isRead := by
  intro e he
  unfold Conv.bytesToString at he
  simp only [Sem.events_bind, h, Result.evThen, List.forIn_toArray] at he
  rw [run_forIn_bytes _ (by intro n r; simp [Sem.run_pure])] at he
  simp only [Result.evThen] at he
  rw [ev_forIn_bytes _ (by intro n r; simp [Sem.run_pure]) (by intro n r es; simp)] at he
  have he' : e ∈ (loadCells a len).events P w es := by simpa using he
  exact events_loadCellsFrom_reads _ _ _ _ w es e he'
theorem ev_stringToBytes {P : Program} (w : World) (src dst e : TypeId) (s : ByteArray) (hs : P.underlying src = some .string) (hd : P.underlying dst = some (.slice e)) (he : P.underlying e = some (.int .u8)) (es : Array Event) :
    (convert src dst (.string s)).events P w es = es := by
  have hsh : ∀ c : Array Value, (w.drew.alloc (.cells c e)).shape? w.heap.size = some (e, c.size) := by
    intro c
    simp [World.shape?, World.alloc, World.drew, -World.alloc_eq, -World.drew_eq]
  simp [convert, run_underlying hs, run_underlying hd, run_underlying he, Conv.stringToBytes, Question.forced, newRow, markStringish, hsh]
end Go.Hx
/-
  Goroutine 0 appends to a row of its own.
  No condition but those that each statement names.
-/
namespace Go.Hx
open Go.Conc

theorem own_ge {w : World} {base : Nat} {e : TypeId} {size : Nat} {v : Value} {n : Nat} {xs : List Value} (h : w.ownsRow base e size v n xs) {g : Nat} (hg : some g = v.ownBlock) : base ≤ g := by
  rcases h.2 with ⟨rfl, _⟩ | ⟨g', cap, cur, rfl, hb, _⟩
  · simp [Value.ownBlock] at hg
  · simp [Value.ownBlock] at hg
    omega

theorem seqApp {P : Program} {Sh : Loc → Prop} {W w : World} {t ty e : TypeId} {i : TypeInfo} {z : Value} {size bytes : Nat} (ht : P.underlying t = some (.slice e)) (hi : P.info? e = some i) (hz : i.zero = some z)
    (hsize : i.size = size) (hby : i.bytes = bytes) (hzs : z.cells.size = size) (hsz : 0 < size) (hg : W.grownBy w none) {v : Value} {n : Nat} {xs : List Value} (hown : w.ownsRow W.heap.size e size v n xs)
    {a : Addr} {m c : Nat} {news : List Value} (hl : news.length = m * size) (hnews : ∀ j u, news[j]? = some u → w.cell? (a.add j) = some u) (h1 : ∀ u ∈ news, u.oneCell' = true) (h63 : n + m ≤ maxLen) (hbytes : (n + m) * bytes ≤ 140737488355328)
    (hE : Elder Sh W.heap.size) (hs : ∀ ad : Addr, ad.block = a.block → ¬ Sh (.cell ad)) :
    ∃ v' w', (Builtin.append_ #[t, t] ty #[v, .slice (some a) m c]).run P w = .ok v' w' ∧ w'.ownsRow W.heap.size e size v' (n + m) (xs ++ news) ∧ W.grownBy w' none ∧ (v' = .slice none 0 0 ↔ v = .slice none 0 0 ∧ m = 0) ∧
      ∀ ev ∈ (Builtin.append_ #[t, t] ty #[v, .slice (some a) m c]).events P w #[], EvP Sh ev := by
  obtain ⟨v', w', hr, ho, hgr, hn⟩ := run_append_own w W.heap.size t ty e i z size bytes ht hi hz hsize hby hzs hsz v n xs hown a m c news hl hnews h1 h63 hbytes hg.size
  refine ⟨v', w', hr, ho, ⟨hgr.os.trans hg.os, hgr.tape.trans hg.tape, hgr.output.trans hg.output, Nat.le_trans hg.size hgr.size, fun b hb _ => (hgr.block b (Nat.lt_of_lt_of_le hb hg.size) (fun hx => ?_)).trans (hg.block b hb (by simp))⟩, hn, fun ev he => ?_⟩
  · have := own_ge hown hx
    omega
  · rcases events_append_where w W.heap.size t ty e i z size bytes ht hi hz hsize hby v n xs hown a m c news hl hnews h1 h63 hbytes ev he with ⟨ad, h2, h3⟩ | ⟨mk, rfl, hm⟩
    · obtain ⟨l, wr, sy⟩ := ev
      simp only at h2
      subst h2
      refine evP_cell _ _ ?_
      rcases h3 with ⟨_, hb⟩ | h3
      · exact hs ad hb
      · intro hsh
        obtain ⟨b', h4, h5⟩ := hE _ hsh
        simp only [blk, Option.some.injEq] at h4
        have := own_ge hown h3
        omega
    · exact evP_mark hm

theorem elder0 (N : Nat) : Elder NoSh N := fun _ h => h.elim
theorem ownsRow_at {w : World} {base : Nat} {e : TypeId} {size : Nat} {v : Value} {n : Nat} {xs : List Value} (h : w.ownsRow base e size v n xs) (d : Nat) : (w.at d).ownsRow base e size v n xs := h
end Go.Hx
/-
  Through a call whose result lies in a variable.
  No condition but those that each statement names.
-/
namespace Go.Hx
open Go.Conc

theorem stepG_leaveM {P : Program} {main : Bool} {b : Frame} {a : Act} {cs : List Frame} {w : World} {fn : Func} {todo : List Item} {c : Frame} {v : Value} (hn : b.kind = .normal) (hd : a.defers = []) (hf : P.funcs[b.fn]? = some fn)
    (hr : (results fn a.tmps).run P w = .ok v w) : ∃ es, stepG P main (G { b.at a todo with mode := .returning } (c :: cs)) w = .go (G (c.finish v) cs) w es ∧ ∀ e ∈ es, e ∈ (results fn a.tmps).events P w #[] :=
  ⟨_, by simp [G, stepG, unwind, doReturn, Frame.at, hn, hd, hf, hr, GStep.after]; rfl, fun _ he => mem_seen he⟩

/-- The result may be read behind the body. -/
def bodyPostM (P : Program) (R : World → World → Prop) (D : World → World → Array Event → Prop) (fn : Func) (Post : Value → World → Prop) : Exit → Act → World → Prop
  | .normal, a, w | .ret, a, w => a.defers = [] ∧ ∃ v, (∀ w₁, R w w₁ → (results fn a.tmps).run P w₁ = .ok v w₁ ∧ ∀ es : Array Event, (∀ e ∈ es, e ∈ (results fn a.tmps).events P w₁ #[]) → D w₁ w₁ es) ∧ Post v w
  | _, _, _ => False
def CallsM (P : Program) (main : Bool) (R : World → World → Prop) (D : World → World → Array Event → Prop) (f : FuncId) (args : Array Value) (n : Nat) (w : World) (Post : Value → World → Prop) : Prop :=
  ∃ fn c, P.funcs[f]? = some fn ∧ (fn.name == "runtime.NumGoroutine") = false ∧ fn.body = some c ∧
    c.wpC P main R D f n (bodyPostM P R D fn Post) { tmps := args ++ Array.replicate (fn.ntmps - args.size) undef, defers := [] } w
theorem callsM_of_wpC {P : Program} {main : Bool} {R : World → World → Prop} {D : World → World → Array Event → Prop} {f : FuncId} {fn : Func} {c : Code} {args : Array Value} {n : Nat} {w : World} {Post : Value → World → Prop} (hf : P.funcs[f]? = some fn) (hname : (fn.name == "runtime.NumGoroutine") = false) (hb : fn.body = some c)
    (h : c.wpC P main R D f n (bodyPostM P R D fn Post) { tmps := args ++ Array.replicate (fn.ntmps - args.size) undef, defers := [] } w) : CallsM P main R D f args n w Post := ⟨fn, c, hf, hname, hb, h⟩

theorem opsX_callM {σ : Type} {F : Fam σ} {P : Program} {main : Bool} {fn : FuncId} {Q : σ → Exit → Act → World → Prop} {s : σ} {a : Act} {w : World} {ops : Array Oper} {i : Nat} {rest : List Nat} {o : Oper} {f : FuncId} {args : Array Operand} {ats : Array TypeId} {nf n : Nat} {Post : Value → World → Prop}
    (ho : ops[i]? = some o) (hw : Region.wanted o (yielded ops a.tmps) = true) (hop : o.op = .call { callee := .value (.func f), args, argTypes := ats })
    (hcall : CallsM P main (F.R s) (F.D s) f (args.map a.eval) nf w Post) (hnext : ∀ v w', Post v w' → OpsX F P main fn ops rest n s Q (a.put o.dst v) w') : OpsX F P main fn ops (i :: rest) (n + nf + 3) s Q a w := by
  intro b k cs m hb hk hc
  obtain ⟨g, c, hf, hname, hbody, hwp⟩ := hcall
  have T := F.terms s
  have hfin : ∀ v, (b.at a (.inRegion ops (i :: rest) :: k)).finish v = b.at (a.put o.dst v) (.inRegion ops rest :: k) := fun v => by rw [Frame.finish_at, ho]; rfl
  have hleave : ∀ (a' : Act) (w' : World) (todo : List Item), (a'.defers = [] ∧ ∃ v, (∀ w₁, F.R s w' w₁ → (results g a'.tmps).run P w₁ = .ok v w₁ ∧ ∀ es : Array Event, (∀ e ∈ es, e ∈ (results g a'.tmps).events P w₁ #[]) → F.D s w₁ w₁ es) ∧ Post v w') →
      Goes P main (F.R s) (F.D s) (F.Stop s) (m + n + 1) (G { (base f).at a' todo with mode := .returning } (b.at a (.inRegion ops (i :: rest) :: k) :: cs)) w' := by
    rintro a' w' todo ⟨hd, v, hr, hp⟩
    refine Goes.step rfl fun w₁ h₁ => ?_
    obtain ⟨es, hes, hm⟩ := stepG_leaveM (main := main) (cs := cs) (todo := todo) (c := b.at a (.inRegion ops (i :: rest) :: k)) (b := base f) rfl hd hf (hr w₁ h₁).1
    rw [hes, hfin]
    exact ⟨(hr w₁ h₁).2 es hm, (hnext v w' hp b k cs m hb hk hc).rely T.trans h₁⟩
  have hbodyG : Goes P main (F.R s) (F.D s) (F.Stop s) (m + n + 2 + nf) (G ((base f).at { tmps := args.map a.eval ++ Array.replicate (g.ntmps - (args.map a.eval).size) undef, defers := [] } [.code c]) (b.at a (.inRegion ops (i :: rest) :: k) :: cs)) w := by
    refine hwp (base f) [] _ _ (m + n + 2) rfl (by simp [base]) fun e a' w' q => ?_
    cases e with
    | normal => exact Goes.step rfl fun w₁ h₁ => by rw [stepG_end]; exact ⟨T.idle _, (hleave a' w' [] q).rely T.trans h₁⟩
    | ret => exact fun todo => (hleave a' w' todo q).more
    | exit id => exact q.elim
    | goto l => exact q.elim
    | panic ch => exact q.elim
    | outgrown => exact q.elim
  have e : m + (n + nf + 3) = (m + n + 2 + nf) + 1 := by omega
  rw [e]
  exact Goes.step rfl fun w₁ h₁ => goes_call ho hw hk hop hf hname hbody ⟨T.idle _, hbodyG.rely T.trans h₁⟩
end Go.Hx
/-
  The law's own small functions.
  No condition but those that each statement names.
-/
namespace Go.Proofs.YtbnaccilnilcmaaDoor
open Go.Conc Go.RowKit Go.Hx

/-- Which of n things a raw number speaks of. -/
def pk (c n : Int) : Int := (if c < 0 then -(c + 1) else c) % n
theorem pk_lt {c n : Int} (hn : 0 < n) : 0 ≤ pk c n ∧ pk c n < n := ⟨Int.emod_nonneg _ (by omega), Int.emod_lt_of_pos _ hn⟩

theorem ev_neg (n : Int) (w : World) (es : Array Event) : (Op.unary UnOp.neg (.int .i64 n)).events Tryd.prog w es = es := by simp [Op.unary, Op.intArith]
theorem callsC_le {P : Program} {main : Bool} {R : World → World → Prop} {D : World → World → Array Event → Prop} {f : FuncId} {args : Array Value} {k k' : Nat} {w : World} {Post : Value → World → Prop} (h : CallsC P main R D f args k w Post) (hk : k ≤ k') : CallsC P main R D f args k' w Post := by
  obtain ⟨g, c, h1, h2, h3, h4⟩ := h
  exact ⟨g, c, h1, h2, h3, wpC_more h4 hk⟩

set_option maxRecDepth 100000 in
theorem pick_s1 : ∃ k, ∀ (c n : Int) (h : c < 0) (hc : -9223372036854775808 ≤ c ∧ c ≤ 9223372036854775807) (hn : 0 < n ∧ n < 1000) (w : World),
    CallsC Tryd.prog true AtRel (D0 NoSh) 7 #[.int .i64 c, .int .i64 n] k w fun v w' => v = .int .i64 (pk c n) ∧ w.grownBy w' none := by
  co_apply Exists.intro
  intro c n h hc hn w
  have hF := GR.refl w
  have hn0 : ¬ n = 0 := by omega
  have un := ev_neg
  have q1 : IntKind.i64.wrap (c + 1) = c + 1 := by simp [IntKind.wrap_i64]; omega
  have q2 : IntKind.i64.wrap (-(c + 1)) = -(c + 1) := by simp [IntKind.wrap_i64]; omega
  have q3 : (-(c + 1)).tmod n = pk c n := by rw [Int.tmod_eq_emod_of_nonneg (by omega)]; simp [pk, h]
  have q4 : IntKind.i64.wrap (pk c n) = pk c n := by have := pk_lt (c := c) hn.1; simp [IntKind.wrap_i64]; omega
  co_apply callsC_of_wpC Tryd.func7 (by rfl) rfl
  simp only [Tryd.ntmps7, List.size_toArray, List.length_cons, List.length_nil, Nat.reduceAdd, Nat.reduceSub, Array.replicate_succ, Array.replicate_zero, List.push_toArray, List.append_toArray, List.nil_append, List.cons_append]
  co_apply wpC_seq (terms0 NoSh)
  co_reg (terms0 NoSh)
  co_op (GR.rely) hF (co_still (terms0 NoSh))
  co_apply opsC_nil (terms0 NoSh)
  co_then
  co_apply wpC_seq (terms0 NoSh)
  co_apply wpC_seq (terms0 NoSh)
  co_reg (terms0 NoSh)
  co_op (GR.rely) hF (co_still (terms0 NoSh))
  co_op (GR.rely) hF (co_still (terms0 NoSh))
  co_apply opsC_nil (terms0 NoSh)
  co_then
  co_apply wpC_cond (terms0 NoSh) (t := true)
  focus (exact rfl)
  simp only [if_true, if_false, Bool.false_eq_true, reduceIte]
  co_reg (terms0 NoSh)
  co_op (GR.rely) hF (co_still (terms0 NoSh))
  co_op (GR.rely) hF (co_still (terms0 NoSh))
  co_op (GR.rely) hF (co_still (terms0 NoSh))
  co_op (GR.rely) hF (co_still (terms0 NoSh))
  co_apply opsC_nil (terms0 NoSh)
  co_then
  co_apply wpC_seq (terms0 NoSh)
  co_reg (terms0 NoSh)
  co_op (GR.rely) hF (co_still (terms0 NoSh))
  co_op (GR.rely) hF (co_still (terms0 NoSh))
  co_op (GR.rely) hF (co_still (terms0 NoSh))
  co_op (GR.rely) hF (co_still (terms0 NoSh))
  co_apply opsC_nil (terms0 NoSh)
  co_then
  co_apply wpC_ret (terms0 NoSh)
  exact ⟨rfl, _, resultsC_tmp (by rfl) _, rfl, hF.g⟩

set_option maxRecDepth 100000 in
theorem pick_s2 : ∃ k, ∀ (c n : Int) (h : ¬ c < 0) (hc : -9223372036854775808 ≤ c ∧ c ≤ 9223372036854775807) (hn : 0 < n ∧ n < 1000) (w : World),
    CallsC Tryd.prog true AtRel (D0 NoSh) 7 #[.int .i64 c, .int .i64 n] k w fun v w' => v = .int .i64 (pk c n) ∧ w.grownBy w' none := by
  co_apply Exists.intro
  intro c n h hc hn w
  have hF := GR.refl w
  have hn0 : ¬ n = 0 := by omega
  have q3 : c.tmod n = pk c n := by rw [Int.tmod_eq_emod_of_nonneg (by omega)]; simp [pk, h]
  have q4 : IntKind.i64.wrap (pk c n) = pk c n := by have := pk_lt (c := c) hn.1; simp [IntKind.wrap_i64]; omega
  co_apply callsC_of_wpC Tryd.func7 (by rfl) rfl
  simp only [Tryd.ntmps7, List.size_toArray, List.length_cons, List.length_nil, Nat.reduceAdd, Nat.reduceSub, Array.replicate_succ, Array.replicate_zero, List.push_toArray, List.append_toArray, List.nil_append, List.cons_append]
  co_apply wpC_seq (terms0 NoSh)
  co_reg (terms0 NoSh)
  co_op (GR.rely) hF (co_still (terms0 NoSh))
  co_apply opsC_nil (terms0 NoSh)
  co_then
  co_apply wpC_seq (terms0 NoSh)
  co_apply wpC_seq (terms0 NoSh)
  co_reg (terms0 NoSh)
  co_op (GR.rely) hF (co_still (terms0 NoSh))
  co_op (GR.rely) hF (co_still (terms0 NoSh))
  co_apply opsC_nil (terms0 NoSh)
  co_then
  co_apply wpC_cond (terms0 NoSh) (t := false)
  focus (exact rfl)
  simp only [if_true, if_false, Bool.false_eq_true, reduceIte]
  co_apply wpC_skip (terms0 NoSh)
  co_then
  co_apply wpC_seq (terms0 NoSh)
  co_reg (terms0 NoSh)
  co_op (GR.rely) hF (co_still (terms0 NoSh))
  co_op (GR.rely) hF (co_still (terms0 NoSh))
  co_op (GR.rely) hF (co_still (terms0 NoSh))
  co_op (GR.rely) hF (co_still (terms0 NoSh))
  co_apply opsC_nil (terms0 NoSh)
  co_then
  co_apply wpC_ret (terms0 NoSh)
  exact ⟨rfl, _, resultsC_tmp (by rfl) _, rfl, hF.g⟩

theorem pick_s : ∃ k, ∀ (c n : Int) (hc : -9223372036854775808 ≤ c ∧ c ≤ 9223372036854775807) (hn : 0 < n ∧ n < 1000) (w : World),
    CallsC Tryd.prog true AtRel (D0 NoSh) 7 #[.int .i64 c, .int .i64 n] k w fun v w' => v = .int .i64 (pk c n) ∧ w.grownBy w' none := by
  obtain ⟨k1, g1⟩ := pick_s1
  obtain ⟨k2, g2⟩ := pick_s2
  refine ⟨k1 + k2, fun c n hc hn w => ?_⟩
  by_cases h : c < 0
  · exact callsC_le (g1 c n h hc hn w) (by omega)
  · exact callsC_le (g2 c n h hc hn w) (by omega)

/-- An instruction's bytes. -/
def ib (op x k : Int) : List UInt8 := [UInt8.ofNat op.toNat, UInt8.ofNat x.toNat, UInt8.ofNat (k % 256).toNat, UInt8.ofNat (k / 256).toNat]

theorem u8_back {n : Int} (h : 0 ≤ n ∧ n < 256) : ((UInt8.ofNat n.toNat).toNat : Int) = n := by
  simp only [UInt8.toNat_ofNat']
  omega
theorem conv_ib {op x y : Int} (ho : 0 ≤ op ∧ op < 256) (hx : 0 ≤ x ∧ x < 256) (hy : 0 ≤ y ∧ y < 65536) {w : World} {nb : Nat} (h : Has nb 5 #[.int .u8 op, .int .u8 x, .int .u8 (y % 256), .int .u8 (y / 256)] w) :
    (convert 37 9 (.slice (some ⟨nb, 0, none⟩) 4 4)).run Tryd.prog w = .ok (.string ⟨(ib op x y).toArray⟩) w ∧ ∀ e ∈ (convert 37 9 (.slice (some ⟨nb, 0, none⟩) 4 4)).events Tryd.prog w #[], EvP NoSh e := by
  have ha : ∀ j, (⟨nb, 0, none⟩ : Addr).add j = ⟨nb, j, none⟩ := fun j => by unfold Addr.add; split <;> simp_all
  have hl := run_loadCells_list (P := Tryd.prog) w ⟨nb, 0, none⟩ ([op, x, y % 256, y / 256].map (Value.int .u8)) (fun j v hj => by rw [ha]; exact h.cell (by simpa using hj))
  refine ⟨?_, fun e he => ?_⟩
  · have := run_convert_bytes_back (P := Tryd.prog) w 37 9 5 ⟨nb, 0, none⟩ 4 (ib op x y) Tryd.underlying37 Tryd.underlying5 Tryd.underlying9 (fun j hj => by
      rw [ha]
      have h4 : (ib op x y).length = 4 := rfl
      rw [h4] at hj
      have hcase : j = 0 ∨ j = 1 ∨ j = 2 ∨ j = 3 := by omega
      rcases hcase with rfl | rfl | rfl | rfl
      · rw [show (ib op x y)[0] = UInt8.ofNat op.toNat from rfl, u8_back ho]; exact h.cell rfl
      · rw [show (ib op x y)[1] = UInt8.ofNat x.toNat from rfl, u8_back hx]; exact h.cell rfl
      · rw [show (ib op x y)[2] = UInt8.ofNat (y % 256).toNat from rfl, u8_back (by omega)]; exact h.cell rfl
      · rw [show (ib op x y)[3] = UInt8.ofNat (y / 256).toNat from rfl, u8_back (by omega)]; exact h.cell rfl)
    exact this
  · have e1 : (convert 37 9 (.slice (some ⟨nb, 0, none⟩) 4 4)).events Tryd.prog w #[] = (Conv.bytesToString (.slice (some ⟨nb, 0, none⟩) 4 4)).events Tryd.prog w #[] := by
      simp [convert, run_underlying Tryd.underlying37, run_underlying Tryd.underlying9, run_underlying Tryd.underlying5]
    rw [e1] at he
    rcases ev_bytesToString w ⟨nb, 0, none⟩ 4 4 [op, x, y % 256, y / 256] hl #[] e he with h | h
    · simp at h
    · exact evP_read0 h

set_option maxRecDepth 100000 in
set_option maxHeartbeats 4000000 in
theorem insn_s : ∃ k, ∀ (op x y : Int) (ho : 0 ≤ op ∧ op < 256) (hx : 0 ≤ x ∧ x < 256) (hy : 0 ≤ y ∧ y < 65536) (w : World),
    CallsC Tryd.prog true AtRel (D0 NoSh) 8 #[.int .i64 op, .int .i64 x, .int .i64 y] k w fun v w' => v = .string ⟨(ib op x y).toArray⟩ ∧ w.grownBy w' none := by
  co_apply Exists.intro
  intro op x y ho hx hy w
  have hF := GR.refl w
  have u8 : ∀ n : Int, IntKind.u8.wrap n = n % 256 := fun n => by simp [IntKind.wrap, IntKind.bits, IntKind.signed]
  have q1 : IntKind.u8.wrap op = op := by rw [u8]; omega
  have q2 : IntKind.u8.wrap x = x := by rw [u8]; omega
  have q3 : IntKind.u8.wrap y = y % 256 := u8 y
  have q4 : IntKind.u8.wrap (y / 256) = y / 256 := by rw [u8]; omega
  clear u8
  have q5 : IntKind.i64.wrap (y / 256) = y / 256 := by simp [IntKind.wrap_i64]; omega
  co_apply callsC_of_wpC Tryd.func8 (by rfl) rfl
  simp only [Tryd.ntmps8, List.size_toArray, List.length_cons, List.length_nil, Nat.reduceAdd, Nat.reduceSub, Array.replicate_succ, Array.replicate_zero, List.push_toArray, List.append_toArray, List.nil_append, List.cons_append]
  co_apply wpC_seq (terms0 NoSh)
  co_reg (terms0 NoSh)
  co_op (GR.rely) hF (co_still (terms0 NoSh))
  co_apply opsC_nil (terms0 NoSh)
  co_then
  co_apply wpC_seq (terms0 NoSh)
  co_reg (terms0 NoSh)
  co_op (GR.rely) hF (co_still (terms0 NoSh))
  co_op (GR.rely) hF (co_still (terms0 NoSh))
  co_op (GR.rely) hF (co_still (terms0 NoSh))
  co_op (GR.rely) hF (co_still (terms0 NoSh))
  co_op (GR.rely) hF (co_still (terms0 NoSh))
  co_op (GR.rely) hF (co_still (terms0 NoSh))
  co_op (GR.rely) hF (co_still (terms0 NoSh))
  co_op (GR.rely) hF (co_still (terms0 NoSh))
  co_op (GR.rely) hF (co_still (terms0 NoSh))
  co_opw (GR.rely) hF (skip) (refine d0c ?_; co_evs (exact evP0))
  replace hF := hF.alloc 5 #[.int .u8 op, .int .u8 x, .int .u8 (y % 256), .int .u8 (y / 256)]
  co_apply opsC_cons_k rfl (by rfl)
  intro _ hR K hK
  replace hF := GR.rely hF hR
  clear hR
  have hcv := conv_ib ho hx hy (hF.b _ (List.mem_cons_self)).1
  have hc1 := hcv.1
  go_simp
  refine hK _ _ ⟨?_, ?_⟩
  · refine d0c fun e he => hcv.2 e ?_
    have hm := mem_listed he
    simpa [go_sem] using hm
  clear hK K hcv hc1
  try walk_nrm
  co_op (GR.rely) hF (co_still (terms0 NoSh))
  co_apply opsC_nil (terms0 NoSh)
  co_then
  co_apply wpC_ret (terms0 NoSh)
  exact ⟨rfl, _, resultsC_tmp (by rfl) _, rfl, hF.g⟩
end Go.Proofs.YtbnaccilnilcmaaDoor
