/-
  Part 9 of the proof.
  No condition but those that each statement names.
-/
import Derived.Test.YtejkelcaljmnoaaGreatDoorHy08
import Derived.Test.YtejkelcaljmnoaaGreatDoorHy07
import Derived.Conc.DeferLaws
import Derived.Conc.EventLaws
import Derived.Conc.TokenWalk
import Derived.Conc.FxGenDone
import Derived.Conc.FxGenLone
set_option maxRecDepth 100000
set_option linter.unusedVariables false
set_option linter.unusedSimpArgs false
set_option linter.unusedSectionVars false
namespace Go.Hx
open Go.Conc
structure New (W : World) (os : List Obj) (w : World) : Prop where
 tape : w.tape = W.tape
 os' : w.os = W.os
 output : w.output = W.output
 heap : w.heap = W.heap ++ os.toArray
section
variable {W w w₁ : World} {os : List Obj}
theorem New.refl (W : World) : New W [] W := ⟨rfl, rfl, rfl, by simp⟩
theorem New.rely (h : New W os w) (r : AtRel w w₁) : New W os w₁ := by obtain ⟨d, rfl⟩ := r; exact ⟨h.tape, h.os', h.output, h.heap⟩
theorem New.alloc (h : New W os w) (o : Obj) : New W (os ++ [o]) (w.alloc o) := ⟨h.tape, h.os', h.output, by
 show w.heap.push o = _
 rw [h.heap]
 apply Array.ext'
 simp⟩
theorem New.size (h : New W os w) : w.heap.size = W.heap.size + os.length := by simp [h.heap]
theorem New.get (h : New W os w) {i : Nat} {o : Obj} (ho : os[i]? = some o) : w.heap[W.heap.size + i]? = some o := by
 rw [h.heap, Array.getElem?_append_right (by omega)]
 simpa using ho
theorem New.old (h : New W os w) {b : Nat} (hb : b < W.heap.size) : w.heap[b]? = W.heap[b]? := by rw [h.heap, Array.getElem?_append_left hb]
theorem New.cell (h : New W os w) {i : Nat} {cs : Array Value} {ty : TypeId} (ho : os[i]? = some (.cells cs ty (0, 0))) {j : Nat} {v : Value} (hv : cs[j]? = some v) : w.cell? ⟨W.heap.size + i, j, none⟩ = some v := by
 simp [World.cell?, h.get ho, hv]
theorem New.thaw (h : New W os w) {i : Nat} {cs : Array Value} {ty : TypeId} (ho : os[i]? = some (.cells cs ty (0, 0))) (j : Nat) : w.frozen? ⟨W.heap.size + i, j, none⟩ = false := by
 simp [World.frozen?, h.get ho]
theorem New.set (h : New W os w) {i : Nat} {cs : Array Value} {ty : TypeId} (ho : os[i]? = some (.cells cs ty (0, 0))) (j : Nat) (v : Value) : New W (os.set i (.cells (cs.setIfInBounds j v) ty (0, 0))) (w.setCell ⟨W.heap.size + i, j, none⟩ v) := by
 refine ⟨h.tape, h.os', h.output, ?_⟩
 have hlt : i < os.length := (List.getElem?_eq_some_iff.1 ho).1
 have hgi : os[i] = .cells cs ty (0, 0) := (List.getElem?_eq_some_iff.1 ho).2
 apply Array.ext_getElem?
 intro x
 by_cases hx : x = W.heap.size + i
 · subst hx
   have hg := h.get ho
   have hsz : W.heap.size + i < w.heap.size := (Array.getElem?_eq_some_iff.1 hg).1
   have hg2 : w.heap[W.heap.size + i] = .cells cs ty (0, 0) := (Array.getElem?_eq_some_iff.1 hg).2
   rw [Array.getElem?_append_right (by omega)]
   simp [World.setCell, hsz, Array.getElem_modify, hg2, hlt]
 · rw [setCell_get w _ v hx, h.heap]
   rcases Nat.lt_or_ge x W.heap.size with hl | hl
   · rw [Array.getElem?_append_left hl, Array.getElem?_append_left hl]
   · rw [Array.getElem?_append_right hl, Array.getElem?_append_right hl]
     have : i ≠ x - W.heap.size := by omega
     simp [List.getElem?_set_ne this]
variable {Sh : Loc → Prop}
theorem evP_cell {ad : Addr} (wr sy : Bool) (h : ¬ Sh (.cell ad)) : EvP Sh ⟨.cell ad, wr, sy⟩ :=
 ⟨fun x hx hs => by
   have hx' : x.loc = .cell ad := by cases sy <;> (simp [MemAct.ofEvent, MemAct.touch?] at hx; subst hx; rfl)
   rw [hx'] at hs
   exact absurd hs h, by simp, by simp⟩
end
end Go.Hx
namespace Go.Hx
open Go.Conc Go.ConcX
open Go.ConcN (sumTo upd sumTo_upd upd_ne upd_same)
def pZ (N : Nat) : Par := ⟨51, N + 7, fun l => ∃ a : Addr, l = .cell a ∧ (a.block = N + 3 ∨ a.block = N + 5)⟩
section
variable {N : Nat} {Sh : Loc → Prop} {stop : Goroutine → World → Prop}
theorem shOkZ (h : Elder Sh N) : ShOk (pZ N) (ShR Sh N) where
 low := fun l b hl hb => by
   obtain ⟨x, h1, h2⟩ := h.next l hl
   rw [hb] at h1
   cases h1
   exact h2
 st := fun l b hl hb => by
   obtain ⟨a, rfl, ha⟩ := hl
   simp only [blk, Option.some.injEq] at hb
   show b < N + 7
   omega
 ap := fun l hl hs => by
   obtain ⟨a, rfl, ha⟩ := hl
   rcases hs with s | ⟨a', e, ha'⟩
   · obtain ⟨x, h1, h2⟩ := h _ s
     simp only [blk, Option.some.injEq] at h1
     omega
   · cases e; omega
theorem okZ1 (h : Elder Sh N) (Mine : Loc → Prop) (stop : Goroutine → World → Prop) : letI := shyW (N + 6) (N + 1) stop; ∀ w : World, (pZ N).N0 ≤ w.heap.size → ∀ e, EvQ Mine (N + 6) (N + 1) 1 e → EvB (pZ N) (ShR Sh N) w e := by
 intro w hw e he
 obtain ⟨_, h2, _, hk⟩ := he.1 0 ""
 refine ⟨fun x hx hm => ?_, he.2.1, he.2.2.1⟩
 have hw' : N + 7 ≤ w.heap.size := hw
 obtain ⟨a, ha, hb⟩ := hk.1 x hx
 have hcls : a.block = N + 6 ∨ a.block = N + 1 → ClsB (pZ N) w x := fun hz => ⟨a.block, by rw [ha]; rfl, by omega, fun f => by have : N + 7 ≤ a.block := f.1; omega⟩
 have hst : a.block = N + 6 ∨ a.block = N + 1 → ((pZ N).Still x.loc → x.write = false) := fun hz hs => by
   obtain ⟨a', e', hs⟩ := hs
   rw [ha] at e'
   cases e'
   omega
 rcases hb with ⟨z, z'⟩ | ⟨z, z'⟩
 · refine ⟨hcls (.inl z), fun _ => ?_, hst (.inl z)⟩
   have := ((h2 x hx).2.1 (by rw [ha]; exact shJ_of z)).2
   cases hkk : x.kind with
   | plain => exact absurd hkk z'
   | atomic => rfl
   | said => exact absurd (this hkk) (by decide)
 · refine ⟨hcls (.inr z), fun hs => ?_, hst (.inr z)⟩
   rw [ha] at hs
   rcases hs with s | ⟨a', e', ha'⟩
   · obtain ⟨y, h3, h4⟩ := h _ s
     simp only [blk, Option.some.injEq] at h3
     omega
   · cases e'; omega
theorem fixZ (h : Elder Sh N) (Mine : Loc → Prop) (stop : Goroutine → World → Prop) : letI := shyW (N + 6) (N + 1) stop; ∀ c, c ≠ 0 → Fix (N + 6) (N + 1) (N + 7) Mine (pZ N) (ShR Sh N) c := by
 intro c hc
 letI := shyW (N + 6) (N + 1) stop
 exact ⟨by omega, by omega, by omega, Nat.le_refl _, hc, shOkZ h, fun l hl => .inr hl, fun i s => by obtain ⟨a, e, ha⟩ := s; cases e; simp only at ha; omega, okR0 Mine stop⟩
end
section
variable [Payload] (P : Program)
def RunZ (N : Nat) (s : List Nat) (Next : Goroutine → World → Prop) (g : Goroutine) (w : World) : Prop :=
 letI := shyW (N + 6) (N + 1) Next
 Elder (Shs s) N ∧ ∃ (vals : List Value) (AnchW : Goroutine → World → Prop) (Post : Value → World → Prop) (PostB : World → Prop) (zE zD : Value),
   (∀ w w₁, RB (pZ N) (N + 2) (N + 4) w w₁ → PostB w → PostB w₁) ∧ (∀ w w₁, Aside2 (N + 1) (N + 6) w w₁ → PostB w → PostB w₁) ∧ (∀ w, PostB w → N + 7 ≤ w.heap.size) ∧
   (∀ g w, AnchW g w → g.status = .running) ∧ (∀ g w, AnchW g w → ∃ m, Goes P true (RPa 87 (N + 6) (N + 1) vals) (DPi Mine0 (N + 6) (N + 1) (N + 7)) (AtW1 P 87 (N + 6) (N + 1) (N + 7) vals Mine0 AnchW Post) m g w) ∧
   AtMkS P .disable (fun a w => ∃ n, Goes P true AtRel (DE (EvS (N + 6) (N + 1))) (AtMkS P .enable fun a w => ∃ n, Goes P true AtRel (DE (EvS (N + 6) (N + 1))) (AtFork P (Shs s) (Both P 87 (N + 6) (N + 1) (N + 7) vals Mine0 AnchW (pZ N) (ShR (Shs s) N) (N + 2) (N + 4) zE zD PostB)) n a w) n a w) g w
def StopZ (Post : Value → World → Prop) : Nat → List Nat → Goroutine → World → Prop
 | 0, s => AtEnd0 P (Shs s) Post
 | n + 1, s => fun g w => ∃ N, RunZ P N s (fun g' w' => ∃ m, Goes P true AtRel (D0 (Shs (N :: s))) (StopZ Post n (N :: s)) m g' w') g w
def FZ (Post : Value → World → Prop) : Fam (Nat × List Nat) := ⟨fun _ => AtRel, fun s => D0 (Shs s.2), fun s => StopZ P Post s.1 s.2, fun s => terms0 _⟩
end
section
variable [Payload] {P : Program}
theorem run_legZ {s : List Nat} {Next : Nat → Goroutine → World → Prop} {gs : Array Goroutine} {a : Goroutine} {w : World} {sl : Option (Nat × Nat)} {t : Trace} {q : Nat → Nat} {m : Nat}
   (h0 : gs[0]? = some a) (hL : Leavers P t gs q) (hP : Past0 (Shs s) t) (hG : Goes P true AtRel (D0 (Shs s)) (fun g w => ∃ N, RunZ P N s (Next N) g w) m a w) :
   ∃ (N : Nat) (k : Nat) (gs' : Array Goroutine) (a' : Goroutine) (w' : World) (sl' : Option (Nat × Nat)) (t' : Trace) (q' : Nat → Nat),
     runNT P k (crowd gs w sl) t = (.next (crowd gs' w' sl'), t') ∧ gs'[0]? = some a' ∧ Leavers P t' gs' q' ∧ Past0 (Shs (N :: s)) t' ∧ ∃ d, Next N a' (w'.at d) := by
 obtain ⟨k1, gs1, a1, w1, sl1, t1, q1, d, sl1', r1, hsz1, h01, hL1, hP1, ⟨N, hE, vals, AnchW, Post, PostB, zE, zD, x1, x2, x3, x4, x5, ⟨_, g', hgo, n2, hG2⟩⟩, hst1⟩ := walk0 (fun g w h => by obtain ⟨_, _, _, _, _, _, _, _, _, _, _, _, _, h⟩ := h; exact h.1) (fun _ _ _ h => h) _ m gs a w sl t q rfl h0 hL hP hG
 letI := shyW (N + 6) (N + 1) (Next N)
 obtain ⟨gs2, t2, r2, hsz2, h02, hL2, hP2⟩ := mark_step (.inl rfl) h01 hL1 hP1 hgo hst1
 obtain ⟨k3, gs3, a3, w3, sl3, t3, q3, r3, hsz3, h03, hL3, hP3, n3, hG3⟩ := leg0 (sl := sl1') (.inr rfl) (okRS hE (Next N)) h02 hL2 hP2 hG2
 have hP3' : Past0 (Shs s) t3 := by
   have e : deafBehind (deafBehind 0 #[mk .disable]) #[mk .enable] = 0 := by rfl
   rw [e] at hP3
   exact hP3
 obtain ⟨k4, gs4, a4, w4, sl4, t4, q4, r4, hsz4, h04, _, hS, hL4, hP4⟩ := phase0 (Wg := N + 6) (C := N + 1) (Low := N + 7) (Mine := Mine0) (p := pZ N) (Sh' := ShR (Shs s) N) (E := N + 2) (Dn := N + 4) (sl := sl3) (Post := Post)
   (fun l h => .inl h) (fixZ hE Mine0 (Next N)) (by omega) (by omega) (by omega) (show N + 4 < N + 7 by omega) (fun l hl e => by
     subst e
     rcases hl with s' | ⟨a, e, _⟩
     · obtain ⟨b, h1, h2⟩ := hE _ s'
       simp only [blk, Option.some.injEq] at h1
       omega
     · cases e) (okZ1 hE Mine0 (Next N)) (okRJ hE Mine0 (Next N)) x1 x2 x3 x4 x5 (okRS hE (Next N)) h03 hL3 hP3' hG3
 refine ⟨N, k1 + (1 + (k3 + k4)), gs4, a4, w4, sl4, t4, q4, ?_, h04, hL4, hP4, hS⟩
 rw [runNT_add, r1]
 simp only []
 rw [runNT_add, r2]
 simp only []
 rw [runNT_add, r3]
 exact r4
theorem all_runsZ {Post : Value → World → Prop} : ∀ (n : Nat) (s : List Nat) (gs : Array Goroutine) (a : Goroutine) (w : World) (sl : Option (Nat × Nat)) (t : Trace) (q : Nat → Nat) (m : Nat),
   gs[0]? = some a → Leavers P t gs q → Past0 (Shs s) t → Goes P true AtRel (D0 (Shs s)) (StopZ P Post n s) m a w →
   ∃ k last o w' t', runNT P (k + 1) (crowd gs w sl) t = (.ended o w', t') ∧ runN P k (crowd gs w sl) = .next last ∧ step P last = .ended o w' ∧ Good P Post last o w' t'
 | 0, s, gs, a, w, sl, t, q, m, h0, hL, hP, hG => ends0 (fun _ _ _ h => h) h0 hL hP hG
 | n + 1, s, gs, a, w, sl, t, q, m, h0, hL, hP, hG => by
   obtain ⟨N, k1, gs1, a1, w1, sl1, t1, q1, r1, h01, hL1, hP1, d, m1, hG1⟩ := run_legZ (sl := sl) h0 hL hP hG
   obtain ⟨k2, last, o, w', t', r2, r3, r4, r5⟩ := all_runsZ n (N :: s) gs1 a1 w1 sl1 t1 q1 m1 h01 hL1 hP1 (Goes.rely atRel_trans hG1 ⟨w1.drawn, rfl⟩)
   refine ⟨k1 + k2, last, o, w', t', ?_, ?_, r4, r5⟩
   · rw [Nat.add_assoc, runNT_add, r1]
     exact r2
   · rw [← runNT_fst P _ _ t, runNT_add, r1]
     simp only []
     rw [runNT_fst]
     exact r3
end
def boxZ (N K : Nat) (ticks : Int) (st : Int) : List Obj :=
 [.cells #[.pointer (some ⟨K, 0, none⟩)] 35, .cells #[.int .i64 ticks] 3, .chan 0 #[] false 0 0 false, .cells #[.chan (some (N + 2))] 76, .chan 0 #[] false 0 0 false, .cells #[.chan (some (N + 4))] 77, .cells #[.int .u64 st, .int .u32 0] 87]
end Go.Hx
namespace Go.Hx
open Go.Conc
theorem wpX_goes {σ : Type} {F : Fam σ} {P : Program} {main : Bool} {fn : FuncId} {Q : σ → Exit → Act → World → Prop} {s : σ} {a : Act} {w : World} {c : Code} {n m : Nat} {b : Frame} {k : List Item} {cs : List Frame} (h : wpX F P main fn c n s Q a w) (hb : b.fn = fn) (hk : b.kind ≠ .early)
   (hc : ∀ s' e a' w', Q s' e a' w' → After P main (F.R s') (F.D s') (F.Stop s') m b k cs e a' w') : Goes P main (F.R s) (F.D s) (F.Stop s) (m + n) (G (b.at a (.code c :: k)) cs) w := h b k cs m hb hk hc
end Go.Hx
namespace Go.Hx
open Go.Conc Go.RowKit
section
variable (P : Program) (p : Par) (Sh : Loc → Prop) (E Dn : Nat) (PostB : World → Prop) (Aft : Goroutine → World → Prop)
def tellF : Fam (List Value) := ⟨fun _ => RB p E Dn, fun _ => DT p Sh E Dn, StopT P p Sh E Dn PostB Aft, fun _ => termsT p Sh E Dn⟩
end
section
variable {P : Program} {p : Par} {Sh : Loc → Prop} {E Dn : Nat} {PostB : World → Prop} {Aft : Goroutine → World → Prop} {fn : FuncId} {Q : List Value → Exit → Act → World → Prop} {a : Act} {w : World}
theorem opsX_tell {ops : Array Oper} {i : Nat} {rest : List Nat} {o : Oper} {n : Nat} {v z' : Value} {vs : List Value} (ho : ops[i]? = some o) (hw : Region.wanted o (yielded ops a.tmps) = true)
   (hrun : ∀ w₁, RB p E Dn w w₁ → (execOp a.eval o).run P w₁ = .ok (.comm #[scase E v z'] true .send) w₁ ∧ ∀ e ∈ listed P fn a o w₁, EvB p Sh w₁ e)
   (hnext : ∀ w₂, RB p E Dn w w₂ → OpsX (tellF P p Sh E Dn PostB Aft) P false fn ops rest n vs Q (a.put o.dst undef) w₂) :
   OpsX (tellF P p Sh E Dn PostB Aft) P false fn ops (i :: rest) 0 (v :: vs) Q a w := by
 intro b k cs m hb hk hc
 refine Goes.stop fun w₁ h₁ => ?_
 obtain ⟨hr, hev⟩ := hrun w₁ h₁
 refine (show AtTell P p Sh E Dn v (fun g₂ w₂ => Tells P p Sh E Dn PostB Aft vs (Conc.served g₂ undef) w₂) _ w₁ from ⟨rfl, _, z', stepG_comm ho hw hk hr, by rw [hb]; exact hev, fun w₂ h₂ => ?_⟩)
 show Tells P p Sh E Dn PostB Aft vs (Conc.served (core (G (b.at a (.inRegion ops (i :: rest) :: k)) cs)) undef) w₂
 rw [core_G, served_G, ho]
 exact (tells_iff _ _ _ _ _ _ _ _ _ _).2 ⟨_, hnext w₂ (RB.trans _ _ _ h₁ h₂) b k cs m hb hk hc⟩
end
end Go.Hx
namespace Go.Hx
open Go.Conc
section
variable {P : Program} {main : Bool} {R : World → World → Prop} {D : World → World → Array Event → Prop} {Stop : Goroutine → World → Prop} {b : Frame} {a : Act} {k : List Item} {cs : List Frame} {w : World}
theorem goes_ctl (T : Terms R D) {g g' : Goroutine} {n : Nat} (hr : g.status = .running) (hs : ∀ w, stepG P main g w = .go g' w #[]) (h : Goes P main R D Stop n g' w) : Goes P main R D Stop (n + 1) g w :=
 Goes.step hr fun w₁ h₁ => by rw [hs w₁]; exact ⟨T.idle _, h.rely T.trans h₁⟩
def dclose (ats : Array TypeId) (ty : TypeId) (c : Nat) : Deferred := { target := .builtin .close ats ty #[false], args := #[.chan (some c)] }
theorem stepG_deferClose {ops : Array Oper} {i : Nat} {rest : List Nat} {o : Oper} {x : Tmp} {c : Nat} {ats : Array TypeId} (ho : ops[i]? = some o) (hw : Region.wanted o (yielded ops a.tmps) = true) (hk : b.kind ≠ .early)
   (hop : o.op = .defer { callee := .builtin .close, args := #[.tmp x], argTypes := ats }) (hx : a.eval (.tmp x) = .chan (some c)) :
   stepG P main (G (b.at a (.inRegion ops (i :: rest) :: k)) cs) w = .go (G (b.at (Act.put ⟨a.tmps, dclose ats o.type c :: a.defers⟩ o.dst undef) (.inRegion ops rest :: k)) cs) w #[] := by
 have hr : (execOp a.eval o).run P w = .ok (.defer (dclose ats o.type c)) w := by
   unfold execOp
   simp [hop, resolve, hx, dclose]
 have he : (execOp a.eval o).events P w #[] = #[] := by
   unfold execOp
   simp [hop, resolve]
 have hfin : (b.at ⟨a.tmps, dclose ats o.type c :: a.defers⟩ (.inRegion ops (i :: rest) :: k)).finish undef = b.at (Act.put ⟨a.tmps, dclose ats o.type c :: a.defers⟩ o.dst undef) (.inRegion ops rest :: k) := by rw [Frame.finish_at, ho]; rfl
 have hk' : (b.kind == CallKind.early) = false := by simpa using hk
 rw [stepG_oper ho hw, ← hfin]
 simp [stepG.apply, hr, he, G, Frame.at, hk', GStep.after, seen_none]
theorem stepG_unwindClose {ats : Array TypeId} {ty : TypeId} {ds : List Deferred} {todo : List Item} {c room s r : Nat} {buf : Array Value} {tm : Bool} (hd : a.defers = dclose ats ty c :: ds) (h : w.heap[c]? = some (.chan room buf false s r tm)) (hq : (P.funcs[b.fn]?).any (·.norace) = false) :
   stepG P main (G { b.at a todo with mode := .returning } cs) w = .go (G { b.at ⟨a.tmps, ds⟩ todo with mode := .returning } cs) (w.setChan c room buf true s r tm) (closeEvents c) := by
 have h1 := run_close_open (P := P) (w := w) ats ty h
 have h2 := events_close_open (P := P) (w := w) (es := #[]) ats ty h
 have hr : (invoke (.builtin .close ats ty #[false]) #[.chan (some c)]).run P w = .ok (.value (.tuple #[])) (w.setChan c room buf true s r tm) := by
   simp [invoke, go_sem, h1, World.setChan]
 have he : (invoke (.builtin .close ats ty #[false]) #[.chan (some c)]).events P w #[] = closeEvents c := by
   simp [invoke, go_sem, h1, h2, closeEvents]
 have hs : seen P b.fn (closeEvents c) = closeEvents c := by
   exact seen_eq hq (by intro e he f; simp only [closeEvents, List.mem_toArray, List.mem_cons, List.not_mem_nil, or_false] at he; rcases he with rfl | rfl <;> simp)
 simp [G, stepG, unwind, callDeferred, Frame.at, hd, dclose, hr, he, hs, GStep.after]
end
end Go.Hx
namespace Go.Proofs.YtejkelcaljmnoaaGreatDoor
open Go.Conc Go.RowKit Go.Hx Go.ConcX Go.Conc.Lib Go.ConcX.Gen
noncomputable def tl6 : Code := match Tryz.f19.body with | some (.seq _ (.seq _ (.seq _ (.seq _ (.seq _ t))))) => t | _ => .skip
noncomputable def tl7 : Code := match tl6 with | .seq _ t => t | _ => .skip
noncomputable def tl8 : Code := match tl7 with | .seq _ t => t | _ => .skip
noncomputable def tl9 : Code := match tl8 with | .seq _ t => t | _ => .skip
noncomputable def tl10 : Code := match tl9 with | .seq _ t => t | _ => .skip
noncomputable def r8 : Code := match tl8 with | .seq r _ => r | _ => .skip
theorem tl8_eq : tl8 = .seq r8 tl9 := by simp only [r8, tl9, tl8, tl7, tl6, Tryz.f19]
noncomputable def ops7 : Array Oper := match tl7 with | .seq (.region _ ops _) _ => ops | _ => #[]
noncomputable def ops9 : Array Oper := match tl9 with | .seq (.region _ ops _) _ => ops | _ => #[]
def TR (N K : Nat) (ticks : Int) (t9 t18 t19 t20 t21 t22 t23 : Value) : Array Value :=
 #[.pointer (some ⟨K, 0, none⟩), .int .i64 ticks, .pointer (some ⟨N, 0, none⟩), .pointer (some ⟨N + 1, 0, none⟩), .slice none 0 0, .int .i64 0, .pointer (some ⟨N + 3, 0, none⟩), .pointer (some ⟨N + 5, 0, none⟩), .pointer (some ⟨N + 6, 0, none⟩), t9,
   .int .i64 ticks, .bool false, .bool false, .int .i64 ticks, .bool false, .bool false, .chan (some (N + 2)), .chan (some (N + 4)), t18, t19, t20, t21, t22, t23, undef]
def caps (N : Nat) : Array Value := #[.pointer (some ⟨N + 6, 0, none⟩), .pointer (some ⟨N + 5, 0, none⟩), .pointer (some ⟨N, 0, none⟩), .pointer (some ⟨N + 1, 0, none⟩), .pointer (some ⟨N + 3, 0, none⟩)]
def fv (N : Nat) : Value := .func (.func 31) #[] (caps N)
def started (N : Nat) : Deferred := { target := .fn (.func 31) (caps N), args := #[] }
noncomputable def fW (N K : Nat) (ticks : Int) (b : Frame) (k : List Item) (told : Value) : Frame :=
 b.at ⟨TR N K ticks told (.tuple #[]) (fv N) (.chan (some (N + 2))) (.chan (some (N + 4))) told undef, []⟩ (.inRegion ops9 (0 :: []) :: .code tl10 :: k)
def FJ (N : Nat) (PostB : World → Prop) (ws : List Wd) (told : Value) (w : World) : Prop := PostB w ∧ Hx.Told (pZ N) told ws.length (ws.flatMap Wd.c) w
def AncR (N K : Nat) [Shy (N + 6) (N + 1)] (ticks : Int) (b : Frame) (k : List Item) (cs : List Frame) (PostB : World → Prop) (ws : List Wd) (g : Goroutine) (w : World) : Prop :=
 ∃ told, AnchW7 Tryz.link (FJ N PostB ws told) (N + 6) (N + 1) [.int .i64 ticks] (fW N K ticks b k told) cs g w
structure BI (N : Nat) (w : World) : Prop where
 e : w.heap[N + 3]? = some (.cells #[.chan (some (N + 2))] 76 (0, 0))
 d : w.heap[N + 5]? = some (.cells #[.chan (some (N + 4))] 77 (0, 0))
 z : N + 7 ≤ w.heap.size
theorem BI.rely {N : Nat} {w w₁ : World} (h : BI N w) (r : RA (pZ N) w w₁) : BI N w₁ :=
 ⟨r.still _ _ _ _ ⟨0, _, rfl, .inl rfl⟩ h.e, r.still _ _ _ _ ⟨0, _, rfl, .inr rfl⟩ h.d, Nat.le_trans h.z r.kept.size⟩
theorem BI.ce {N : Nat} {w : World} (h : BI N w) : w.cell? ⟨N + 3, 0, none⟩ = some (.chan (some (N + 2))) := by simp [World.cell?, h.e]
theorem BI.cd {N : Nat} {w : World} (h : BI N w) : w.cell? ⟨N + 5, 0, none⟩ = some (.chan (some (N + 4))) := by simp [World.cell?, h.d]
theorem evA_still {p : Par} {w : World} {ad : Addr} (h : p.Still (.cell ad)) : EvA p w ⟨.cell ad, false, false⟩ :=
 ⟨fun x hx _ => .inr (by simp [MemAct.ofEvent, MemAct.touch?] at hx; subst hx; exact ⟨h, rfl⟩), by simp, by simp⟩
section
variable {N K : Nat} [Shy (N + 6) (N + 1)] {ticks : Int} {b : Frame} {k : List Item} {cs : List Frame} {PostB : World → Prop} {ws : List Wd}
theorem fj2 (hPc : ∀ w w₁, Aside2 (N + 1) (N + 6) w w₁ → PostB w → PostB w₁) (told : Value) : ∀ w w', Aside2 (N + 1) (N + 6) w w' → FJ N PostB ws told w → FJ N PostB ws told w' := fun _ _ h1 h2 =>
 ⟨hPc _ _ h1 h2.1, Told.aside h2.2 (show N + 1 < N + 7 by omega) (show N + 6 < N + 7 by omega) h1⟩
set_option maxHeartbeats 4000000 in
theorem run_wait (hk : b.kind ≠ .early) (hPc : ∀ w w₁, Aside2 (N + 1) (N + 6) w w₁ → PostB w → PostB w₁) (told : Value) (w : World) (hF : EI (N + 6) (N + 1) [.int .i64 ticks] PostB (pZ N) told ws.length (ws.flatMap Wd.c) w) :
   Goes Tryz.prog true (RPa 87 (N + 6) (N + 1) [.int .i64 ticks]) (DPi Mine0 (N + 6) (N + 1) (N + 7)) (AtKd Tryz.prog 87 (N + 6) (N + 1) (N + 7) [.int .i64 ticks] Mine0 (AncR N K ticks b k cs PostB ws)) 6
     (G (b.at ⟨TR N K ticks told (.tuple #[]) (fv N) (.chan (some (N + 2))) (.chan (some (N + 4))) told undef, []⟩ (.code tl9 :: k)) cs) w := by
 have T := termsP 87 (N + 6) (N + 1) (N + 7) [.int .i64 ticks] Mine0
 have hA := @waitStart _ Tryz.link Mine0 (N + 6) (N + 1) (N + 7) _ [.int .i64 ticks] (FJ N PostB ws told) b ⟨TR N K ticks told (.tuple #[]) (fv N) (.chan (some (N + 2))) (.chan (some (N + 4))) told undef, []⟩ ops9 0 [] (.code tl10 :: k) cs Tryz.prog Tryz.wgLib (fj2 hPc told)
 simp only [ops9, tl10, tl9, tl8, tl7, tl6, Tryz.f19, body_wait, waitFn, Option.getD_some] at hA ⊢
 refine goes_ctl T rfl (fun _ => stepG_seq) ?_
 refine goes_ctl T rfl (fun _ => stepG_region) ?_
 simp only [List.size_toArray, List.length_cons, List.length_nil, Nat.reduceAdd, Nat.zero_add, List.range, List.range.loop]
 refine Goes.step rfl fun w₁ h₁ => ?_
 replace hF := EI.rely (show N + 1 < N + 7 by omega) (show N + 6 < N + 7 by omega) hPc hF h₁
 refine goes_call rfl rfl hk rfl Tryz.func35 (nm_wait Tryz.link) rfl ⟨T.idle _, ?_⟩
 simp only [TR] at hA ⊢
 walk_nrmf Tryz.f35
 refine goes_turn (fun _ _ _ h => h) (fun g w h => ?_) _ _ _ (hA w₁ ⟨⟨hF.1, hF.2.2⟩, hF.2.1⟩)
 obtain ⟨h1, g', h2, m, h3⟩ := h
 exact ⟨h1, g', h2, m, goes_turn (fun _ _ _ h => h) (fun g w h => ⟨told, h⟩) _ _ _ h3⟩
theorem atW1_mono {P : Program} {ty : TypeId} {Wg C Low : Nat} [Shy Wg C] {vals : List Value} {Mine : Loc → Prop} {A A' : Goroutine → World → Prop} {Post : Value → World → Prop} (hA : ∀ g w, A g w → A' g w) (g : Goroutine) (w : World) (h : AtW1 P ty Wg C Low vals Mine A Post g w) : AtW1 P ty Wg C Low vals Mine A' Post g w := by
 obtain ⟨h1, g', h2, h3, h4⟩ := h
 refine ⟨h1, g', h2, fun hw => ?_, h4⟩
 obtain ⟨m, hm⟩ := h3 hw
 refine ⟨m, goes_turn (fun _ _ _ h => h) (fun g w h => ?_) _ _ _ hm⟩
 obtain ⟨h5, h6, h7⟩ := h
 refine ⟨h5, h6, fun hk => ?_⟩
 obtain ⟨g'', h8, m', h9⟩ := h7 hk
 exact ⟨g'', h8, m', goes_turn (fun _ _ _ h => h) hA _ _ _ h9⟩
end
theorem run_anch {N K : Nat} {ticks : Int} {b : Frame} {k : List Item} {cs : List Frame} {PostB : World → Prop} {ws : List Wd} {Next : Goroutine → World → Prop} (hPc : ∀ w w₁, Aside2 (N + 1) (N + 6) w w₁ → PostB w → PostB w₁)
   (hc : ∀ told w', FJ N PostB ws told w' → Next (G (b.at ⟨TR N K ticks told (.tuple #[]) (fv N) (.chan (some (N + 2))) (.chan (some (N + 4))) told (.tuple #[]), []⟩ (.inRegion ops9 [] :: .code tl10 :: k)) cs) w') :
   letI := shyW (N + 6) (N + 1) Next; ∀ (Post : Value → World → Prop) g w, AncR N K ticks b k cs PostB ws g w → ∃ m, Goes Tryz.prog true (RPa 87 (N + 6) (N + 1) [.int .i64 ticks]) (DPi Mine0 (N + 6) (N + 1) (N + 7)) (AtW1 Tryz.prog 87 (N + 6) (N + 1) (N + 7) [.int .i64 ticks] Mine0 (AncR N K ticks b k cs PostB ws) Post) m g w := by
 intro Post g w h
 letI := shyW (N + 6) (N + 1) Next
 obtain ⟨told, h⟩ := h
 obtain ⟨m, hm⟩ := waitRound (Mine := Mine0) (Low := N + 7) (Post := Post) (mT := 0) Tryz.wgLib (by omega) (fj2 (ws := ws) hPc told) (fun w hF _ _ => Goes.stop fun w₁ h₁ => ⟨rfl, by
   obtain ⟨d, rfl⟩ := h₁
   have := hc told (w.at d) (fj2 (ws := ws) hPc told w _ ⟨rfl, rfl, rfl, rfl, fun _ _ _ => rfl⟩ hF)
   exact this⟩) g w h
 exact ⟨m, goes_turn (fun _ _ _ h => h) (atW1_mono fun g w h => ⟨told, h⟩) _ _ _ hm⟩
section
variable {N K : Nat} [Shy (N + 6) (N + 1)] {ticks : Int} {b : Frame} {k : List Item} {cs : List Frame} {PostB : World → Prop} {ws : List Wd}
set_option maxHeartbeats 4000000 in
theorem run_gathers (hb : b.fn = 19) (hk : b.kind ≠ .early) (hPc : ∀ w w₁, Aside2 (N + 1) (N + 6) w w₁ → PostB w → PostB w₁) (hws : ws.length < 10000) (w : World) (hF : BI N w) :
   Gathers Tryz.prog (pZ N) (N + 2) (N + 4) zE44 zD57 PostB (FinW Tryz.prog 87 (N + 6) (N + 1) (N + 7) [.int .i64 ticks] Mine0 (AncR N K ticks b k cs PostB ws)) (ws.map Wd.v)
     (G (b.at ⟨TR N K ticks undef (.tuple #[]) (fv N) undef undef undef undef, []⟩ (.inRegion ops7 [] :: .code tl8 :: k)) cs) w := by
 rw [gathers_iff]
 obtain ⟨k20, g20⟩ := gather_x (p := pZ N) (E := N + 2) (Dn := N + 4) (Wg := N + 6) (C := N + 1) (Low := N + 7) (vals := [.int .i64 ticks]) (Mine := Mine0) (AnchW := AncR N K ticks b k cs PostB ws) (PostB := PostB) rfl (show N + 2 < N + 7 by omega) (show N + 4 < N + 7 by omega) (show N + 1 < N + 7 by omega) (show N + 6 < N + 7 by omega) hPc ws hws
 rw [tl8_eq]
 co_apply Exists.intro
 co_apply goes_ctl (termsG (pZ N) (N + 2) (N + 4)) rfl (fun _ => stepG_region_end)
 co_apply goes_ctl (termsG (pZ N) (N + 2) (N + 4)) rfl (fun _ => stepG_seq)
 co_apply wpX_goes (F := gF Tryz.prog 87 (N + 6) (N + 1) (N + 7) [.int .i64 ticks] Mine0 (AncR N K ticks b k cs PostB ws) (pZ N) (N + 2) (N + 4) zE44 zD57 PostB) (s := some (ws.map Wd.v)) (m := 6)
   (Q := fun s' e a' w' => e = .normal ∧ s' = none ∧ ∃ told, a' = ⟨TR N K ticks told (.tuple #[]) (fv N) (.chan (some (N + 2))) (.chan (some (N + 4))) told undef, []⟩ ∧ EI (N + 6) (N + 1) [.int .i64 ticks] PostB (pZ N) told ws.length (ws.flatMap Wd.c) w') (b := b) (k := .code tl9 :: k) (cs := cs) (fn := 19) ?_ hb hk ?_
 · simp only [TR, r8, tl8, tl7, tl6, Tryz.f19]
   co_apply wpX_region
   simp only [List.size_toArray, List.length_cons, List.length_nil, Nat.reduceAdd, Nat.zero_add, List.range, List.range.loop]
   co_apply opsX_cons_k rfl (by rfl)
   intro _ hR K hK
   replace hF := (BI.rely) hF hR
   clear hR
   have hc := hF.ce
   go_simp
   try (unfold stored; go_simp)
   refine hK _ _ ⟨?_, ?_⟩
   · (refine dg_read ?_; co_evs (exact evA_still ⟨_, rfl, .inl rfl⟩))
   clear hK K
   try walk_nrm
   clear hc
   co_apply opsX_cons_k rfl (by rfl)
   intro _ hR K hK
   replace hF := (BI.rely) hF hR
   clear hR
   have hc := hF.cd
   go_simp
   try (unfold stored; go_simp)
   refine hK _ _ ⟨?_, ?_⟩
   · (refine dg_read ?_; co_evs (exact evA_still ⟨_, rfl, .inr rfl⟩))
   clear hK K
   try walk_nrm
   clear hc
   co_apply opsX_call rfl (by rfl) rfl
   · walk_nrm
     exact g20 _ hF.z
   intro s' v w' hv
   obtain ⟨rfl, hI⟩ := hv
   clear hF
   have hF := hI
   clear hI
   walk_nrm
   co_apply opsX_cons_k rfl (by rfl)
   intro _ hR K hK
   replace hF := (EI.rely (show N + 1 < N + 7 by omega) (show N + 6 < N + 7 by omega) hPc) hF hR
   clear hR
   skip
   go_simp
   try (unfold stored; go_simp)
   refine hK _ _ ⟨?_, ?_⟩
   · co_still (termsP 87 (N + 6) (N + 1) (N + 7) [.int .i64 ticks] Mine0)
   clear hK K
   try walk_nrm
   co_apply opsX_nil
   exact ⟨rfl, rfl, _, rfl, hF⟩
 · rintro s' e a' w' ⟨rfl, rfl, told, rfl, hI⟩
   exact run_wait hk hPc told w' hI
end
theorem ev_makeFunc (P : Program) (fn : Fn) (first cap : Array Value) (w : World) (es : Array Event) : (Instr.makeFunc fn first cap).events P w es = es := rfl
abbrev NextQ (Fin : Value → World → Prop) (nn N : Nat) (s : List Nat) : Goroutine → World → Prop := fun g' w' => ∃ m, Goes Tryz.prog true AtRel (D0 (Shs (N :: s))) (StopZ Tryz.prog Fin nn (N :: s)) m g' w'
noncomputable def ops6 : Array Oper := match tl6 with | .seq (.region _ ops _) _ => ops | _ => #[]
set_option maxHeartbeats 4000000 in
theorem run_tail {Fin : Value → World → Prop} {nn : Nat} {s : List Nat} {W : World} {K : Nat} {ticks : Int} {b : Frame} {k : List Item} {cs : List Frame} {PostB : World → Prop} {ws : List Wd} (hb : b.fn = 19) (hk : b.kind ≠ .early) (hE : Elder (Shs s) W.heap.size) (hws : ws.length < 10000)
   (hPb : ∀ w w₁, RB (pZ W.heap.size) (W.heap.size + 2) (W.heap.size + 4) w w₁ → PostB w → PostB w₁) (hPc : ∀ w w₁, Aside2 (W.heap.size + 1) (W.heap.size + 6) w w₁ → PostB w → PostB w₁) (hPn : ∀ w, PostB w → W.heap.size + 7 ≤ w.heap.size)
   (hT : ∀ [Shy (W.heap.size + 6) (W.heap.size + 1)] (w' : World), New W (boxZ W.heap.size K ticks KK) w' → Tells Tryz.prog (pZ W.heap.size) (ShR (Shs s) W.heap.size) (W.heap.size + 2) (W.heap.size + 4) PostB (AfterD Tryz.prog 87 (W.heap.size + 6) (W.heap.size + 1) (W.heap.size + 7) [.int .i64 ticks] Mine0) (ws.map Wd.v) (born Tryz.prog (started W.heap.size)) w')
   (hc : ∀ told w', FJ W.heap.size PostB ws told w' → ∃ m, Goes Tryz.prog true AtRel (D0 (Shs (W.heap.size :: s))) (StopZ Tryz.prog Fin nn (W.heap.size :: s)) m (G (b.at ⟨TR W.heap.size K ticks told (.tuple #[]) (fv W.heap.size) (.chan (some (W.heap.size + 2))) (.chan (some (W.heap.size + 4))) told (.tuple #[]), []⟩ (.inRegion ops9 [] :: .code tl10 :: k)) cs) w')
   (w : World) (hn : New W (boxZ W.heap.size K ticks 0) w) :
   Goes Tryz.prog true AtRel (D0 (Shs s)) (StopZ Tryz.prog Fin (nn + 1) s) 15 (G (b.at ⟨TR W.heap.size K ticks undef undef undef undef undef undef undef, []⟩ (.code tl6 :: k)) cs) w := by
 letI := shyW (W.heap.size + 6) (W.heap.size + 1) (NextQ Fin nn W.heap.size s)
 have T := terms0 (Shs s)
 have T2 : Terms AtRel (DE (EvS (W.heap.size + 6) (W.heap.size + 1))) := ⟨atRel_trans, fun w e he => by simp at he⟩
 have hAn := run_anch (K := K) (ticks := ticks) (b := b) (k := k) (cs := cs) (ws := ws) (Next := NextQ Fin nn W.heap.size s) hPc hc
 have e6 : ∃ i6, tl6 = .seq (.region i6 ops6 false) tl7 := ⟨_, by simp only [ops6, tl7, tl6, Tryz.f19]; rfl⟩
 obtain ⟨i6, e6⟩ := e6
 have hA := fun (w : World) (hw) (mT) (hT') => @addPos Tryz.link (W.heap.size + 6) (W.heap.size + 1) _ b ⟨TR W.heap.size K ticks undef undef undef undef undef undef undef, []⟩ ops6 0 [] (.code tl7 :: k) cs (AtFork Tryz.prog (Shs s) (Both Tryz.prog 87 (W.heap.size + 6) (W.heap.size + 1) (W.heap.size + 7) [.int .i64 ticks] Mine0 (AncR W.heap.size K ticks b k cs PostB ws) (pZ W.heap.size) (ShR (Shs s) W.heap.size) (W.heap.size + 2) (W.heap.size + 4) zE44 zD57 PostB)) mT Tryz.prog Tryz.wgLib w hw hT'
 rw [e6]
 refine goes_ctl T rfl (fun _ => stepG_seq) ?_
 refine goes_ctl T rfl (fun _ => stepG_region) ?_
 rw [show List.range ops6.size = [0] from by simp only [ops6, tl6, Tryz.f19]; rfl]
 refine Goes.step rfl fun w₁ h₁ => ?_
 replace hn := hn.rely h₁
 have hwg : WgAt 87 (W.heap.size + 6) w₁ 0 0 := hn.get (i := 6) rfl
 have hn' : New W (boxZ W.heap.size K ticks KK) (w₁.setCell (stA (W.heap.size + 6)) (.int .u64 KK)) := hn.set (i := 6) rfl 0 (.int .u64 KK)
 refine goes_call (o := (ops6[0]?).getD default) (by simp only [ops6, tl6, Tryz.f19]; rfl) (by simp only [ops6, tl6, Tryz.f19]; rfl) hk (by simp only [ops6, tl6, Tryz.f19]; rfl) Tryz.func30 (nm_add Tryz.link) rfl ⟨T.idle _, ?_⟩
 have hA := hA w₁ hwg 4 ?_
 · refine goes_turn (okRS hE (NextQ Fin nn W.heap.size s)) (fun g w h => ⟨W.heap.size, hE, [.int .i64 ticks], _, Fin, PostB, zE44, zD57, hPb, hPc, hPn, (fun g w h => by obtain ⟨_, _, hg, _⟩ := h; rw [hg]; rfl), hAn Fin, h⟩) _ _ _ ?_
   simp only [TR, body_add, addFn, Option.getD_some] at hA ⊢
   walk_nrmf Tryz.f30
   exact hA
 · have e7 : ∃ i7, tl7 = .seq (.region i7 ops7 false) tl8 := ⟨_, by simp only [ops7, tl8, tl7, tl6, Tryz.f19]; rfl⟩
   obtain ⟨i7, e7⟩ := e7
   rw [show (⟨TR W.heap.size K ticks undef undef undef undef undef undef undef, []⟩ : Act).put ((ops6[0]?).bind (·.dst)) (.tuple #[]) = ⟨TR W.heap.size K ticks undef (.tuple #[]) undef undef undef undef undef, []⟩ from by simp only [ops6, tl6, Tryz.f19]; rfl]
   refine goes_ctl T2 rfl (fun _ => stepG_region_end) ?_
   rw [e7]
   refine goes_ctl T2 rfl (fun _ => stepG_seq) ?_
   refine goes_ctl T2 rfl (fun _ => stepG_region) ?_
   rw [show List.range ops7.size = [0, 1] from by simp only [ops7, tl7, tl6, Tryz.f19]; rfl]
   refine Goes.step rfl fun w₂ h₂ => ?_
   replace hn' := hn'.rely h₂
   clear h₂
   refine goes_oper_k (o := (ops7[0]?).getD default) (by simp only [ops7, tl7, tl6, Tryz.f19]; rfl) (by simp only [ops7, tl7, tl6, Tryz.f19]; rfl) hk (fun K2 hK => ?_)
   have hK' := hK ⟨TR W.heap.size K ticks undef (.tuple #[]) (fv W.heap.size) undef undef undef undef, []⟩ w₂ ⟨?_, ?_⟩
   · simp only [ops7, tl7, tl6, Tryz.f19]
     simp only [TR] at hK' ⊢
     go_simp
     exact hK'
   · intro e he
     have hm := mem_listed he
     simp [ops7, tl7, tl6, Tryz.f19, go_sem, ev_makeFunc] at hm
   · refine Goes.stop fun w₃ h₃ => ?_
     replace hn' := hn'.rely h₃
     clear h₃
     refine ⟨rfl, G (b.at ⟨TR W.heap.size K ticks undef (.tuple #[]) (fv W.heap.size) undef undef undef undef, []⟩ (.inRegion ops7 [] :: .code tl8 :: k)) cs, born Tryz.prog (started W.heap.size), #[], ?_, by simp, ws.map Wd.v, hn'.get (i := 2) rfl, hn'.get (i := 4) rfl, run_gathers hb hk hPc hws w₃ ⟨hn'.get (i := 3) rfl, hn'.get (i := 5) rfl, by rw [hn'.size]; exact Nat.le_refl _⟩, hT w₃ hn'⟩
     have h := stepG_spawn (P := Tryz.prog) (main := true) (b := b) (a := ⟨TR W.heap.size K ticks undef (.tuple #[]) (fv W.heap.size) undef undef undef undef, []⟩) (k := .code tl8 :: k) (cs := cs) (ops := ops7) (i := 1) (rest := []) (o := (ops7[1]?).getD default) (d := started W.heap.size) (w := w₃) (w' := w₃) (f := .func 31) (c := caps W.heap.size)
       (by simp only [ops7, tl7, tl6, Tryz.f19]; rfl) (by simp only [ops7, tl7, tl6, Tryz.f19]; rfl) hk (by simp [ops7, tl7, tl6, Tryz.f19, go_sem, TR, fv, started, Deferred.ofValue]) rfl
     rw [h]
     simp [listed, ops7, tl7, tl6, Tryz.f19, go_sem, seen, Deferred.ofValue, TR, fv]
     rfl
end Go.Proofs.YtejkelcaljmnoaaGreatDoor
