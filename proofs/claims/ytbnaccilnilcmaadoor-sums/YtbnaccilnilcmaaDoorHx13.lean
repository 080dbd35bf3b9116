/-
  The kernel in memory, whoever looks: between two calls of Run, and inside one.
  No condition but those that each statement names.
-/
import Derived.Test.YtbnaccilnilcmaaDoorHx11
import Derived.Test.YtbnaccilnilcmaaDoorHx10
import Derived.Conc.FxGenDone
import Derived.Test.YtbnaccilnilcmaaDoorChecked
import Derived.Test.YtbnaccilnilcmaaDoorHx08
set_option linter.unusedVariables false
set_option linter.unusedSimpArgs false
set_option linter.unusedSectionVars false
namespace Go.Hx
open Go.Conc Go.ConcX

structure MemC (Sh : Loc → Prop) (a : Ad) (x : Now) (kc pc : Array Value) (Q cap : Nat) (qc : Array Value) (w : World) : Prop where
  k : Has a.K 88 kc w
  pp : Has a.P 75 pc w
  rr : Has a.R 72 a.rc w
  gg : Has a.G 110 a.gc w
  q : Has Q 72 qc w
  ke : a.keep = []
  od : Old a Q w
  oo : a.O ≤ a.K ∧ a.O ≤ a.P
  re : a.rc[0]? = some (.pointer (some ⟨a.P, 0, none⟩))
  kne : a.K ≠ a.P
  sK : ∀ i, ¬ Sh (.cell ⟨a.K, i, none⟩)
  sP : ∀ i, ¬ Sh (.cell ⟨a.P, i, none⟩)
  sR : ∀ i, ¬ Sh (.cell ⟨a.R, i, none⟩)
  sG : ∀ i, ¬ Sh (.cell ⟨a.G, i, none⟩)
  sQ : ∀ i, ¬ Sh (.cell ⟨Q, i, none⟩)
  ks : ∃ r0 r1 r2, Kst a kc x.s x.bo x.now r0 r1 r2
  ps : Pst pc x.st x.status x.at_ x.lv x.used x.r x.m
  hlv : x.lv < 3
  row : kc[6 + x.lv]? = some (.slice (some ⟨Q, 0, none⟩) 1 cap)
  low : ∀ l, l < x.lv → ∃ b c, kc[6 + l]? = some (.slice b 0 c)
  high : ∀ l, x.lv < l → l < 3 → kc[6 + l]? = some (.slice none 0 0)
  c1 : 1 ≤ cap
  cm : cap ≤ maxLen
  cs : qc.size = cap
  rq : a.R ≠ Q
  q0 : qc[0]? = some (.pointer (some ⟨a.P, 0, none⟩))
/-- Memory alone. -/
structure MK (Sh : Loc → Prop) (a : Ad) (kc pc : Array Value) (Q : Nat) (qc : Array Value) (w : World) : Prop where
  k : Has a.K 88 kc w
  pp : Has a.P 75 pc w
  rr : Has a.R 72 a.rc w
  gg : Has a.G 110 a.gc w
  q : Has Q 72 qc w
  ke : a.keep = []
  od : Old a Q w
  oo : a.O ≤ a.K ∧ a.O ≤ a.P
  re : a.rc[0]? = some (.pointer (some ⟨a.P, 0, none⟩))
  kne : a.K ≠ a.P
  sK : ∀ i, ¬ Sh (.cell ⟨a.K, i, none⟩)
  sP : ∀ i, ¬ Sh (.cell ⟨a.P, i, none⟩)
  sR : ∀ i, ¬ Sh (.cell ⟨a.R, i, none⟩)
  sG : ∀ i, ¬ Sh (.cell ⟨a.G, i, none⟩)
  sQ : ∀ i, ¬ Sh (.cell ⟨Q, i, none⟩)
/-- What the cells are, ahead of a tick. -/
structure SitR (p : Par) (a : Ad) (fr : Bool) (x : Now) (kc pc : Array Value) (Q cap : Nat) (qc : Array Value) : Prop where
  ks : ∃ r0 r1 r2, Kst a kc x.s x.bo x.now r0 r1 r2
  ps : Pst pc x.st x.status x.at_ x.lv x.used x.r x.m
  hlv : x.lv < 3
  row : kc[6 + x.lv]? = some (.slice (some ⟨Q, 0, none⟩) 1 cap)
  low : ∀ l, l < x.lv → ∃ b c, kc[6 + l]? = some (.slice b 0 c)
  high : ∀ l, x.lv < l → l < 3 → kc[6 + l]? = some (.slice none 0 0)
  c1 : 1 ≤ cap
  cm : cap ≤ maxLen
  cs : qc.size = cap
  rq : a.R ≠ Q
  q0 : qc[0]? = some (.pointer (some ⟨a.P, 0, none⟩))
  nq : fr = true → x.lv = 2 → p.N0 ≤ Q
def RestS (p : Par) (a : Ad) (fr : Bool) (x : Now) : Array Value → Array Value → Nat → Array Value → Prop := fun kc pc Q qc => ∃ cap, SitR p a fr x kc pc Q cap qc
theorem SitC.rest {p : Par} {Sh : Loc → Prop} {E Dn : Nat} {a : Ad} {fr : Bool} {x : Now} {kc pc : Array Value} {Q cap : Nat} {qc : Array Value} {w : World} (h : SitC p Sh E Dn a fr x kc pc Q cap qc w) : RestS p a fr x kc pc Q qc :=
  ⟨cap, h.ks, h.ps, h.hlv, h.row, h.low, h.high, h.c1, h.cm, h.cs, h.rq, h.q0, h.nq⟩
theorem MK.mem {p : Par} {Sh : Loc → Prop} {a b : Ad} {fr : Bool} {x : Now} {kc pc : Array Value} {Q cap : Nat} {qc : Array Value} {w : World} (hb : { b with keep := [] } = a) (h : MK Sh a kc pc Q qc w) (r : SitR p b fr x kc pc Q cap qc) : MemC Sh a x kc pc Q cap qc w := by
  subst hb
  exact ⟨h.k, h.pp, h.rr, h.gg, h.q, h.ke, h.od, h.oo, h.re, h.kne, h.sK, h.sP, h.sR, h.sG, h.sQ, (by obtain ⟨r0, r1, r2, hk⟩ := r.ks; exact ⟨r0, r1, r2, hk.sz, hk.sl, hk.bo, hk.pr, hk.ps, hk.r0, hk.r1, hk.r2, hk.now⟩), r.ps, r.hlv, r.row, r.low, r.high, r.c1, r.cm, r.cs, r.rq, r.q0⟩
def Mem (Sh : Loc → Prop) (a : Ad) (x : Now) (w : World) : Prop := ∃ kc pc Q cap qc, MemC Sh a x kc pc Q cap qc w

theorem Has.heap {b : Nat} {ty : TypeId} {cs : Array Value} {w w' : World} (h : Has b ty cs w) (e : w'.heap[b]? = w.heap[b]?) : Has b ty cs w' := e.trans h

/-- What the call of Run lays above. -/
def boxes (N K : Nat) (ticks : Int) (st : Int) : List Obj :=
  [.cells #[.pointer (some ⟨K, 0, none⟩)] 25, .cells #[.int .i64 ticks] 3, .chan 0 #[] false 0 0 false, .cells #[.chan (some (N + 2))] 55, .chan 0 #[] false 0 0 false, .cells #[.chan (some (N + 4))] 56, .cells #[.int .u64 st, .int .u32 0] 66]
def kept (N K : Nat) (ticks : Int) : List (Nat × TypeId × Array Value) :=
  [(N, 25, #[.pointer (some ⟨K, 0, none⟩)]), (N + 1, 3, #[.int .i64 ticks]), (N + 3, 55, #[.chan (some (N + 2))]), (N + 5, 56, #[.chan (some (N + 4))]), (N + 6, 66, #[.int .u64 KK, .int .u32 0])]
def inRun (a : Ad) (N : Nat) (ticks : Int) : Ad := { a with keep := kept N a.K ticks }

section
variable {Sh : Loc → Prop} {a : Ad} {x : Now} {kc pc : Array Value} {Q cap : Nat} {qc : Array Value} {W w : World} {ticks : Int}

theorem apartR {N b : Nat} (hb : b < N) (hs : ∀ i, ¬ Sh (.cell ⟨b, i, none⟩)) : Apart (pR N) (ShR Sh N) (N + 2) (N + 4) b :=
  ⟨by omega, by omega, fun i s => by
    rcases s with s | ⟨a', e, ha'⟩
    · exact hs i s
    · cases e; simp only at ha'; omega, fun i s => by
    obtain ⟨a', e, ha'⟩ := s
    cases e
    simp only at ha'
    omega⟩

theorem MemC.en (h : MemC Sh a x kc pc Q cap qc W) (hE : Elder Sh W.heap.size) (ticks : Int) : En (pR W.heap.size) (ShR Sh W.heap.size) (W.heap.size + 2) (W.heap.size + 4) (inRun a W.heap.size ticks) where
  ty := rfl
  sh := shOk hE
  hE := by show W.heap.size + 2 < W.heap.size + 7; omega
  hD := by show W.heap.size + 4 < W.heap.size + 7; omega
  aK := apartR h.k.lt h.sK
  aP := apartR h.pp.lt h.sP
  aR := apartR h.rr.lt h.sR
  aG := apartR h.gg.lt h.sG
  r0 := h.re
  kp := h.kne
  kd := fun t ht => by
    have h1 := h.k.lt
    have h2 := h.pp.lt
    show t.1 ≠ _ ∧ t.1 ≠ _ ∧ t.2.1 ≠ 44 ∧ t.1 ≠ a.K ∧ t.1 ≠ a.P ∧ t.1 < W.heap.size + 7
    simp only [inRun, kept, List.mem_cons, List.not_mem_nil, or_false] at ht
    rcases ht with rfl | rfl | rfl | rfl | rfl <;> refine ⟨?_, ?_, by simp only; decide, ?_, ?_, ?_⟩ <;> simp only <;> omega
  oo := by
    have h1 := h.k.lt
    have h2 := h.oo
    refine ⟨h2.1, h2.2, ?_, ?_, ?_⟩
    · show a.O ≤ _; omega
    · show a.O ≤ _; omega
    · show a.O ≤ W.heap.size + 7; omega

theorem MemC.sit (h : MemC Sh a x kc pc Q cap qc W) (hE : Elder Sh W.heap.size) (hn : New W (boxes W.heap.size a.K ticks KK) w) (fr : Bool) (hfr : fr = true → x.lv ≠ 2) :
    SitC (pR W.heap.size) (ShR Sh W.heap.size) (W.heap.size + 2) (W.heap.size + 4) (inRun a W.heap.size ticks) fr x kc pc Q cap qc w where
  km := {
    k := h.k.heap (hn.old h.k.lt)
    pp := h.pp.heap (hn.old h.pp.lt)
    rr := h.rr.heap (hn.old h.rr.lt)
    gg := h.gg.heap (hn.old h.gg.lt)
    q := h.q.heap (hn.old h.q.lt)
    aQ := apartR h.q.lt h.sQ
    sz := by rw [hn.size]; exact Nat.le_refl _
    kp := fun t ht => by
      simp only [inRun, kept, List.mem_cons, List.not_mem_nil, or_false] at ht
      rcases ht with rfl | rfl | rfl | rfl | rfl
      · exact hn.get (i := 0) rfl
      · exact hn.get (i := 1) rfl
      · exact hn.get (i := 3) rfl
      · exact hn.get (i := 5) rfl
      · exact hn.get (i := 6) rfl
    kq := fun t ht => by
      have h1 := h.q.lt
      simp only [inRun, kept, List.mem_cons, List.not_mem_nil, or_false] at ht
      rcases ht with rfl | rfl | rfl | rfl | rfl <;> simp only <;> omega
    od := ⟨h.od.q, hn.tape.trans h.od.t, hn.os'.trans h.od.o, hn.output.trans h.od.u, fun y hy => (hn.old (by have := h.k.lt; have := h.oo.1; have : y < a.O := hy; omega)).trans (h.od.b y hy)⟩ }
  ks := by obtain ⟨r0, r1, r2, hk⟩ := h.ks; exact ⟨r0, r1, r2, hk.sz, hk.sl, hk.bo, hk.pr, hk.ps, hk.r0, hk.r1, hk.r2, hk.now⟩
  ps := h.ps
  hlv := h.hlv
  row := h.row
  low := h.low
  high := h.high
  c1 := h.c1
  cm := h.cm
  cs := h.cs
  rq := h.rq
  q0 := h.q0
  nq := fun e he => absurd he (hfr e)

theorem MemC.at (h : MemC Sh a x kc pc Q cap qc w) (d : Nat) : MemC Sh a x kc pc Q cap qc (w.at d) :=
  { h with k := h.k, pp := h.pp, rr := h.rr, gg := h.gg, q := h.q, od := ⟨h.od.q, h.od.t, h.od.o, h.od.u, h.od.b⟩ }
theorem Mem.rely {w₁ : World} (h : Mem Sh a x w) (r : AtRel w w₁) : Mem Sh a x w₁ := by
  obtain ⟨d, rfl⟩ := r
  obtain ⟨kc, pc, Q, cap, qc, h⟩ := h
  exact ⟨kc, pc, Q, cap, qc, h.at d⟩

/-- Behind a call of Run. -/
theorem MK.of {p : Par} {E Dn : Nat} {b : Ad} (hb : { b with keep := [] } = a) (n : En p Sh E Dn b) (h : KM p Sh E Dn { b with keep := [] } kc pc Q qc w) : MK Sh a kc pc Q qc w := by
  subst hb
  exact ⟨h.k, h.pp, h.rr, h.gg, h.q, rfl, h.od, ⟨n.oo.1, n.oo.2.1⟩, n.r0, n.kp, n.aK.s, n.aP.s, n.aR.s, n.aG.s, h.aQ.s⟩
theorem MK.at (h : MK Sh a kc pc Q qc w) (d : Nat) : MK Sh a kc pc Q qc (w.at d) :=
  { h with k := h.k, pp := h.pp, rr := h.rr, gg := h.gg, q := h.q, od := ⟨h.od.q, h.od.t, h.od.o, h.od.u, h.od.b⟩ }
end
end Go.Hx
/-
  The worker's small functions, in company: which processes there are; is all over; who is first.
  No condition but those that each statement names.
-/
namespace Go.Proofs.YtbnaccilnilcmaaDoor
open Go.Conc Go.RowKit Go.Hx

variable {p : Par} {Sh : Loc → Prop} {E Dn : Nat} {a : Ad}

set_option maxRecDepth 100000 in
theorem all_c (n : En p Sh E Dn a) : ∃ k, ∀ (kc pc : Array Value) (Q : Nat) (qc : Array Value) (s : Nat → Int) (bo now : Int) (r0 r1 r2 : Value) (hk : Kst a kc s bo now r0 r1 r2) (w : World), KM p Sh E Dn a kc pc Q qc w →
    CallsC Tryd.prog false (RB p E Dn) (DT p Sh E Dn) 22 #[.pointer (some ⟨a.K, 0, none⟩)] k w fun v w' => v = .slice (some ⟨a.R, 0, none⟩) 1 a.rcap ∧ KM p Sh E Dn a kc pc Q qc w' := by
  co_apply Exists.intro
  intro kc pc Q qc s bo now r0 r1 r2 hk w hF
  co_apply callsC_of_wpC Tryd.func22 (by rfl) rfl
  simp only [Tryd.ntmps22, List.size_toArray, List.length_cons, List.length_nil, Nat.reduceAdd, Nat.reduceSub, Array.replicate_succ, Array.replicate_zero, List.push_toArray, List.append_toArray, List.nil_append, List.cons_append]
  have e1 := fun (w : World) (es : Array Event) => ev_eql_ptr_nil (w := w) (es := es) (some ⟨a.K, 0, none⟩) Tryd.underlying25
  co_go (termsT p Sh E Dn) (KM.rely n) hF (co_still (termsT p Sh E Dn))
  co_apply wpC_cond (termsT p Sh E Dn) (t := false)
  focus (exact rfl)
  simp only [if_false, Bool.false_eq_true, reduceIte]
  co_go (termsT p Sh E Dn) (KM.rely n) hF (co_still (termsT p Sh E Dn))
  co_opw (KM.rely n) hF (have hc := hF.k.cell hk.ps) (refine dt_read ?_; co_evs (exact hF.evK n _))
  clear hc
  co_go (termsT p Sh E Dn) (KM.rely n) hF (co_still (termsT p Sh E Dn))
  exact ⟨rfl, _, resultsC_tmp (by rfl) _, rfl, hF⟩

set_option maxRecDepth 100000 in
theorem find_c (n : En p Sh E Dn a) : ∃ k, ∀ (kc pc : Array Value) (Q : Nat) (qc : Array Value) (s : Nat → Int) (bo now : Int) (r0 r1 r2 : Value) (hk : Kst a kc s bo now r0 r1 r2) {st status at_ lv used : Int} {r m : Nat → Int} (hp : Pst pc st status at_ lv used r m) (w : World), KM p Sh E Dn a kc pc Q qc w →
    CallsC Tryd.prog false (RB p E Dn) (DT p Sh E Dn) 23 #[.pointer (some ⟨a.K, 0, none⟩), .int .i64 1] k w fun v w' => v = .pointer (some ⟨a.P, 0, none⟩) ∧ KM p Sh E Dn a kc pc Q qc w' := by
  obtain ⟨n1, h1⟩ := all_c n
  co_apply Exists.intro
  intro kc pc Q qc s bo now r0 r1 r2 hk st status at_ lv used r m hp w hF
  co_apply callsC_of_wpC Tryd.func23 (by rfl) rfl
  simp only [Tryd.ntmps23, List.size_toArray, List.length_cons, List.length_nil, Nat.reduceAdd, Nat.reduceSub, Array.replicate_succ, Array.replicate_zero, List.push_toArray, List.append_toArray, List.nil_append, List.cons_append]
  co_stmt (termsT p Sh E Dn) (KM.rely n) hF (co_still (termsT p Sh E Dn))
  co_apply wpC_seq (n₂ := 0) (termsT p Sh E Dn)
  co_apply wpC_seq (termsT p Sh E Dn)
  co_reg (termsT p Sh E Dn)
  co_op (KM.rely n) hF (co_still (termsT p Sh E Dn))
  co_apply opsC_call (termsT p Sh E Dn) rfl (by rfl) rfl
  · walk_nrm
    exact h1 kc pc Q qc s bo now r0 r1 r2 hk _ hF
  intro v w' hv
  obtain ⟨rfl, hF⟩ := hv
  walk_nrm
  co_op (KM.rely n) hF (co_still (termsT p Sh E Dn))
  co_op (KM.rely n) hF (co_still (termsT p Sh E Dn))
  co_apply opsC_nil (termsT p Sh E Dn)
  co_then
  co_apply wpC_block (termsT p Sh E Dn)
  co_apply wpC_loop0 (termsT p Sh E Dn)
  co_stmt (termsT p Sh E Dn) (KM.rely n) hF (co_still (termsT p Sh E Dn))
  co_apply wpC_seq (termsT p Sh E Dn)
  co_apply wpC_cond (termsT p Sh E Dn) (t := true)
  focus (exact rfl)
  simp only [if_true, reduceIte]
  co_apply wpC_skip (termsT p Sh E Dn)
  co_then
  co_apply wpC_seq (n₂ := 0) (termsT p Sh E Dn)
  co_apply wpC_block (termsT p Sh E Dn)
  co_apply wpC_seq (termsT p Sh E Dn)
  co_reg (termsT p Sh E Dn)
  have b1 : (0 : Int) < ((1 : Nat) : Int) := by decide
  co_opw (KM.rely n) hF (skip) (co_still (termsT p Sh E Dn))
  co_opw (KM.rely n) hF (have hc := hF.rr.cell n.r0) (refine dt_read ?_; co_evs (exact hF.evR n _))
  clear hc
  co_go (termsT p Sh E Dn) (KM.rely n) hF (co_still (termsT p Sh E Dn))
  co_opw (KM.rely n) hF (have hc := hF.pp.cell hp.id) (refine dt_read ?_; co_evs (exact hF.evP n _))
  clear hc
  co_go (termsT p Sh E Dn) (KM.rely n) hF (co_still (termsT p Sh E Dn))
  co_apply wpC_cond (termsT p Sh E Dn) (t := true)
  focus (exact rfl)
  simp only [if_true, reduceIte]
  co_go (termsT p Sh E Dn) (KM.rely n) hF (co_still (termsT p Sh E Dn))
  exact ⟨rfl, _, resultsC_tmp (by rfl) _, rfl, hF⟩
end Go.Proofs.YtbnaccilnilcmaaDoor
/-
  The worker's small functions, in company: is all over; who is first.
  No condition but those that each statement names.
-/
namespace Go.Proofs.YtbnaccilnilcmaaDoor
open Go.Conc Go.RowKit Go.Hx

variable {p : Par} {Sh : Loc → Prop} {E Dn : Nat} {a : Ad}

set_option maxRecDepth 100000 in
theorem over_c (n : En p Sh E Dn a) : ∃ k, ∀ (kc pc : Array Value) (Q : Nat) (qc : Array Value) (s : Nat → Int) (bo now : Int) (r0 r1 r2 : Value) (hk : Kst a kc s bo now r0 r1 r2) {st status at_ lv used : Int} {r m : Nat → Int} (hp : Pst pc st status at_ lv used r m) (w : World), KM p Sh E Dn a kc pc Q qc w →
    CallsC Tryd.prog false (RB p E Dn) (DT p Sh E Dn) 44 #[.pointer (some ⟨a.K, 0, none⟩)] k w fun v w' => v = .bool (st == 6) ∧ KM p Sh E Dn a kc pc Q qc w' := by
  obtain ⟨n1, h1⟩ := find_c n
  co_apply Exists.intro
  intro kc pc Q qc s bo now r0 r1 r2 hk st status at_ lv used r m hp w hF
  co_apply callsC_of_wpC Tryd.func44 (by rfl) rfl
  simp only [Tryd.ntmps44, List.size_toArray, List.length_cons, List.length_nil, Nat.reduceAdd, Nat.reduceSub, Array.replicate_succ, Array.replicate_zero, List.push_toArray, List.append_toArray, List.nil_append, List.cons_append]
  have e1 := fun (w : World) (es : Array Event) => ev_eql_ptr_nil (w := w) (es := es) (some ⟨a.P, 0, none⟩) Tryd.underlying72
  co_stmt (termsT p Sh E Dn) (KM.rely n) hF (co_still (termsT p Sh E Dn))
  co_apply wpC_seq (termsT p Sh E Dn)
  co_reg (termsT p Sh E Dn)
  co_op (KM.rely n) hF (co_still (termsT p Sh E Dn))
  co_apply opsC_call (termsT p Sh E Dn) rfl (by rfl) rfl
  · walk_nrm
    exact h1 kc pc Q qc s bo now r0 r1 r2 hk hp _ hF
  intro v w' hv
  obtain ⟨rfl, hF⟩ := hv
  walk_nrm
  co_op (KM.rely n) hF (co_still (termsT p Sh E Dn))
  co_apply opsC_nil (termsT p Sh E Dn)
  co_then
  co_apply wpC_seq (termsT p Sh E Dn)
  co_reg (termsT p Sh E Dn)
  co_op (KM.rely n) hF (co_still (termsT p Sh E Dn))
  co_op (KM.rely n) hF (co_still (termsT p Sh E Dn))
  co_op (KM.rely n) hF (co_still (termsT p Sh E Dn))
  co_op (KM.rely n) hF (co_still (termsT p Sh E Dn))
  co_op (KM.rely n) hF (co_still (termsT p Sh E Dn))
  co_op (KM.rely n) hF (co_still (termsT p Sh E Dn))
  co_op (KM.rely n) hF (co_still (termsT p Sh E Dn))
  co_opw (KM.rely n) hF (have hc := hF.pp.cell hp.st) (refine dt_read ?_; co_evs (exact hF.evP n _))
  clear hc
  co_go (termsT p Sh E Dn) (KM.rely n) hF (co_still (termsT p Sh E Dn))
  exact ⟨rfl, _, resultsC_tmp (by rfl) _, by simp, hF⟩

set_option maxRecDepth 100000 in
/-- Who is first, where the row of level 0 is not empty. -/
theorem first_c0 (n : En p Sh E Dn a) : ∃ k, ∀ (kc pc : Array Value) (Q : Nat) (qc : Array Value) (s : Nat → Int) (bo now : Int) (cap : Nat) (r1 r2 : Value) (hk : Kst a kc s bo now (.slice (some ⟨Q, 0, none⟩) 1 cap) r1 r2) (hq : qc[0]? = some (.pointer (some ⟨a.P, 0, none⟩))) (w : World), KM p Sh E Dn a kc pc Q qc w →
    CallsC Tryd.prog false (RB p E Dn) (DT p Sh E Dn) 57 #[.pointer (some ⟨a.K, 6, none⟩)] k w fun v w' => v = .pointer (some ⟨a.P, 0, none⟩) ∧ KM p Sh E Dn a kc pc Q qc w' := by
  co_apply Exists.intro
  intro kc pc Q qc s bo now cap r1 r2 hk hq w hF
  co_apply callsC_of_wpC Tryd.func57 (by rfl) rfl
  simp only [Tryd.ntmps57, List.size_toArray, List.length_cons, List.length_nil, Nat.reduceAdd, Nat.reduceSub, Array.replicate_succ, Array.replicate_zero, List.push_toArray, List.append_toArray, List.nil_append, List.cons_append]
  have e2 := fun (w : World) (es : Array Event) => events_indexAt_array (P := Tryd.prog) (w := w) (es := es) 86 _ 3 ⟨a.K, 6, none⟩ .i64 0 Tryd.underlying86 (by decide)
  co_stmt (termsT p Sh E Dn) (KM.rely n) hF (co_still (termsT p Sh E Dn))
  co_apply wpC_seq (n₂ := 0) (termsT p Sh E Dn)
  co_apply wpC_seq (termsT p Sh E Dn)
  co_reg (termsT p Sh E Dn)
  co_op (KM.rely n) hF (co_still (termsT p Sh E Dn))
  co_op (KM.rely n) hF (co_still (termsT p Sh E Dn))
  co_op (KM.rely n) hF (co_still (termsT p Sh E Dn))
  co_apply opsC_nil (termsT p Sh E Dn)
  co_then
  co_apply wpC_block (termsT p Sh E Dn)
  co_apply wpC_loop0 (termsT p Sh E Dn)
  co_stmt (termsT p Sh E Dn) (KM.rely n) hF (co_still (termsT p Sh E Dn))
  co_apply wpC_seq (termsT p Sh E Dn)
  co_apply wpC_cond (termsT p Sh E Dn) (t := true)
  focus (exact rfl)
  simp only [if_true, if_false, Bool.false_eq_true, reduceIte]
  co_apply wpC_skip (termsT p Sh E Dn)
  co_then
  co_apply wpC_seq (n₂ := 0) (termsT p Sh E Dn)
  co_apply wpC_block (termsT p Sh E Dn)
  co_apply wpC_seq (termsT p Sh E Dn)
  co_reg (termsT p Sh E Dn)
  co_op (KM.rely n) hF (co_still (termsT p Sh E Dn))
  co_opw (KM.rely n) hF (skip) (co_still (termsT p Sh E Dn))
  co_opw (KM.rely n) hF (have hc := hF.k.cell hk.r0) (refine dt_read ?_; co_evs (exact hF.evK n _))
  clear hc
  co_op (KM.rely n) hF (co_still (termsT p Sh E Dn))
  co_apply opsC_nil (termsT p Sh E Dn)
  co_then
  co_apply wpC_seq (termsT p Sh E Dn)
  co_reg (termsT p Sh E Dn)
  co_op (KM.rely n) hF (co_still (termsT p Sh E Dn))
  co_op (KM.rely n) hF (co_still (termsT p Sh E Dn))
  co_op (KM.rely n) hF (co_still (termsT p Sh E Dn))
  co_apply opsC_nil (termsT p Sh E Dn)
  co_then
  co_apply wpC_cond (termsT p Sh E Dn) (t := true)
  focus (exact rfl)
  simp only [if_true, if_false, Bool.false_eq_true, reduceIte]
  co_apply wpC_seq (termsT p Sh E Dn)
  co_reg (termsT p Sh E Dn)
  co_op (KM.rely n) hF (co_still (termsT p Sh E Dn))
  co_opw (KM.rely n) hF (skip) (co_still (termsT p Sh E Dn))
  co_opw (KM.rely n) hF (have hc := hF.q.cell hq) (refine dt_read ?_; co_evs (exact hF.evQ n _))
  clear hc
  co_go (termsT p Sh E Dn) (KM.rely n) hF (co_still (termsT p Sh E Dn))
  exact ⟨rfl, _, resultsC_tmp (by rfl) _, rfl, hF⟩
end Go.Proofs.YtbnaccilnilcmaaDoor
/-
  The worker's small functions, in company: who is first, at the lower levels; an instruction's number; a place in memory.
  No condition but those that each statement names.
-/
namespace Go.Proofs.YtbnaccilnilcmaaDoor
open Go.Conc Go.RowKit Go.Hx

variable {p : Par} {Sh : Loc → Prop} {E Dn : Nat} {a : Ad}

set_option maxRecDepth 100000 in
/-- .. where the row of level 0 is empty and that of level 1 is not. -/
theorem first_c1 (n : En p Sh E Dn a) : ∃ k, ∀ (kc pc : Array Value) (Q : Nat) (qc : Array Value) (s : Nat → Int) (bo now : Int) (cap : Nat) (b0 : Option Addr) (c0 : Nat) (r2 : Value) (hk : Kst a kc s bo now (.slice b0 0 c0) (.slice (some ⟨Q, 0, none⟩) 1 cap) r2) (hq : qc[0]? = some (.pointer (some ⟨a.P, 0, none⟩))) (w : World), KM p Sh E Dn a kc pc Q qc w →
    CallsC Tryd.prog false (RB p E Dn) (DT p Sh E Dn) 57 #[.pointer (some ⟨a.K, 6, none⟩)] k w fun v w' => v = .pointer (some ⟨a.P, 0, none⟩) ∧ KM p Sh E Dn a kc pc Q qc w' := by
  co_apply Exists.intro
  intro kc pc Q qc s bo now cap b0 c0 r2 hk hq w hF
  have w1 : IntKind.i64.wrap 1 = 1 := by decide
  have w2 : IntKind.i64.wrap 2 = 2 := by decide
  co_apply callsC_of_wpC Tryd.func57 (by rfl) rfl
  simp only [Tryd.ntmps57, List.size_toArray, List.length_cons, List.length_nil, Nat.reduceAdd, Nat.reduceSub, Array.replicate_succ, Array.replicate_zero, List.push_toArray, List.append_toArray, List.nil_append, List.cons_append]
  have e2 := fun (w : World) (es : Array Event) => events_indexAt_array (P := Tryd.prog) (w := w) (es := es) 86 _ 3 ⟨a.K, 6, none⟩ .i64 0 Tryd.underlying86 (by decide)
  have e3 := fun (w : World) (es : Array Event) => events_indexAt_array (P := Tryd.prog) (w := w) (es := es) 86 _ 3 ⟨a.K, 6, none⟩ .i64 1 Tryd.underlying86 (by decide)
  co_stmt (termsT p Sh E Dn) (KM.rely n) hF (co_still (termsT p Sh E Dn))
  co_apply wpC_seq (n₂ := 0) (termsT p Sh E Dn)
  co_apply wpC_seq (termsT p Sh E Dn)
  co_reg (termsT p Sh E Dn)
  co_op (KM.rely n) hF (co_still (termsT p Sh E Dn))
  co_op (KM.rely n) hF (co_still (termsT p Sh E Dn))
  co_op (KM.rely n) hF (co_still (termsT p Sh E Dn))
  co_apply opsC_nil (termsT p Sh E Dn)
  co_then
  co_apply wpC_block (termsT p Sh E Dn)
  co_apply wpC_loop1 (termsT p Sh E Dn)
  co_stmt (termsT p Sh E Dn) (KM.rely n) hF (co_still (termsT p Sh E Dn))
  co_apply wpC_seq (termsT p Sh E Dn)
  co_apply wpC_cond (termsT p Sh E Dn) (t := true)
  focus (exact rfl)
  simp only [if_true, if_false, Bool.false_eq_true, reduceIte]
  co_apply wpC_skip (termsT p Sh E Dn)
  co_then
  co_apply wpC_seq (termsT p Sh E Dn)
  co_apply wpC_block (termsT p Sh E Dn)
  co_apply wpC_seq (termsT p Sh E Dn)
  co_reg (termsT p Sh E Dn)
  co_op (KM.rely n) hF (co_still (termsT p Sh E Dn))
  co_opw (KM.rely n) hF (skip) (co_still (termsT p Sh E Dn))
  co_opw (KM.rely n) hF (have hc := hF.k.cell hk.r0) (refine dt_read ?_; co_evs (exact hF.evK n _))
  clear hc
  co_op (KM.rely n) hF (co_still (termsT p Sh E Dn))
  co_apply opsC_nil (termsT p Sh E Dn)
  co_then
  co_apply wpC_seq (termsT p Sh E Dn)
  co_reg (termsT p Sh E Dn)
  co_op (KM.rely n) hF (co_still (termsT p Sh E Dn))
  co_op (KM.rely n) hF (co_still (termsT p Sh E Dn))
  co_op (KM.rely n) hF (co_still (termsT p Sh E Dn))
  co_apply opsC_nil (termsT p Sh E Dn)
  co_then
  co_apply wpC_cond (termsT p Sh E Dn) (t := false)
  focus (exact rfl)
  simp only [if_true, if_false, Bool.false_eq_true, reduceIte]
  co_apply wpC_skip (termsT p Sh E Dn)
  co_then
  co_reg (termsT p Sh E Dn)
  co_op (KM.rely n) hF (co_still (termsT p Sh E Dn))
  co_op (KM.rely n) hF (co_still (termsT p Sh E Dn))
  co_apply opsC_nil (termsT p Sh E Dn)
  co_then
  co_apply loopC0 (termsT p Sh E Dn)
  co_stmt (termsT p Sh E Dn) (KM.rely n) hF (co_still (termsT p Sh E Dn))
  co_apply wpC_seq (termsT p Sh E Dn)
  co_apply wpC_cond (termsT p Sh E Dn) (t := true)
  focus (exact rfl)
  simp only [if_true, if_false, Bool.false_eq_true, reduceIte]
  co_apply wpC_skip (termsT p Sh E Dn)
  co_then
  co_apply wpC_seq (n₂ := 0) (termsT p Sh E Dn)
  co_apply wpC_block (termsT p Sh E Dn)
  co_apply wpC_seq (termsT p Sh E Dn)
  co_reg (termsT p Sh E Dn)
  co_op (KM.rely n) hF (co_still (termsT p Sh E Dn))
  co_opw (KM.rely n) hF (skip) (co_still (termsT p Sh E Dn))
  co_opw (KM.rely n) hF (have hc := hF.k.cell hk.r1) (refine dt_read ?_; co_evs (exact hF.evK n _))
  clear hc
  co_op (KM.rely n) hF (co_still (termsT p Sh E Dn))
  co_apply opsC_nil (termsT p Sh E Dn)
  co_then
  co_apply wpC_seq (termsT p Sh E Dn)
  co_reg (termsT p Sh E Dn)
  co_op (KM.rely n) hF (co_still (termsT p Sh E Dn))
  co_op (KM.rely n) hF (co_still (termsT p Sh E Dn))
  co_op (KM.rely n) hF (co_still (termsT p Sh E Dn))
  co_apply opsC_nil (termsT p Sh E Dn)
  co_then
  co_apply wpC_cond (termsT p Sh E Dn) (t := true)
  focus (exact rfl)
  simp only [if_true, if_false, Bool.false_eq_true, reduceIte]
  co_apply wpC_seq (termsT p Sh E Dn)
  co_reg (termsT p Sh E Dn)
  co_op (KM.rely n) hF (co_still (termsT p Sh E Dn))
  co_opw (KM.rely n) hF (skip) (co_still (termsT p Sh E Dn))
  co_opw (KM.rely n) hF (have hc := hF.q.cell hq) (refine dt_read ?_; co_evs (exact hF.evQ n _))
  clear hc
  co_go (termsT p Sh E Dn) (KM.rely n) hF (co_still (termsT p Sh E Dn))
  exact ⟨rfl, _, resultsC_tmp (by rfl) _, rfl, hF⟩

set_option maxRecDepth 100000 in
/-- .. where that of level 2 alone is not empty. -/
theorem first_c2 (n : En p Sh E Dn a) : ∃ k, ∀ (kc pc : Array Value) (Q : Nat) (qc : Array Value) (s : Nat → Int) (bo now : Int) (cap : Nat) (b0 b1 : Option Addr) (c0 c1 : Nat) (hk : Kst a kc s bo now (.slice b0 0 c0) (.slice b1 0 c1) (.slice (some ⟨Q, 0, none⟩) 1 cap)) (hq : qc[0]? = some (.pointer (some ⟨a.P, 0, none⟩))) (w : World), KM p Sh E Dn a kc pc Q qc w →
    CallsC Tryd.prog false (RB p E Dn) (DT p Sh E Dn) 57 #[.pointer (some ⟨a.K, 6, none⟩)] k w fun v w' => v = .pointer (some ⟨a.P, 0, none⟩) ∧ KM p Sh E Dn a kc pc Q qc w' := by
  co_apply Exists.intro
  intro kc pc Q qc s bo now cap b0 b1 c0 c1 hk hq w hF
  have w1 : IntKind.i64.wrap 1 = 1 := by decide
  have w2 : IntKind.i64.wrap 2 = 2 := by decide
  co_apply callsC_of_wpC Tryd.func57 (by rfl) rfl
  simp only [Tryd.ntmps57, List.size_toArray, List.length_cons, List.length_nil, Nat.reduceAdd, Nat.reduceSub, Array.replicate_succ, Array.replicate_zero, List.push_toArray, List.append_toArray, List.nil_append, List.cons_append]
  have e2 := fun (w : World) (es : Array Event) => events_indexAt_array (P := Tryd.prog) (w := w) (es := es) 86 _ 3 ⟨a.K, 6, none⟩ .i64 0 Tryd.underlying86 (by decide)
  have e3 := fun (w : World) (es : Array Event) => events_indexAt_array (P := Tryd.prog) (w := w) (es := es) 86 _ 3 ⟨a.K, 6, none⟩ .i64 1 Tryd.underlying86 (by decide)
  have e4 := fun (w : World) (es : Array Event) => events_indexAt_array (P := Tryd.prog) (w := w) (es := es) 86 _ 3 ⟨a.K, 6, none⟩ .i64 2 Tryd.underlying86 (by decide)
  co_stmt (termsT p Sh E Dn) (KM.rely n) hF (co_still (termsT p Sh E Dn))
  co_apply wpC_seq (n₂ := 0) (termsT p Sh E Dn)
  co_apply wpC_seq (termsT p Sh E Dn)
  co_reg (termsT p Sh E Dn)
  co_op (KM.rely n) hF (co_still (termsT p Sh E Dn))
  co_op (KM.rely n) hF (co_still (termsT p Sh E Dn))
  co_op (KM.rely n) hF (co_still (termsT p Sh E Dn))
  co_apply opsC_nil (termsT p Sh E Dn)
  co_then
  co_apply wpC_block (termsT p Sh E Dn)
  co_apply wpC_loop1 (termsT p Sh E Dn)
  co_stmt (termsT p Sh E Dn) (KM.rely n) hF (co_still (termsT p Sh E Dn))
  co_apply wpC_seq (termsT p Sh E Dn)
  co_apply wpC_cond (termsT p Sh E Dn) (t := true)
  focus (exact rfl)
  simp only [if_true, if_false, Bool.false_eq_true, reduceIte]
  co_apply wpC_skip (termsT p Sh E Dn)
  co_then
  co_apply wpC_seq (termsT p Sh E Dn)
  co_apply wpC_block (termsT p Sh E Dn)
  co_apply wpC_seq (termsT p Sh E Dn)
  co_reg (termsT p Sh E Dn)
  co_op (KM.rely n) hF (co_still (termsT p Sh E Dn))
  co_opw (KM.rely n) hF (skip) (co_still (termsT p Sh E Dn))
  co_opw (KM.rely n) hF (have hc := hF.k.cell hk.r0) (refine dt_read ?_; co_evs (exact hF.evK n _))
  clear hc
  co_op (KM.rely n) hF (co_still (termsT p Sh E Dn))
  co_apply opsC_nil (termsT p Sh E Dn)
  co_then
  co_apply wpC_seq (termsT p Sh E Dn)
  co_reg (termsT p Sh E Dn)
  co_op (KM.rely n) hF (co_still (termsT p Sh E Dn))
  co_op (KM.rely n) hF (co_still (termsT p Sh E Dn))
  co_op (KM.rely n) hF (co_still (termsT p Sh E Dn))
  co_apply opsC_nil (termsT p Sh E Dn)
  co_then
  co_apply wpC_cond (termsT p Sh E Dn) (t := false)
  focus (exact rfl)
  simp only [if_true, if_false, Bool.false_eq_true, reduceIte]
  co_apply wpC_skip (termsT p Sh E Dn)
  co_then
  co_reg (termsT p Sh E Dn)
  co_op (KM.rely n) hF (co_still (termsT p Sh E Dn))
  co_op (KM.rely n) hF (co_still (termsT p Sh E Dn))
  co_apply opsC_nil (termsT p Sh E Dn)
  co_then
  co_apply loopC1 (termsT p Sh E Dn)
  co_stmt (termsT p Sh E Dn) (KM.rely n) hF (co_still (termsT p Sh E Dn))
  co_apply wpC_seq (termsT p Sh E Dn)
  co_apply wpC_cond (termsT p Sh E Dn) (t := true)
  focus (exact rfl)
  simp only [if_true, if_false, Bool.false_eq_true, reduceIte]
  co_apply wpC_skip (termsT p Sh E Dn)
  co_then
  co_apply wpC_seq (termsT p Sh E Dn)
  co_apply wpC_block (termsT p Sh E Dn)
  co_apply wpC_seq (termsT p Sh E Dn)
  co_reg (termsT p Sh E Dn)
  co_op (KM.rely n) hF (co_still (termsT p Sh E Dn))
  co_opw (KM.rely n) hF (skip) (co_still (termsT p Sh E Dn))
  co_opw (KM.rely n) hF (have hc := hF.k.cell hk.r1) (refine dt_read ?_; co_evs (exact hF.evK n _))
  clear hc
  co_op (KM.rely n) hF (co_still (termsT p Sh E Dn))
  co_apply opsC_nil (termsT p Sh E Dn)
  co_then
  co_apply wpC_seq (termsT p Sh E Dn)
  co_reg (termsT p Sh E Dn)
  co_op (KM.rely n) hF (co_still (termsT p Sh E Dn))
  co_op (KM.rely n) hF (co_still (termsT p Sh E Dn))
  co_op (KM.rely n) hF (co_still (termsT p Sh E Dn))
  co_apply opsC_nil (termsT p Sh E Dn)
  co_then
  co_apply wpC_cond (termsT p Sh E Dn) (t := false)
  focus (exact rfl)
  simp only [if_true, if_false, Bool.false_eq_true, reduceIte]
  co_apply wpC_skip (termsT p Sh E Dn)
  co_then
  co_reg (termsT p Sh E Dn)
  co_op (KM.rely n) hF (co_still (termsT p Sh E Dn))
  co_op (KM.rely n) hF (co_still (termsT p Sh E Dn))
  co_apply opsC_nil (termsT p Sh E Dn)
  co_then
  co_apply loopC0 (termsT p Sh E Dn)
  co_stmt (termsT p Sh E Dn) (KM.rely n) hF (co_still (termsT p Sh E Dn))
  co_apply wpC_seq (termsT p Sh E Dn)
  co_apply wpC_cond (termsT p Sh E Dn) (t := true)
  focus (exact rfl)
  simp only [if_true, if_false, Bool.false_eq_true, reduceIte]
  co_apply wpC_skip (termsT p Sh E Dn)
  co_then
  co_apply wpC_seq (n₂ := 0) (termsT p Sh E Dn)
  co_apply wpC_block (termsT p Sh E Dn)
  co_apply wpC_seq (termsT p Sh E Dn)
  co_reg (termsT p Sh E Dn)
  co_op (KM.rely n) hF (co_still (termsT p Sh E Dn))
  co_opw (KM.rely n) hF (skip) (co_still (termsT p Sh E Dn))
  co_opw (KM.rely n) hF (have hc := hF.k.cell hk.r2) (refine dt_read ?_; co_evs (exact hF.evK n _))
  clear hc
  co_op (KM.rely n) hF (co_still (termsT p Sh E Dn))
  co_apply opsC_nil (termsT p Sh E Dn)
  co_then
  co_apply wpC_seq (termsT p Sh E Dn)
  co_reg (termsT p Sh E Dn)
  co_op (KM.rely n) hF (co_still (termsT p Sh E Dn))
  co_op (KM.rely n) hF (co_still (termsT p Sh E Dn))
  co_op (KM.rely n) hF (co_still (termsT p Sh E Dn))
  co_apply opsC_nil (termsT p Sh E Dn)
  co_then
  co_apply wpC_cond (termsT p Sh E Dn) (t := true)
  focus (exact rfl)
  simp only [if_true, if_false, Bool.false_eq_true, reduceIte]
  co_apply wpC_seq (termsT p Sh E Dn)
  co_reg (termsT p Sh E Dn)
  co_op (KM.rely n) hF (co_still (termsT p Sh E Dn))
  co_opw (KM.rely n) hF (skip) (co_still (termsT p Sh E Dn))
  co_opw (KM.rely n) hF (have hc := hF.q.cell hq) (refine dt_read ?_; co_evs (exact hF.evQ n _))
  clear hc
  co_go (termsT p Sh E Dn) (KM.rely n) hF (co_still (termsT p Sh E Dn))
  exact ⟨rfl, _, resultsC_tmp (by rfl) _, rfl, hF⟩

set_option maxRecDepth 100000 in
/-- A place in the memory that there is. -/
theorem place_c (n : En p Sh E Dn a) : ∃ k, ∀ (kc pc : Array Value) (Q : Nat) (qc : Array Value) (x y : Int) (hx : 0 ≤ x ∧ x < 65536) (hy : 0 ≤ y ∧ y < 256) (hxy : x + y < 64) (w : World), KM p Sh E Dn a kc pc Q qc w →
    CallsC Tryd.prog false (RB p E Dn) (DT p Sh E Dn) 76 #[.pointer (some ⟨a.P, 0, none⟩), .int .u16 x, .int .u8 y] k w fun v w' => v = .tuple #[.int .i64 (x + y), .nilIface] ∧ KM p Sh E Dn a kc pc Q qc w' := by
  co_apply Exists.intro
  intro kc pc Q qc x y hx hy hxy w hF
  co_apply callsC_of_wpC Tryd.func76 (by rfl) rfl
  simp only [Tryd.ntmps76, List.size_toArray, List.length_cons, List.length_nil, Nat.reduceAdd, Nat.reduceSub, Array.replicate_succ, Array.replicate_zero, List.push_toArray, List.append_toArray, List.nil_append, List.cons_append]
  have q1 : IntKind.i64.wrap x = x := by simp [IntKind.wrap_i64]; omega
  have q2 : IntKind.i64.wrap y = y := by simp [IntKind.wrap_i64]; omega
  have q3 : IntKind.i64.wrap (x + y) = x + y := by simp [IntKind.wrap_i64]; omega
  co_go (termsT p Sh E Dn) (KM.rely n) hF (co_still (termsT p Sh E Dn))
  co_apply wpC_cond (termsT p Sh E Dn) (t := false)
  focus (simp [Act.eval]; omega)
  simp only [if_true, if_false, Bool.false_eq_true, reduceIte]
  co_go (termsT p Sh E Dn) (KM.rely n) hF (co_still (termsT p Sh E Dn))
  exact ⟨rfl, _, resultsC_tmp2 (by rfl) _, rfl, hF⟩
end Go.Proofs.YtbnaccilnilcmaaDoor
