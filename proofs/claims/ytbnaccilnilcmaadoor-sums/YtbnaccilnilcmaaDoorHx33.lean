/-
  What Procs tells.
  No condition but those that each statement names.
-/
import Derived.Test.YtbnaccilnilcmaaDoorHx32
import Derived.Test.YtbnaccilnilcmaaDoorHx13
set_option linter.unusedVariables false
set_option linter.unusedSimpArgs false
set_option linter.unusedSectionVars false
namespace Go.Proofs.YtbnaccilnilcmaaDoor
open Go.Conc Go.RowKit Go.Hx Go.ConcX

/-- What goroutine 0 knows while it looks at a kernel. -/
structure PS (W : World) (a : Ad) (kc pc : Array Value) (bs : List (Nat × TypeId × Array Value)) (w : World) : Prop where
  g : GR W bs w
  k : Has a.K 88 kc w
  p : Has a.P 75 pc w
  r : Has a.R 72 a.rc w
section
variable {W w w₁ w' : World} {a : Ad} {kc pc : Array Value} {bs : List (Nat × TypeId × Array Value)}
theorem PS.rely (h : PS W a kc pc bs w) (r : AtRel w w₁) : PS W a kc pc bs w₁ := ⟨h.g.rely r, by obtain ⟨d, rfl⟩ := r; exact h.k, by obtain ⟨d, rfl⟩ := r; exact h.p, by obtain ⟨d, rfl⟩ := r; exact h.r⟩
theorem PS.grown (h : PS W a kc pc bs w) (hg : w.grownBy w' none) : PS W a kc pc bs w' := ⟨h.g.grown hg, h.k.gr hg, h.p.gr hg, h.r.gr hg⟩
theorem PS.alloc (h : PS W a kc pc bs w) (ty : TypeId) (cs : Array Value) : PS W a kc pc ((w.heap.size, ty, cs) :: bs) (w.alloc (.cells cs ty)) := ⟨h.g.alloc ty cs, h.k.gr (grown_alloc _ _), h.p.gr (grown_alloc _ _), h.r.gr (grown_alloc _ _)⟩
end

set_option maxRecDepth 100000 in
theorem all_s : ∃ k, ∀ (Sh : Loc → Prop) (a : Ad) (kc : Array Value) (hK : ∀ i, ¬ Sh (.cell ⟨a.K, i, none⟩)) (hps : kc[5]? = some (.slice (some ⟨a.R, 0, none⟩) 1 a.rcap)) (pc : Array Value) (w : World), PS w a kc pc [] w →
    CallsC Tryd.prog true AtRel (D0 Sh) 22 #[.pointer (some ⟨a.K, 0, none⟩)] k w fun v w' => v = .slice (some ⟨a.R, 0, none⟩) 1 a.rcap ∧ w.grownBy w' none := by
  co_apply Exists.intro
  intro Sh a kc hK hps pc w hF
  have e1 := fun (w : World) (es : Array Event) => ev_eql_ptr_nil (P := Tryd.prog) (w := w) (es := es) (some ⟨a.K, 0, none⟩) Tryd.underlying25
  co_apply callsC_of_wpC Tryd.func22 (by rfl) rfl
  simp only [Tryd.ntmps22, List.size_toArray, List.length_cons, List.length_nil, Nat.reduceAdd, Nat.reduceSub, Array.replicate_succ, Array.replicate_zero, List.push_toArray, List.append_toArray, List.nil_append, List.cons_append]
  co_apply wpC_seq (terms0 Sh)
  co_reg (terms0 Sh)
  co_op (PS.rely) hF (co_still (terms0 Sh))
  co_apply opsC_nil (terms0 Sh)
  co_then
  co_apply wpC_seq (terms0 Sh)
  co_apply wpC_seq (terms0 Sh)
  co_reg (terms0 Sh)
  co_op (PS.rely) hF (co_still (terms0 Sh))
  co_op (PS.rely) hF (co_still (terms0 Sh))
  co_apply opsC_nil (terms0 Sh)
  co_then
  co_apply wpC_cond (terms0 Sh) (t := false)
  focus (exact rfl)
  simp only [if_true, if_false, Bool.false_eq_true, reduceIte]
  co_apply wpC_skip (terms0 Sh)
  co_then
  co_apply wpC_seq (terms0 Sh)
  co_reg (terms0 Sh)
  co_op (PS.rely) hF (co_still (terms0 Sh))
  co_op (PS.rely) hF (co_still (terms0 Sh))
  co_op (PS.rely) hF (co_still (terms0 Sh))
  co_opw (PS.rely) hF (have hc := hF.k.cell hps) (refine d0c ?_; co_evs (exact evP_cell _ _ (hK _)))
  clear hc
  co_op (PS.rely) hF (co_still (terms0 Sh))
  co_apply opsC_nil (terms0 Sh)
  co_then
  co_apply wpC_ret (terms0 Sh)
  exact ⟨rfl, _, resultsC_tmp (by rfl) _, rfl, hF.g.g⟩

theorem info42 : ∃ i z, Tryd.prog.info? 42 = some i ∧ i.zero = some z ∧ i.size = 15 ∧ i.bytes = 72 ∧ z.cells.size = 15 := by
  have h : (Tryd.prog.info? 42).map (fun i => (i.zero.map (·.cells.size), i.size, i.bytes)) = some (some 15, 15, 72) := by kernel_rfl
  obtain ⟨i, hi, h2⟩ := Option.map_eq_some_iff.1 h
  simp only [Prod.mk.injEq] at h2
  obtain ⟨z, hz, h3⟩ := Option.map_eq_some_iff.1 h2.1
  exact ⟨i, z, hi, hz, h2.2.1, h2.2.2, h3⟩

/-- What is told of a process. -/
def pcells (st status at_ lv used : Int) (r : Nat → Int) : List Value := [.int .i64 1, .int .i64 0, .int .i64 st, .int .i64 status, .int .i64 at_, .int .i64 lv, .int .i64 used, .int .u16 (r 0), .int .u16 (r 1), .int .u16 (r 2), .int .u16 (r 3), .int .u16 (r 4), .int .u16 (r 5), .int .u16 (r 6), .int .u16 (r 7)]

/-- A row of its own. -/
structure Rw (W : World) (e : TypeId) (size : Nat) (v : Value) (n : Nat) (xs : List Value) (w : World) : Prop where
  g : W.grownBy w none
  o : w.ownsRow W.heap.size e size v n xs
theorem Rw.rely {W : World} {e : TypeId} {size : Nat} {v : Value} {n : Nat} {xs : List Value} {w w₁ : World} (h : Rw W e size v n xs w) (r : AtRel w w₁) : Rw W e size v n xs w₁ := by
  obtain ⟨d, rfl⟩ := r
  exact ⟨⟨h.g.os, h.g.tape, h.g.output, h.g.size, h.g.block⟩, h.o⟩
theorem addr_add (b j : Nat) : (⟨b, 0, none⟩ : Addr).add j = ⟨b, j, none⟩ := by unfold Addr.add; split <;> simp_all

set_option maxRecDepth 100000 in
set_option maxHeartbeats 8000000 in
theorem procs_s : ∃ k, ∀ (Sh : Loc → Prop) (a : Ad) (kc pc : Array Value) (hK : ∀ i, ¬ Sh (.cell ⟨a.K, i, none⟩)) (hP : ∀ i, ¬ Sh (.cell ⟨a.P, i, none⟩)) (hR : ∀ i, ¬ Sh (.cell ⟨a.R, i, none⟩)) (hps : kc[5]? = some (.slice (some ⟨a.R, 0, none⟩) 1 a.rcap)) (hr0 : a.rc[0]? = some (.pointer (some ⟨a.P, 0, none⟩)))
    (st status at_ lv used : Int) (r m : Nat → Int) (hp : Pst pc st status at_ lv used r m) (w : World) (hE : Elder Sh w.heap.size), PS w a kc pc [] w →
    CallsC Tryd.prog true AtRel (D0 Sh) 12 #[.pointer (some ⟨a.K, 0, none⟩)] k w fun v w' => w.grownBy w' none ∧ w'.ownsRow w.heap.size 42 15 v 1 (pcells st status at_ lv used r) := by
  obtain ⟨k22, g22⟩ := all_s
  co_apply Exists.intro
  intro Sh a kc pc hK hP hR hps hr0 st status at_ lv used r m hp W hE hF
  have w1 : IntKind.i64.wrap 1 = 1 := by decide
  have w0 : IntKind.i64.wrap (0 + 1) = 1 := by decide
  co_apply callsC_of_wpC Tryd.func12 (by rfl) rfl
  simp only [Tryd.ntmps12, List.size_toArray, List.length_cons, List.length_nil, Nat.reduceAdd, Nat.reduceSub, Array.replicate_succ, Array.replicate_zero, List.push_toArray, List.append_toArray, List.nil_append, List.cons_append]
  co_apply wpC_seq (terms0 Sh)
  co_reg (terms0 Sh)
  co_op (PS.rely) hF (co_still (terms0 Sh))
  co_apply opsC_nil (terms0 Sh)
  co_then
  co_apply wpC_seq (terms0 Sh)
  co_reg (terms0 Sh)
  co_op (PS.rely) hF (co_still (terms0 Sh))
  co_apply opsC_nil (terms0 Sh)
  co_then
  co_apply wpC_seq (terms0 Sh)
  co_apply wpC_seq (terms0 Sh)
  co_reg (terms0 Sh)
  co_op (PS.rely) hF (co_still (terms0 Sh))
  co_apply opsC_call (terms0 Sh) rfl (by rfl) rfl
  · walk_nrm
    exact g22 Sh a kc hK hps pc _ ⟨GR.refl _, hF.k, hF.p, hF.r⟩
  intro v w' hv
  obtain ⟨rfl, hg⟩ := hv
  replace hF := hF.grown hg
  clear hg
  walk_nrm
  co_op (PS.rely) hF (co_still (terms0 Sh))
  co_op (PS.rely) hF (co_still (terms0 Sh))
  co_apply opsC_nil (terms0 Sh)
  co_then
  co_apply wpC_block (terms0 Sh)
  co_apply wpC_loop1 (terms0 Sh)
  co_apply wpC_seq (terms0 Sh)
  co_reg (terms0 Sh)
  co_op (PS.rely) hF (co_still (terms0 Sh))
  co_apply opsC_nil (terms0 Sh)
  co_then
  co_apply wpC_seq (terms0 Sh)
  co_apply wpC_cond (terms0 Sh) (t := true)
  focus (exact rfl)
  simp only [if_true, if_false, Bool.false_eq_true, reduceIte]
  co_apply wpC_skip (terms0 Sh)
  co_then
  co_apply wpC_seq (terms0 Sh)
  co_apply wpC_block (terms0 Sh)
  co_apply wpC_seq (terms0 Sh)
  co_reg (terms0 Sh)
  co_op (PS.rely) hF (co_still (terms0 Sh))
  co_opw (PS.rely) hF (have hc := hF.r.cell hr0) (refine d0c ?_; co_evs (exact evP_cell _ _ (hR _)))
  clear hc
  co_op (PS.rely) hF (co_still (terms0 Sh))
  co_apply opsC_nil (terms0 Sh)
  co_then
  co_reg (terms0 Sh)
  co_op (PS.rely) hF (co_still (terms0 Sh))
  co_op (PS.rely) hF (co_still (terms0 Sh))
  co_op (PS.rely) hF (co_still (terms0 Sh))
  co_op (PS.rely) hF (co_still (terms0 Sh))
  co_opw (PS.rely) hF (have hc0 := hF.p.cell hp.id; have hc1 := hF.p.cell hp.par; have hc2 := hF.p.cell hp.st; have hc3 := hF.p.cell hp.stat; have hc4 := hF.p.cell hp.at_; have hc5 := hF.p.cell hp.lv; have hc6 := hF.p.cell hp.us; have hc7 := hF.p.cell (hp.reg 0 (by decide)); have hc8 := hF.p.cell (hp.reg 1 (by decide)); have hc9 := hF.p.cell (hp.reg 2 (by decide)); have hc10 := hF.p.cell (hp.reg 3 (by decide)); have hc11 := hF.p.cell (hp.reg 4 (by decide)); have hc12 := hF.p.cell (hp.reg 5 (by decide)); have hc13 := hF.p.cell (hp.reg 6 (by decide)); have hc14 := hF.p.cell (hp.reg 7 (by decide))) (refine d0c ?_; intro e he; have hm := mem_listed he; simp [go_sem, *] at hm; (rcases hm with rfl | rfl | rfl | rfl | rfl | rfl | rfl | rfl | rfl | rfl | rfl | rfl | rfl | rfl | rfl <;> exact evP_cell _ _ (hP _)))
  clear hc0 hc1 hc2 hc3 hc4 hc5 hc6 hc7 hc8 hc9 hc10 hc11 hc12 hc13 hc14
  co_opw (PS.rely) hF (skip) (refine d0c ?_; intro e he; have hm := mem_listed he; simp [go_sem, *] at hm)
  rename_i wv
  replace hF := hF.alloc 42 (pcells st status at_ lv used r).toArray
  co_apply opsC_cons_k rfl (by rfl)
  intro wa hR' K hK'
  replace hF := PS.rely hF hR'
  clear hR'
  obtain ⟨ti, tz, i1, i2, i3, i4, i5⟩ := info42
  have hb := hF.g.b _ (List.mem_cons_self)
  obtain ⟨told, w', hr, hown, hgr, _, hev⟩ := seqApp (Sh := Sh) (P := Tryd.prog) (W := W) (t := 35) (ty := 35) (v := .slice none 0 0) (n := 0) (xs := []) (a := ⟨wv.heap.size, 0, none⟩) (m := 1) (c := 1) (news := pcells st status at_ lv used r) Tryd.underlying35 i1 i2 i3 i4 i5 (by decide) hF.g.g (World.ownsRow_nil _ _ _ _) rfl
    (fun j u hu => by rw [addr_add]; exact hb.1.cell (by simpa using hu)) (by intro u hu; simp [pcells] at hu; rcases hu with rfl | rfl | rfl | rfl | rfl | rfl | rfl | rfl | rfl | rfl | rfl | rfl | rfl | rfl | rfl <;> rfl) (by simp [maxLen]) (by decide) hE (fun ad h1 h2 => by
      obtain ⟨b', h3, h4⟩ := hE _ h2
      simp only [blk, Option.some.injEq] at h3
      have h5 : W.heap.size ≤ wv.heap.size := hb.2
      have h1' : ad.block = wv.heap.size := h1
      omega)
  refine uponK_append (.tmp 13) (.tmp 18) 35 rfl rfl rfl hr ?_
  refine hK' _ _ ⟨d0c fun e he => hev e ?_, ?_⟩
  · have hm := mem_listed he
    rw [events_append_op (.tmp 13) (.tmp 18) 35 rfl rfl rfl] at hm
    exact hm
  clear hK' K hF hev hb hr
  have hF : Rw W 42 15 told 1 (pcells st status at_ lv used r) w' := ⟨hgr, hown⟩
  try walk_nrm
  co_op (Rw.rely) hF (co_still (terms0 Sh))
  co_apply opsC_nil (terms0 Sh)
  co_then
  co_reg (terms0 Sh)
  co_op (Rw.rely) hF (co_still (terms0 Sh))
  co_op (Rw.rely) hF (co_still (terms0 Sh))
  co_apply opsC_nil (terms0 Sh)
  co_then
  co_apply loopC0 (terms0 Sh)
  co_apply wpC_seq (terms0 Sh)
  co_reg (terms0 Sh)
  co_op (Rw.rely) hF (co_still (terms0 Sh))
  co_apply opsC_nil (terms0 Sh)
  co_then
  co_apply wpC_seq (n₂ := 0) (terms0 Sh)
  co_apply wpC_cond (terms0 Sh) (t := false)
  focus (exact rfl)
  simp only [if_true, if_false, Bool.false_eq_true, reduceIte]
  co_apply wpC_exit (terms0 Sh)
  try co_then
  co_apply wpC_seq (terms0 Sh)
  co_reg (terms0 Sh)
  co_op (Rw.rely) hF (co_still (terms0 Sh))
  co_op (Rw.rely) hF (co_still (terms0 Sh))
  co_apply opsC_nil (terms0 Sh)
  co_then
  co_apply wpC_ret (terms0 Sh)
  exact ⟨rfl, _, resultsC_tmp (t := 2) (by rfl) _, hF.g, hF.o⟩
end Go.Proofs.YtbnaccilnilcmaaDoor
/-
  What Memory tells.
  No condition but those that each statement names.
-/
namespace Go.Proofs.YtbnaccilnilcmaaDoor
open Go.Conc Go.RowKit Go.Hx Go.ConcX

set_option maxRecDepth 100000 in
set_option maxHeartbeats 4000000 in
theorem find_s : ∃ k, ∀ (Sh : Loc → Prop) (a : Ad) (kc pc : Array Value) (hK : ∀ i, ¬ Sh (.cell ⟨a.K, i, none⟩)) (hP : ∀ i, ¬ Sh (.cell ⟨a.P, i, none⟩)) (hR : ∀ i, ¬ Sh (.cell ⟨a.R, i, none⟩)) (hps : kc[5]? = some (.slice (some ⟨a.R, 0, none⟩) 1 a.rcap)) (hr0 : a.rc[0]? = some (.pointer (some ⟨a.P, 0, none⟩))) (hid : pc[0]? = some (.int .i64 1)) (w : World), PS w a kc pc [] w →
    CallsC Tryd.prog true AtRel (D0 Sh) 23 #[.pointer (some ⟨a.K, 0, none⟩), .int .i64 1] k w fun v w' => v = .pointer (some ⟨a.P, 0, none⟩) ∧ w.grownBy w' none := by
  obtain ⟨k22, g22⟩ := all_s
  co_apply Exists.intro
  intro Sh a kc pc hK hP hR hps hr0 hid W hF
  co_apply callsC_of_wpC Tryd.func23 (by rfl) rfl
  simp only [Tryd.ntmps23, List.size_toArray, List.length_cons, List.length_nil, Nat.reduceAdd, Nat.reduceSub, Array.replicate_succ, Array.replicate_zero, List.push_toArray, List.append_toArray, List.nil_append, List.cons_append]
  co_apply wpC_seq (terms0 Sh)
  co_reg (terms0 Sh)
  co_op (PS.rely) hF (co_still (terms0 Sh))
  co_apply opsC_nil (terms0 Sh)
  co_then
  co_apply wpC_seq (n₂ := 0) (terms0 Sh)
  co_apply wpC_seq (terms0 Sh)
  co_reg (terms0 Sh)
  co_op (PS.rely) hF (co_still (terms0 Sh))
  co_apply opsC_call (terms0 Sh) rfl (by rfl) rfl
  · walk_nrm
    exact g22 Sh a kc hK hps pc _ ⟨GR.refl _, hF.k, hF.p, hF.r⟩
  intro v w' hv
  obtain ⟨rfl, hg⟩ := hv
  replace hF := hF.grown hg
  clear hg
  walk_nrm
  co_op (PS.rely) hF (co_still (terms0 Sh))
  co_op (PS.rely) hF (co_still (terms0 Sh))
  co_apply opsC_nil (terms0 Sh)
  co_then
  co_apply wpC_block (terms0 Sh)
  co_apply wpC_loop0 (terms0 Sh)
  co_apply wpC_seq (terms0 Sh)
  co_reg (terms0 Sh)
  co_op (PS.rely) hF (co_still (terms0 Sh))
  co_apply opsC_nil (terms0 Sh)
  co_then
  co_apply wpC_seq (terms0 Sh)
  co_apply wpC_cond (terms0 Sh) (t := true)
  focus (exact rfl)
  simp only [if_true, if_false, Bool.false_eq_true, reduceIte]
  co_apply wpC_skip (terms0 Sh)
  co_then
  co_apply wpC_seq (n₂ := 0) (terms0 Sh)
  co_apply wpC_block (terms0 Sh)
  co_apply wpC_seq (terms0 Sh)
  co_reg (terms0 Sh)
  co_op (PS.rely) hF (co_still (terms0 Sh))
  co_opw (PS.rely) hF (have hc := hF.r.cell hr0) (refine d0c ?_; co_evs (exact evP_cell _ _ (hR _)))
  clear hc
  co_op (PS.rely) hF (co_still (terms0 Sh))
  co_apply opsC_nil (terms0 Sh)
  co_then
  co_apply wpC_seq (terms0 Sh)
  co_reg (terms0 Sh)
  co_op (PS.rely) hF (co_still (terms0 Sh))
  co_op (PS.rely) hF (co_still (terms0 Sh))
  co_op (PS.rely) hF (co_still (terms0 Sh))
  co_op (PS.rely) hF (co_still (terms0 Sh))
  co_opw (PS.rely) hF (have hc := hF.p.cell hid) (refine d0c ?_; co_evs (exact evP_cell _ _ (hP _)))
  clear hc
  co_op (PS.rely) hF (co_still (terms0 Sh))
  co_op (PS.rely) hF (co_still (terms0 Sh))
  co_apply opsC_nil (terms0 Sh)
  co_then
  co_apply wpC_cond (terms0 Sh) (t := true)
  focus (exact rfl)
  simp only [if_true, if_false, Bool.false_eq_true, reduceIte]
  co_apply wpC_seq (terms0 Sh)
  co_reg (terms0 Sh)
  co_op (PS.rely) hF (co_still (terms0 Sh))
  co_op (PS.rely) hF (co_still (terms0 Sh))
  co_apply opsC_nil (terms0 Sh)
  co_then
  co_apply wpC_ret (terms0 Sh)
  exact ⟨rfl, _, resultsC_tmp (by rfl) _, rfl, hF.g.g⟩

theorem info5 : ∃ i z, Tryd.prog.info? 5 = some i ∧ i.zero = some z ∧ i.size = 1 ∧ i.bytes = 1 ∧ z.cells.size = 1 := by
  have h : (Tryd.prog.info? 5).map (fun i => (i.zero.map (·.cells.size), i.size, i.bytes)) = some (some 1, 1, 1) := by kernel_rfl
  obtain ⟨i, hi, h2⟩ := Option.map_eq_some_iff.1 h
  simp only [Prod.mk.injEq] at h2
  obtain ⟨z, hz, h3⟩ := Option.map_eq_some_iff.1 h2.1
  exact ⟨i, z, hi, hz, h2.2.1, h2.2.2, h3⟩
theorem ev_sl_nil (x : Addr) (l c : Nat) (w : World) (es : Array Event) : (binOp .eql 37 (.slice (some x) l c) (.slice none 0 0)).events Tryd.prog w es = es := by
  have h : ∀ d : Nat, (Op.equalIn (d + 1) 37 (.slice (some x) l c) (.slice none 0 0)).events Tryd.prog w es = es ∧ (Op.equalIn (d + 1) 37 (.slice (some x) l c) (.slice none 0 0)).run Tryd.prog w = .ok false w := fun d => by
    constructor <;> simp [Op.equalIn, run_underlying Tryd.underlying37]
  have h1 : (Op.equal 37 (.slice (some x) l c) (.slice none 0 0)).events Tryd.prog w es = es := (h 9999).1
  have h2 : (Op.equal 37 (.slice (some x) l c) (.slice none 0 0)).run Tryd.prog w = .ok false w := (h 9999).2
  simp only [binOp]
  simp [h1, h2]
/-- A memory's cells. -/
def mcells (m : Nat → Int) : List Value := (List.range 64).map fun i => .int .u8 (m i)

set_option maxRecDepth 100000 in
set_option maxHeartbeats 4000000 in
theorem clone_s : ∃ k, ∀ (Sh : Loc → Prop) (a : Ad) (kc pc : Array Value) (hP : ∀ ad : Addr, ad.block = a.P → ¬ Sh (.cell ad)) (m : Nat → Int) (hm : ∀ i, i < 64 → pc[15 + i]? = some (.int .u8 (m i))) (w : World) (hE : Elder Sh w.heap.size), PS w a kc pc [] w →
    CallsC Tryd.prog true AtRel (D0 Sh) 24 #[.slice (some ⟨a.P, 15, none⟩) 64 64] k w fun v w' => w.grownBy w' none ∧ w'.ownsRow w.heap.size 5 1 v 64 (mcells m) := by
  co_apply Exists.intro
  intro Sh a kc pc hP m hmm W hE hF
  have e1 := fun (w : World) (es : Array Event) => ev_sl_nil ⟨a.P, 15, none⟩ 64 64 w es
  co_apply callsC_of_wpC Tryd.func24 (by rfl) rfl
  simp only [Tryd.ntmps24, List.size_toArray, List.length_cons, List.length_nil, Nat.reduceAdd, Nat.reduceSub, Array.replicate_succ, Array.replicate_zero, List.push_toArray, List.append_toArray, List.nil_append, List.cons_append]
  co_apply wpC_seq (terms0 Sh)
  co_reg (terms0 Sh)
  co_op (PS.rely) hF (co_still (terms0 Sh))
  co_apply opsC_nil (terms0 Sh)
  co_then
  co_apply wpC_seq (terms0 Sh)
  co_apply wpC_seq (terms0 Sh)
  co_reg (terms0 Sh)
  co_op (PS.rely) hF (co_still (terms0 Sh))
  co_op (PS.rely) hF (co_still (terms0 Sh))
  co_apply opsC_nil (terms0 Sh)
  co_then
  co_apply wpC_cond (terms0 Sh) (t := false)
  focus (exact rfl)
  simp only [if_true, if_false, Bool.false_eq_true, reduceIte]
  co_apply wpC_skip (terms0 Sh)
  co_then
  co_apply wpC_seq (terms0 Sh)
  co_reg (terms0 Sh)
  co_opw (PS.rely) hF (skip) (refine d0c ?_; intro e he; have hm := mem_listed he; simp [go_sem, *] at hm)
  rename_i wv
  replace hF := hF.alloc 5 #[]
  co_op (PS.rely) hF (co_still (terms0 Sh))
  co_apply opsC_cons_k rfl (by rfl)
  intro wa hR' K hK'
  replace hF := PS.rely hF hR'
  clear hR'
  obtain ⟨ti, tz, i1, i2, i3, i4, i5⟩ := info5
  have hb := hF.g.b _ (List.mem_cons_self)
  obtain ⟨told, w', hr, hown, hgr, _, hev⟩ := seqApp (Sh := Sh) (P := Tryd.prog) (W := W) (t := 37) (ty := 37) (v := .slice (some ⟨wv.heap.size, 0, none⟩) 0 0) (n := 0) (xs := []) (a := ⟨a.P, 15, none⟩) (m := 64) (c := 64) (news := mcells m) Tryd.underlying37 i1 i2 i3 i4 i5 (by decide) hF.g.g ⟨rfl, .inr ⟨wv.heap.size, 0, #[], rfl, hb.2, hb.1, Nat.le_refl _, Nat.zero_le _, rfl, rfl⟩⟩ (by simp [mcells])
    (fun j u hu => by
      have hj : j < 64 := by have := (List.getElem?_eq_some_iff.1 hu).1; simpa [mcells] using this
      have e : (⟨a.P, 15, none⟩ : Addr).add j = ⟨a.P, 15 + j, none⟩ := by unfold Addr.add; split <;> simp_all
      rw [e]
      simp [mcells, List.getElem?_map, List.getElem?_range hj] at hu
      rw [← hu]
      exact hF.p.cell (hmm j hj)) (by intro u hu; simp only [mcells, List.mem_map] at hu; obtain ⟨_, _, rfl⟩ := hu; rfl) (by simp [maxLen]) (by decide) hE (fun ad h1 => hP ad h1)
  refine uponK_append (.tmp 5) (.tmp 6) 37 rfl rfl rfl hr ?_
  refine hK' _ _ ⟨d0c fun e he => hev e ?_, ?_⟩
  · have hm := mem_listed he
    rw [events_append_op (.tmp 5) (.tmp 6) 37 rfl rfl rfl] at hm
    exact hm
  clear hK' K hF hev hb hr
  have hF : Rw W 5 1 told (0 + 64) ([] ++ mcells m) w' := ⟨hgr, hown⟩
  try walk_nrm
  co_op (Rw.rely) hF (co_still (terms0 Sh))
  co_apply opsC_nil (terms0 Sh)
  co_then
  co_apply wpC_ret (terms0 Sh)
  exact ⟨rfl, _, resultsC_tmp (t := 2) (by rfl) _, hF.g, hF.o⟩

set_option maxRecDepth 100000 in
theorem ev_sliceAt73 (ad : Addr) (w : World) (es : Array Event) : (Instr.sliceAt 73 (.pointer (some ad)) none none none).events Tryd.prog w es = es := by
  have hu : Tryd.prog.underlying 73 = some (.array 64 5) := by rfl
  simp [Instr.sliceAt, Instr.sureAddr, Sem.events_bind, run_underlying hu, events_underlying, events_sizeOf, Instr.sliceBounds, run_sliceBound, Result.evThen_ok]
  try (cases (sizeOf 5).run Tryd.prog w <;> rfl)

theorem _root_.Go.World.ownsRow.lower {w : World} {base base' : Nat} {e : TypeId} {size : Nat} {v : Value} {n : Nat} {xs : List Value} (h : w.ownsRow base e size v n xs) (hb : base' ≤ base) : w.ownsRow base' e size v n xs := by
  refine ⟨h.1, ?_⟩
  rcases h.2 with h | ⟨g, cap, cur, h1, h2, h3⟩
  · exact .inl h
  · exact .inr ⟨g, cap, cur, h1, Nat.le_trans hb h2, h3⟩

theorem shs_block {s : List Nat} {ad : Addr} (h : Shs s (.cell ad)) : Shs s (.cell ⟨ad.block, 0, none⟩) := by
  induction s with
  | nil => exact h
  | cons N s ih =>
    rcases h with h | ⟨a', e, h⟩
    · exact .inl (ih h)
    · cases e
      exact .inr ⟨_, rfl, h⟩

set_option maxRecDepth 100000 in
set_option maxHeartbeats 4000000 in
theorem memory_s : ∃ k, ∀ (ss : List Nat) (a : Ad) (kc pc : Array Value) (hK : ∀ i, ¬ Shs ss (.cell ⟨a.K, i, none⟩)) (hP : ∀ i, ¬ Shs ss (.cell ⟨a.P, i, none⟩)) (hR : ∀ i, ¬ Shs ss (.cell ⟨a.R, i, none⟩)) (hps : kc[5]? = some (.slice (some ⟨a.R, 0, none⟩) 1 a.rcap)) (hr0 : a.rc[0]? = some (.pointer (some ⟨a.P, 0, none⟩))) (hid : pc[0]? = some (.int .i64 1)) (m : Nat → Int) (hm : ∀ i, i < 64 → pc[15 + i]? = some (.int .u8 (m i))) (w : World) (hE : Elder (Shs ss) w.heap.size), PS w a kc pc [] w →
    CallsC Tryd.prog true AtRel (D0 (Shs ss)) 13 #[.pointer (some ⟨a.K, 0, none⟩), .int .i64 1] k w fun v w' => w.grownBy w' none ∧ ∃ b, v = .tuple #[b, .int .i64 0] ∧ w'.ownsRow w.heap.size 5 1 b 64 (mcells m) := by
  obtain ⟨k23, g23⟩ := find_s
  obtain ⟨k24, g24⟩ := clone_s
  co_apply Exists.intro
  intro ss a kc pc hK hP hR hps hr0 hid m hmm W hE hF
  have e1 := fun (w : World) (es : Array Event) => ev_eql_ptr_nil (P := Tryd.prog) (w := w) (es := es) (some ⟨a.P, 0, none⟩) Tryd.underlying72
  co_apply callsC_of_wpC Tryd.func13 (by rfl) rfl
  simp only [Tryd.ntmps13, List.size_toArray, List.length_cons, List.length_nil, Nat.reduceAdd, Nat.reduceSub, Array.replicate_succ, Array.replicate_zero, List.push_toArray, List.append_toArray, List.nil_append, List.cons_append]
  co_apply wpC_seq (terms0 (Shs ss))
  co_reg (terms0 (Shs ss))
  co_op (PS.rely) hF (co_still (terms0 (Shs ss)))
  co_op (PS.rely) hF (co_still (terms0 (Shs ss)))
  co_apply opsC_nil (terms0 (Shs ss))
  co_then
  co_apply wpC_seq (terms0 (Shs ss))
  co_reg (terms0 (Shs ss))
  co_op (PS.rely) hF (co_still (terms0 (Shs ss)))
  co_op (PS.rely) hF (co_still (terms0 (Shs ss)))
  co_apply opsC_call (terms0 (Shs ss)) rfl (by rfl) rfl
  · walk_nrm
    exact g23 (Shs ss) a kc pc hK hP hR hps hr0 hid _ ⟨GR.refl _, hF.k, hF.p, hF.r⟩
  intro v w' hv
  obtain ⟨rfl, hg⟩ := hv
  replace hF := hF.grown hg
  clear hg
  walk_nrm
  co_op (PS.rely) hF (co_still (terms0 (Shs ss)))
  co_apply opsC_nil (terms0 (Shs ss))
  co_then
  co_apply wpC_seq (terms0 (Shs ss))
  co_apply wpC_seq (terms0 (Shs ss))
  co_reg (terms0 (Shs ss))
  co_op (PS.rely) hF (co_still (terms0 (Shs ss)))
  co_op (PS.rely) hF (co_still (terms0 (Shs ss)))
  co_apply opsC_nil (terms0 (Shs ss))
  co_then
  co_apply wpC_cond (terms0 (Shs ss)) (t := false)
  focus (exact rfl)
  simp only [if_true, if_false, Bool.false_eq_true, reduceIte]
  co_apply wpC_skip (terms0 (Shs ss))
  co_then
  co_apply wpC_seq (terms0 (Shs ss))
  co_reg (terms0 (Shs ss))
  co_op (PS.rely) hF (co_still (terms0 (Shs ss)))
  co_op (PS.rely) hF (co_still (terms0 (Shs ss)))
  co_op (PS.rely) hF (co_still (terms0 (Shs ss)))
  have e4 := fun (w : World) (es : Array Event) => ev_sliceAt73 ⟨a.P, 15, none⟩ w es
  co_op (PS.rely) hF (co_still (terms0 (Shs ss)))
  co_apply opsC_call (terms0 (Shs ss)) rfl (by rfl) rfl
  · walk_nrm
    exact g24 (Shs ss) a kc pc (fun ad h1 h2 => hP 0 (h1 ▸ shs_block h2)) m hmm _ (hE.mono hF.g.g.size) ⟨GR.refl _, hF.k, hF.p, hF.r⟩
  intro v w' hv
  obtain ⟨hg, ho⟩ := hv
  have hF : Rw W 5 1 v 64 (mcells m) w' := ⟨grown_trans hF.g.g hg, ho.lower hF.g.g.size⟩
  clear hg ho
  walk_nrm
  co_op (Rw.rely) hF (co_still (terms0 (Shs ss)))
  co_op (Rw.rely) hF (co_still (terms0 (Shs ss)))
  co_apply opsC_nil (terms0 (Shs ss))
  co_then
  co_apply wpC_ret (terms0 (Shs ss))
  exact ⟨rfl, _, resultsC_tmp2 (t := 4) (u := 5) (by rfl) _, hF.g, _, rfl, hF.o⟩
end Go.Proofs.YtbnaccilnilcmaaDoor
