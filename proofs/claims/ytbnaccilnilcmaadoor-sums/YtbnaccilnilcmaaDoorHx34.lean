/-
  The law's image, byte by byte; the kernel that is made of it, as memory; rows that stay.
  No condition but those that each statement names.
-/
import Derived.Test.YtbnaccilnilcmaaDoorHx33
import Derived.Test.YtbnaccilnilcmaaDoorHx32
import Derived.Test.YtbnaccilnilcmaaDoorHx24
import Derived.Test.YtbnaccilnilcmaaDoorHx27
import Derived.Laws.Concat
import Derived.Laws.BitsAllLaws
set_option linter.unusedVariables false
set_option linter.unusedSimpArgs false
set_option linter.unusedSectionVars false
namespace Go.Proofs.YtbnaccilnilcmaaDoor
open Go.Conc Go.RowKit Go.Hx Go.ConcX

theorem ev_sadd (a b : ByteArray) (w : World) (es : Array Event) : (Op.stringOp .add a b).events Tryd.prog w es = es := by
  unfold Op.stringOp
  simp only []
  split <;> simp [unsupported]

/-- The part that is laid behind n + 1 parts. -/
def ibs (B : Int) (at_ : Nat) : Nat → List UInt8
  | 0 => ib 1 2 B
  | 1 => ib 2 3 1
  | 2 => ib 3 3 2
  | 3 => ib 2 4 1
  | 4 => ib 4 4 2
  | 5 => ib 1 5 at_
  | 6 => ib 8 1 5
  | 7 => ib 7 6 5
  | 8 => ib 1 5 64
  | _ => ib 7 7 5
def ims (A B : Int) (at_ : Nat) : Nat → List UInt8
  | 0 => ib 1 1 A
  | n + 1 => ims A B at_ n ++ ibs B at_ n
theorem ibs_len (B : Int) (at_ n : Nat) : (ibs B at_ n).length = 4 := by unfold ibs; split <;> rfl
theorem ims_len (A B : Int) (at_ n : Nat) : (ims A B at_ n).length = 4 * (n + 1) := by
  induction n with
  | zero => rfl
  | succ n ih => rw [ims, List.length_append, ih, ibs_len]; omega
theorem sadd (A B : Int) (at_ n : Nat) (hn : n < 20) (w : World) : (Op.stringOp .add ⟨(ims A B at_ n).toArray⟩ ⟨(ibs B at_ n).toArray⟩).run Tryd.prog w = .ok (.string ⟨(ims A B at_ (n + 1)).toArray⟩) w :=
  run_string_add_lists w _ _ (by rw [ims_len]; omega) (by rw [ibs_len]; omega)
theorem nums_ib {op x k : Int} (ho : 0 ≤ op ∧ op < 256) (hx : 0 ≤ x ∧ x < 256) (hk : 0 ≤ k ∧ k < 65536) : nums (ib op x k) = [op, x, k % 256, k / 256] := by
  simp only [nums, ib, List.map_cons, List.map_nil]
  rw [u8_back ho, u8_back hx, u8_back (n := k % 256) (by omega), u8_back (n := k / 256) (by omega)]
theorem nums_app (x y : List UInt8) : nums (x ++ y) = nums x ++ nums y := by simp [nums]
theorem nums_ims {A B : Int} {at_ : Nat} (hA : 0 ≤ A ∧ A < 65536) (hB : 0 ≤ B ∧ B < 65536) (hat : at_ < 64) : nums (ims A B at_ 10) = image A B at_ := by
  have h1 : ((at_ : Int) % 256) = at_ := by omega
  have h2 : ((at_ : Int) / 256) = 0 := by omega
  simp only [ims, ibs, nums_app]
  rw [nums_ib (by omega) (by omega) hA, nums_ib (by omega) (by omega) hB, nums_ib (by omega) (by omega) (by omega), nums_ib (by omega) (by omega) (by omega), nums_ib (by omega) (by omega) (by omega), nums_ib (by omega) (by omega) (by omega), nums_ib (by omega) (by omega) (by omega), nums_ib (by omega) (by omega) (by omega), nums_ib (by omega) (by omega) (by omega), nums_ib (by omega) (by omega) (by omega), nums_ib (by omega) (by omega) (by omega)]
  simp [image, h1, h2]

theorem proc0_st : Pst (proc0.setIfInBounds 2 (.int .i64 1)) 1 0 0 0 0 z0 z0 where
  sz := by simp [proc0]
  id := by rfl
  par := by rfl
  st := by rfl
  stat := by rfl
  at_ := by rfl
  lv := by rfl
  us := by rfl
  reg := fun i hi => by
    rw [Array.getElem?_setIfInBounds_ne (by omega)]
    simp only [proc0]
    rw [Array.getElem?_append_left (by simp; omega), Array.getElem?_append_right (by simp)]
    simp [Array.getElem?_replicate, z0]
    omega
  mem := fun i hi => by
    rw [Array.getElem?_setIfInBounds_ne (by omega)]
    simp only [proc0]
    rw [Array.getElem?_append_right (by simp)]
    simp [Array.getElem?_replicate, z0]
    omega

theorem made_mem {W w : World} {A B : Int} {at_ K : Nat} (h : Made W (image A B at_) K w) : ∃ a : Ad, a.K = K ∧ a.gn = 11 ∧ (∀ i, i < 44 → a.gc[i]? = (progCells A B at_)[i]?) ∧ a.O = W.heap.size ∧ a.W = W ∧ Mem NoSh a (sx A B at_ 0) w := by
  obtain ⟨P, G, gcap, gc, R, rcap, rc, Q, qcap, qc, h1, h2, h3, h4, h5⟩ := h
  have hk := h5.b _ (List.mem_cons_self)
  have hp := h5.b (P, 75, proc0.setIfInBounds 2 (.int .i64 1)) (by simp)
  have hq := h5.b (Q, 72, qc) (by simp)
  have hr := h5.b (R, 72, rc) (by simp)
  have hg := h5.b (G, 110, gc) (by simp)
  refine ⟨⟨K, P, R, G, rcap, 11, gcap, rc, gc, [], W, W.heap.size⟩, rfl, rfl, h4, rfl, rfl, ((kern0 (.slice (some ⟨G, 0, none⟩) 11 gcap)).setIfInBounds 5 (.slice (some ⟨R, 0, none⟩) 1 rcap)).setIfInBounds 6 (.slice (some ⟨Q, 0, none⟩) 1 qcap), proc0.setIfInBounds 2 (.int .i64 1), Q, qcap, qc, ?_⟩
  exact {
    k := hk.1
    pp := hp.1
    rr := hr.1
    gg := hg.1
    q := hq.1
    ke := rfl
    od := ⟨hq.2, h5.g.tape, h5.g.os, h5.g.output, fun x hx => h5.g.block x hx (by simp)⟩
    oo := ⟨hk.2, hp.2⟩
    re := h1.2.2
    kne := fun e => by
      have e : K = P := e
      have h1 := hk.1
      have h2 := hp.1
      simp only at h1 h2
      rw [e] at h1
      have := Option.some.inj (h1.symm.trans h2)
      injection this with _ h _
      exact absurd h (by decide)
    sK := fun _ h => h
    sP := fun _ h => h
    sR := fun _ h => h
    sG := fun _ h => h
    sQ := fun _ h => h
    ks := ⟨_, _, _, by simp [kern0], fun i hi => by
      rcases i with _ | _ | _ | i
      · rfl
      · rfl
      · rfl
      · omega, by rfl, by rfl, by rfl, by rfl, by rfl, by rfl, by rfl⟩
    ps := proc0_st
    hlv := by show (0 : Nat) < 3; omega
    row := by rfl
    low := fun l hl => absurd hl (Nat.not_lt_zero _)
    high := fun l h1 h2 => by
      have h1 : 0 < l := h1
      rcases l with _ | _ | _ | l
      · omega
      · rfl
      · rfl
      · omega
    c1 := h2.1
    cm := h2.2.1
    cs := h2.2.2.1
    rq := h3
    q0 := h2.2.2.2 }

theorem elder1 {s : List Nat} {n N : Nat} (h : Elder (Shs s) n) (hn : n ≤ N + 6) : Elder (Shs (N :: s)) (N + 7) := fun l hl => by
  rcases hl with hl | ⟨ad, rfl, hb⟩
  · obtain ⟨b, h1, h2⟩ := h l hl
    exact ⟨b, h1, by omega⟩
  · exact ⟨ad.block, rfl, by rw [hb]; omega⟩
theorem elder0 (n : Nat) : Elder (Shs []) n := fun _ h => h.elim

section
variable {Sh : Loc → Prop} {a : Ad} {kc pc : Array Value} {Q : Nat} {qc : Array Value} {w w' : World}
theorem _root_.Go.Hx.MK.grown (h : MK Sh a kc pc Q qc w) (hg : w.grownBy w' none) : MK Sh a kc pc Q qc w' :=
  { h with
    k := h.k.gr hg
    pp := h.pp.gr hg
    rr := h.rr.gr hg
    gg := h.gg.gr hg
    q := h.q.gr hg
    od := ⟨h.od.q, hg.tape.trans h.od.t, hg.os.trans h.od.o, hg.output.trans h.od.u, fun x hx => (hg.block x (Nat.lt_of_lt_of_le hx (Nat.le_trans h.oo.1 (Nat.le_of_lt h.k.lt))) (by simp)).trans (h.od.b x hx)⟩ }
end

/-- Between calls of Run: the kernel, and rows that were told. -/
structure Held (Sh : Loc → Prop) (a : Ad) (kc pc : Array Value) (Q : Nat) (qc : Array Value) (S : Nat) (bs : List (Nat × TypeId × Array Value)) (w : World) : Prop where
  m : MK Sh a kc pc Q qc w
  s : S ≤ w.heap.size
  b : ∀ t ∈ bs, Has t.1 t.2.1 t.2.2 w
section
variable {Sh : Loc → Prop} {a : Ad} {kc pc : Array Value} {Q : Nat} {qc : Array Value} {S : Nat} {bs : List (Nat × TypeId × Array Value)} {w w₁ w' : World}
theorem Held.rely (h : Held Sh a kc pc Q qc S bs w) (r : AtRel w w₁) : Held Sh a kc pc Q qc S bs w₁ := by
  obtain ⟨d, rfl⟩ := r
  exact ⟨h.m.at d, h.s, fun t ht => h.b t ht⟩
theorem Held.grown (h : Held Sh a kc pc Q qc S bs w) (hg : w.grownBy w' none) : Held Sh a kc pc Q qc S bs w' :=
  ⟨h.m.grown hg, Nat.le_trans h.s hg.size, fun t ht => (h.b t ht).gr hg⟩
theorem Held.ps (h : Held Sh a kc pc Q qc S bs w) : PS w a kc pc [] w := ⟨GR.refl _, h.m.k, h.m.pp, h.m.rr⟩
theorem Held.more (h : Held Sh a kc pc Q qc S bs w) {t : Nat × TypeId × Array Value} (ht : Has t.1 t.2.1 t.2.2 w) : Held Sh a kc pc Q qc S (t :: bs) w :=
  ⟨h.m, h.s, fun x hx => by
    rcases List.mem_cons.1 hx with rfl | hx
    · exact ht
    · exact h.b x hx⟩
end
theorem GR.row {W w : World} {nb : Nat} {ty : TypeId} {cs : Array Value} (h : GR W [(nb, ty, cs)] w) (cs' : Array Value) : GR W [(nb, ty, cs')] (w.setRow nb cs') := by
  have hb := h.b _ (List.mem_cons_self)
  refine ⟨⟨h.g.os, h.g.tape, h.g.output, by rw [setRow_size]; exact h.g.size, fun b hb' hn => ?_⟩, fun t ht => ?_⟩
  · rw [setRow_other _ _ _ _ (by have h2 : W.heap.size ≤ nb := hb.2; omega)]
    exact h.g.block b hb' hn
  · simp only [List.mem_cons, List.not_mem_nil, or_false] at ht
    subst ht
    exact ⟨setRow_heap w nb cs cs' ty (0, 0) hb.1, hb.2⟩
theorem info40 : (Tryd.prog.info? 40).map (·.size) = some 8 := by kernel_rfl
theorem sv40 {w : World} {nb : Nat} {cs cs' : Array Value} (h : Has nb 40 cs w) (hs : cs.size = 8) (hs' : cs'.size = 8) (h1 : ∀ v ∈ cs'.toList, v.oneCell' = true) : (storeVar 40 ⟨nb, 0, none⟩ (.agg cs')).run Tryd.prog w = .ok () (w.setRow nb cs') ∧
    ∀ e ∈ (storeVar 40 ⟨nb, 0, none⟩ (.agg cs')).events Tryd.prog w #[], ∃ ad : Addr, e.loc = .cell ad ∧ ad.block = nb := by
  refine ⟨run_storeVar_row (P := Tryd.prog) w nb 40 40 cs cs' h (by rw [info40, hs']) (by omega) (Array.all_eq_true_iff_forall_mem.2 fun v hv => h1 v (by simpa using hv)), fun e he => ?_⟩
  have hi := info40
  cases hq : Tryd.prog.info? 40 with
  | none => simp [hq] at hi
  | some i =>
    have hsz : i.size = 8 := by simpa [hq] using hi
    have he' : e ∈ (storeCells ⟨nb, 0, none⟩ cs'.toList 0).events Tryd.prog w #[] := by simpa [storeVar, sizeOf, typeInfo, hq, Value.cells, hsz, hs'] using he
    rcases events_storeCells_at (P := Tryd.prog) nb 0 40 cs'.toList 0 cs w #[] h (by simp; omega) h1 e he' with h | h
    · simp at h
    · exact h
theorem uponK_st {P : Program} {o : Oper} {a : Act} {K : Act → World → Prop} {w w' : World} {x : Value} {ad : Addr} (p v : Operand) (t : TypeId) (ho : o.op = .store t p v) (hp : a.eval p = .pointer (some ad)) (hv : a.eval v = x)
    (hr : (storeVar t ad x).run P w = .ok () w') (h : K (a.put o.dst undef) w') : uponK o a K ((execOp a.eval o).run P w) := by
  unfold execOp
  simp only [ho, hp, hv, Instr.storeAt, Instr.sureAddr, Sem.run_bind, Sem.run_pure, Result.andThen_ok, hr]
  exact h
theorem ev_st {P : Program} {o : Oper} {a : Act} {w : World} {x : Value} {ad : Addr} (p v : Operand) (t : TypeId) (ho : o.op = .store t p v) (hp : a.eval p = .pointer (some ad)) (hv : a.eval v = x) (es : Array Event) :
    (execOp a.eval o).events P w es = (storeVar t ad x).events P w es := by
  unfold execOp
  simp only [ho, hp, hv, Instr.storeAt, Instr.sureAddr, Sem.events_bind, Sem.run_bind, Sem.run_pure, Sem.events_pure, Result.evThen_ok, Result.andThen_ok]
  cases (storeVar t ad x).run P w <;> rfl
theorem st_listed {P : Program} {fn : FuncId} {o : Oper} {a : Act} {w : World} {x : Value} {ad : Addr} {e : Event} (he : e ∈ listed P fn a o w) (p v : Operand) (t : TypeId) (ho : o.op = .store t p v) (hp : a.eval p = .pointer (some ad)) (hv : a.eval v = x) : e ∈ (storeVar t ad x).events P w #[] := by
  have hm := mem_listed he
  rwa [ev_st p v t ho hp hv] at hm
theorem u16_and255 {A : Int} (hA : 0 ≤ A ∧ A < 65536) : bits .and .u16 A 255 = A % 256 := by
  rw [u16_and A 255 hA.1 hA.2 (by omega) (by omega)]
  have h : (255 : Int).toNat = 2 ^ 8 - 1 := rfl
  rw [h, Nat.and_two_pow_sub_one_eq_mod]
  omega
set_option maxRecDepth 100000 in
theorem ev_ix40 (ad : Addr) (i : Int) (hi : 0 ≤ i ∧ i < 8) (w : World) (es : Array Event) : (Instr.indexAt 40 (.pointer (some ad)) (.int .i64 i)).events Tryd.prog w es = es := by
  have hu : Tryd.prog.underlying 40 = some (.array 8 22) := by rfl
  have h8 : 0 ≤ i ∧ i < ((8 : Nat) : Int) := hi
  simp only [Instr.indexAt, Instr.sureAddr, asIntOf, Sem.events_bind, Sem.run_bind, Sem.run_pure, Sem.events_pure, Result.evThen_ok, Result.andThen_ok, run_underlying hu, events_underlying, h8, and_self, if_true, events_sizeOf]
  cases (sizeOf 22).run Tryd.prog w <;> rfl
theorem gl_of {W : World} {a : Ad} (hW : a.W = W) (hO : a.O = W.heap.size) {ep : Addr} (c4 : W.cell? ⟨4, 0, none⟩ = some (.iface 168 (.pointer (some ep)))) (c1 : W.cell? ⟨1, 0, none⟩ = some (.iface 151 (.agg #[.pointer (some ⟨5, 120, none⟩)]))) (h4 : 4 < W.heap.size) (N M : Nat) (t : Int) :
    Gl (ShR (Shs [N]) M) (inRun a M t) ep := by
  have hs : ∀ b, b < 5 → ∀ i, ¬ ShR (Shs [N]) M (.cell ⟨b, i, none⟩) := fun b hb i h => by
    rcases h with (h | ⟨ad, e, hh⟩) | ⟨ad, e, hh⟩
    · exact h
    · cases e
      simp only at hh
      omega
    · cases e
      simp only at hh
      omega
  exact ⟨by show a.W.cell? _ = _; rw [hW]; exact c4, by show a.W.cell? _ = _; rw [hW]; exact c1, by show 4 < a.O; omega, hs 4 (by omega), hs 1 (by omega)⟩
theorem keep_nil {a : Ad} (h : a.keep = []) (N : Nat) (t : Int) : { inRun a N t with keep := [] } = a := by cases a; simp_all [inRun]
theorem row_has {w : World} {base : Nat} {e : TypeId} {size : Nat} {v : Value} {n : Nat} {xs : List Value} (h : w.ownsRow base e size v n xs) (hn : 0 < n) : ∃ g cap cur, v = .slice (some ⟨g, 0, none⟩) n cap ∧ base ≤ g ∧ Has g e cur w ∧ ∀ (i : Nat) (u : Value), xs[i]? = some u → cur[i]? = some u := by
  rcases h.2 with ⟨_, h0⟩ | ⟨g, cap, cur, h1, h2, h3, _, _, _, h4⟩
  · omega
  · refine ⟨g, cap, cur, h1, h2, h3, fun i u hu => ?_⟩
    rw [← h4] at hu
    have hi : i < n * size := by
      have := (List.getElem?_eq_some_iff.1 hu).1
      simp at this
      omega
    rw [List.getElem?_take_of_lt hi] at hu
    simpa using hu
end Go.Proofs.YtbnaccilnilcmaaDoor
