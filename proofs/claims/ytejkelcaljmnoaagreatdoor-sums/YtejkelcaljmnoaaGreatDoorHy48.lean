/-
  Part 48 of the proof.
  No condition but those that each statement names.
-/
import Derived.Test.YtejkelcaljmnoaaGreatDoorHy47
import Derived.Conc.Own3
set_option maxRecDepth 100000
set_option linter.unusedVariables false
set_option linter.unusedSimpArgs false
set_option linter.unusedSectionVars false
namespace Go.Proofs.YtejkelcaljmnoaaGreatDoor
open Go.Conc Go.Hx Go.Lo
def cfgf (a b c : Int) : Nat → Int := fun i => if i = 0 then ((1 + pickN a 10 : Nat) : Int) else if i = 1 then ((1 + pickN b 10 : Nat) : Int) else ((1 + pickN c 10 : Nat) : Int)
def cfgb (bo : Int) : Int := ((1 + pickN bo 60 : Nat) : Int)
theorem pickN_lt (c : Int) {n : Nat} (h : 0 < n) : pickN c n < n := Nat.mod_lt _ h
theorem okc_cfg (a b c bo : Int) : okc (cfgf a b c) (cfgb bo) = true := by
 have h1 := pickN_lt a (n := 10) (by decide)
 have h2 := pickN_lt b (n := 10) (by decide)
 have h3 := pickN_lt c (n := 10) (by decide)
 have h4 := pickN_lt bo (n := 60) (by decide)
 unfold okc cfgf cfgb
 simp
 omega
theorem bld24 (a b c : Int) : evR Tryz.prog (Instr.build 24 [(0, .int .i64 a), (1, .int .i64 b), (2, .int .i64 c)].toArray) [] = some (.agg #[.int .i64 a, .int .i64 b, .int .i64 c], []) := by kernel_rfl
theorem bld26 (a b c e : Int) : evR Tryz.prog (Instr.build 26 [(0, .agg #[.int .i64 a, .int .i64 b, .int .i64 c]), (1, .int .i64 e)].toArray) [] = some (.agg #[.int .i64 a, .int .i64 b, .int .i64 c, .int .i64 e], []) := by kernel_rfl
theorem config_s : ∃ n, ∀ {σ : Type} {F : Fam σ} {Δ : ∀ s, Dom (F.R s) (F.D s)} {main : Bool} {s : σ} (L : Frag) (a b c bo : Int), (∀ s o, (Δ s).New o) → Fun L → I64 a → I64 b → I64 c → I64 bo →
   CallsM Δ Tryz.prog main 18 [.int .i64 a, .int .i64 b, .int .i64 c, .int .i64 bo].toArray n s L (fun s' v L' => s = s' ∧ v = cfgv (cfgf a b c) (cfgb bo) ∧ Ext L L') := by
 obtain ⟨n1, g1⟩ := pick_s
 apply Exists.intro
 intro σ F Δ main s L a b c bo hN hF ha hb hc hbo
 have h1 := pickN_lt a (n := 10) (by decide)
 have h2 := pickN_lt b (n := 10) (by decide)
 have h3 := pickN_lt c (n := 10) (by decide)
 have h4 := pickN_lt bo (n := 60) (by decide)
 have w : ∀ m : Nat, m < 100 → IntKind.i64.wrap (1 + (m : Int)) = ((1 + m : Nat) : Int) := fun m hm => by simp [IntKind.wrap_i64]; omega
 co_applyP callsME 23 Tryz.func18 Tryz.ntmps18
 co_applyP c_seq
 co_applyP c_region
 co_applyP oadd rfl (O_new (z := cfgv (fun _ => 0) 0) (hN _ _))
 intro xr L1 hA
 co_applyP o_nil
 change wpE ..
 co_applyP c_seq
 co_applyP c_region
 co_applyP oy rfl E_mv
 co_applyP oc rfl rfl rfl (g1 L1 a 10 ha (by decide))
 rintro _ _ _ ⟨rfl, rfl, rfl⟩
 co_applyP oy rfl E_add
 co_applyP oy rfl E_mv
 rw [w _ (by omega)]
 co_applyP oc rfl rfl rfl (g1 L1 b 10 hb (by decide))
 rintro _ _ _ ⟨rfl, rfl, rfl⟩
 co_applyP oy rfl E_add
 co_applyP oy rfl E_mv
 rw [w _ (by omega)]
 co_applyP oc rfl rfl rfl (g1 L1 c 10 hc (by decide))
 rintro _ _ _ ⟨rfl, rfl, rfl⟩
 co_applyP oy rfl E_add
 rw [w _ (by omega)]
 co_applyP oy rfl (E_build (bld24 _ _ _))
 co_applyP oy rfl E_mv
 co_applyP oc rfl rfl rfl (g1 L1 bo 60 hbo (by decide))
 rintro _ _ _ ⟨rfl, rfl, rfl⟩
 co_applyP oy rfl E_add
 rw [w _ (by omega)]
 co_applyP oy rfl (E_build (bld26 _ _ _ _))
 co_applyP oeN rfl (fun hnd => O_sa (hs := sz_26) (vs := [.int .i64 ((1 + pickN a 10 : Nat) : Int), .int .i64 ((1 + pickN b 10 : Nat) : Int), .int .i64 ((1 + pickN c 10 : Nat) : Int), .int .i64 ((1 + pickN bo 60 : Nat) : Int)]) (hnd := hnd) (hm := hA.self) (hi := Nat.le_refl _))
 rintro _ L3 ⟨rfl, hU⟩
 co_applyP o_nil
 change wpE ..
 co_applyP c_ret
 change ∃ v, resM _ _ _ _ v ∧ _
 exact ⟨_, ⟨_, _, xr, 0, 4, true, _, _, rfl, rfl, ag_26, sz_26, hU.self, Nat.le_refl _, rfl⟩, rfl, rfl, hU.fn, fun t ht => hU.ne _ (hA.sub _ ht) (hA.new _ ht)⟩
def St.fresh (c : Nat → Int) (bo : Int) (l : List Int) (b : Nat) : St := (St.bare c bo (l.length / 4) (fun i => l.getD i 0)).adopt b PS.zero
theorem kernel_s : ∃ n, ∀ {σ : Type} {F : Fam σ} {Δ : ∀ s, Dom (F.R s) (F.D s)} {main : Bool} {s : σ} (L : Frag) (c : Nat → Int) (bo : Int) (l : List Int), (∀ s o, (Δ s).New o) → Fun L → Byt l → okc c bo = true → oki l.length = true →
   CallsL Δ Tryz.prog main 17 [cfgv c bo, strv l].toArray n s L (fun s' v L' => s = s' ∧ ∃ K A b, v = ptr K ∧ Rep K A (St.fresh c bo l b) L L') := by
 obtain ⟨n1, g1⟩ := new_s
 apply Exists.intro
 intro σ F Δ main s L c bo l hN hF hl hok hoi
 co_applyP callsE 17 Tryz.func17 Tryz.ntmps17
 co_applyP c_seq
 co_applyP c_region
 co_applyP oadd rfl (O_box (hN _ _))
 intro b L1 hA
 co_applyP oy rfl E_as
 co_applyP o_nil
 change wpE ..
 co_applyP c_seq
 co_applyP c_region
 co_applyP oy rfl (E_lda (ht := ag_26) (hs := sz_26) (hm := hA.self) (hi := by show 0 + 4 ≤ 4; decide))
 co_applyP oy rfl E_mv
 rw [show (Value.agg (((cfgv c bo).cells).extract 0 (0 + 4))) = cfgv c bo from rfl]
 co_applyP oe rfl (O_cvsb hl (fun _ => hN _ _) hA.fn (ht := Tryz.underlying9) (hu := Tryz.underlying44) (he := Tryz.underlying5))
 rintro _ _ ⟨ib, cap, junk, fr, rfl, hA2⟩
 rename_i L2
 have hat : ∀ i, i < l.length → At L2 ib (0 + i) (.int .u8 (l.getD i 0)) := fun i hi => by
   refine ⟨true, _, _, _, hA2.self, ?_⟩
   rw [Nat.zero_add, List.getElem?_toArray, List.getElem?_append_left (by simpa using hi)]
   simp [hi, List.getD_eq_getElem?_getD]
 co_applyP oc rfl rfl rfl (g1 L2 c bo ib 0 l.length cap (fun i => l.getD i 0) hN hA2.fn hok hoi hat)
 rintro _ _ _ ⟨rfl, K, A, pbk, rfl, hR⟩
 co_applyP oy rfl E_mv
 co_applyP oy rfl E_ext
 co_applyP oy rfl E_ext
 co_applyP oy rfl E_as
 co_applyP oy rfl E_as
 co_applyP o_nil
 change wpE ..
 co_applyP c_seq
 co_applyP c_seq
 co_applyP c_region
 co_applyP oy rfl E_mv
 co_applyP oy rfl E_neq
 co_applyP o_nil
 change wpE ..
 co_applyP c_false rfl
 co_applyP c_skip
 change wpE ..
 co_applyP c_seq
 co_applyP c_region
 co_applyP oy rfl E_mv
 co_applyP oy rfl E_as
 co_applyP o_nil
 change wpE ..
 co_applyP c_ret
 change ∃ v, resE .. = some v ∧ _
 exact ⟨_, rfl, rfl, K, A, pbk, rfl, hR.less fun t ht => hA2.sub _ (hA.sub _ ht)⟩
def PS.one : PS := { PS.zero with id := 1, st := 1 }
section
variable {c : Nat → Int} {bo : Int} {l : List Int} {b : Nat}
theorem fresh_ps : (St.fresh c bo l b).ps = [(b, PS.one)] := by simp [St.fresh, St.adopt, St.taken, St.wake1, St.setP, St.setRow, St.setPs, St.bare, PS.one, PS.zero]
theorem fresh_eq : St.fresh c bo l b = ⟨c, bo, l.length / 4, fun i j => l.getD (4 * i + j) 0, [(b, PS.one)], 1, put (fun _ => []) 0 [b], fun _ => [], [], 0⟩ := by
 have := fresh_ps (c := c) (bo := bo) (l := l) (b := b)
 have e : St.fresh c bo l b = { St.fresh c bo l b with ps := (St.fresh c bo l b).ps } := rfl
 rw [e, this]
 rfl
theorem fresh_map : (St.fresh c bo l b).map (fun _ => 1) = St.fresh c bo l 1 := by
 rw [fresh_eq, fresh_eq]
 unfold St.map mapW
 congr 1
 funext i
 show (put (fun _ => ([] : List Nat)) 0 [b] i).map (fun _ => 1) = put (fun _ => []) 0 [1] i
 unfold put
 split <;> rfl
theorem fresh_TI (hc : okc c bo = true) (hl : oki l.length = true) (hB : Byt l) : TI (fun _ => 1) (St.fresh c bo l b) := by
 have hc' : ((1 ≤ c 0 ∧ c 0 ≤ 10) ∧ (1 ≤ c 1 ∧ c 1 ≤ 10) ∧ (1 ≤ c 2 ∧ c 2 ≤ 10)) ∧ 1 ≤ bo ∧ bo ≤ 1000 := by unfold okc at hc; exact of_decide_eq_true hc
 have hl' : 0 < l.length ∧ l.length % 4 = 0 ∧ l.length ≤ 1024 := by unfold oki at hl; exact of_decide_eq_true hl
 rw [fresh_eq]
 have one : ∀ q ∈ [(b, PS.one)], q = (b, PS.one) := fun q hq => List.mem_singleton.1 hq
 have row : ∀ i c, c ∈ put (fun _ => ([] : List Nat)) 0 [b] i → i = 0 ∧ c = b := fun i c hc => by
   unfold put at hc
   split at hc
   · rename_i h; exact ⟨h, List.mem_singleton.1 hc⟩
   · cases hc
 refine ⟨⟨⟨⟨?_, ?_, ?_, ?_, ?_, ?_⟩, ?_, ?_, ?_, ?_, ?_, ?_, ?_, ?_, ?_⟩, ?_, ⟨?_, ?_, ?_, ?_, ?_, ?_, ?_⟩⟩, ⟨?_, ?_⟩, ?_, ?_⟩
 · simp
 · simp
 · intro q hq; rw [one q hq]; show (0 : Nat) < 3; decide
 · intro i _
   show (put (fun _ => ([] : List Nat)) 0 [b] i).Nodup
   unfold put
   split <;> simp
 · intro i _ d hd
   obtain ⟨rfl, rfl⟩ := row i d hd
   exact ⟨PS.one, List.mem_singleton.2 rfl, rfl, rfl⟩
 · intro q hq _; rw [one q hq]; show b ∈ put (fun _ => ([] : List Nat)) 0 [b] 0; simp [put]
 · intro q hq; rw [one q hq]; exact ⟨fun i _ => ⟨Int.le_refl 0, by show (0 : Int) < 65536; decide⟩, fun i _ => ⟨Int.le_refl 0, by show (0 : Int) < 256; decide⟩⟩
 · intro q hq i _; rw [one q hq]; exact .inl rfl
 · intro i _; exact Nat.zero_le _
 · intro i _ v hv; cases hv
 · simp
 · intro e he; cases he
 · intro e he; cases he
 · intro e he; cases he
 · intro e he; cases he
 · intro e he; cases he
 · intro q hq; rw [one q hq]; exact Nat.le_refl _
 · intro q hq r hr _; rw [one q hq, one r hr]
 · intro q hq; rw [one q hq]; exact ⟨Nat.le_refl 1, Nat.le_refl 1⟩
 · exact ⟨(b, PS.one), List.mem_singleton.2 rfl, rfl⟩
 · intro q hq; rw [one q hq]; exact ⟨fun _ => rfl, fun _ => rfl⟩
 · intro i hi
   show put (fun _ => ([] : List Nat)) 0 [b] i = []
   unfold put
   rw [if_neg (by omega)]
 · intro q hq; rw [one q hq]; rfl
 · show l.length / 4 ≤ 256; omega
 · intro i hi j hj
   have hi' : i < l.length / 4 := hi
   show 0 ≤ l.getD (4 * i + j) 0 ∧ l.getD (4 * i + j) 0 < 256
   have hlt : 4 * i + j < l.length := by omega
   rw [List.getD_eq_getElem?_getD, List.getElem?_eq_getElem hlt]
   exact hB _ (List.getElem_mem hlt)
 · show bo ≠ 0; omega
 · exact Nat.le_refl 1
theorem fresh_Ab (hc : okc c bo = true) (hl : oki l.length = true) (hB : Byt l) : Ab (St.fresh c bo l b) (St.fresh c bo l 1) := ⟨_, fresh_TI hc hl hB, fresh_map.symm⟩
end
theorem tickU_now (S : St) (c : Nat) : (S.tickU c).now = S.now := by
 unfold St.tickU
 cases S.lead.first with
 | none => exact (fix_lead S).now
 | some b =>
   simp only
   cases S.lead.get b with
   | none => exact (fix_lead S).now
   | some x =>
     simp only
     have h1 := (fix_run S.lead b x c).1.now
     have h2 : ((S.lead.runS b x c).after b).now = (S.lead.runS b x c).now := (fl_after _ _).now
     rw [h2, h1]
     exact (fix_lead S).now
theorem runs_le : ∀ (m : Nat) (T : St), (St.runs m T).now ≤ T.now + m
 | 0, T => Nat.le_refl _
 | m + 1, T => by
   unfold St.runs
   split
   · omega
   · have h := runs_le m T.next
     have e : T.next.now = T.now + 1 := by
       show (T.tickU (T.last + 1)).now + 1 = _
       rw [tickU_now]
     omega
theorem Ab.now {S T : St} (h : Ab S T) : S.now = T.now := by
 obtain ⟨N, _, rfl⟩ := h.ex
 rfl
end Go.Proofs.YtejkelcaljmnoaaGreatDoor
namespace Go.Proofs.YtejkelcaljmnoaaGreatDoor
open Go.Conc Go.ConcX Go.Hx Go.Lo
theorem stepG_leave0 {P : Program} {b : Frame} {a : Act} {w : World} {fn : Func} {todo : List Item} {v : Value} (hn : b.kind = .normal) (hd : a.defers = []) (hf : P.funcs[b.fn]? = some fn) (hi : P.inits.idxOf? b.fn = none)
   (hr : (results fn a.tmps).run P w = .ok v w) : ∃ es, stepG P true (G { b.at a todo with mode := .returning } []) w = .ended (.done v) w es ∧ ∀ e ∈ es, e ∈ (results fn a.tmps).events P w #[] :=
 ⟨_, by simp [G, stepG, unwind, doReturn, Frame.at, hn, hd, hf, hi, hr, GStep.after]; rfl, fun _ he => mem_seen (by simpa using he)⟩
theorem top_z [Payload] {P : Program} {Fin : Value → World → Prop} (hFin : ∀ v w w₁, AtRel w w₁ → Fin v w → Fin v w₁) {f : FuncId} {args : Array Value} {n N : Nat} {W : World} (hi : P.inits.idxOf? f = none)
   (h : CallsX (FZ P Fin) P true f args n (N, []) W fun s' v w' => s'.1 = 0 ∧ Fin v w') : ∃ m, Goes P true AtRel (D0 (Shs [])) (StopZ P Fin N []) m (G (Frame.enter P f args .normal) []) W := by
 obtain ⟨g, c, hf, hname, hbody, hwp⟩ := h
 have hleave : ∀ (s' : Nat × List Nat) (a' : Act) (w' : World) (todo : List Item), (a'.defers = [] ∧ ∃ v, ResultsC P g a'.tmps v ∧ s'.1 = 0 ∧ Fin v w') →
     Goes P true AtRel (D0 (Shs s'.2)) (StopZ P Fin s'.1 s'.2) 0 (G { (base f).at a' todo with mode := .returning } []) w' := by
   rintro ⟨q, s'⟩ a' w' todo ⟨hd, v, hr, h0, hp⟩
   simp only at h0
   subst h0
   refine Goes.stop fun w₁ h₁ => ?_
   obtain ⟨es, h2, h3⟩ := stepG_leave0 (P := P) (b := base f) (todo := todo) rfl hd hf hi (hr w₁).1
   refine ⟨rfl, v, es, h2, fun e he => ?_, hFin _ _ _ h₁ hp⟩
   have := h3 e he
   rw [(hr w₁).2] at this
   simp at this
 refine ⟨1 + n, ?_⟩
 rw [enter_at args hf hbody]
 refine hwp (base f) [] [] 1 rfl (by simp [base]) fun s' e a' w' q => ?_
 cases e with
 | normal => exact Goes.step rfl fun w₁ h₁ => by rw [stepG_end]; exact ⟨((FZ P Fin).terms s').idle _, (hleave s' a' w' [] q).rely ((FZ P Fin).terms s').trans h₁⟩
 | ret => exact fun todo => (hleave s' a' w' todo q).more
 | exit id => exact q.elim
 | goto l => exact q.elim
 | panic ch => exact q.elim
 | outgrown => exact q.elim
def base0 (W : World) : Frag := (List.range W.heap.size).map fun b => (b, false, W.heap.getD b default)
theorem base0_mem {W : World} {b : Nat} {o : Obj} (h : W.heap[b]? = some o) : (b, false, o) ∈ base0 W := by
 obtain ⟨hb, e⟩ := Array.getElem?_eq_some_iff.1 h
 refine List.mem_map.2 ⟨b, List.mem_range.2 hb, ?_⟩
 simp [Array.getD_eq_getD_getElem?, h]
theorem base0_at {W : World} {b i : Nat} {v : Value} (h : W.cell? ⟨b, i, none⟩ = some v) : At (base0 W) b i v := by
 unfold World.cell? at h
 split at h
 · rename_i c t f hh
   exact ⟨false, c, t, f, base0_mem hh, by simpa using h⟩
 · cases h
theorem base0_nd (W : World) : ((base0 W).map (·.1)).Nodup := by
 unfold base0
 rw [List.map_map]
 have : ((fun t : Nat × Bool × Obj => t.1) ∘ fun b => (b, false, W.heap.getD b default)) = id := rfl
 rw [this, List.map_id]
 exact List.nodup_range
theorem base0_own (W : World) : Own0 (Shs []) W W.heap.size (base0 W) W where
 has t ht := by
   obtain ⟨b, hb, rfl⟩ := List.mem_map.1 ht
   have hb' := List.mem_range.1 hb
   simp [Array.getD_eq_getD_getElem?, hb']
 ap t ht l hl hs := hs
 own t ht hf := by
   obtain ⟨b, hb, rfl⟩ := List.mem_map.1 ht
   cases hf
 nd := base0_nd W
 low l b hs := hs.elim
 old := ⟨rfl, rfl, rfl, Nat.le_refl _, fun _ _ => rfl⟩
def FinT (W : World) (v : Value) (w' : World) : Prop := v = .bool true ∧ W.grownBy w' none
theorem law_z {P : Program} {f : FuncId} {args : Array Value} {n N : Nat} {W : World} (hi : P.inits.idxOf? f = none)
   (h : CallsL (F := FZ P (FinT W)) (fun s => dom0 (Shs s.2) W W.heap.size) P true f args n (N, []) (base0 W) fun s' v L' => s'.1 = 0 ∧ v = .bool true) :
   ∃ k last o w' t', runNT P (k + 1) (solo (G (Frame.enter P f args .normal) []) W) #[] = (.ended o w', t') ∧ runN P k (solo (G (Frame.enter P f args .normal) []) W) = .next last ∧ step P last = .ended o w' ∧ Conc.Good P (FinT W) last o w' t' := by
 have hFin : ∀ v w w₁, AtRel w w₁ → FinT W v w → FinT W v w₁ := fun v w w₁ hr h => by
   obtain ⟨d, rfl⟩ := hr
   exact ⟨h.1, h.2.os, h.2.tape, h.2.output, h.2.size, h.2.block⟩
 obtain ⟨m, hG⟩ := top_z hFin hi (callsX_post (h W (base0_own W)) fun s' v w' ⟨L', hL, h1, h2⟩ => ⟨h1, h2, by
   have ho : OldW W W.heap.size w' := (show Own0 (Shs s'.2) W W.heap.size L' w' from hL).old
   exact ⟨ho.o, ho.t, ho.u, ho.z, fun k hk _ => ho.b k hk⟩⟩)
 exact all_runsZ N [] #[G (Frame.enter P f args .normal) []] _ W none #[] (fun _ => 0) m rfl (leavers_one P _) past0_nil hG
end Go.Proofs.YtejkelcaljmnoaaGreatDoor
