/-
  Part 46 of the proof.
  No condition but those that each statement names.
-/
import Derived.Test.YtejkelcaljmnoaaGreatDoorHy45
import Derived.Test.YtejkelcaljmnoaaGreatDoorHy13
set_option maxRecDepth 100000
set_option linter.unusedVariables false
set_option linter.unusedSimpArgs false
set_option linter.unusedSectionVars false
namespace Go.Proofs.YtejkelcaljmnoaaGreatDoor
open Go.Conc Go.Hx Go.Lo
def rowv (a : Sl) (sz n : Nat) : Value := match a.b with
 | none => .slice none 0 0
 | some b => .slice (some ⟨b, 0, none⟩) n (n + a.junk.length / sz)
structure ApN (L : Frag) (e : TypeId) (a : Sl) (zs : List Value) (a' : Sl) (L' : Frag) : Prop where
 ok : slOk a' zs e L'
 fn : Fun L'
 sub : ∀ t ∈ L, a.b ≠ some t.1 → t ∈ L'
 d : ∀ b, a'.b = some b → a.b = some b ∨ ∀ t ∈ L, t.1 ≠ b
theorem foldl_puts : ∀ (vs : List Value) (cs : Array Value) (o k : Nat), (vs.zipIdx k).foldl (fun cs (c, j) => cs.setIfInBounds (o + j) c) cs = puts cs (o + k) vs
 | [], cs, o, k => by simp [puts]
 | v :: vs, cs, o, k => by
   simp only [List.zipIdx_cons, List.foldl_cons, puts]
   rw [foldl_puts vs _ o (k + 1)]; rfl
section
variable {New : Obj → Prop} {N : Nat} {ε : Env} {L : Frag} {d : Option Tmp} {ty : TypeId} {ps : String} {af : Array Edge} {g : Option (Nat × Bool)} {x y : Operand} {P : Program}
theorem O_bsN {t e : TypeId} {x : Operand} {v z : Value} {sz : Nat} (hN : New (.cells v.cells e)) (hv : v.cells.size = sz) (hx : ev ε x = some v := by rfl) (hu : P.underlying t = some (.slice e)) (hs : sizeAt P e = some sz) (hz : zeroAt P e = some z) (h0 : 0 < sz) (h24 : sz ≤ 1000) :
   EO P New N ε L ⟨d, .buildSlice t 1 #[(0, x)], ty, ps, af, g⟩ (fun r L'' => ∃ b, (∀ t ∈ L, t.1 ≠ b) ∧ r = .slice (some ⟨b, 0, none⟩) 1 1 ∧ L'' = (b, true, .cells v.cells e) :: L) := by
 intro a ha
 simp only [execOp, List.map_toArray, List.map_cons, List.map_nil]
 unfold Instr.buildSlice newRow
 have hf : Instr.fill (fun i => some (i * sz, sz)) ((Array.range (1 * sz)).map (z.cells[· % z.cells.size]!)) [(0, v)] = some v.cells := by
   have e1 : ((Array.range (1 * sz)).map (z.cells[· % z.cells.size]!)).size = sz := by simp
   generalize (Array.range (1 * sz)).map (z.cells[· % z.cells.size]!) = cs at e1
   simp only [Instr.fill]
   rw [if_neg (by simp [hv, e1])]
   congr 1
   have e2 : v.cells.zipIdx.foldl (fun cs (c, j) => cs.setIfInBounds (0 * sz + j) c) cs = puts cs (0 * sz + 0) v.cells.toList := by
     rw [← foldl_puts, ← Array.foldl_toList, Array.toList_zipIdx]
   rw [e2]
   obtain ⟨l⟩ := cs
   rw [puts_list _ _ _ (by simp at e1 ⊢; omega)]
   apply Array.ext'
   have : l.drop (0 * sz + 0 + v.cells.toList.length) = [] := List.drop_eq_nil_of_le (by simp at e1 ⊢; omega)
   rw [this]; simp
 rw [wpS_bind, wpS_bind, wpS_underlying hu, ha.ev hx]
 simp only []
 rw [wpS_bind, wpS_sizeOf hs]
 rw [if_neg (by omega), if_neg (by omega), wpS_bind, wpS_zeroValue hz, wpS_bind, wpS_pure]
 simp only [hf, wpS_bind]
 exact wpS_newObj hN fun b hb => ⟨b, hb, rfl, rfl⟩
theorem reads_N {a : Sl} {xs : List Value} {e : TypeId} {sz n : Nat} (ha : slOk a xs e L) (hn : xs.length = n * sz) (h0 : 0 < sz) : Reads P L sz n (rowv a sz n) xs.toArray := by
 cases hab : a.b with
 | none =>
   unfold slOk at ha
   rw [hab] at ha
   obtain rfl : xs = [] := ha.1
   obtain rfl : n = 0 := by
     rcases Nat.eq_zero_or_pos n with h | h
     · exact h
     · have := Nat.mul_pos h h0; simp at hn; omega
   have e3 : rowv a sz 0 = .slice none 0 0 := by unfold rowv; rw [hab]
   rw [e3]; exact reads_none
 | some b =>
   have hm := ha.mem hab
   have e3 : rowv a sz n = .slice (some ⟨b, 0, none⟩) n (n + a.junk.length / sz) := by unfold rowv; rw [hab]
   rw [e3]
   have := reads_m (P := P) (sz := sz) (n := n) (len := n) (cap := n + a.junk.length / sz) (o := 0) hm (by simp; omega)
   have e7 : (xs ++ a.junk).take (n * sz) = xs := by rw [← hn, List.take_append_of_le_length (by simp)]; exact List.take_of_length_le (by simp)
   simpa [e7] using this
theorem O_apN {t e : TypeId} {a : Sl} {xs ys : List Value} {n m sz by_ : Nat} {z : Value} {yb : Option Addr} {yc : Nat} (hx : ev ε x = some (rowv a sz n) := by rfl) (hy : ev ε y = some (.slice yb m yc) := by rfl) (hnd : (L.map (·.1)).Nodup) (hu : P.underlying t = some (.slice e)) (hs : sizeAt P e = some sz) (hb : bytesAt P e = some (by_ + 1)) (hz : zeroAt P e = some z) (hzs : z.cells.size = sz) (hN : ∀ cs, New (.cells cs e)) (ha : slOk a xs e L) (hn : xs.length = n * sz) (hr : Reads P L sz m (.slice yb m yc) ys.toArray) (hm : ys.length = m * sz) (hpl : ys.all plainV = true) (h0 : 0 < sz) (hm0 : 0 < m) (h8 : (2 * (n + m) + 192) * (by_ + 1) ≤ 281474976710656) :
   EO P New N ε L ⟨d, .call ⟨.builtin .append, #[x, y], #[t, t]⟩, ty, ps, af, g⟩ (fun r L' => ∃ a', r = rowv a' sz (n + m) ∧ ApN L e a (xs ++ ys) a' L') := by
 have hws := reads_N (P := P) ha hn h0
 have grow : ∀ (cap0 : Nat), (∃ base, rowv a sz n = .slice base n cap0) → cap0 < n + m →
     EO P New N ε L ⟨d, .call ⟨.builtin .append, #[x, y], #[t, t]⟩, ty, ps, af, g⟩ (fun r L' => ∃ a', r = rowv a' sz (n + m) ∧ ApN L e a (xs ++ ys) a' L') := by
   rintro cap0 ⟨base, hbs⟩ hc
   rw [hbs] at hws hx
   intro ac hac
   refine wpS_mono ?_ _ _ (O_apn (by_ := by_) (New := New) hx hy (fun_of_nd hnd) hu hu hs hb hz hws hr hc h8 hN ac hac)
   intro r L' q
   cases r <;> try exact q.elim
   · obtain ⟨b, cap, h1, h2, rfl, hA⟩ := q
     have hzl : (Builtin.zeroCells z.cells (cap - (n + m))).toList.length = (cap - (n + m)) * sz := by unfold Builtin.zeroCells; simp [hzs]
     refine ⟨⟨some b, (Builtin.zeroCells z.cells (cap - (n + m))).toList⟩, ?_, ?_, hA.fn, fun t ht _ => hA.sub t ht, fun b' hb' => .inr ?_⟩
     · unfold rowv; simp only []; rw [hzl, Nat.mul_div_cancel _ h0, show n + m + (cap - (n + m)) = cap by omega]
     · have e5 : xs.toArray ++ ys.toArray ++ Builtin.zeroCells z.cells (cap - (n + m)) = ((xs ++ ys) ++ (Builtin.zeroCells z.cells (cap - (n + m))).toList).toArray := by
         apply Array.ext'; simp
       rw [e5] at hA
       exact hA.self
     · obtain rfl : b = b' := by simpa using hb'
       exact hA.new
   · obtain ⟨b, cap, _, _, e, _⟩ := q; cases e
 cases hab : a.b with
 | none =>
   have h2 := ha
   unfold slOk at h2
   rw [hab] at h2
   obtain ⟨e1, e2⟩ := h2
   obtain rfl : xs = [] := e1
   obtain rfl : n = 0 := by
     rcases Nat.eq_zero_or_pos n with h | h
     · exact h
     · have := Nat.mul_pos h h0; simp at hn; omega
   have e3 : rowv a sz 0 = .slice none 0 0 := by unfold rowv; rw [hab]
   exact grow 0 ⟨none, e3⟩ (by omega)
 | some b =>
   have hmm := ha.mem hab
   have e3 : rowv a sz n = .slice (some ⟨b, 0, none⟩) n (n + a.junk.length / sz) := by unfold rowv; rw [hab]
   by_cases hj : m ≤ a.junk.length / sz
   · intro ac hac
     rw [e3] at hx
     have hj' : m * sz ≤ a.junk.length := (Nat.le_div_iff_mul_le h0).1 hj
     refine wpS_mono ?_ _ _ (O_api (New := New) hx hy hnd hu hu hs hr (by omega) hmm (by simp; omega) (by simpa using hpl) ac hac)
     intro r L' q
     cases r <;> try exact q.elim
     · obtain ⟨rfl, hU⟩ := q
       have e4 : puts (xs ++ a.junk).toArray (0 + n * sz) ys.toArray.toList = ((xs ++ ys) ++ a.junk.drop (m * sz)).toArray := by
         rw [puts_list _ _ _ (by simp; omega)]
         have e6 : (xs ++ a.junk).drop (0 + n * sz + ys.toArray.toList.length) = a.junk.drop (m * sz) := by
           rw [show 0 + n * sz + ys.toArray.toList.length = xs.length + m * sz by simp; omega, List.drop_append]; simp
         have e7 : (xs ++ a.junk).take (0 + n * sz) = xs := by rw [Nat.zero_add, ← hn, List.take_append_of_le_length (by simp)]; exact List.take_of_length_le (by simp)
         rw [e6, e7]
       rw [e4] at hU
       refine ⟨⟨some b, a.junk.drop (m * sz)⟩, ?_, hU.self, hU.fn, fun t ht hne => hU.ne t ht fun e => hne (by rw [hab, e]), fun b' hb' => .inl (by rw [hab]; exact hb')⟩
       unfold rowv
       simp only [List.length_drop]
       rw [Nat.mul_comm m sz, Nat.sub_mul_div]
       rw [show n + m + (a.junk.length / sz - m) = n + a.junk.length / sz by omega]
     · exact absurd q.1 (by simp [undef])
   · exact grow (n + a.junk.length / sz) ⟨_, e3⟩ (by omega)
end
end Go.Proofs.YtejkelcaljmnoaaGreatDoor
namespace Go.Lo
open Go.Conc Go.Hx
section
variable {σ : Type} {F : Fam σ} {Δ : ∀ s, Dom (F.R s) (F.D s)} {P : Program} {main : Bool} {fn : FuncId} {N : Nat} {Q : σ → Exit → Env → Frag → Prop} {s : σ} {ε : Env} {L : Frag} {ops : Array Oper} {nf : Nat} {R L0 : Frag} {e : Nat} {s0 : σ} {fuel : Nat} {ls : Array Bool}
theorem t2 {i j : Nat} {d d' : Option Tmp} {k k' : Op} {ot ot' : TypeId} {ps ps' : String} {af af' : Array Edge} {g g' : Option (Nat × Bool)} {f : FuncId} {args : Array Operand} {ats : Array TypeId} {vs : List Value} {Post : σ → Value → Frag → Prop} {post : Value → Frag → Prop} (ho : ops[i]? = some ⟨d, k, ot, ps, af, g⟩) (hop : k = .call { callee := .value (.func f), args, argTypes := ats }) (ha : args.toList.map (ev ε) = vs.map some) (hcall : CallsL Δ P main f vs.toArray nf s L Post)
   (ho' : ops[j]? = some ⟨d', k', ot', ps', af', g'⟩) (hy : EO P (Δ s).New N ε L ⟨d', k', ot', ps', af', g'⟩ post)
   (hr : Region.ready .any ops ls = [i, j] := by kernel_rfl) (hw : wantedE ops N ε g = some true := by rfl) (hd : dstOk N d = true := by rfl) (hw' : wantedE ops N ε g' = some true := by rfl) (hd' : dstOk N d' = true := by rfl)
   (h1 : ∀ s' v L', Post s' v L' → Pre R L0 e s0 (ls.setIfInBounds i true) s' L' ∧ AnyE Δ P main fn N ops Q nf R L0 e s0 fuel (ls.setIfInBounds i true) s' (putE d v ε) L')
   (h2 : ∀ v L', post v L' → Pre R L0 e s0 (ls.setIfInBounds j true) s L' ∧ AnyE Δ P main fn N ops Q nf R L0 e s0 fuel (ls.setIfInBounds j true) s (putE d' v ε) L') : AnyE Δ P main fn N ops Q nf R L0 e s0 (fuel + 1) ls s ε L := by
 intro a hf
 have e' : args.map a.eval = vs.toArray := by
   apply Array.ext'
   simp only [Array.toList_map]
   have : ∀ (l : List Operand) (vs : List Value), l.map (ev ε) = vs.map some → l.map a.eval = vs := by
     intro l
     induction l with
     | nil => intro vs h; cases vs <;> simp_all
     | cons x l ih =>
       intro vs h
       cases vs with
       | nil => simp at h
       | cons v vs =>
         simp only [List.map_cons, List.cons.injEq] at h ⊢
         exact ⟨hf.ev h.1, ih vs h.2⟩
   exact this _ _ ha
 refine anyL_two hr (fun w hO hD => ?_) fun w hO hD => ?_
 · have hrm : i ∈ Region.ready .any ops ls := by simp [hr]
   have hc := hcall w hO
   rw [← e'] at hc
   exact .inr ⟨_, f, args, ats, _, ho, hf.wanted hw, hop, hc, fun s' v w' ⟨L', hL, hp⟩ => ⟨⟨L', hL, (h1 s' v L' hp).1⟩, (h1 s' v L' hp).2 _ (hf.put hd v) (hD.step hrm) _ hL⟩⟩
 · have hrm : j ∈ Region.ready .any ops ls := by simp [hr]
   refine .inl ?_
   unfold OpC
   have hww : Region.wanted ⟨d', k', ot', ps', af', g'⟩ (yielded ops a.tmps) = true := hf.wanted hw'
   simp only [ho', hww, if_true]
   intro w₁ h₁
   have hy' : wpS P (Δ s).New (execOp a.eval ⟨d', k', ot', ps', af', g'⟩) (fun x L' => onNext ⟨d', k', ot', ps', af', g'⟩ a (fun a' => Pre R L0 e s0 (ls.setIfInBounds j true) s L' ∧ AnyL Δ P main fn ops (upE N Q) nf R L0 e s0 fuel (ls.setIfInBounds j true) s a' L') x) L :=
     wpS_mono (fun x L' q => by cases x <;> first | exact ⟨(h2 _ _ q).1, (h2 _ _ q).2 _ (hf.put hd' _)⟩ | exact q.elim) _ _ (hy a hf)
   obtain ⟨x, w', hrun, hg, he, L', hL, hx⟩ := sound' (Δ s) ((Δ s).rely hO h₁) hy'
   exact upon_of (Δ := Δ) (s := s) (KL := fun a' L' => Pre R L0 e s0 (ls.setIfInBounds j true) s L' ∧ AnyL Δ P main fn ops (upE N Q) nf R L0 e s0 fuel (ls.setIfInBounds j true) s a' L') hrun hL hx fun a' k => ⟨(Δ s).dd hg fun e hm => he e (mem_listed hm), ⟨L', hL, k.1⟩, k.2 (hD.step hrm) _ hL⟩
end
end Go.Lo
namespace Go.Proofs.YtejkelcaljmnoaaGreatDoor
open Go.Conc Go.Hx Go.Lo
def cfgv (c : Nat → Int) (bo : Int) : Value := .agg #[.int .i64 (c 0), .int .i64 (c 1), .int .i64 (c 2), .int .i64 bo]
def arr3 (c : Nat → Int) : Value := .agg #[.int .i64 (c 0), .int .i64 (c 1), .int .i64 (c 2)]
def okc (c : Nat → Int) (bo : Int) : Bool := decide (((1 ≤ c 0 ∧ c 0 ≤ 10) ∧ (1 ≤ c 1 ∧ c 1 ≤ 10) ∧ (1 ≤ c 2 ∧ c 2 ≤ 10)) ∧ 1 ≤ bo ∧ bo ≤ 1000)
theorem idx24 (c : Nat → Int) {i : Nat} (hi : i < 3) : evR Tryz.prog (Instr.index 24 (arr3 c) (.int .i64 (i : Nat))) [] = some (.int .i64 (c i), []) := by
 have : i = 0 ∨ i = 1 ∨ i = 2 := by omega
 rcases this with rfl | rfl | rfl
 · show evR Tryz.prog (Instr.index 24 (arr3 c) (.int .i64 ((0 : Nat) : Int))) [] = some (.int .i64 (c 0), [])
   kernel_rfl
 · show evR Tryz.prog (Instr.index 24 (arr3 c) (.int .i64 ((1 : Nat) : Int))) [] = some (.int .i64 (c 1), [])
   kernel_rfl
 · show evR Tryz.prog (Instr.index 24 (arr3 c) (.int .i64 ((2 : Nat) : Int))) [] = some (.int .i64 (c 2), [])
   kernel_rfl
theorem isConfig_s : ∃ n, ∀ {σ : Type} {F : Fam σ} {Δ : ∀ s, Dom (F.R s) (F.D s)} {main : Bool} {s : σ} (L : Frag) (c : Nat → Int) (bo : Int), (∀ cs, (Δ s).New (.cells cs 26)) → Fun L →
   CallsL Δ Tryz.prog main 45 [cfgv c bo].toArray n s L (fun s' v L' => s = s' ∧ v = .bool (okc c bo) ∧ Ext L L') := by
 apply Exists.intro
 intro σ F Δ main s L c bo hN hF
 co_applyP callsE 25 Tryz.func45 Tryz.ntmps45
 co_applyP c_seq
 co_applyP c_region
 co_applyP oadd rfl (O_box (hN _))
 intro b L1 hA
 have hE : Ext L L1 := ⟨hA.fn, hA.sub⟩
 have hbo : At L1 b 3 (.int .i64 bo) := ⟨true, _, _, _, hA.self, rfl⟩
 co_applyP oy rfl E_as
 co_applyP o_nil
 change wpE ..
 co_applyP c_seq
 co_applyP c_seq
 co_applyP c_region
 co_applyP oy rfl (E_fa (hf := fo_26_0))
 co_applyP oy rfl (E_lda (ht := ag_24) (hs := sz_24) (hm := hA.self) (hi := by show 0 + 0 + 3 ≤ 4; decide))
 co_applyP oy rfl E_mv
 co_applyP o_nil
 change wpE ..
 co_applyP c_block
 rw [show (Value.agg (((cfgv c bo).cells).extract 0 (0 + 3))) = arr3 c from rfl]
 co_applyP c_loop (fun k s' ε' L' => s' = s ∧ L' = L1 ∧ ∃ i, i ≤ 3 ∧ k + i = 3 ∧ (∀ j, j < i → 1 ≤ c j ∧ c j ≤ 10) ∧ kn ε' [(1, ptr b), (6, arr3 c), (7, .int .i64 (i : Nat))]) 3
 · exact ⟨rfl, rfl, 0, by omega, rfl, by omega, rfl⟩
 rintro k s' ε' L' ⟨rfl, rfl, i, hi, hk, hok, he⟩
 co_applyP wpE_kn he
 have ei : IntKind.i64.wrap ((i : Int) + 1) = ((i + 1 : Nat) : Int) := by simp [IntKind.wrap_i64]; omega
 co_applyP c_seq
 co_applyP c_region
 co_applyP oy rfl E_lss
 co_applyP o_nil
 change wpE ..
 co_applyP c_seq
 co_applyP c_if rfl
 intro hlt
 · have hi3 : i < 3 := by simp at hlt; omega
   co_applyP c_skip
   change wpE ..
   co_applyP c_seq
   co_applyP c_block
   co_applyP c_seq
   co_applyP c_region
   co_applyP oy rfl (E_idx (idx24 c hi3))
   co_applyP oy rfl E_as
   co_applyP o_nil
   change wpE ..
   co_applyP c_seq
   co_applyP c_cut ([(15, .bool (decide (c i < 1 ∨ 10 < c i))), (1, ptr b), (6, arr3 c), (7, .int .i64 (i : Nat))])
   co_applyP c_region
   co_applyP oy rfl E_mv
   co_applyP oy rfl E_lss
   co_applyP oy rfl E_mv
   · by_cases h3 : c i < 1
     · have e3 : decide (c i < 1) = true := by simp [h3]
       rw [e3]
       co_applyP ou rfl
       co_applyP ou rfl
       co_applyP oy rfl E_pick
       co_applyP o_nil
       change _ = _ ∧ _ = _ ∧ kn _ _
       refine ⟨rfl, rfl, ?_⟩
       have e4 : true = decide (c i < 1 ∨ 10 < c i) := by simp [h3]
       rw [← e4]; rfl
     · have e3 : decide (c i < 1) = false := by simp; omega
       rw [e3]
       co_applyP oy rfl (E_mv)
       co_applyP oy rfl (E_gtr)
       co_applyP oy rfl E_pick
       co_applyP o_nil
       change _ = _ ∧ _ = _ ∧ kn _ _
       refine ⟨rfl, rfl, ?_⟩
       have e4 : decide (10 < c i) = decide (c i < 1 ∨ 10 < c i) := by simp [h3]
       rw [← e4]; rfl
   co_applyP c_if rfl
   intro hw
   co_applyP c_seq
   co_applyP c_region
   co_applyP oy rfl E_as
   co_applyP o_nil
   change wpE ..
   co_applyP c_ret
   change ∃ v, resE .. = some v ∧ _
   · have hw' : c i < 1 ∨ 10 < c i := by simpa using hw
     have e5 : okc c bo = false := by
       unfold okc
       simp only [decide_eq_false_iff_not]
       rintro ⟨h1, _⟩
       have : i = 0 ∨ i = 1 ∨ i = 2 := by omega
       rcases this with rfl | rfl | rfl <;> omega
     exact ⟨_, rfl, rfl, by rw [e5], hE⟩
   intro hw
   co_applyP c_skip
   change wpE ..
   co_applyP c_region
   co_applyP oy rfl E_add
   co_applyP oy rfl E_mv
   co_applyP o_nil
   change ∃ k', k' < _ ∧ _
   have hw' : ¬ (c i < 1 ∨ 10 < c i) := by simpa using hw
   refine ⟨k - 1, by omega, rfl, rfl, i + 1, by omega, by omega, fun j hj => ?_, by rw [← ei]; rfl⟩
   by_cases hj' : j = i
   · subst hj'; omega
   · exact hok j (by omega)
 intro hlt
 co_applyP c_exit
 change wpE ..
 co_applyP c_seq
 have hi3 : i = 3 := by simp at hlt; omega
 subst hi3
 co_applyP c_cut ([(2, .bool (okc c bo))])
 co_applyP c_region
 co_applyP oy rfl (E_fa (hf := fo_26_1))
 co_applyP oy rfl (E_ld (ht := ag_3))
 co_applyP oy rfl E_geq
 co_applyP oy rfl E_mv
 · by_cases h3 : 1 ≤ bo
   · have e3 : decide (1 ≤ bo) = true := by simp [h3]
     rw [e3]
     co_applyP oy rfl ((E_fa (hf := fo_26_1)))
     co_applyP oy rfl ((E_ld (ht := ag_3)))
     co_applyP oy rfl (E_leq)
     co_applyP oy rfl E_pick
     co_applyP oy rfl E_as
     co_applyP o_nil
     change _ = _ ∧ _ = _ ∧ kn _ _
     refine ⟨rfl, rfl, ?_⟩
     have e4 : decide (bo ≤ 1000) = okc c bo := by unfold okc; have h0 := hok 0 (by omega); have h1 := hok 1 (by omega); have h2 := hok 2 (by omega); simp [h3, h0, h1, h2]
     rw [← e4]; rfl
   · have e3 : decide (1 ≤ bo) = false := decide_eq_false h3
     rw [e3]
     co_applyP ou rfl
     co_applyP ou rfl
     co_applyP ou rfl
     co_applyP oy rfl E_pick
     co_applyP oy rfl E_as
     co_applyP o_nil
     change _ = _ ∧ _ = _ ∧ kn _ _
     refine ⟨rfl, rfl, ?_⟩
     have e4 : false = okc c bo := by unfold okc; symm; simp only [decide_eq_false_iff_not]; omega
     rw [← e4]; rfl
 co_applyP c_ret
 change ∃ v, resE .. = some v ∧ _
 exact ⟨_, rfl, rfl, rfl, hE⟩
def oki (n : Nat) : Bool := decide (0 < n ∧ n % 4 = 0 ∧ n ≤ 1024)
theorem isImage_s : ∃ n, ∀ {σ : Type} {F : Fam σ} {Δ : ∀ s, Dom (F.R s) (F.D s)} {main : Bool} {s : σ} (L : Frag) (base : Option Addr) (len cap : Nat),
   CallsL Δ Tryz.prog main 46 [.slice base len cap].toArray n s L (fun s' v L' => s = s' ∧ v = .bool (oki len) ∧ L = L') := by
 apply Exists.intro
 intro σ F Δ main s L base len cap
 co_applyP callsE 17 Tryz.func46 Tryz.ntmps46
 co_applyP c_seq
 co_applyP c_region
 co_applyP oy rfl E_as
 co_applyP o_nil
 change wpE ..
 co_applyP c_seq
 co_applyP c_region
 co_applyP oy rfl E_mv
 co_applyP oy rfl (E_len (hu := Tryz.underlying44))
 co_applyP oy rfl E_as
 co_applyP o_nil
 change wpE ..
 co_applyP c_seq
 co_applyP c_cut ([(2, .bool (oki len))])
 co_applyP c_region
 co_applyP oy rfl E_mv
 co_applyP oy rfl E_gtr
 co_applyP oy rfl E_mv
 · by_cases h3 : 0 < len
   · have e3 : decide ((0 : Int) < (len : Int)) = true := by simp [h3]
     rw [e3]
     co_applyP oy rfl (E_mv)
     co_applyP oy rfl (E_rem)
     rw [show Int.tmod (len : Int) 4 = ((len % 4 : Nat) : Int) by rw [Int.tmod_eq_emod_of_nonneg (by omega)]; rfl]
     co_applyP oy rfl (E_eql)
     co_applyP oy rfl E_pick
     co_applyP oy rfl E_mv
     by_cases h4 : len % 4 = 0
     · have e5 : (((len % 4 : Nat) : Int) == 0) = true := by simp [h4]
       rw [e5]
       co_applyP oy rfl (E_mv)
       co_applyP oy rfl (E_leq)
       co_applyP oy rfl E_pick
       co_applyP oy rfl E_as
       co_applyP o_nil
       change _ = _ ∧ _ = _ ∧ kn _ _
       refine ⟨rfl, rfl, ?_⟩
       have e4 : decide ((len : Int) ≤ 1024) = oki len := by unfold oki; simp only [h3, h4, true_and]; congr 1; simp; omega
       rw [← e4]; rfl
     · have e5 : (((len % 4 : Nat) : Int) == 0) = false := by simp; omega
       rw [e5]
       co_applyP ou rfl
       co_applyP ou rfl
       co_applyP oy rfl E_pick
       co_applyP oy rfl E_as
       co_applyP o_nil
       change _ = _ ∧ _ = _ ∧ kn _ _
       refine ⟨rfl, rfl, ?_⟩
       have e4 : false = oki len := by unfold oki; symm; simp only [decide_eq_false_iff_not]; omega
       rw [← e4]; rfl
   · have e3 : decide ((0 : Int) < (len : Int)) = false := by simp; omega
     rw [e3]
     co_applyP ou rfl
     co_applyP ou rfl
     co_applyP ou rfl
     co_applyP oy rfl E_pick
     co_applyP oy rfl E_mv
     co_applyP ou rfl
     co_applyP ou rfl
     co_applyP oy rfl E_pick
     co_applyP oy rfl E_as
     co_applyP o_nil
     change _ = _ ∧ _ = _ ∧ kn _ _
     refine ⟨rfl, rfl, ?_⟩
     have e4 : false = oki len := by unfold oki; symm; simp only [decide_eq_false_iff_not]; omega
     rw [← e4]; rfl
 co_applyP c_ret
 change ∃ v, resE .. = some v ∧ _
 exact ⟨_, rfl, rfl, rfl, rfl⟩
abbrev bts (im : Nat → Int) (n : Nat) : List Value := (List.range n).map fun i => Value.int .u8 (im i)
def insv (im : Nat → Int) (i : Nat) : Value := .agg #[.int .u8 (im i), .int .u8 (im (i + 1)), .int .u8 (im (i + 2)), .int .u8 (im (i + 3))]
theorem bld158 (a b c e : Int) : evR Tryz.prog (Instr.build 158 [(0, .int .u8 a), (1, .int .u8 b), (2, .int .u8 c), (3, .int .u8 e)].toArray) [] = some (.agg #[.int .u8 a, .int .u8 b, .int .u8 c, .int .u8 e], []) := by kernel_rfl
theorem zr_158 : zeroAt Tryz.prog 158 = some (.agg #[.int .u8 0, .int .u8 0, .int .u8 0, .int .u8 0]) := by kernel_rfl
theorem byt_158 : bytesAt Tryz.prog 158 = some 4 := by kernel_rfl
theorem bts4 (im : Nat → Int) (j : Nat) : bts im (4 * (j + 1)) = bts im (4 * j) ++ [.int .u8 (im (4 * j)), .int .u8 (im (4 * j + 1)), .int .u8 (im (4 * j + 2)), .int .u8 (im (4 * j + 3))] := by
 have : 4 * (j + 1) = 4 * j + 1 + 1 + 1 + 1 := by omega
 rw [this]
 simp only [bts, List.range_succ, List.map_append, List.map_cons, List.map_nil, List.append_assoc, List.cons_append, List.nil_append]
theorem decode_s : ∃ n, ∀ {σ : Type} {F : Fam σ} {Δ : ∀ s, Dom (F.R s) (F.D s)} {main : Bool} {s : σ} (L : Frag) (ib o len cap : Nat) (im : Nat → Int), (∀ cs, (Δ s).New (.cells cs 158)) → Fun L → len % 4 = 0 → len ≤ 1024 → (∀ i, i < len → At L ib (o + i) (.int .u8 (im i))) →
   CallsL Δ Tryz.prog main 47 [.slice (some ⟨ib, o, none⟩) len cap].toArray n s L (fun s' v L' => s = s' ∧ ∃ a, v = rowv a 4 (len / 4) ∧ slOk a (bts im len) 158 L' ∧ (∀ t ∈ L, a.b ≠ some t.1) ∧ Ext L L') := by
 apply Exists.intro
 intro σ F Δ main s L ib o len cap im hN hF h4 hle hat
 co_applyP callsE 36 Tryz.func47 Tryz.ntmps47
 co_applyP c_seq
 co_applyP c_region
 co_applyP oy rfl E_as
 co_applyP o_nil
 change wpE ..
 co_applyP c_seq
 co_applyP c_region
 co_applyP oy rfl E_as
 co_applyP o_nil
 change wpE ..
 co_applyP c_seq
 co_applyP c_seq
 co_applyP c_region
 co_applyP oy rfl E_as
 co_applyP o_nil
 change wpE ..
 co_applyP c_block
 co_applyP c_loop (fun c s' ε' L' => s' = s ∧ Ext L L' ∧ ∃ j a, 4 * j ≤ len ∧ c + j = 256 ∧ slOk a (bts im (4 * j)) 158 L' ∧ (∀ t ∈ L, a.b ≠ some t.1) ∧ kn ε' [(0, .slice (some ⟨ib, o, none⟩) len cap), (4, .int .i64 ((4 * j : Nat) : Int)), (3, rowv a 4 j)]) 256
 · exact ⟨rfl, ⟨hF, fun _ h => h⟩, 0, ⟨none, []⟩, by omega, rfl, ⟨rfl, rfl⟩, fun t ht => by simp, rfl⟩
 rintro c s' ε' L' ⟨rfl, hE, j, a, hj, hc, ha, han, he⟩
 co_applyP wpE_kn he
 have w0 : IntKind.i64.wrap (((4 * j : Nat) : Int) + 4) = ((4 * (j + 1) : Nat) : Int) := by simp [IntKind.wrap_i64]; omega
 have w1 : IntKind.i64.wrap (((4 * j : Nat) : Int) + 1) = ((4 * j + 1 : Nat) : Int) := by simp [IntKind.wrap_i64]; omega
 have w2 : IntKind.i64.wrap (((4 * j : Nat) : Int) + 2) = ((4 * j + 2 : Nat) : Int) := by simp [IntKind.wrap_i64]; omega
 have w3 : IntKind.i64.wrap (((4 * j : Nat) : Int) + 3) = ((4 * j + 3 : Nat) : Int) := by simp [IntKind.wrap_i64]; omega
 co_applyP c_seq
 co_applyP c_seq
 co_applyP c_region
 co_applyP oy rfl E_mv
 co_applyP oy rfl E_add
 co_applyP oy rfl E_mv
 co_applyP oy rfl (E_len (hu := Tryz.underlying44))
 co_applyP oy rfl E_leq
 co_applyP o_nil
 change wpE ..
 co_applyP c_if rfl
 intro hlt
 · rw [w0] at hlt
   have hlt' : 4 * (j + 1) ≤ len := by simp only [decide_eq_true_eq] at hlt; omega
   have hat' : ∀ i, i < 4 → At L' ib (o + (4 * j + i)) (.int .u8 (im (4 * j + i))) := fun i hi => by
     obtain ⟨fl, cs, ty, fr, h1, h2⟩ := hat (4 * j + i) (by omega)
     exact ⟨fl, cs, ty, fr, hE.s _ h1, h2⟩
   co_applyP c_skip
   change wpE ..
   co_applyP c_seq
   co_applyP c_block
   co_applyP c_draw [] 22 (nf := 0) mixed
   co_applyP tr (i := 0) rfl (E_mv) (pre_init (by simp))
   co_applyP tr (i := 1) rfl (E_mv) (pre_init (by simp))
   co_applyP tr (i := 2) rfl (E_mv) (pre_init (by simp))
   co_applyP tr (i := 3) rfl (E_ixs Tryz.underlying44 sz_5 (off := o + (4 * j)) (ho := by rw [Nat.mul_one, Int.toNat_natCast])) (pre_init (by simp))
   co_applyP t0 (i := 4) rfl (E_ld (ht := ag_5) (hv := hat' 0 (by omega))) (pre_init (by simp))
   co_applyP tr (i := 5) rfl (E_mv) (pre_init (by simp))
   co_applyP tr (i := 6) rfl (E_mv) (pre_init (by simp))
   co_applyP tr (i := 7) rfl (E_add) (pre_init (by simp))
   rw [w1]
   co_applyP tr (i := 8) rfl (E_ixs Tryz.underlying44 sz_5 (off := o + (4 * j + 1)) (ho := by rw [Nat.mul_one, Int.toNat_natCast])) (pre_init (by simp))
   co_applyP t0 (i := 9) rfl (E_ld (ht := ag_5) (hv := hat' 1 (by omega))) (pre_init (by simp))
   co_applyP tr (i := 10) rfl (E_mv) (pre_init (by simp))
   co_applyP tr (i := 11) rfl (E_mv) (pre_init (by simp))
   co_applyP tr (i := 12) rfl (E_add) (pre_init (by simp))
   rw [w2]
   co_applyP tr (i := 13) rfl (E_ixs Tryz.underlying44 sz_5 (off := o + (4 * j + 2)) (ho := by rw [Nat.mul_one, Int.toNat_natCast])) (pre_init (by simp))
   co_applyP t0 (i := 14) rfl (E_ld (ht := ag_5) (hv := hat' 2 (by omega))) (pre_init (by simp))
   co_applyP tr (i := 15) rfl (E_mv) (pre_init (by simp))
   co_applyP tr (i := 16) rfl (E_mv) (pre_init (by simp))
   co_applyP tr (i := 17) rfl (E_add) (pre_init (by simp))
   rw [w3]
   co_applyP tr (i := 18) rfl (E_ixs Tryz.underlying44 sz_5 (off := o + (4 * j + 3)) (ho := by rw [Nat.mul_one, Int.toNat_natCast])) (pre_init (by simp))
   co_applyP t0 (i := 19) rfl (E_ld (ht := ag_5) (hv := hat' 3 (by omega))) (pre_init (by simp))
   co_applyP tr (i := 20) rfl (E_build (bld158 _ _ _ _)) (pre_init (by simp))
   co_applyP tadd (i := 21) rfl (O_bsN (sz := 4) (hN := hN _) (hv := rfl) (hu := Tryz.underlying108) (hs := sz_158) (hz := zr_158) (h0 := by decide) (h24 := by decide))
   intro nb L1 hA
   refine ⟨pre_more (by simp) (fun t ht => hA.sub t ht), ?_⟩
   co_applyP anyE_nd
   intro hnd
   have hr : Reads Tryz.prog L1 4 1 (.slice (some ⟨nb, 0, none⟩) 1 1) [Value.int .u8 (im (4 * j)), .int .u8 (im (4 * j + 1)), .int .u8 (im (4 * j + 2)), .int .u8 (im (4 * j + 3))].toArray := by
     have := reads_m (P := Tryz.prog) (sz := 4) (n := 1) (len := 1) (cap := 1) (o := 0) hA.self (by show 0 + 1 * 4 ≤ 4; decide)
     exact this
   co_applyP te (i := 22) rfl (O_apN (a := a) (by_ := 3) (xs := bts im (4 * j)) (n := j) (m := 1) (hnd := hnd) (hu := Tryz.underlying108) (hs := sz_158) (hb := byt_158) (hz := zr_158) (hzs := rfl) (hN := hN) (ha := ha.mono fun c hc o ho => hA.sub _ ho) (hn := by simp; omega) (hr := hr) (hm := rfl) (hpl := rfl) (h0 := by decide) (hm0 := by decide) (h8 := by omega))
   rintro _ _ ⟨a', rfl, hp⟩
   refine ⟨pre_late (by simp), ?_⟩
   co_applyP to (i := 23) rfl (E_as) (pre_late (by simp))
   co_applyP td (by kernel_rfl)
   change wpE ..
   co_applyP c_region
   co_applyP oy rfl E_mv
   co_applyP oy rfl E_add
   co_applyP oy rfl E_as
   co_applyP o_nil
   change ∃ k', k' < _ ∧ _
   refine ⟨c - 1, by omega, rfl, ⟨hp.fn, fun t ht => hp.sub _ (hA.sub _ (hE.s _ ht)) (han t ht)⟩, j + 1, a', by omega, by omega, ?_, fun t ht e => ?_, by rw [w0]; rfl⟩
   · rw [bts4]; exact hp.ok
   · rcases hp.d _ e with h | h
     · exact han t ht h
     · exact h _ (hA.sub _ (hE.s _ ht)) rfl
 intro hlt
 co_applyP c_exit
 change wpE ..
 co_applyP c_seq
 co_applyP c_region
 co_applyP oy rfl E_mv
 co_applyP oy rfl E_as
 co_applyP o_nil
 change wpE ..
 co_applyP c_ret
 change ∃ v, resE .. = some v ∧ _
 rw [w0] at hlt
 have hj4 : 4 * j = len := by simp at hlt; omega
 have hj4' : len / 4 = j := by omega
 exact ⟨_, rfl, rfl, a, by rw [hj4'], by rw [← hj4]; exact ha, han, hE⟩
end Go.Proofs.YtejkelcaljmnoaaGreatDoor
