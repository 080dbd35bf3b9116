/-
  Part 12 of the proof.
  No condition but those that each statement names.
-/
import Derived.Test.YtejkelcaljmnoaaGreatDoorHy11
set_option maxRecDepth 100000
set_option linter.unusedVariables false
set_option linter.unusedSimpArgs false
set_option linter.unusedSectionVars false
namespace Go.Lo
open Go.Conc Go.Hx
section
variable {P : Program} {New : Obj → Prop} {L : Frag} {Q : Next → Frag → Prop} {ρ : Operand → Value} {d : Option Tmp} {ty : TypeId} {ps : String} {af : Array Edge} {g : Option (Nat × Bool)}
theorem cells_plain {v : Value} (h : plainV v = true) : v.cells = #[v] := by cases v <;> first | rfl | cases h
theorem e_store {t : TypeId} {x y : Operand} {b i n : Nat} {v : Value} {cs : Array Value} {e : TypeId} (hx : ρ x = .pointer (some ⟨b, i, none⟩)) (hy : ρ y = v) (hs : sizeAt P t = some 1) (hn : L[n]? = some (b, true, .cells cs e)) (hi : i < cs.size) (hp : plainV v = true)
   (hQ : Q .skip (L.set n (b, true, .cells (cs.setIfInBounds i v) e))) : wpS P New (execOp ρ ⟨d, .store t x y, ty, ps, af, g⟩) Q L := by
 show wpS P New (Instr.storeAt t (ρ x) (ρ y) >>= fun _ => pure .skip) Q L
 unfold Instr.storeAt storeVar
 rw [hx, hy, wpS_bind, wpS_bind, wpS_sureAddr, wpS_bind, wpS_sizeOf hs, cells_plain hp]
 simp only [List.size_toArray, List.length_cons, List.length_nil, Nat.zero_add, ne_eq, not_true_eq_false, if_false]
 refine wpS_storeCells hn (by simp; omega) (by simpa using hp) ?_
 exact hQ
theorem e_storeAgg {t : TypeId} {x y : Operand} {b i n m : Nat} {vs : List Value} {cs : Array Value} {e : TypeId} (hx : ρ x = .pointer (some ⟨b, i, none⟩)) (hy : ρ y = .agg vs.toArray) (hs : sizeAt P t = some m) (hm : vs.length = m) (hn : L[n]? = some (b, true, .cells cs e)) (hi : i + vs.length ≤ cs.size) (hp : vs.all plainV = true)
   (hQ : Q .skip (L.set n (b, true, .cells (puts cs i vs) e))) : wpS P New (execOp ρ ⟨d, .store t x y, ty, ps, af, g⟩) Q L := by
 show wpS P New (Instr.storeAt t (ρ x) (ρ y) >>= fun _ => pure .skip) Q L
 unfold Instr.storeAt storeVar
 rw [hx, hy, wpS_bind, wpS_bind, wpS_sureAddr, wpS_bind, wpS_sizeOf hs]
 simp only [Value.cells, List.size_toArray, hm, ne_eq, not_true_eq_false, if_false]
 exact wpS_storeCells hn hi hp hQ
theorem e_alloc {t : TypeId} {z : Value} (hz : zeroAt P t = some z) (hN : New (.cells z.cells t)) (hQ : ∀ b, (∀ t ∈ L, t.1 ≠ b) → Q (.value (.pointer (some ⟨b, 0, none⟩))) ((b, true, .cells z.cells t) :: L)) : wpS P New (execOp ρ ⟨d, .alloc t, ty, ps, af, g⟩) Q L := by
 show wpS P New (Instr.alloc t true (.tuple #[]) >>= fun v => pure (.value v)) Q L
 unfold Instr.alloc newVar newRow
 rw [wpS_bind, wpS_bind, wpS_zeroValue hz]
 simp only [wpS_bind]
 exact wpS_newObj hN hQ
theorem e_box {t : TypeId} {x : Operand} {v : Value} (hx : ρ x = v) (hN : New (.cells v.cells t)) (hQ : ∀ b, (∀ t ∈ L, t.1 ≠ b) → Q (.value (.pointer (some ⟨b, 0, none⟩))) ((b, true, .cells v.cells t) :: L)) : wpS P New (execOp ρ ⟨d, .box t x, ty, ps, af, g⟩) Q L := by
 show wpS P New (Instr.box t (ρ x) >>= fun v => pure (.value v)) Q L
 unfold Instr.box newVar newRow
 rw [hx]
 simp only [wpS_bind]
 exact wpS_newObj hN hQ
theorem e_makeMap {t : TypeId} (hN : New (.map #[] 0)) (hQ : ∀ b, (∀ t ∈ L, t.1 ≠ b) → Q (.value (.map (some b))) ((b, true, .map #[] 0) :: L)) : wpS P New (execOp ρ ⟨d, .makeMap t none, ty, ps, af, g⟩) Q L := by
 show wpS P New (Instr.makeMap t none >>= fun v => pure (.value v)) Q L
 unfold Instr.makeMap
 simp only [wpS_bind, wpS_pure]
 exact wpS_newObj hN hQ
theorem e_buildSlice1 {t e : TypeId} {x : Operand} {v z : Value} (hx : ρ x = v) (hu : P.underlying t = some (.slice e)) (hs : sizeAt P e = some 1) (hz : zeroAt P e = some z) (hzp : plainV z = true) (hp : plainV v = true) (hN : New (.cells #[v] e))
   (hQ : ∀ b, (∀ t ∈ L, t.1 ≠ b) → Q (.value (.slice (some ⟨b, 0, none⟩) 1 1)) ((b, true, .cells #[v] e) :: L)) : wpS P New (execOp ρ ⟨d, .buildSlice t 1 #[(0, x)], ty, ps, af, g⟩) Q L := by
 simp only [execOp, List.map_toArray, List.map_cons, List.map_nil]
 unfold Instr.buildSlice newRow
 have h0 : Instr.fill (fun i => some (i * 1, 1)) ((Array.range (1 * 1)).map (#[z][· % #[z].size]!)) [(0, v)] = some #[v] := by
   have e1 : (Array.range (1 * 1)).map (#[z][· % #[z].size]!) = #[z] := by
     have : Array.range (1 * 1) = #[0] := by decide
     rw [this]; simp
   rw [e1]
   simp [Instr.fill, cells_plain hp]
 rw [wpS_bind, wpS_bind, wpS_underlying hu, hx]
 simp only []
 rw [wpS_bind, wpS_sizeOf hs]
 simp only [Nat.one_mul, gt_iff_lt, Nat.reduceLT, Nat.reducePow, if_false, Nat.one_ne_zero]
 rw [wpS_bind, wpS_zeroValue hz, wpS_bind, wpS_pure, cells_plain hzp]
 simp only [Nat.one_mul] at h0
 simp only [h0, wpS_bind]
 exact wpS_newObj hN hQ
theorem growBy_le (n : Nat) : ∀ (r c : Nat), c ≤ n → Builtin.growBy n r c ≤ 2 * n + 192
 | 0, c, h => by unfold Builtin.growBy; omega
 | r + 1, c, h => by
   unfold Builtin.growBy
   split
   · omega
   · rename_i hc
     by_cases h2 : c + (c + 768) / 4 ≤ n
     · exact growBy_le n r _ h2
     · cases r with
       | zero => unfold Builtin.growBy; omega
       | succ r => unfold Builtin.growBy; rw [if_pos (by omega)]; omega
theorem nextcap_le {n c : Nat} (h : c < n) : Builtin.nextslicecap n c ≤ 2 * n + 192 := by
 unfold Builtin.nextslicecap
 split
 · omega
 · split
   · omega
   · exact growBy_le n 4 c (by omega)
structure Reads (P : Program) (L : Frag) (sz n : Nat) (x : Value) (vs : Array Value) : Prop where
 r : ∀ (New : Obj → Prop) (Q : Array Value → Frag → Prop), Q vs L → wpS P New (Builtin.firstCells sz n x) Q L
theorem reads_none {sz n len cap : Nat} : Reads P L sz n (.slice none len cap) #[] := ⟨fun _ _ hQ => hQ⟩
theorem call_builtin {b : Builtin} {args : Array Operand} {ats : Array TypeId} {s : Sem Value} (hb : ∀ cs, builtin b ats ty cs (args.map ρ) = (s >>= fun v => pure (.value v))) (h : wpS P New s (fun v L' => Q (.value v) L') L) : wpS P New (execOp ρ ⟨d, .call ⟨.builtin b, args, ats⟩, ty, ps, af, g⟩) Q L := by
 show wpS P New (builtin b ats ty _ (args.map ρ)) Q L
 rw [hb, wpS_bind]
 exact h
theorem wpS_askRoom {n : Nat} {Q : Unit → Frag → Prop} (h : Q () L) : wpS P New (askRoom n) Q L := by
 unfold askRoom
 split
 · exact ⟨rfl, h⟩
 · exact h
theorem e_appendIn {x y : Operand} {t u e e2 : TypeId} {sz sLen sCap b o n m : Nat} {yb : Option Addr} {yc : Nat} {vs : Array Value} {cs : Array Value} {e' : TypeId} (hx : ρ x = .slice (some ⟨b, o, none⟩) sLen sCap) (hy : ρ y = .slice yb n yc) (hu : P.underlying t = some (.slice e)) (hv : P.underlying u = some (.slice e2)) (hs : sizeAt P e = some sz)
   (hr : Reads P L sz n (.slice yb n yc) vs) (hc : sLen + n ≤ sCap) (hm : L[m]? = some (b, true, .cells cs e')) (ho : o + sLen * sz + vs.size ≤ cs.size) (hp : vs.toList.all plainV = true)
   (hQ : Q (.value (.slice (some ⟨b, o, none⟩) (sLen + n) sCap)) (L.set m (b, true, .cells (puts cs (o + sLen * sz) vs.toList) e'))) : wpS P New (execOp ρ ⟨d, .call ⟨.builtin .append, #[x, y], #[t, u]⟩, ty, ps, af, g⟩) Q L := by
 refine call_builtin (s := Builtin.append_ #[t, u] ty #[.slice (some ⟨b, o, none⟩) sLen sCap, .slice yb n yc]) (fun _ => by simp [builtin, hx, hy]) ?_
 unfold Builtin.append_
 simp only [List.getElem?_toArray, List.getElem?_cons_zero, List.getElem?_cons_succ]
 rw [wpS_bind, wpS_underlying hu]
 simp only []
 rw [wpS_bind, wpS_sizeOf hs]
 rw [wpS_bind, wpS_underlying hv, wpS_bind, wpS_pure]
 simp only [Bool.false_eq_true, if_false, Bool.not_false, if_true, Builtin.lenOf]
 rw [wpS_bind, wpS_pure]
 simp only [hc, if_true]
 rw [wpS_bind]
 refine hr.r New _ ?_
 rw [wpS_bind, addr_add]
 exact wpS_storeCells hm (by simpa using ho) hp hQ
theorem e_appendNew {x y : Operand} {t u e e2 : TypeId} {sz by_ sLen sCap n : Nat} {xb yb : Option Addr} {yc : Nat} {ws vs : Array Value} {z : Value} (hx : ρ x = .slice xb sLen sCap) (hy : ρ y = .slice yb n yc) (hu : P.underlying t = some (.slice e)) (hv : P.underlying u = some (.slice e2)) (hs : sizeAt P e = some sz) (hb : bytesAt P e = some (by_ + 1)) (hz0 : zeroAt P e = some z)
   (hw : Reads P L sz sLen (.slice xb sLen sCap) ws) (hr : Reads P L sz n (.slice yb n yc) vs) (hc : sCap < sLen + n) (hbig : (2 * (sLen + n) + 192) * (by_ + 1) ≤ 281474976710656) (hN : ∀ cs, New (.cells cs e))
   (hQ : ∀ b cap, (∀ t ∈ L, t.1 ≠ b) → sLen + n ≤ cap → cap < 9223372036854775808 → Q (.value (.slice (some ⟨b, 0, none⟩) (sLen + n) cap)) ((b, true, .cells (ws ++ vs ++ Builtin.zeroCells z.cells (cap - (sLen + n))) e) :: L)) : wpS P New (execOp ρ ⟨d, .call ⟨.builtin .append, #[x, y], #[t, u]⟩, ty, ps, af, g⟩) Q L := by
 refine call_builtin (s := Builtin.append_ #[t, u] ty #[.slice xb sLen sCap, .slice yb n yc]) (fun _ => by simp [builtin, hx, hy]) ?_
 unfold Builtin.append_
 simp only [List.getElem?_toArray, List.getElem?_cons_zero, List.getElem?_cons_succ]
 obtain ⟨inf, hinf, hby⟩ := Option.map_eq_some_iff.1 hb
 rw [wpS_bind, wpS_underlying hu]
 simp only []
 rw [wpS_bind, wpS_sizeOf hs]
 rw [wpS_bind, wpS_underlying hv, wpS_bind, wpS_pure]
 simp only [Bool.false_eq_true, if_false, Bool.not_false, if_true, Builtin.lenOf]
 rw [wpS_bind, wpS_pure]
 have h1 : ¬ (sLen + n ≤ sCap) := by omega
 simp only [h1, if_false]
 rw [wpS_bind, wpS_typeInfo hinf]
 have h2 : ¬ (((sLen + n : Nat) : Int) > IntKind.i64.max ∧ (False ∨ inf.bytes = 0)) := by rw [hby]; rintro ⟨_, h | h⟩ <;> simp at h
 simp only [h2, if_false]
 rw [wpS_bind, wpS_typeInfo hinf]
 have h3 : ¬ (Builtin.nextslicecap (sLen + n) sCap * inf.bytes > 2 ^ 48) := by
   rw [hby]
   have := Nat.mul_le_mul_right (by_ + 1) (nextcap_le hc)
   omega
 simp only [h3, if_false]
 rw [wpS_bind]
 have hlt : sLen + n < 9223372036854775808 := by
   have : 2 * (sLen + n) + 192 ≤ (2 * (sLen + n) + 192) * (by_ + 1) := Nat.le_mul_of_pos_right _ (by omega)
   omega
 refine ⟨fun h => by simp [Question.forced] at h, fun _ tp => ?_⟩
 have hcap : sLen + n ≤ Question.cut (.appendCap (sLen + n) sCap e) tp ∧ Question.cut (.appendCap (sLen + n) sCap e) tp < 9223372036854775808 := by
   simp only [Question.cut]
   have := Nat.mod_lt tp (show 2 ^ 63 - (sLen + n) > 0 by omega)
   omega
 generalize Question.cut (.appendCap (sLen + n) sCap e) tp = cap at hcap ⊢
 rw [wpS_pure', wpS_bind, wpS_typeInfo hinf, wpS_bind]
 refine wpS_askRoom ?_
 rw [wpS_bind]
 refine hw.r New _ ?_
 rw [wpS_bind]
 refine hr.r New _ ?_
 rw [wpS_bind, wpS_zeroValue hz0]
 simp only [newRow, wpS_bind]
 exact wpS_newObj (hN _) fun b hb => hQ b cap hb hcap.1 hcap.2
end
section
variable {σ : Type} (F : Fam σ) (P : Program) (main : Bool) (fn : FuncId) (ops : Array Oper) (S : Array Bool → σ → World → Prop) (Q : σ → Exit → Act → World → Prop) (nf : Nat)
def AnyY : Nat → Array Bool → σ → Act → World → Prop
 | 0, ls, s, a, w => Region.ready .any ops ls = [] ∧ Q s .normal a w
 | fuel + 1, ls, s, a, w =>
   (Region.ready .any ops ls = [] → Q s .normal a w) ∧
   ∀ i ∈ Region.ready .any ops ls, OpX F P main fn ops nf i (fun s' a' w' => S (ls.setIfInBounds i true) s' w' ∧ AnyY fuel (ls.setIfInBounds i true) s' a' w') s a w
def Down (ls : Array Bool) : Prop := ls.size = ops.size ∧ ∀ j oj, ops[j]? = some oj → ls.getD j true = true → ∀ e ∈ oj.after, Region.binds .any e = true → ls.getD e.on false = true
end
def hangs (ops : Array Oper) : Nat → Nat → Nat → Bool
 | 0, _, _ => false
 | f + 1, e, i => match ops[e]? with
   | some oe => oe.after.any fun ed => Region.binds .any ed && (ed.on == i || hangs ops f ed.on i)
   | none => false
section
variable {ops : Array Oper} {ls : Array Bool}
theorem getD_tf {i : Nat} (h : ls.getD i false = true) : ls.getD i true = true := by
 simp only [Array.getD_eq_getD_getElem?] at *
 cases hx : ls[i]? <;> simp_all
theorem Down.hangs (h : Down ops ls) : ∀ (f e i : Nat), Lo.hangs ops f e i = true → ls.getD e true = true → ls.getD i false = true
 | 0, _, _, hh, _ => by simp [Lo.hangs] at hh
 | f + 1, e, i, hh, he => by
   unfold Lo.hangs at hh
   split at hh
   · rename_i oe hoe
     obtain ⟨ed, hed, hb⟩ := Array.any_eq_true'.1 hh
     simp only [Bool.and_eq_true, Bool.or_eq_true, beq_iff_eq] at hb
     have h1 := h.2 e oe hoe he ed hed hb.1
     rcases hb.2 with rfl | h2
     · exact h1
     · exact h.hangs f ed.on i h2 (getD_tf h1)
   · cases hh
theorem set_getD {i j : Nat} {d : Bool} (h : ls.getD j d = true) : (ls.setIfInBounds i true).getD j d = true := by
 simp only [Array.getD_eq_getD_getElem?, Array.getElem?_setIfInBounds] at *
 split
 · split <;> simp_all
 · exact h
theorem Down.step (h : Down ops ls) {i : Nat} (hi : i ∈ Region.ready .any ops ls) : Down ops (ls.setIfInBounds i true) := by
 obtain ⟨hun, oi, hoi, hall⟩ := mem_ready.1 hi
 refine ⟨by simpa using h.1, fun j oj hoj hj e he hb => ?_⟩
 by_cases hji : i = j
 · subst hji
   obtain rfl := Option.some.inj (hoi.symm.trans hoj)
   exact set_getD (hall e he hb)
 · refine set_getD (h.2 j oj hoj ?_ e he hb)
   simpa [Array.getD_eq_getD_getElem?, Array.getElem?_setIfInBounds, hji] using hj
theorem down_start : Down ops (Array.replicate ops.size false) := by
 refine ⟨by simp, fun j oj hoj hj => ?_⟩
 have : j < ops.size := (Array.getElem?_eq_some_iff.1 hoj).1
 simp [Array.getD_eq_getD_getElem?, this] at hj
end
section
variable {σ : Type} {F : Fam σ} {P : Program} {main : Bool} {fn : FuncId} {ops : Array Oper} {S : Array Bool → σ → World → Prop} {Q : σ → Exit → Act → World → Prop} {nf : Nat}
theorem AnyY.rely (hSR : ∀ ls s x y, S ls s x → F.R s x y → S ls s y) (hQR : ∀ s a x y, Q s .normal a x → F.R s x y → Q s .normal a y) :
   ∀ (fuel : Nat) (ls : Array Bool) (s : σ) (a : Act) (w w₁ : World), AnyY F P main fn ops S Q nf fuel ls s a w → F.R s w w₁ → AnyY F P main fn ops S Q nf fuel ls s a w₁
 | 0, _, _, _, _, _, h, r => ⟨h.1, hQR _ _ _ _ h.2 r⟩
 | fuel + 1, ls, s, a, w, w₁, h, r => ⟨fun e => hQR _ _ _ _ (h.1 e) r, fun i hi => by
     rcases h.2 i hi with this | ⟨o, f, args, ats, Post, h1, h2, h3, h4, h5⟩
     · refine .inl ?_
       unfold OpC at *
       split
       · simp_all
       · rename_i o ho
         simp only [ho] at this
         split
         · rename_i hw; simp only [hw, if_true] at this; exact fun w₂ h₂ => this w₂ ((F.terms s).trans _ _ _ r h₂)
         · rename_i hw; simp only [hw] at this; exact ⟨hSR _ _ _ _ this.1 r, AnyY.rely hSR hQR fuel _ _ _ _ _ this.2 r⟩
     · exact .inr ⟨o, f, args, ats, Post, h1, h2, h3, callsX_rely h4 r, h5⟩⟩
theorem anyY_sound : ∀ (fuel t : Nat) (ls : Array Bool) (s : σ) (a : Act) (w : World), AnyY F P main fn ops S Q nf fuel ls s a w →
   OpsX F P main fn ops (Region.linearise.go .any ops fuel t ls []) (fuel * (nf + 3) + 1) s Q a w := by
 intro fuel
 induction fuel with
 | zero => intro t ls s a w h; simpa [Region.linearise.go] using opsX_nil h.2
 | succ fuel ih =>
   intro t ls s a w h
   obtain ⟨h₀, h₁⟩ := h
   simp only [Region.linearise.go]
   change OpsX F P main fn ops (match (Region.ready .any ops ls)[t % (Region.ready .any ops ls).length]? with
     | some i => Region.linearise.go .any ops fuel (t / (Region.ready .any ops ls).length) (ls.setIfInBounds i true) [i]
     | none => [].reverse) ((fuel + 1) * (nf + 3) + 1) s Q a w
   cases hi : (Region.ready .any ops ls)[t % (Region.ready .any ops ls).length]? with
   | none =>
     have hnil : Region.ready .any ops ls = [] := by
       cases hr : Region.ready .any ops ls with
       | nil => rfl
       | cons x xs =>
         rw [hr] at hi
         have hlt : t % (x :: xs).length < (x :: xs).length := Nat.mod_lt _ (by simp)
         simp at hi
         simp at hlt
         omega
     exact opsX_more (by simpa using opsX_nil (h₀ hnil)) (by omega)
   | some i =>
     simp only []
     rw [linearise_go_acc, List.reverse_singleton, List.singleton_append]
     have := opsX_of_opX (OpX_mono (fun s' a' w' x => ih (t / (Region.ready .any ops ls).length) _ s' a' w' x.2) (h₁ i (List.mem_of_getElem? hi)))
     exact opsX_more this (by rw [Nat.succ_mul]; omega)
theorem OpX_put {j : Nat} {oi oj : Oper} {v : Value} (hj : ops[j]? = some oj) (hap : oi.apart ops oj = true)
   (hsj : ∀ cs b, oj.op ≠ .select cs b) {K : σ → Act → World → Prop} {s : σ} {a : Act} {w : World} (h : OpX F P main fn ops nf j K s (a.put oi.dst v) w) :
   OpX F P main fn ops nf j (fun s' a' w' => (∃ u, a' = a.put oj.dst u) ∧ K s' (a'.put oi.dst v) w') s a w := by
 obtain ⟨h1, h2, h3⟩ := Oper.apart_spec hap
 rcases h with h | ⟨o, f, args, ats, Post, g1, g2, g3, g4, g5⟩
 · refine .inl ?_
   unfold OpC at *
   simp only [hj] at *
   rw [wanted_put oj a oi.dst v h1] at h
   split
   · rename_i hw
     simp only [hw, if_true] at h
     intro w₁ h₁
     have h := h w₁ h₁
     unfold listed at *
     rw [execOp_put oj hsj a oi.dst v h1] at h
     generalize (execOp a.eval oj).run P w₁ = r at *
     cases r with
     | ok n w' =>
       cases n <;> simp only [uponK] at h ⊢
       case value u => exact ⟨h.1, ⟨u, rfl⟩, by rw [← Act.put_comm a v u h2]; exact h.2⟩
       case skip => exact ⟨h.1, ⟨_, rfl⟩, by rw [← Act.put_comm a v undef h2]; exact h.2⟩
     | halt x w' => simp only [uponK] at h
   · rename_i hw
     simp only [hw] at h
     exact ⟨⟨_, rfl⟩, by rw [← Act.put_comm a v undef h2]; exact h⟩
 · obtain rfl : oj = o := Option.some.inj (hj.symm.trans g1)
   refine .inr ⟨oj, f, args, ats, Post, hj, by rw [wanted_put oj a oi.dst v h1] at g2; exact g2, g3, ?_, fun s' u w' hp => ⟨⟨u, rfl⟩, by rw [← Act.put_comm a v u h2]; exact g5 s' u w' hp⟩⟩
   have : args.map (a.put oi.dst v).eval = args.map a.eval := by
     apply Array.map_congr_left
     intro x hx
     refine Act.eval_put fun d hd hxd => h1 d hd ?_
     subst hxd
     refine List.mem_append_left _ (List.mem_filterMap.2 ⟨.tmp d, ?_, rfl⟩)
     simp [g3, Op.operands, Call.operands, hx]
   rw [this] at g4
   exact g4
def YY (F : Fam σ) (P : Program) (fn : FuncId) (ops : Array Oper) (S : Array Bool → σ → World → Prop) (i : Nat) (oi : Oper) (v : Value) (a : Act) : Prop :=
 ∀ ls, Down ops ls → ls.getD i true = false → YieldsX F P fn ops (S ls) oi v a
theorem anyY_first (hSR : ∀ ls s x y, S ls s x → F.R s x y → S ls s y) (hQR : ∀ s a x y, Q s .normal a x → F.R s x y → Q s .normal a y) {i : Nat} {oi : Oper} {v : Value} (hi : ops[i]? = some oi)
   (hsel : ∀ (j : Nat) (o : Oper) cs b, ops[j]? = some o → o.op ≠ .select cs b) (hSi : ∀ ls s w, S ls s w ↔ S (ls.setIfInBounds i true) s w) :
   ∀ (fuel : Nat) (ls : Array Bool) (s : σ) (a : Act) (w : World), Down ops ls →
     (∀ j oj, ops[j]? = some oj → j ≠ i → ls.getD j true = false → (∀ e ∈ oj.after, Region.binds .any e = true → e.on ≠ i) → oi.apart ops oj = true) →
     i ∈ Region.ready .any ops ls → YY F P fn ops S i oi v a → S ls s w →
     AnyY F P main fn ops S Q nf fuel (ls.setIfInBounds i true) s (a.put oi.dst v) w → AnyY F P main fn ops S Q nf (fuel + 1) ls s a w := by
 have hK : ∀ fuel ls, ∀ s a x y, (S ls s x ∧ AnyY F P main fn ops S Q nf fuel ls s a x) → F.R s x y → (S ls s y ∧ AnyY F P main fn ops S Q nf fuel ls s a y) :=
   fun fuel ls s a x y h r => ⟨hSR _ _ _ _ h.1 r, AnyY.rely hSR hQR fuel ls s a x y h.2 r⟩
 intro fuel
 induction fuel with
 | zero =>
   intro ls s a w hD _ hr hy hS H
   refine ⟨fun h => (by rw [h] at hr; cases hr), fun j hj => ?_⟩
   have hun := (mem_ready.1 hr).1
   by_cases hji : j = i
   · subst hji; exact (hy ls hD hun).opX (hSR ls) hi (hK _ _) hS ⟨(hSi _ _ _).1 hS, H⟩
   · have := ready_mono hj hji
     rw [H.1] at this
     cases this
 | succ fuel ih =>
   intro ls s a w hD hfree hr hy hS H
   have hun := (mem_ready.1 hr).1
   refine ⟨fun h => (by rw [h] at hr; cases hr), fun j hj => ?_⟩
   by_cases hji : j = i
   · subst hji; exact (hy ls hD hun).opX (hSR ls) hi (hK _ _) hS ⟨(hSi _ _ _).1 hS, H⟩
   · have h1 := H.2 j (ready_mono hj hji)
     obtain ⟨hjun, oj, hoj, hall⟩ := mem_ready.1 hj
     have hnot : ∀ e ∈ oj.after, Region.binds .any e = true → e.on ≠ i := fun e he hb heq => by
       have h1 := hall e he hb
       have h0 := (mem_ready.1 hr).1
       rw [heq] at h1
       rcases Nat.lt_or_ge i ls.size with h' | h'
       · simp [h'] at h0 h1; rw [h0] at h1; cases h1
       · simp [Array.getElem?_eq_none h'] at h1
     have hap := hfree j oj hoj hji hjun hnot
     obtain ⟨g1, g2, g3⟩ := Oper.apart_spec hap
     have h2 := OpX_put hoj hap (fun cs b => hsel j oj cs b hoj) h1
     have hfree' : ∀ k ok, ops[k]? = some ok → k ≠ i → (ls.setIfInBounds j true).getD k true = false →
         (∀ e ∈ ok.after, Region.binds .any e = true → e.on ≠ i) → oi.apart ops ok = true := fun k ok hk hki hun hno => by
       refine hfree k ok hk hki ?_ hno
       by_cases hjk : j = k
       · subst hjk; exact hjun
       · rw [getD_set_ne true hjk] at hun; exact hun
     have hun' : (ls.setIfInBounds j true).getD i true = false := by rw [getD_set_ne true hji]; exact hun
     refine OpX_mono (fun s' a' w' h3 => ?_) h2
     obtain ⟨⟨u, rfl⟩, h4, h5⟩ := h3
     have hS' : S (ls.setIfInBounds j true) s' w' := by
       rw [hSi, Array.setIfInBounds_comm _ _ hji]
       exact h4
     refine ⟨hS', ih (ls.setIfInBounds j true) s' _ w' (hD.step hj) hfree' (ready_mono hr (Ne.symm hji)) (fun ls' d' u' s => (hy ls' d' u' s).of_same (execOp_put oi (fun cs b => hsel i oi cs b hi) a oj.dst u g3) (wanted_put oi a oj.dst u g3)) hS' ?_⟩
     rw [Array.setIfInBounds_comm _ _ hji]
     exact h5
theorem anyY_take (hSR : ∀ ls s x y, S ls s x → F.R s x y → S ls s y) (hQR : ∀ s a x y, Q s .normal a x → F.R s x y → Q s .normal a y) {i : Nat} {oi : Oper} {v : Value} {fuel : Nat} {ls : Array Bool} {s : σ} {a : Act} {w : World} (hi : ops[i]? = some oi)
   (hs : Region.noSelect ops = true) (hf : Region.free .any ops ls i = true) (hr : (Region.ready .any ops ls).contains i = true) (hD : Down ops ls) (hSi : ∀ ls s w, S ls s w ↔ S (ls.setIfInBounds i true) s w)
   (hy : YY F P fn ops S i oi v a) (hS : S ls s w) (h : AnyY F P main fn ops S Q nf fuel (ls.setIfInBounds i true) s (a.put oi.dst v) w) : AnyY F P main fn ops S Q nf (fuel + 1) ls s a w :=
 anyY_first hSR hQR hi (Region.noSelect_spec hs) hSi fuel ls s a w hD (Region.free_spec hi hf) (by simpa using hr) hy hS h
theorem anyY_all {rs : List Nat} {fuel : Nat} {ls : Array Bool} {s : σ} {a : Act} {w : World} (hr : Region.ready .any ops ls = rs) (hne : rs ≠ [])
   (h : ∀ i ∈ rs, OpX F P main fn ops nf i (fun s' a' w' => S (ls.setIfInBounds i true) s' w' ∧ AnyY F P main fn ops S Q nf fuel (ls.setIfInBounds i true) s' a' w') s a w) : AnyY F P main fn ops S Q nf (fuel + 1) ls s a w :=
 ⟨fun h0 => absurd (hr ▸ h0) hne, hr ▸ h⟩
theorem anyY_done {ls : Array Bool} {s : σ} {a : Act} {w : World} (hr : Region.ready .any ops ls = []) (h : Q s .normal a w) : ∀ fuel, AnyY F P main fn ops S Q nf fuel ls s a w
 | 0 => ⟨hr, h⟩
 | _ + 1 => ⟨fun _ => h, fun i hi => by rw [hr] at hi; cases hi⟩
theorem wpY_region {s : σ} (hd : LetsDraw (F.D s)) {id : Nat} {a : Act} {w : World} (hm : P.follows .mixedOrders = true)
   (h : ∀ w₁, F.R s w w₁ → AnyY F P main fn ops S Q nf ops.size (Array.replicate ops.size false) s a { w₁ with drawn := w₁.drawn + 1 }) : wpX F P main fn (Code.region id ops true) (ops.size * (nf + 3) + 1 + 1) s Q a w :=
 fun b k cs m hb hk hc => Goes.step rfl fun w₁ h₁ => by
   rw [stepG_region_draw]
   refine ⟨hd _, ?_⟩
   have := anyY_sound ops.size (w₁.tape w₁.drawn (.order b.fn id)) _ s a _ (h w₁ h₁) b k cs m hb hk hc
   simp only [Region.schedule, hm, Bool.true_or, if_true]
   exact this
end
section
variable {σ : Type} {F : Fam σ} (Δ : ∀ s, Dom (F.R s) (F.D s)) (P : Program) (main : Bool) (fn : FuncId) (ops : Array Oper) (Q : σ → Exit → Act → Frag → Prop) (nf : Nat)
def Pre (R L0 : Frag) (e : Nat) (s0 : σ) (ls : Array Bool) (s : σ) (L : Frag) : Prop := s = s0 ∧ (∀ t ∈ R, t ∈ L) ∧ (ls.getD e true = false → ∀ t ∈ L0, t ∈ L)
def AnyL (R L0 : Frag) (e : Nat) (s0 : σ) (fuel : Nat) (ls : Array Bool) (s : σ) (a : Act) (L : Frag) : Prop :=
 Down ops ls → ∀ w, (Δ s).Own L w → AnyY F P main fn ops (fun ls s w => ∃ L, (Δ s).Own L w ∧ Pre R L0 e s0 ls s L) (up Δ Q) nf fuel ls s a w
end
section
variable {σ : Type} {F : Fam σ} {Δ : ∀ s, Dom (F.R s) (F.D s)} {P : Program} {main : Bool} {fn : FuncId} {ops : Array Oper} {Q : σ → Exit → Act → Frag → Prop} {nf : Nat} {R L0 : Frag} {e : Nat} {s0 s : σ} {fuel : Nat} {ls : Array Bool} {a : Act} {L : Frag}
theorem pre_rely {ls : Array Bool} {s : σ} {x y : World} (h : ∃ L, (Δ s).Own L x ∧ Pre R L0 e s0 ls s L) (r : F.R s x y) : ∃ L, (Δ s).Own L y ∧ Pre R L0 e s0 ls s L := by
 obtain ⟨L, h1, h2⟩ := h
 exact ⟨L, (Δ s).rely h1 r, h2⟩
theorem up_rely {s : σ} {x : Exit} {a : Act} {w w₁ : World} (h : up Δ Q s x a w) (r : F.R s w w₁) : up Δ Q s x a w₁ := by
 obtain ⟨L, h1, h2⟩ := h
 exact ⟨L, (Δ s).rely h1 r, h2⟩
theorem wpL_draw (R : Frag) (e : Nat) {id : Nat} (hm : P.follows .mixedOrders = true) (h : AnyL Δ P main fn ops Q nf R L e s ops.size (Array.replicate ops.size false) s a L) : wpL Δ P main fn (.region id ops true) (ops.size * (nf + 3) + 1 + 1) s Q a L := by
 intro w hO
 refine wpY_region (S := fun ls s' w => ∃ L', (Δ s').Own L' w ∧ Pre R L e s ls s' L') (Δ s).ld hm fun w₁ h₁ => h down_start _ ((Δ s).draw ((Δ s).rely hO h₁)).1
theorem up_rely' : ∀ (s : σ) (a : Act) (x y : World), up Δ Q s .normal a x → F.R s x y → up Δ Q s .normal a y := fun _ _ _ _ h r => up_rely h r
theorem anyL_take {i : Nat} {oi : Oper} {v : Value} {Lr : Frag} (hi : ops[i]? = some oi) (hs : Region.noSelect ops = true) (hf : Region.free .any ops ls i = true) (hr : (Region.ready .any ops ls).contains i = true) (hie : i ≠ e) (hr0 : Lr = R ∨ (Lr = L0 ∧ hangs ops ops.size e i = true))
   (hP : Pre R L0 e s0 ls s L) (hw : Region.wanted oi (yielded ops a.tmps) = true) (hy : Yld P Lr (execOp a.eval oi) v)
   (h : AnyL Δ P main fn ops Q nf R L0 e s0 fuel (ls.setIfInBounds i true) s (a.put oi.dst v) L) : AnyL Δ P main fn ops Q nf R L0 e s0 (fuel + 1) ls s a L := by
 intro hD w hO
 have hrm : i ∈ Region.ready .any ops ls := by simpa using hr
 refine anyY_take (fun _ _ _ _ h r => pre_rely h r) up_rely' hi hs hf hr hD (fun ls s w => ?_) (fun ls' hD' hun s' => .inl ⟨hw, fun w' ⟨L', hO', h1, h2, h3⟩ => ?_⟩) ⟨L, hO, hP⟩ (h (hD.step hrm) w hO)
 · refine exists_congr fun L' => and_congr_right fun _ => ?_
   unfold Pre
   rw [getD_set_ne true hie]
 · have hsub : ∀ t ∈ Lr, t ∈ L' := by
     rcases hr0 with rfl | ⟨rfl, hh⟩
     · exact h2
     · refine h3 ?_
       cases he : ls'.getD e true with
       | false => rfl
       | true =>
         have := hD'.hangs _ _ _ hh he
         rw [getD_tf this] at hun
         cases hun
   obtain ⟨q1, q2⟩ := quiet' (Δ s') hO' (hy.mono hsub)
   exact ⟨q1, (Δ s').dd ((Δ s').gr w') fun e he => q2 e (mem_listed he)⟩
theorem anyL_skip {i : Nat} {oi : Oper} (hi : ops[i]? = some oi) (hs : Region.noSelect ops = true) (hf : Region.free .any ops ls i = true) (hr : (Region.ready .any ops ls).contains i = true) (hie : i ≠ e)
   (hP : Pre R L0 e s0 ls s L) (hw : Region.wanted oi (yielded ops a.tmps) = false)
   (h : AnyL Δ P main fn ops Q nf R L0 e s0 fuel (ls.setIfInBounds i true) s (a.put oi.dst undef) L) : AnyL Δ P main fn ops Q nf R L0 e s0 (fuel + 1) ls s a L := by
 intro hD w hO
 have hrm : i ∈ Region.ready .any ops ls := by simpa using hr
 refine anyY_take (fun _ _ _ _ h r => pre_rely h r) up_rely' hi hs hf hr hD (fun ls s w => ?_) (fun ls' hD' hun s' => .inr ⟨hw, rfl⟩) ⟨L, hO, hP⟩ (h (hD.step hrm) w hO)
 refine exists_congr fun L' => and_congr_right fun _ => ?_
 unfold Pre
 rw [getD_set_ne true hie]
theorem anyL_op {i : Nat} {o : Oper} (hr : Region.ready .any ops ls = [i]) (hi : ops[i]? = some o) (hw : Region.wanted o (yielded ops a.tmps) = true)
   (h : wpS P (Δ s).New (execOp a.eval o) (fun x L' => onNext o a (fun a' => Pre R L0 e s0 (ls.setIfInBounds i true) s L' ∧ AnyL Δ P main fn ops Q nf R L0 e s0 fuel (ls.setIfInBounds i true) s a' L') x) L) : AnyL Δ P main fn ops Q nf R L0 e s0 (fuel + 1) ls s a L := by
 intro hD w hO
 have hrm : i ∈ Region.ready .any ops ls := by simp [hr]
 refine anyY_all hr (by simp) fun j hj => ?_
 obtain rfl : j = i := by simpa using hj
 refine .inl ?_
 unfold OpC
 simp only [hi, hw, if_true]
 intro w₁ h₁
 obtain ⟨x, w', hrun, hg, he, L', hL, hx⟩ := sound' (Δ s) ((Δ s).rely hO h₁) h
 exact upon_of (Δ := Δ) (s := s) (KL := fun a' L' => Pre R L0 e s0 (ls.setIfInBounds j true) s L' ∧ AnyL Δ P main fn ops Q nf R L0 e s0 fuel (ls.setIfInBounds j true) s a' L') hrun hL hx fun a' k => ⟨(Δ s).dd hg fun e hm => he e (mem_listed hm), ⟨L', hL, k.1⟩, k.2 (hD.step hrm) _ hL⟩
theorem anyL_call {i : Nat} {o : Oper} {f : FuncId} {args : Array Operand} {ats : Array TypeId} {Post : σ → Value → Frag → Prop} (hr : Region.ready .any ops ls = [i]) (hi : ops[i]? = some o) (hw : Region.wanted o (yielded ops a.tmps) = true)
   (hop : o.op = .call { callee := .value (.func f), args, argTypes := ats }) (hcall : CallsL Δ P main f (args.map a.eval) nf s L Post)
   (h : ∀ s' v L', Post s' v L' → Pre R L0 e s0 (ls.setIfInBounds i true) s' L' ∧ AnyL Δ P main fn ops Q nf R L0 e s0 fuel (ls.setIfInBounds i true) s' (a.put o.dst v) L') : AnyL Δ P main fn ops Q nf R L0 e s0 (fuel + 1) ls s a L := by
 intro hD w hO
 have hrm : i ∈ Region.ready .any ops ls := by simp [hr]
 refine anyY_all hr (by simp) fun j hj => ?_
 obtain rfl : j = i := by simpa using hj
 exact .inr ⟨o, f, args, ats, _, hi, hw, hop, hcall w hO, fun s' v w' ⟨L', hL, hp⟩ => ⟨⟨L', hL, (h s' v L' hp).1⟩, (h s' v L' hp).2 (hD.step hrm) _ hL⟩⟩
theorem anyL_two {i j : Nat} (hr : Region.ready .any ops ls = [i, j])
   (h1 : ∀ (w : World), (Δ s).Own L w → Down ops ls → OpX F P main fn ops nf i (fun s' a' w' => (∃ L', (Δ s').Own L' w' ∧ Pre R L0 e s0 (ls.setIfInBounds i true) s' L') ∧ AnyY F P main fn ops (fun ls s w => ∃ L, (Δ s).Own L w ∧ Pre R L0 e s0 ls s L) (up Δ Q) nf fuel (ls.setIfInBounds i true) s' a' w') s a w)
   (h2 : ∀ (w : World), (Δ s).Own L w → Down ops ls → OpX F P main fn ops nf j (fun s' a' w' => (∃ L', (Δ s').Own L' w' ∧ Pre R L0 e s0 (ls.setIfInBounds j true) s' L') ∧ AnyY F P main fn ops (fun ls s w => ∃ L, (Δ s).Own L w ∧ Pre R L0 e s0 ls s L) (up Δ Q) nf fuel (ls.setIfInBounds j true) s' a' w') s a w) :
   AnyL Δ P main fn ops Q nf R L0 e s0 (fuel + 1) ls s a L := by
 intro hD w hO
 refine anyY_all hr (by simp) fun k hk => ?_
 simp only [List.mem_cons, List.not_mem_nil, or_false] at hk
 rcases hk with rfl | rfl
 · exact h1 w hO hD
 · exact h2 w hO hD
theorem anyL_nd (h : (L.map (·.1)).Nodup → AnyL Δ P main fn ops Q nf R L0 e s0 fuel ls s a L) : AnyL Δ P main fn ops Q nf R L0 e s0 fuel ls s a L := fun hD w hO => h ((Δ s).nd hO) hD w hO
theorem anyL_done (hr : Region.ready .any ops ls = []) (h : Q s .normal a L) : AnyL Δ P main fn ops Q nf R L0 e s0 fuel ls s a L := fun _ _ hO => anyY_done hr ⟨L, hO, h⟩ fuel
end
end Go.Lo
