/-
  Part 14 of the proof.
  No condition but those that each statement names.
-/
import Derived.Test.YtejkelcaljmnoaaGreatDoorHy13
set_option maxRecDepth 100000
set_option linter.unusedVariables false
set_option linter.unusedSimpArgs false
set_option linter.unusedSectionVars false
namespace Go.Lo
open Go.Conc Go.Hx
section
variable {P : Program} {N : Nat} {ε : Env} {L : Frag} {d : Option Tmp} {ty : TypeId} {ps : String} {af : Array Edge} {g : Option (Nat × Bool)}
theorem E_mv {x : Operand} {v : Value} (hx : ev ε x = some v := by rfl) : EY P N ε L ⟨d, .move x, ty, ps, af, g⟩ v := fun _ ha => (ha.ev hx) ▸ y_move
theorem E_as {x : Operand} {v : Value} (hx : ev ε x = some v := by rfl) : EY P N ε L ⟨d, .assign x, ty, ps, af, g⟩ v := fun _ ha => (ha.ev hx) ▸ y_assign
theorem E_nc {x : Operand} {a : Addr} (hx : ev ε x = some (.pointer (some a)) := by rfl) : EY P N ε L ⟨d, .nilCheck x, ty, ps, af, g⟩ (.pointer (some a)) := fun _ ha => y_nilCheck (ha.ev hx)
theorem E_pick {c x y : Operand} {t : Bool} {v w : Value} (hc : ev ε c = some (.bool t) := by rfl) (hx : ev ε x = some v := by rfl) (hy : ev ε y = some w := by rfl) : EY P N ε L ⟨d, .pick c x y, ty, ps, af, g⟩ (if t then v else w) := fun _ ha => (ha.ev hx) ▸ (ha.ev hy) ▸ y_pick (ha.ev hc)
theorem E_fa {x : Operand} {s f b i off : Nat} (hx : ev ε x = some (.pointer (some ⟨b, i, none⟩)) := by rfl) (hf : fieldOff P s f = some off := by kernel_rfl) : EY P N ε L ⟨d, .fieldAddr s x f, ty, ps, af, g⟩ (.pointer (some ⟨b, i + off, none⟩)) := fun _ ha => y_fieldAddr (ha.ev hx) hf
theorem E_ld {x : Operand} {t b i : Nat} {v : Value} (hx : ev ε x = some (.pointer (some ⟨b, i, none⟩)) := by rfl) (ht : aggAt P t = some false := by kernel_rfl)
   (hv : At L b i v := by first | exact At.at (n := 0) rfl (by first | rfl | assumption) | exact At.at (n := 1) rfl (by first | rfl | assumption) | exact At.at (n := 2) rfl (by first | rfl | assumption) | exact At.at (n := 3) rfl (by first | rfl | assumption) | exact At.at (n := 4) rfl (by first | rfl | assumption) | exact At.at (n := 5) rfl (by first | rfl | assumption) | exact At.at (n := 6) rfl (by first | rfl | assumption) | assumption) :
   EY P N ε L ⟨d, .load t x, ty, ps, af, g⟩ v := fun _ ha => y_load (ha.ev hx) ht hv
theorem E_lda {x : Operand} {t b i n : Nat} {cs : Array Value} {e : TypeId} {fr : Nat × Nat} {fl : Bool} (hx : ev ε x = some (.pointer (some ⟨b, i, none⟩)) := by rfl) (ht : aggAt P t = some true) (hs : sizeAt P t = some n) (hm : (b, fl, .cells cs e fr) ∈ L) (hi : i + n ≤ cs.size) :
   EY P N ε L ⟨d, .load t x, ty, ps, af, g⟩ (.agg (cs.extract i (i + n))) := fun _ ha => y_loadAgg (ha.ev hx) ht hs hm hi
theorem E_ixa {x ix : Operand} {t b o sz len off : Nat} {e : TypeId} {k : IntKind} {n : Int} (hu : P.underlying t = some (.array len e)) (hs : sizeAt P e = some sz) (hx : ev ε x = some (.pointer (some ⟨b, o, none⟩)) := by rfl) (hi : ev ε ix = some (.int k n) := by rfl) (h0 : 0 ≤ n := by first | decide | omega | assumption) (h1 : n < len := by first | decide | omega | assumption | (simp; done)) (ho : o + n.toNat * sz = off := by ((try simp only [Int.toNat_natCast, Nat.zero_add, Nat.mul_one, Nat.reduceAdd, Nat.reduceMul, Int.reduceToNat, Int.toNat_zero, Int.toNat_one, Nat.zero_mul, Nat.add_zero]); first | done | exact rfl)) :
   EY P N ε L ⟨d, .indexAddr t x ix, ty, ps, af, g⟩ (.pointer (some ⟨b, off, none⟩)) := fun _ ha => ho ▸ y_indexArr (ha.ev hx) (ha.ev hi) hu hs h0 h1
theorem E_ixs {x ix : Operand} {t b o sz len cap off : Nat} {e : TypeId} {k : IntKind} {n : Int} (hu : P.underlying t = some (.slice e)) (hs : sizeAt P e = some sz) (hx : ev ε x = some (.slice (some ⟨b, o, none⟩) len cap) := by rfl) (hi : ev ε ix = some (.int k n) := by rfl) (h0 : 0 ≤ n := by first | decide | omega | assumption) (h1 : n < len := by first | decide | omega | assumption | (simp; done)) (ho : o + n.toNat * sz = off := by ((try simp only [Int.toNat_natCast, Nat.zero_add, Nat.mul_one, Nat.reduceAdd, Nat.reduceMul, Int.reduceToNat, Int.toNat_zero, Int.toNat_one, Nat.zero_mul, Nat.add_zero]); first | done | exact rfl)) :
   EY P N ε L ⟨d, .indexAddr t x ix, ty, ps, af, g⟩ (.pointer (some ⟨b, off, none⟩)) := fun _ ha => ho ▸ y_indexSl (ha.ev hx) (ha.ev hi) hu hs h0 h1
variable {t u : TypeId} {x y : Operand} {k : IntKind} {a b : Int}
theorem E_add (hx : ev ε x = some (.int k a) := by rfl) (hy : ev ε y = some (.int k b) := by rfl) : EY P N ε L ⟨d, .binOp .add t x y u, ty, ps, af, g⟩ (.int k (k.wrap (a + b))) := fun _ ha => y_add (ha.ev hx) (ha.ev hy)
theorem E_sub (hx : ev ε x = some (.int k a) := by rfl) (hy : ev ε y = some (.int k b) := by rfl) : EY P N ε L ⟨d, .binOp .sub t x y u, ty, ps, af, g⟩ (.int k (k.wrap (a - b))) := fun _ ha => y_sub (ha.ev hx) (ha.ev hy)
theorem E_mul (hx : ev ε x = some (.int k a) := by rfl) (hy : ev ε y = some (.int k b) := by rfl) : EY P N ε L ⟨d, .binOp .mul t x y u, ty, ps, af, g⟩ (.int k (k.wrap (a * b))) := fun _ ha => y_mul (ha.ev hx) (ha.ev hy)
theorem E_rem (hx : ev ε x = some (.int k a) := by rfl) (hy : ev ε y = some (.int k b) := by rfl) (hb : b ≠ 0 := by first | decide | omega) : EY P N ε L ⟨d, .binOp .rem t x y u, ty, ps, af, g⟩ (.int k (a.tmod b)) := fun _ ha => y_rem (ha.ev hx) (ha.ev hy) hb
theorem E_eql (hx : ev ε x = some (.int k a) := by rfl) (hy : ev ε y = some (.int k b) := by rfl) : EY P N ε L ⟨d, .binOp .eql t x y u, ty, ps, af, g⟩ (.bool (a == b)) := fun _ ha => y_eql (ha.ev hx) (ha.ev hy)
theorem E_neq (hx : ev ε x = some (.int k a) := by rfl) (hy : ev ε y = some (.int k b) := by rfl) : EY P N ε L ⟨d, .binOp .neq t x y u, ty, ps, af, g⟩ (.bool (a != b)) := fun _ ha => y_neq (ha.ev hx) (ha.ev hy)
theorem E_lss (hx : ev ε x = some (.int k a) := by rfl) (hy : ev ε y = some (.int k b) := by rfl) : EY P N ε L ⟨d, .binOp .lss t x y u, ty, ps, af, g⟩ (.bool (decide (a < b))) := fun _ ha => y_lss (ha.ev hx) (ha.ev hy)
theorem E_leq (hx : ev ε x = some (.int k a) := by rfl) (hy : ev ε y = some (.int k b) := by rfl) : EY P N ε L ⟨d, .binOp .leq t x y u, ty, ps, af, g⟩ (.bool (decide (a ≤ b))) := fun _ ha => y_leq (ha.ev hx) (ha.ev hy)
theorem E_gtr (hx : ev ε x = some (.int k a) := by rfl) (hy : ev ε y = some (.int k b) := by rfl) : EY P N ε L ⟨d, .binOp .gtr t x y u, ty, ps, af, g⟩ (.bool (decide (b < a))) := fun _ ha => y_gtr (ha.ev hx) (ha.ev hy)
theorem E_geq (hx : ev ε x = some (.int k a) := by rfl) (hy : ev ε y = some (.int k b) := by rfl) : EY P N ε L ⟨d, .binOp .geq t x y u, ty, ps, af, g⟩ (.bool (decide (b ≤ a))) := fun _ ha => y_geq (ha.ev hx) (ha.ev hy)
theorem E_cv {s' t' : TypeId} {ds : TypeDesc} {j : IntKind} {n : Int} (hx : ev ε x = some (.int j n) := by rfl) (hs : P.underlying s' = some ds := by kernel_rfl) (ht : P.underlying t' = some (.int k) := by kernel_rfl) : EY P N ε L ⟨d, .convert s' t' x, ty, ps, af, g⟩ (.int k (k.wrap n)) := fun _ ha => y_conv (ha.ev hx) hs ht
theorem E_not {c : Bool} (hx : ev ε x = some (.bool c) := by rfl) : EY P N ε L ⟨d, .unOp .not t x, ty, ps, af, g⟩ (.bool !c) := fun _ ha => y_not (ha.ev hx)
theorem E_neg (hx : ev ε x = some (.int k a) := by rfl) : EY P N ε L ⟨d, .unOp .neg t x, ty, ps, af, g⟩ (.int k (k.wrap (0 - a))) := fun _ ha => y_neg (ha.ev hx)
theorem E_ext {i : Nat} {vs : Array Value} {v : Value} (hx : ev ε x = some (.tuple vs) := by rfl) (hv : vs[i]? = some v := by rfl) : EY P N ε L ⟨d, .extract x i, ty, ps, af, g⟩ v := fun _ ha => y_extract (ha.ev hx) hv
theorem E_mkf1 {f : Fn} {v : Value} (hx : ev ε x = some v := by rfl) : EY P N ε L ⟨d, .makeFunc f #[] #[x], ty, ps, af, g⟩ (.func f #[] #[v]) := fun _ ha => by
 have := y_makeFunc (P := P) (L := L) (ρ := Act.eval ‹_›) (d := d) (ty := ty) (ps := ps) (af := af) (g := g) (f := f) (c1 := #[]) (c2 := #[x])
 simpa [ha.ev hx] using this
theorem E_mkm1 {f : Fn} {v : Value} (hx : ev ε x = some v := by rfl) : EY P N ε L ⟨d, .makeFunc f #[x] #[], ty, ps, af, g⟩ (.func f #[v] #[]) := fun _ ha => by
 have := y_makeFunc (P := P) (L := L) (ρ := Act.eval ‹_›) (d := d) (ty := ty) (ps := ps) (af := af) (g := g) (f := f) (c1 := #[x]) (c2 := #[])
 simpa [ha.ev hx] using this
theorem E_mki {v : Value} {ds : TypeDesc} (hi : ∀ ms, ds ≠ .interface ms) (hx : ev ε x = some v := by rfl) (ht : P.underlying t = some ds := by kernel_rfl) : EY P N ε L ⟨d, .makeInterface t x, ty, ps, af, g⟩ (.iface t v) := fun _ ha => (ha.ev hx) ▸ y_makeIface ht hi
theorem E_fld {s' f off n : Nat} {cs : Array Value} {v : Value} (hx : ev ε x = some (.agg cs) := by rfl) (hf : fieldPart P s' f = some (off, n, false) := by kernel_rfl) (hv : cs[off]? = some v := by rfl) : EY P N ε L ⟨d, .field s' x f, ty, ps, af, g⟩ v := fun _ ha => y_field (ha.ev hx) hf hv
theorem E_len {ats : Array TypeId} {e : TypeId} {base : Option Addr} {len cap : Nat} (hx : ev ε x = some (.slice base len cap) := by rfl) (hu : P.underlying t = some (.slice e) := by kernel_rfl) (ha' : ats[0]? = some t := by rfl) : EY P N ε L ⟨d, .call ⟨.builtin .len, #[x], ats⟩, ty, ps, af, g⟩ (.int .i64 len) := fun _ ha => y_lenSl (ha.ev hx) ha' hu
theorem E_min {ats : Array TypeId} {k' : IntKind} (hx : ev ε x = some (.int k a) := by rfl) (hy : ev ε y = some (.int k' b) := by rfl) : EY P N ε L ⟨d, .call ⟨.builtin .min, #[x, y], ats⟩, ty, ps, af, g⟩ (.int k (if b < a then b else a)) := fun _ ha => y_min (ha.ev hx) (ha.ev hy)
theorem E_eqn {e : TypeId} {p : Option Addr} (hx : ev ε x = some (.pointer p) := by rfl) (hy : ev ε y = some (.pointer none) := by rfl) (hu : P.underlying t = some (.pointer e) := by kernel_rfl) : EY P N ε L ⟨d, .binOp .eql t x y u, ty, ps, af, g⟩ (.bool p.isNone) := fun _ ha => y_eqNil (ha.ev hx) (ha.ev hy) hu
theorem E_eqa {e n b i b' i' : Nat} {cs cs' : Array Value} {ty1 ty1' : TypeId} {fl fl' : Bool} (h1 : (b, fl, .cells cs ty1) ∈ L) (h2 : (b', fl', .cells cs' ty1') ∈ L) (hx : ev ε x = some (.pointer (some ⟨b, i, none⟩)) := by rfl) (hy : ev ε y = some (.pointer (some ⟨b', i', none⟩)) := by rfl) (hu : P.underlying t = some (.pointer e) := by kernel_rfl) (hs : sizeAt P e = some (n + 1) := by kernel_rfl) :
   EY P N ε L ⟨d, .binOp .eql t x y u, ty, ps, af, g⟩ (.bool (decide ((b, i) = (b', i')))) := fun _ ha => y_eqAddr (ha.ev hx) (ha.ev hy) hu hs h1 h2
theorem E_ifn {op : BinOp} {c : Bool} {ms : Array (String × TypeId)} {v : Value} (hv : (v = .nilIface ∧ c = true) ∨ (∃ s w, v = .iface s w ∧ c = false)) (hop : op = .eql ∨ op = .neq := by first | exact .inl rfl | exact .inr rfl) (hx : ev ε x = some v := by rfl) (hu : P.underlying t = some (.interface ms) := by kernel_rfl) :
   EY P N ε L ⟨d, .binOp op t x (.const .nilIface) u, ty, ps, af, g⟩ (.bool (if op = .eql then c else !c)) := fun _ ha => y_ifNil hop hv (ha.ev hx) rfl rfl hu
end
def SetAt (L : Frag) (b i : Nat) (v : Value) (L' : Frag) : Prop := ∃ n cs e, L[n]? = some (b, true, .cells cs e) ∧ i < cs.size ∧ L' = L.set n (b, true, .cells (cs.setIfInBounds i v) e)
theorem SetAt.h {L : Frag} {b i : Nat} {v : Value} {cs : Array Value} {e : TypeId} (hi : i < cs.size) : SetAt ((b, true, .cells cs e) :: L) b i v ((b, true, .cells (cs.setIfInBounds i v) e) :: L) := ⟨0, cs, e, rfl, hi, rfl⟩
theorem SetAt.t {L L' : Frag} {b i : Nat} {v : Value} {x : Nat × Bool × Obj} (h : SetAt L b i v L') : SetAt (x :: L) b i v (x :: L') := by
 obtain ⟨n, cs, e, h1, h2, rfl⟩ := h
 exact ⟨n + 1, cs, e, by simpa using h1, h2, rfl⟩
section
variable {σ : Type} {F : Fam σ} {Δ : ∀ s, Dom (F.R s) (F.D s)} {P : Program} {main : Bool} {fn : FuncId} {N : Nat} {Q : σ → Exit → Env → Frag → Prop} {s : σ} {ε : Env} {L L' : Frag} {New : Obj → Prop} {d : Option Tmp} {ty : TypeId} {ps : String} {af : Array Edge} {g : Option (Nat × Bool)}
theorem os {ops : Array Oper} {i : Nat} {rest : List Nat} {d : Option Tmp} {k : Op} {ot : TypeId} {ps : String} {af : Array Edge} {g : Option (Nat × Bool)} {n : Nat} (ho : ops[i]? = some ⟨d, k, ot, ps, af, g⟩) (hy : EO P (Δ s).New N ε L ⟨d, k, ot, ps, af, g⟩ (fun r L'' => r = undef ∧ L'' = L')) (hw : wantedE ops N ε g = some true := by rfl) (hd : dstOk N d = true := by rfl) (h : OpsE Δ P main fn N ops rest n s Q (putE d undef ε) L') : OpsE Δ P main fn N ops (i :: rest) (n + 1) s Q ε L :=
 oe ho hy hw hd (fun _ _ ⟨e1, e2⟩ => by rw [e1, e2]; exact h)
theorem O_new {t : TypeId} {z : Value} (hN : New (.cells z.cells t)) (hz : zeroAt P t = some z := by kernel_rfl) : EO P New N ε L ⟨d, .alloc t, ty, ps, af, g⟩ (fun r L'' => ∃ b, (∀ t ∈ L, t.1 ≠ b) ∧ r = .pointer (some ⟨b, 0, none⟩) ∧ L'' = (b, true, .cells z.cells t) :: L) :=
 fun _ _ => e_alloc hz hN fun b hb => ⟨b, hb, rfl, rfl⟩
theorem O_box {t : TypeId} {x : Operand} {v : Value} (hN : New (.cells v.cells t)) (hx : ev ε x = some v := by rfl) : EO P New N ε L ⟨d, .box t x, ty, ps, af, g⟩ (fun r L'' => ∃ b, (∀ t ∈ L, t.1 ≠ b) ∧ r = .pointer (some ⟨b, 0, none⟩) ∧ L'' = (b, true, .cells v.cells t) :: L) :=
 fun _ ha => e_box (ha.ev hx) hN fun b hb => ⟨b, hb, rfl, rfl⟩
theorem O_bs1 {t e : TypeId} {x : Operand} {v z : Value} (hN : New (.cells #[v] e)) (hx : ev ε x = some v := by rfl) (hu : P.underlying t = some (.slice e) := by kernel_rfl) (hs : sizeAt P e = some 1 := by kernel_rfl) (hz : zeroAt P e = some z := by kernel_rfl) (hzp : plainV z = true := by rfl) (hp : plainV v = true := by rfl) :
   EO P New N ε L ⟨d, .buildSlice t 1 #[(0, x)], ty, ps, af, g⟩ (fun r L'' => ∃ b, (∀ t ∈ L, t.1 ≠ b) ∧ r = .slice (some ⟨b, 0, none⟩) 1 1 ∧ L'' = (b, true, .cells #[v] e) :: L) :=
 fun _ ha => e_buildSlice1 (ha.ev hx) hu hs hz hzp hp hN fun b hb => ⟨b, hb, rfl, rfl⟩
def Fun (L : Frag) : Prop := ∀ b fl fl' o o', (b, fl, o) ∈ L → (b, fl', o') ∈ L → fl = fl' ∧ o = o'
theorem fun_of_nd {L : Frag} (h : (L.map (·.1)).Nodup) : Fun L := by
 intro b fl fl' o o' h1 h2
 obtain ⟨i, hi⟩ := List.getElem?_of_mem h1
 obtain ⟨j, hj⟩ := List.getElem?_of_mem h2
 have e1 : (L.map (·.1))[i]? = some b := by simp [hi]
 have e2 : (L.map (·.1))[j]? = some b := by simp [hj]
 obtain ⟨hl1, he1⟩ := List.getElem?_eq_some_iff.1 e1
 obtain ⟨hl2, he2⟩ := List.getElem?_eq_some_iff.1 e2
 have hij : i = j := by
   rcases Nat.lt_trichotomy i j with g | g | g
   · exact absurd (he1.trans he2.symm) (List.pairwise_iff_getElem.1 h i j hl1 hl2 g)
   · exact g
   · exact absurd (he2.trans he1.symm) (List.pairwise_iff_getElem.1 h j i hl2 hl1 g)
 subst hij
 have := hi.symm.trans hj
 simp only [Option.some.injEq, Prod.mk.injEq, true_and] at this
 exact this
structure Upd (L : Frag) (b : Nat) (o : Obj) (L' : Frag) : Prop where
 self : (b, true, o) ∈ L'
 ne : ∀ t ∈ L, t.1 ≠ b → t ∈ L'
 fn : Fun L'
structure Add (L : Frag) (b : Nat) (o : Obj) (L' : Frag) : Prop where
 self : (b, true, o) ∈ L'
 sub : ∀ t ∈ L, t ∈ L'
 new : ∀ t ∈ L, t.1 ≠ b
 fn : Fun L'
theorem upd_set {L : Frag} (hnd : (L.map (·.1)).Nodup) {n b : Nat} {o o' : Obj} (hn : L[n]? = some (b, true, o)) : Upd L b o' (L.set n (b, true, o')) := by
 obtain ⟨hl, he⟩ := List.getElem?_eq_some_iff.1 hn
 refine ⟨List.mem_of_getElem? (i := n) (by simp [hl]), fun t ht hne => ?_, fun_of_nd ?_⟩
 · obtain ⟨i, hi⟩ := List.getElem?_of_mem ht
   refine List.mem_of_getElem? (i := i) ?_
   rw [List.getElem?_set_ne (fun e => hne ?_)]
   · exact hi
   · subst e; rw [hn] at hi; simp only [Option.some.injEq] at hi; rw [← hi]
 · have : (L.set n (b, true, o')).map (·.1) = L.map (·.1) := by
     apply List.ext_getElem?
     intro i
     simp only [List.getElem?_map, List.getElem?_set]
     split
     · rename_i e; subst e; simp [hl, he]
     · rfl
   rw [this]; exact hnd
theorem opsE_fun {ops : Array Oper} {todo : List Nat} {n : Nat} (h : Fun L → OpsE Δ P main fn N ops todo n s Q ε L) : OpsE Δ P main fn N ops todo n s Q ε L := opsE_nd fun hn => h (fun_of_nd hn)
theorem wpE_fun {c : Code} {n : Nat} (h : Fun L → wpE Δ P main fn N c n s Q ε L) : wpE Δ P main fn N c n s Q ε L := wpE_nd fun hn => h (fun_of_nd hn)
theorem O_sm {t b i : Nat} {x y : Operand} {v : Value} {cs : Array Value} {e : TypeId} (hx : ev ε x = some (.pointer (some ⟨b, i, none⟩)) := by rfl) (hy : ev ε y = some v := by rfl) (hp : plainV v = true := by rfl) (hs : sizeAt P t = some 1) (hnd : (L.map (·.1)).Nodup) (hm : (b, true, .cells cs e) ∈ L) (hi : i < cs.size) :
   EO P New N ε L ⟨d, .store t x y, ty, ps, af, g⟩ (fun r L'' => r = undef ∧ Upd L b (.cells (cs.setIfInBounds i v) e) L'') := by
 intro a ha
 obtain ⟨n, hn⟩ := List.getElem?_of_mem hm
 exact e_store (ha.ev hx) (ha.ev hy) hs hn hi hp ⟨rfl, upd_set hnd hn⟩
theorem osm {ops : Array Oper} {i : Nat} {rest : List Nat} {n : Nat} {ot : TypeId} {t b j : Nat} {x y : Operand} {v : Value} {cs : Array Value} {e : TypeId} (ho : ops[i]? = some ⟨d, .store t x y, ot, ps, af, g⟩) (hx : ev ε x = some (.pointer (some ⟨b, j, none⟩)) := by rfl) (hy : ev ε y = some v := by rfl) (hp : plainV v = true := by rfl) (hs : sizeAt P t = some 1) (hm : (b, true, .cells cs e) ∈ L) (hi : j < cs.size)
   (hw : wantedE ops N ε g = some true := by rfl) (hd : dstOk N d = true := by rfl) (h : ∀ L', Upd L b (.cells (cs.setIfInBounds j v) e) L' → OpsE Δ P main fn N ops rest n s Q (putE d undef ε) L') : OpsE Δ P main fn N ops (i :: rest) (n + 1) s Q ε L :=
 opsE_nd fun hnd => oe ho (O_sm hx hy hp hs hnd hm hi) hw hd fun _ L'' ⟨e1, e2⟩ => by rw [e1]; exact h L'' e2
theorem add_cons {b : Nat} {o : Obj} (hL : Fun L) (hb : ∀ t ∈ L, t.1 ≠ b) : Add L b o ((b, true, o) :: L) := by
 refine ⟨List.mem_cons_self, fun t ht => List.mem_cons_of_mem _ ht, hb, ?_⟩
 intro b' fl fl' o1 o2 h1 h2
 rcases List.mem_cons.1 h1 with e1 | h1 <;> rcases List.mem_cons.1 h2 with e2 | h2
 · simp only [Prod.mk.injEq] at e1 e2; exact ⟨by rw [e1.2.1, e2.2.1], by rw [e1.2.2, e2.2.2]⟩
 · simp only [Prod.mk.injEq] at e1; exact absurd e1.1 (hb _ h2)
 · simp only [Prod.mk.injEq] at e2; exact absurd e2.1 (hb _ h1)
 · exact hL _ _ _ _ _ h1 h2
theorem oadd {ops : Array Oper} {i : Nat} {rest : List Nat} {n : Nat} {k : Op} {ot : TypeId} {f : Nat → Value} {ob : Obj} (ho : ops[i]? = some ⟨d, k, ot, ps, af, g⟩) (hy : EO P (Δ s).New N ε L ⟨d, k, ot, ps, af, g⟩ (fun r L'' => ∃ b, (∀ t ∈ L, t.1 ≠ b) ∧ r = f b ∧ L'' = (b, true, ob) :: L))
   (hw : wantedE ops N ε g = some true := by rfl) (hd : dstOk N d = true := by rfl) (h : ∀ b L', Add L b ob L' → OpsE Δ P main fn N ops rest n s Q (putE d (f b) ε) L') : OpsE Δ P main fn N ops (i :: rest) (n + 1) s Q ε L :=
 opsE_fun fun hF => oe ho hy hw hd fun _ L'' ⟨b, hb, e1, e2⟩ => by rw [e1]; exact h b L'' (e2 ▸ add_cons hF hb)
theorem tadd {ops : Array Oper} {nf : Nat} {R L0 : Frag} {e : Nat} {s0 : σ} {fuel : Nat} {ls : Array Bool} {i : Nat} {k : Op} {ot : TypeId} {f : Nat → Value} {ob : Obj} (ho : ops[i]? = some ⟨d, k, ot, ps, af, g⟩) (hy : EO P (Δ s).New N ε L ⟨d, k, ot, ps, af, g⟩ (fun r L'' => ∃ b, (∀ t ∈ L, t.1 ≠ b) ∧ r = f b ∧ L'' = (b, true, ob) :: L))
   (hr : Region.ready .any ops ls = [i] := by kernel_rfl) (hw : wantedE ops N ε g = some true := by rfl) (hd : dstOk N d = true := by rfl) (h : ∀ b L', Add L b ob L' → Pre R L0 e s0 (ls.setIfInBounds i true) s L' ∧ AnyE Δ P main fn N ops Q nf R L0 e s0 fuel (ls.setIfInBounds i true) s (putE d (f b) ε) L') : AnyE Δ P main fn N ops Q nf R L0 e s0 (fuel + 1) ls s ε L :=
 anyE_nd fun hnd => te ho hy hr hw hd fun _ L'' ⟨b, hb, e1, e2⟩ => by rw [e1]; exact h b L'' (e2 ▸ add_cons (fun_of_nd hnd) hb)
end
def cutAt (o l m sz : Nat) : Nat := if m = l then o else o + l * sz
section
variable {P : Program} {L : Frag} {K : (Nat × Nat × Nat) → Prop}
theorem wpQ_bound {k : IntKind} {i : Int} {y : Nat} {c : BoundsCode} {K : Nat → Prop} (h0 : 0 ≤ i) (h1 : i ≤ y) (h : K i.toNat) : wpQ P (Instr.sliceBound (.int k i) y c) K L := by
 unfold Instr.sliceBound
 simp only [asIntOf, wpQ_bind, wpQ_pure, h0, h1, and_self, if_true]
 exact h
end
section
variable {P : Program} {N : Nat} {ε : Env} {L : Frag} {d : Option Tmp} {ty : TypeId} {ps : String} {af : Array Edge} {g : Option (Nat × Bool)} {t e : TypeId} {x y z u : Operand} {b o sz len cap : Nat} {k1 k2 k3 : IntKind} {l h m : Int}
theorem slice_sl {v lo hi mx : Option Value} {l h m : Nat} {a : Value} (ha : a = .slice (some ⟨b, o, none⟩) len cap) (hu : P.underlying t = some (.slice e)) (hs : sizeAt P e = some sz) (hb : ∀ (K : Nat × Nat × Nat → Prop), K (l, h, m) → wpQ P (Instr.sliceBounds true len cap lo hi mx) K L) (K : Value → Prop)
   (hK : K (.slice (some ⟨b, cutAt o l m sz, none⟩) (h - l) (m - l))) : wpQ P (Instr.sliceAt t a lo hi mx) K L := by
 unfold Instr.sliceAt
 rw [wpQ_bind, wpQ_underlying hu]
 show wpQ P (Instr.slice t a lo hi mx) K L
 unfold Instr.slice
 rw [wpQ_bind, wpQ_underlying hu, ha]
 show wpQ P (Instr.sliceBounds true len cap lo hi mx >>= _) K L
 rw [wpQ_bind]
 refine hb _ ?_
 show wpQ P (sizeOf e >>= _) K L
 rw [wpQ_bind, wpQ_sizeOf hs]
 have e1 : (if m = l then some (⟨b, o, none⟩ : Addr) else (some (⟨b, o, none⟩ : Addr)).map (·.add (l * sz))) = some ⟨b, cutAt o l m sz, none⟩ := by
   unfold cutAt
   split
   · rfl
   · simp [addr_add]
 show K (.slice (if m = l then some (⟨b, o, none⟩ : Addr) else (some (⟨b, o, none⟩ : Addr)).map (·.add (l * sz))) (h - l) (m - l))
 rw [e1]; exact hK
theorem E_slh (hu : P.underlying t = some (.slice e)) (hs : sizeAt P e = some sz) (hx : ev ε x = some (.slice (some ⟨b, o, none⟩) len cap) := by rfl) (hy : ev ε y = some (.int k1 h) := by rfl) (h0 : 0 ≤ h := by first | decide | omega) (h1 : h ≤ cap := by first | decide | omega) :
   EY P N ε L ⟨d, .slice t x none (some y) none, ty, ps, af, g⟩ (.slice (some ⟨b, cutAt o 0 cap sz, none⟩) (h.toNat - 0) (cap - 0)) := fun _ ha => by
 refine y_of (fun _ => rfl) fun K hK => ?_
 refine slice_sl (v := none) (ha.ev hx) hu hs (l := 0) (fun K hK => ?_) K hK
 simp only [Option.map_some, Option.map_none, ha.ev hy, Instr.sliceBounds]
 simp only [wpQ_bind, wpQ_pure]
 exact wpQ_bound h0 h1 hK
theorem E_sll (hu : P.underlying t = some (.slice e)) (hs : sizeAt P e = some sz) (hx : ev ε x = some (.slice (some ⟨b, o, none⟩) len cap) := by rfl) (hy : ev ε y = some (.int k1 l) := by rfl) (h0 : 0 ≤ l := by first | decide | omega) (h1 : l ≤ len := by first | decide | omega) :
   EY P N ε L ⟨d, .slice t x (some y) none none, ty, ps, af, g⟩ (.slice (some ⟨b, cutAt o l.toNat cap sz, none⟩) (len - l.toNat) (cap - l.toNat)) := fun _ ha => by
 refine y_of (fun _ => rfl) fun K hK => ?_
 refine slice_sl (v := none) (ha.ev hx) hu hs (h := len) (fun K hK => ?_) K hK
 simp only [Option.map_some, Option.map_none, ha.ev hy, Instr.sliceBounds]
 simp only [wpQ_bind, wpQ_pure]
 exact wpQ_bound h0 h1 hK
theorem E_sllh (hu : P.underlying t = some (.slice e)) (hs : sizeAt P e = some sz) (hx : ev ε x = some (.slice (some ⟨b, o, none⟩) len cap) := by rfl) (hy : ev ε y = some (.int k1 l) := by rfl) (hz : ev ε z = some (.int k2 h) := by rfl) (h0 : 0 ≤ l := by first | decide | omega) (h1 : l ≤ h := by first | decide | omega) (h2 : h ≤ cap := by first | decide | omega) :
   EY P N ε L ⟨d, .slice t x (some y) (some z) none, ty, ps, af, g⟩ (.slice (some ⟨b, cutAt o l.toNat cap sz, none⟩) (h.toNat - l.toNat) (cap - l.toNat)) := fun _ ha => by
 refine y_of (fun _ => rfl) fun K hK => ?_
 refine slice_sl (v := none) (ha.ev hx) hu hs (fun K hK => ?_) K hK
 simp only [Option.map_some, Option.map_none, ha.ev hy, ha.ev hz, Instr.sliceBounds]
 simp only [wpQ_bind, wpQ_pure]
 refine wpQ_bound (by omega) h2 ?_
 exact wpQ_bound h0 (by omega) hK
theorem E_sl3 (hu : P.underlying t = some (.slice e)) (hs : sizeAt P e = some sz) (hx : ev ε x = some (.slice (some ⟨b, o, none⟩) len cap) := by rfl) (hy : ev ε y = some (.int k1 l) := by rfl) (hz : ev ε z = some (.int k2 h) := by rfl) (hw : ev ε u = some (.int k3 m) := by rfl) (h0 : 0 ≤ l := by first | decide | omega) (h1 : l ≤ h := by first | decide | omega) (h2 : h ≤ m := by first | decide | omega) (h3 : m ≤ cap := by first | decide | omega) :
   EY P N ε L ⟨d, .slice t x (some y) (some z) (some u), ty, ps, af, g⟩ (.slice (some ⟨b, cutAt o l.toNat m.toNat sz, none⟩) (h.toNat - l.toNat) (m.toNat - l.toNat)) := fun _ ha => by
 refine y_of (fun _ => rfl) fun K hK => ?_
 refine slice_sl (v := none) (ha.ev hx) hu hs (fun K hK => ?_) K hK
 simp only [Option.map_some, Option.map_none, ha.ev hy, ha.ev hz, ha.ev hw, Instr.sliceBounds]
 simp only [wpQ_bind, wpQ_pure, if_true, Option.isSome_some]
 refine wpQ_bound (by omega) h3 ?_
 refine wpQ_bound (by omega) (by omega) ?_
 exact wpQ_bound h0 (by omega) hK
end
section
variable {P : Program} {L : Frag} {sz n b o len cap : Nat} {fl : Bool} {cs : Array Value} {e : TypeId} {fr : Nat × Nat}
theorem reads_m (hm : (b, fl, .cells cs e fr) ∈ L) (h : o + n * sz ≤ cs.size) : Reads P L sz n (.slice (some ⟨b, o, none⟩) len cap) (cs.extract o (o + n * sz)) := ⟨fun _ _ hQ => wpS_loadCells hm h hQ⟩
end
theorem puts_list : ∀ (vs l : List Value) (o : Nat), o + vs.length ≤ l.length → puts l.toArray o vs = (l.take o ++ vs ++ l.drop (o + vs.length)).toArray
 | [], l, o, h => by simp [puts]
 | v :: vs, l, o, h => by
   simp only [List.length_cons] at h
   rw [puts, List.setIfInBounds_toArray, puts_list vs (l.set o v) (o + 1) (by simp; omega)]
   congr 1
   have h1 : (l.set o v).take (o + 1) = l.take o ++ [v] := by
     rw [List.take_set, List.take_succ_eq_append_getElem (by omega), List.set_append_right _ _ (by simp; omega)]
     simp [Nat.min_eq_left (show o ≤ l.length by omega)]
   have h2 : (l.set o v).drop (o + 1 + vs.length) = l.drop (o + (v :: vs).length) := by
     rw [List.drop_set_of_lt (by omega)]
     simp only [List.length_cons]
     congr 1; omega
   rw [h1, h2]
   simp
section
variable {P : Program} {New : Obj → Prop} {N : Nat} {ε : Env} {L : Frag} {d : Option Tmp} {ty : TypeId} {ps : String} {af : Array Edge} {g : Option (Nat × Bool)} {t u e e2 : TypeId} {x y : Operand}
theorem O_api {sz sLen sCap b o n : Nat} {yb : Option Addr} {yc : Nat} {vs cs : Array Value} {e' : TypeId} (hx : ev ε x = some (.slice (some ⟨b, o, none⟩) sLen sCap) := by rfl) (hy : ev ε y = some (.slice yb n yc) := by rfl) (hnd : (L.map (·.1)).Nodup) (hu : P.underlying t = some (.slice e)) (hv : P.underlying u = some (.slice e2)) (hs : sizeAt P e = some sz) (hr : Reads P L sz n (.slice yb n yc) vs) (hc : sLen + n ≤ sCap) (hm : (b, true, .cells cs e') ∈ L) (ho : o + sLen * sz + vs.size ≤ cs.size) (hp : vs.toList.all plainV = true)
     :
   EO P New N ε L ⟨d, .call ⟨.builtin .append, #[x, y], #[t, u]⟩, ty, ps, af, g⟩ (fun r L' => r = .slice (some ⟨b, o, none⟩) (sLen + n) sCap ∧ Upd L b (.cells (puts cs (o + sLen * sz) vs.toList) e') L') := by
 intro a ha
 obtain ⟨m, hm'⟩ := List.getElem?_of_mem hm
 exact e_appendIn (ha.ev hx) (ha.ev hy) hu hv hs hr hc hm' ho hp ⟨rfl, upd_set hnd hm'⟩
theorem O_apn {sz by_ sLen sCap n : Nat} {xb yb : Option Addr} {yc : Nat} {ws vs : Array Value} {z : Value} (hx : ev ε x = some (.slice xb sLen sCap) := by rfl) (hy : ev ε y = some (.slice yb n yc) := by rfl) (hF : Fun L) (hu : P.underlying t = some (.slice e)) (hv : P.underlying u = some (.slice e2)) (hs : sizeAt P e = some sz) (hb : bytesAt P e = some (by_ + 1)) (hz0 : zeroAt P e = some z) (hw : Reads P L sz sLen (.slice xb sLen sCap) ws) (hr : Reads P L sz n (.slice yb n yc) vs) (hc : sCap < sLen + n) (hbig : (2 * (sLen + n) + 192) * (by_ + 1) ≤ 281474976710656) (hN : ∀ cs, New (.cells cs e))
     :
   EO P New N ε L ⟨d, .call ⟨.builtin .append, #[x, y], #[t, u]⟩, ty, ps, af, g⟩ (fun r L' => ∃ b cap, sLen + n ≤ cap ∧ cap < 9223372036854775808 ∧ r = .slice (some ⟨b, 0, none⟩) (sLen + n) cap ∧ Add L b (.cells (ws ++ vs ++ Builtin.zeroCells z.cells (cap - (sLen + n))) e) L') := by
 intro a ha
 exact e_appendNew (ha.ev hx) (ha.ev hy) hu hv hs hb hz0 hw hr hc hbig hN fun b cap hb h1 h2 => ⟨b, cap, h1, h2, rfl, add_cons hF hb⟩
theorem O_clr {b o n cap : Nat} {cs : Array Value} {e' : TypeId} {z : Value} (hx : ev ε x = some (.slice (some ⟨b, o, none⟩) n cap) := by rfl) (hnd : (L.map (·.1)).Nodup) (hu : P.underlying t = some (.slice e)) (hz0 : zeroAt P e = some z) (hzp : plainV z = true) (hm : (b, true, .cells cs e') ∈ L) (ho : o + n ≤ cs.size)  :
   EO P New N ε L ⟨d, .call ⟨.builtin .clear, #[x], #[t]⟩, ty, ps, af, g⟩ (fun r L' => r = .tuple #[] ∧ Upd L b (.cells (puts cs o (List.replicate n z)) e') L') := by
 intro a ha
 obtain ⟨m, hm'⟩ := List.getElem?_of_mem hm
 refine call_builtin (s := Builtin.clear_ #[t] ty #[.slice (some ⟨b, o, none⟩) n cap]) (fun _ => by simp [builtin, ha.ev hx]) ?_
 unfold Builtin.clear_
 simp only [List.getElem?_toArray, List.getElem?_cons_zero]
 rw [wpS_bind, wpS_underlying hu]
 cases n with
 | zero =>
   simp only [wpS_bind, wpS_pure, List.replicate_zero, puts]
   refine ⟨trivial, ?_⟩
   have := upd_set (o' := .cells cs e') hnd hm'
   have e0 : L.set m (b, true, .cells cs e') = L := by
     apply List.ext_getElem?
     intro j
     rw [List.getElem?_set]
     split
     · rename_i e; subst e; obtain ⟨hl, he⟩ := List.getElem?_eq_some_iff.1 hm'; simp [hl, he]
     · rfl
   rw [e0] at this
   exact this
 | succ n =>
   have hzc : (Builtin.zeroCells z.cells (n + 1)).toList = List.replicate (n + 1) z := by
     rw [cells_plain hzp]
     unfold Builtin.zeroCells
     apply List.ext_getElem
     · simp
     · intro i h1 h2
       simp [Nat.mod_one]
   simp only [wpS_bind, wpS_zeroValue hz0, hzc]
   refine wpS_storeCells hm' (by simpa using ho) (by simp [hzp]) ?_
   exact ⟨rfl, upd_set hnd hm'⟩
end
section
variable {σ : Type} {F : Fam σ} {Δ : ∀ s, Dom (F.R s) (F.D s)} {P : Program} {main : Bool} {fn : FuncId} {N : Nat} {Q : σ → Exit → Env → Frag → Prop} {s : σ} {ε : Env} {L : Frag}
theorem c_mid {x y : Code} {n₁ n₂ : Nat} (M : σ → Env → Frag → Prop) (h1 : wpE Δ P main fn N x n₁ s (thenE M Q) ε L) (h2 : ∀ s' ε' L', M s' ε' L' → wpE Δ P main fn N y n₂ s' Q ε' L') : wpE Δ P main fn N (.seq x y) (n₁ + n₂ + 1) s Q ε L :=
 c_seq (wpE_mono h1 fun s' e ε' L' q => by
   cases e with
   | normal => exact h2 _ _ _ q
   | _ => exact q)
end
end Go.Lo
