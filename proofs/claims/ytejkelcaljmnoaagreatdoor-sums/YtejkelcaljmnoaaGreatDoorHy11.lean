/-
  Part 11 of the proof.
  No condition but those that each statement names.
-/
import Derived.Test.YtejkelcaljmnoaaGreatDoorHy10
set_option maxRecDepth 100000
set_option linter.unusedVariables false
set_option linter.unusedSimpArgs false
set_option linter.unusedSectionVars false
namespace Go.Lo
open Go.Conc Go.Hx
def wpQ {α : Type} (P : Program) : Sem α → (α → Prop) → Frag → Prop
 | .pure a, K, _ => K a
 | .load m a k, K, L => m = .plain ∧ ∃ fl o v, (a.block, fl, o) ∈ L ∧ cellOf o a = some v ∧ wpQ P (k v) K L
 | .shape r k, K, L => ∃ fl o, (r, fl, o) ∈ L ∧ wpQ P (k (shapeOf o)) K L
 | .frozen a k, K, L => ∃ fl o, (a.block, fl, o) ∈ L ∧ wpQ P (k (frozenOf o a)) K L
 | .getObj r k, K, L => ∃ fl o, (r, fl, o) ∈ L ∧ thing o = true ∧ wpQ P (k o) K L
 | .choose q k, K, L => q.forced = true ∧ wpQ P (k 0) K L
 | .program k, K, L => wpQ P (k P) K L
 | .mark m k, K, L => okMark m = true ∧ wpQ P k K L
 | .store .., _, _ | .new .., _, _ | .freeze .., _, _ | .setObj .., _, _ | .sys .., _, _ | .halt _, _, _ => False
section
variable {α β : Type} {P : Program}
theorem wpQ_mono {K K' : α → Prop} (h : ∀ a, K a → K' a) {L L' : Frag} (hL : ∀ t ∈ L, t ∈ L') : ∀ (s : Sem α), wpQ P s K L → wpQ P s K' L' := by
 intro s
 induction s with
 | pure a => exact fun x => h _ x
 | load m a k ih => rintro ⟨h1, fl, o, v, h2, h3, h4⟩; exact ⟨h1, fl, o, v, hL _ h2, h3, ih _ h4⟩
 | shape r k ih => rintro ⟨fl, o, h1, h2⟩; exact ⟨fl, o, hL _ h1, ih _ h2⟩
 | frozen a k ih => rintro ⟨fl, o, h1, h2⟩; exact ⟨fl, o, hL _ h1, ih _ h2⟩
 | getObj r k ih => rintro ⟨fl, o, h1, h2, h3⟩; exact ⟨fl, o, hL _ h1, h2, ih _ h3⟩
 | choose q k ih => rintro ⟨h1, h2⟩; exact ⟨h1, ih _ h2⟩
 | program k ih => exact fun x => ih _ x
 | store m a v k ih => exact fun x => x
 | new o k ih => exact fun x => x
 | freeze a n k ih => exact fun x => x
 | setObj r o k ih => exact fun x => x
 | sys c k ih => exact fun x => x
 | mark m k ih => rintro ⟨h1, h2⟩; exact ⟨h1, ih h2⟩
 | halt x => exact fun x => x
theorem wpQ_bind' {L : Frag} (f : α → Sem β) (K : β → Prop) : ∀ (s : Sem α), wpQ P (s.bind f) K L = wpQ P s (fun a => wpQ P (f a) K L) L := by
 intro s
 induction s with
 | pure a => rfl
 | load m a k ih => simp only [Sem.bind, wpQ, ih]
 | shape r k ih => simp only [Sem.bind, wpQ, ih]
 | frozen a k ih => simp only [Sem.bind, wpQ, ih]
 | getObj r k ih => simp only [Sem.bind, wpQ, ih]
 | choose q k ih => simp only [Sem.bind, wpQ, ih]
 | program k ih => simp only [Sem.bind, wpQ, ih]
 | store m a v k ih => simp only [Sem.bind, wpQ]
 | new o k ih => simp only [Sem.bind, wpQ]
 | freeze a n k ih => simp only [Sem.bind, wpQ]
 | setObj r o k ih => simp only [Sem.bind, wpQ]
 | sys c k ih => simp only [Sem.bind, wpQ]
 | mark m k ih => simp only [Sem.bind, wpQ, ih]
 | halt x => simp only [Sem.bind, wpQ]
theorem wpQ_bind {L : Frag} (s : Sem α) (f : α → Sem β) (K : β → Prop) : wpQ P (s >>= f) K L = wpQ P s (fun a => wpQ P (f a) K L) L := wpQ_bind' f K s
theorem wpQ_pure {L : Frag} (a : α) (K : α → Prop) : wpQ P (Pure.pure a) K L = K a := rfl
theorem wpQ_ite {L : Frag} (c : Prop) [Decidable c] (x y : Sem α) (K : α → Prop) : wpQ P (if c then x else y) K L = if c then wpQ P x K L else wpQ P y K L := by split <;> rfl
theorem wpS_of_wpQ {New : Obj → Prop} {L : Frag} {K : α → Prop} {Q : α → Frag → Prop} (h : ∀ a, K a → Q a L) : ∀ (s : Sem α), wpQ P s K L → wpS P New s Q L := by
 intro s
 induction s with
 | pure a => exact fun x => h _ x
 | load m a k ih => rintro ⟨h1, fl, o, v, h2, h3, h4⟩; exact ⟨h1, fl, o, v, h2, h3, ih _ h4⟩
 | shape r k ih => rintro ⟨fl, o, h1, h2⟩; exact ⟨fl, o, h1, ih _ h2⟩
 | frozen a k ih => rintro ⟨fl, o, h1, h2⟩; exact ⟨fl, o, h1, ih _ h2⟩
 | getObj r k ih => rintro ⟨fl, o, h1, h2, h3⟩; exact ⟨fl, o, h1, h2, ih _ h3⟩
 | choose q k ih => rintro ⟨h1, h2⟩; exact ⟨fun _ => ih _ h2, fun e => by rw [h1] at e; cases e⟩
 | program k ih => exact fun x => ih _ x
 | store m a v k ih => exact fun x => x.elim
 | new o k ih => exact fun x => x.elim
 | freeze a n k ih => exact fun x => x.elim
 | setObj r o k ih => exact fun x => x.elim
 | sys c k ih => exact fun x => x.elim
 | mark m k ih => rintro ⟨h1, h2⟩; exact ⟨h1, ih h2⟩
 | halt x => exact fun x => x.elim
variable {R : World → World → Prop} {D : World → World → Array Event → Prop}
theorem quiet (Δ : Dom R D) {L : Frag} {w : World} (hO : Δ.Own L w) {K : α → Prop} : ∀ (s : Sem α) (es : Array Event), wpQ P s K L → ∃ a es', s.runT P w es = (.ok a w, es ++ es') ∧ (∀ e ∈ es', Δ.Ev w e) ∧ K a := by
 intro s
 induction s with
 | pure a => exact fun es h => ⟨a, #[], by simp [Sem.runT, -Sem.runT_eq], by simp, h⟩
 | load m a k ih =>
   rintro es ⟨rfl, fl, o, v, hm, hv, h⟩
   have hb := Δ.has hO hm
   have hc := cell_of hb hv
   have hs : a.spot = none := by cases o <;> simp_all [cellOf]
   obtain ⟨x, es', hr, he, hK⟩ := ih v (es.push ⟨.cell a, false, false⟩) h
   refine ⟨x, #[⟨.cell a, false, false⟩] ++ es', by simp only [Sem.runT, hc]; rw [show ((Mode.plain == Mode.atomic) = false) from rfl, hr]; simp, fun e hm' => ?_, hK⟩
   rcases Array.mem_append.1 hm' with h1 | h1
   · obtain rfl := by simpa using h1
     obtain ⟨b, i, sp⟩ := a
     obtain rfl : sp = none := hs
     exact Δ.evc hO hm i
   · exact he e h1
 | shape r k ih =>
   rintro es ⟨fl, o, hm, h⟩
   have hb := Δ.has hO hm
   obtain ⟨x, es', hr, he, hK⟩ := ih _ es h
   have e0 : w.shape? r = shapeOf o := by unfold World.shape?; rw [hb]; cases o <;> rfl
   exact ⟨x, es', by simp only [Sem.runT, e0]; exact hr, he, hK⟩
 | frozen a k ih =>
   rintro es ⟨fl, o, hm, h⟩
   have hb := Δ.has hO hm
   obtain ⟨x, es', hr, he, hK⟩ := ih _ es h
   have e0 : w.frozen? a = frozenOf o a := by unfold World.frozen?; rw [hb]; cases o <;> rfl
   exact ⟨x, es', by simp only [Sem.runT, e0]; exact hr, he, hK⟩
 | getObj r k ih =>
   rintro es ⟨fl, o, hm, ho, h⟩
   have hb := Δ.has hO hm
   obtain ⟨x, es', hr, he, hK⟩ := ih o (es.push ⟨.obj r, false, false⟩) h
   refine ⟨x, #[⟨.obj r, false, false⟩] ++ es', by rw [runT_getObj hb ho, hr]; simp, fun e hm' => ?_, hK⟩
   rcases Array.mem_append.1 hm' with h1 | h1
   · obtain rfl := by simpa using h1
     exact Δ.evo hO hm
   · exact he e h1
 | choose q k ih =>
   rintro es ⟨hf, h⟩
   obtain ⟨x, es', hr, he, hK⟩ := ih _ es h
   exact ⟨x, es', by simp only [Sem.runT, hf, if_true]; exact hr, he, hK⟩
 | program k ih =>
   intro es h
   obtain ⟨x, es', hr, he, hK⟩ := ih P es h
   exact ⟨x, es', by simp only [Sem.runT]; exact hr, he, hK⟩
 | store m a v k ih => exact fun _ x => x.elim
 | new o k ih => exact fun _ x => x.elim
 | freeze a n k ih => exact fun _ x => x.elim
 | setObj r o k ih => exact fun _ x => x.elim
 | sys c k ih => exact fun _ x => x.elim
 | mark m k ih =>
   rintro es ⟨hm, h⟩
   obtain ⟨x, es', hr, he, hK⟩ := ih (es.push ⟨.mark m, false, true⟩) h
   refine ⟨x, #[⟨.mark m, false, true⟩] ++ es', by simp only [Sem.runT]; rw [hr]; simp, fun e hm' => ?_, hK⟩
   rcases Array.mem_append.1 hm' with h1 | h1
   · obtain rfl := by simpa using h1
     exact Δ.nor w m hm
   · exact he e h1
 | halt x => exact fun _ x => x.elim
theorem quiet' (Δ : Dom R D) {L : Frag} {w : World} (hO : Δ.Own L w) {s : Sem α} {v : α} (h : wpQ P s (· = v) L) : s.run P w = .ok v w ∧ ∀ e ∈ s.events P w #[], Δ.Ev w e := by
 obtain ⟨a, es', hr, he, rfl⟩ := quiet Δ hO s #[] h
 refine ⟨by rw [← Sem.runT_fst P s w #[], hr], ?_⟩
 unfold Sem.events
 rw [hr]
 simpa using he
end
section
variable {α β : Type} {P : Program} {L : Frag}
theorem wpQ_underlying {t : TypeId} {d : TypeDesc} {K : TypeDesc → Prop} (h : P.underlying t = some d) : wpQ P (underlying t) K L = K d := by
 show (wpQ P (match P.underlying t with | some d => pure d | none => stuck "no such type") K L) = K d
 rw [h]; rfl
theorem wpQ_typeInfo {t : TypeId} {i : TypeInfo} {K : TypeInfo → Prop} (h : P.info? t = some i) : wpQ P (typeInfo t) K L = K i := by
 show (wpQ P (match P.info? t with | some d => pure d | none => stuck "no such type") K L) = K i
 rw [h]; rfl
theorem wpQ_sizeOf {t n : Nat} {K : Nat → Prop} (h : sizeAt P t = some n) : wpQ P (sizeOf t) K L = K n := by
 obtain ⟨i, hi, rfl⟩ := Option.map_eq_some_iff.1 h
 unfold sizeOf
 rw [wpQ_bind, wpQ_typeInfo hi]; rfl
theorem wpQ_zeroValue {t : Nat} {v : Value} {K : Value → Prop} (h : zeroAt P t = some v) : wpQ P (zeroValue t) K L = K v := by
 obtain ⟨i, hi, hz⟩ := Option.bind_eq_some_iff.1 h
 unfold zeroValue
 rw [wpQ_bind, wpQ_typeInfo hi, hz]; rfl
theorem wpQ_isAgg {t : Nat} {g : Bool} {K : Bool → Prop} (h : aggAt P t = some g) : wpQ P (isAgg t) K L = K g := by
 obtain ⟨d, hd, rfl⟩ := Option.map_eq_some_iff.1 h
 unfold isAgg
 rw [wpQ_bind, wpQ_underlying hd]
 cases d <;> rfl
theorem wpQ_sureAddr {a : Addr} {K : Addr → Prop} : wpQ P (Instr.sureAddr (.pointer (some a))) K L = K a := rfl
theorem wpQ_load {b i : Nat} {v : Value} {K : Value → Prop} (h : At L b i v) (hK : K v) : wpQ P (load ⟨b, i, none⟩) K L := by
 obtain ⟨fl, cs, ty, fr, hm, hv⟩ := h
 exact ⟨rfl, fl, _, v, hm, by simpa [cellOf] using hv, hK⟩
theorem wpQ_getObj {r : Nat} {o : Obj} {fl : Bool} {K : Obj → Prop} (hm : (r, fl, o) ∈ L) (ho : thing o = true) (hK : K o) : wpQ P (getObj r) K L := ⟨fl, o, hm, ho, hK⟩
theorem wpQ_shape {b : Nat} {fl : Bool} {cs : Array Value} {t : TypeId} {fr : Nat × Nat} {K : Option (TypeId × Nat) → Prop} (h : (b, fl, .cells cs t fr) ∈ L) (hK : K (some (t, cs.size))) : wpQ P (shape b) K L := ⟨fl, _, h, hK⟩
theorem wpQ_frozen {a : Addr} {fl : Bool} {cs : Array Value} {t : TypeId} {K : Bool → Prop} (h : (a.block, fl, .cells cs t) ∈ L) (hK : K false) : wpQ P (frozen a) K L := ⟨fl, _, h, by simpa [frozenOf, wpQ] using hK⟩
theorem wpQ_loadFrom {b o : Nat} {cs : Array Value} {ty : TypeId} {fr : Nat × Nat} {fl : Bool} (hm : (b, fl, .cells cs ty fr) ∈ L) {K : Array Value → Prop} :
   ∀ (n i : Nat) (acc : Array Value), o + i + n ≤ cs.size → K (acc ++ cs.extract (o + i) (o + i + n)) → wpQ P (loadCellsFrom ⟨b, o, none⟩ i n acc) K L := by
 intro n
 induction n with
 | zero =>
   intro i acc h hK
   have e : cs.extract (o + i) (o + i + 0) = #[] := by apply Array.ext'; simp
   rw [e, Array.append_empty] at hK
   exact hK
 | succ n ih =>
   intro i acc h hK
   have hi : o + i < cs.size := by omega
   unfold loadCellsFrom
   rw [wpQ_bind, addr_add]
   refine wpQ_load (b := b) (i := o + i) ⟨fl, cs, ty, fr, hm, Array.getElem?_eq_getElem hi⟩ ?_
   refine ih (i + 1) _ (by omega) ?_
   have e : acc.push cs[o + i] ++ cs.extract (o + (i + 1)) (o + (i + 1) + n) = acc ++ cs.extract (o + i) (o + i + (n + 1)) := by
     apply Array.ext'
     simp only [Array.toList_append, Array.toList_push, Array.toList_extract, List.append_assoc]
     congr 1
     rw [List.extract_eq_take_drop, List.extract_eq_take_drop]
     have : cs.toList.drop (o + i) = cs[o + i] :: cs.toList.drop (o + i + 1) := by
       rw [List.drop_eq_getElem_cons (by simpa using hi)]; simp
     rw [this, show o + i + (n + 1) - (o + i) = n + 1 by omega, show o + (i + 1) + n - (o + (i + 1)) = n by omega, List.take_succ_cons, Nat.add_assoc]
     simp
   rw [e]; exact hK
theorem wpQ_loadCells {b o n : Nat} {cs : Array Value} {ty : TypeId} {fr : Nat × Nat} {fl : Bool} (hm : (b, fl, .cells cs ty fr) ∈ L) {K : Array Value → Prop} (h : o + n ≤ cs.size) (hK : K (cs.extract o (o + n))) : wpQ P (loadCells ⟨b, o, none⟩ n) K L :=
 wpQ_loadFrom hm n 0 #[] (by omega) (by simpa using hK)
end
def Yld (P : Program) (L : Frag) (s : Sem Next) (v : Value) : Prop := wpQ P s (· = .value v) L
theorem Yld.mono {P : Program} {L L' : Frag} {s : Sem Next} {v : Value} (h : Yld P L s v) (hL : ∀ t ∈ L, t ∈ L') : Yld P L' s v := wpQ_mono (fun _ h => h) hL s h
theorem Yld.go {P : Program} {L : Frag} {s : Sem Next} {v : Value} (h : Yld P L s v) {New : Obj → Prop} {Q : Next → Frag → Prop} (hQ : Q (.value v) L) : wpS P New s Q L := wpS_of_wpQ (fun a e => by rw [e]; exact hQ) s h
section
variable {P : Program} {L : Frag} {ρ : Operand → Value} {d : Option Tmp} {ty : TypeId} {ps : String} {af : Array Edge} {g : Option (Nat × Bool)}
theorem y_of {s : Sem Value} {f : Value → Sem Next} {v : Value} (hf : ∀ v, f v = pure (.value v)) (h : ∀ (K : Value → Prop), K v → wpQ P s K L) : Yld P L (s >>= f) v := by
 unfold Yld
 rw [wpQ_bind]
 exact h _ (by rw [hf]; rfl)
theorem y_move {x : Operand} : Yld P L (execOp ρ ⟨d, .move x, ty, ps, af, g⟩) (ρ x) := rfl
theorem y_assign {x : Operand} : Yld P L (execOp ρ ⟨d, .assign x, ty, ps, af, g⟩) (ρ x) := rfl
theorem y_pick {c a b : Operand} {t : Bool} (hc : ρ c = .bool t) : Yld P L (execOp ρ ⟨d, .pick c a b, ty, ps, af, g⟩) (if t then ρ a else ρ b) := by
 show wpQ P (asBool (ρ c) >>= fun t => pure (Next.value (if t then ρ a else ρ b))) (· = .value (if t then ρ a else ρ b)) L
 rw [hc]; rfl
theorem y_nilCheck {x : Operand} {a : Addr} (hx : ρ x = .pointer (some a)) : Yld P L (execOp ρ ⟨d, .nilCheck x, ty, ps, af, g⟩) (.pointer (some a)) := by
 unfold Yld
 simp only [execOp, hx]; rfl
theorem y_fieldAddr {x : Operand} {s f b i off : Nat} (hx : ρ x = .pointer (some ⟨b, i, none⟩)) (hf : fieldOff P s f = some off) : Yld P L (execOp ρ ⟨d, .fieldAddr s x f, ty, ps, af, g⟩) (.pointer (some ⟨b, i + off, none⟩)) := by
 refine y_of (fun _ => rfl) fun K h => ?_
 unfold fieldOff at hf
 split at hf <;> try cases hf
 rename_i fs hu
 split at hf <;> try cases hf
 rename_i fd hfd
 split at hf <;> try cases hf
 rename_i n hn
 unfold Instr.fieldAt
 rw [wpQ_bind, wpQ_underlying hu, hx]
 simp only [hfd]
 rw [wpQ_bind, wpQ_sureAddr, wpQ_bind]
 unfold fieldPlace
 rw [wpQ_bind, wpQ_sizeOf hn]
 simp only [Nat.succ_ne_zero, if_false, Nat.add_eq_zero_iff, Nat.one_ne_zero, and_false]
 rw [wpQ_pure, addr_add]
 exact h
theorem y_load {x : Operand} {t b i : Nat} {v : Value} (hx : ρ x = .pointer (some ⟨b, i, none⟩)) (ht : aggAt P t = some false) (hv : At L b i v) : Yld P L (execOp ρ ⟨d, .load t x, ty, ps, af, g⟩) v := by
 refine y_of (fun _ => rfl) fun K h => ?_
 unfold Instr.loadAt
 rw [hx, wpQ_bind, wpQ_sureAddr]
 unfold loadVar
 rw [wpQ_bind, wpQ_isAgg ht]
 exact wpQ_load hv h
theorem y_loadAgg {x : Operand} {t b i n : Nat} {cs : Array Value} {e : TypeId} {fr : Nat × Nat} {fl : Bool} (hx : ρ x = .pointer (some ⟨b, i, none⟩)) (ht : aggAt P t = some true) (hs : sizeAt P t = some n) (hm : (b, fl, .cells cs e fr) ∈ L) (hi : i + n ≤ cs.size) :
   Yld P L (execOp ρ ⟨d, .load t x, ty, ps, af, g⟩) (.agg (cs.extract i (i + n))) := by
 refine y_of (fun _ => rfl) fun K h => ?_
 unfold Instr.loadAt
 rw [hx, wpQ_bind, wpQ_sureAddr]
 unfold loadVar
 rw [wpQ_bind, wpQ_isAgg ht]
 simp only [if_true]
 rw [wpQ_bind, wpQ_sizeOf hs, wpQ_bind]
 exact wpQ_loadCells hm hi h
theorem y_indexArr {x ix : Operand} {t b o sz : Nat} {len : Nat} {e : TypeId} {k : IntKind} {n : Int} (hx : ρ x = .pointer (some ⟨b, o, none⟩)) (hi : ρ ix = .int k n) (hu : P.underlying t = some (.array len e)) (hs : sizeAt P e = some sz) (h0 : 0 ≤ n) (h1 : n < len) :
   Yld P L (execOp ρ ⟨d, .indexAddr t x ix, ty, ps, af, g⟩) (.pointer (some ⟨b, o + n.toNat * sz, none⟩)) := by
 refine y_of (fun _ => rfl) fun K h => ?_
 unfold Instr.indexAt
 rw [hx, hi]
 simp only [wpQ_bind, asIntOf, wpQ_pure, wpQ_underlying hu, wpQ_sureAddr, wpQ_ite, wpQ_sizeOf hs, addr_add]
 rw [if_pos ⟨h0, h1⟩]
 exact h
theorem y_indexSl {x ix : Operand} {t b o sz : Nat} {len cap : Nat} {e : TypeId} {k : IntKind} {n : Int} (hx : ρ x = .slice (some ⟨b, o, none⟩) len cap) (hi : ρ ix = .int k n) (hu : P.underlying t = some (.slice e)) (hs : sizeAt P e = some sz) (h0 : 0 ≤ n) (h1 : n < len) :
   Yld P L (execOp ρ ⟨d, .indexAddr t x ix, ty, ps, af, g⟩) (.pointer (some ⟨b, o + n.toNat * sz, none⟩)) := by
 refine y_of (fun _ => rfl) fun K h => ?_
 unfold Instr.indexAt
 rw [hx, hi]
 simp only [wpQ_bind, asIntOf, wpQ_pure, wpQ_underlying hu, wpQ_ite, wpQ_sizeOf hs, addr_add]
 rw [if_pos ⟨h0, h1⟩]
 exact h
theorem eqGuard_int {op : BinOp} {t : TypeId} {x y : Operand} {k k' : IntKind} {a b : Int} : eqGuard op t x y (.int k a) (.int k' b) = pure () := by
 unfold eqGuard
 cases op <;> rfl
theorem y_bin {op : BinOp} {t u : TypeId} {x y : Operand} {k : IntKind} {a b : Int} {v : Value} (hx : ρ x = .int k a) (hy : ρ y = .int k b) (h : binOp op t (.int k a) (.int k b) = pure v) : Yld P L (execOp ρ ⟨d, .binOp op t x y u, ty, ps, af, g⟩) v := by
 refine y_of (fun _ => rfl) fun K hQ => ?_
 rw [hx, hy, eqGuard_int]
 show wpQ P (binOp op t (.int k a) (.int k b)) K L
 rw [h]; exact hQ
theorem y_add {t u : TypeId} {x y : Operand} {k : IntKind} {a b : Int} (hx : ρ x = .int k a) (hy : ρ y = .int k b) : Yld P L (execOp ρ ⟨d, .binOp .add t x y u, ty, ps, af, g⟩) (.int k (k.wrap (a + b))) := y_bin hx hy (by simp [binOp, Op.intArith])
theorem y_sub {t u : TypeId} {x y : Operand} {k : IntKind} {a b : Int} (hx : ρ x = .int k a) (hy : ρ y = .int k b) : Yld P L (execOp ρ ⟨d, .binOp .sub t x y u, ty, ps, af, g⟩) (.int k (k.wrap (a - b))) := y_bin hx hy (by simp [binOp, Op.intArith])
theorem y_mul {t u : TypeId} {x y : Operand} {k : IntKind} {a b : Int} (hx : ρ x = .int k a) (hy : ρ y = .int k b) : Yld P L (execOp ρ ⟨d, .binOp .mul t x y u, ty, ps, af, g⟩) (.int k (k.wrap (a * b))) := y_bin hx hy (by simp [binOp, Op.intArith])
theorem y_rem {t u : TypeId} {x y : Operand} {k : IntKind} {a b : Int} (hx : ρ x = .int k a) (hy : ρ y = .int k b) (hb : b ≠ 0) : Yld P L (execOp ρ ⟨d, .binOp .rem t x y u, ty, ps, af, g⟩) (.int k (a.tmod b)) := y_bin hx hy (by simp [binOp, Op.intDiv, hb])
theorem y_eql {t u : TypeId} {x y : Operand} {k : IntKind} {a b : Int} (hx : ρ x = .int k a) (hy : ρ y = .int k b) : Yld P L (execOp ρ ⟨d, .binOp .eql t x y u, ty, ps, af, g⟩) (.bool (a == b)) := y_bin hx hy (by simp [binOp, Op.intCmp])
theorem y_neq {t u : TypeId} {x y : Operand} {k : IntKind} {a b : Int} (hx : ρ x = .int k a) (hy : ρ y = .int k b) : Yld P L (execOp ρ ⟨d, .binOp .neq t x y u, ty, ps, af, g⟩) (.bool (a != b)) := y_bin hx hy (by simp [binOp, Op.intCmp])
theorem y_lss {t u : TypeId} {x y : Operand} {k : IntKind} {a b : Int} (hx : ρ x = .int k a) (hy : ρ y = .int k b) : Yld P L (execOp ρ ⟨d, .binOp .lss t x y u, ty, ps, af, g⟩) (.bool (decide (a < b))) := y_bin hx hy (by simp [binOp, Op.intCmp])
theorem y_leq {t u : TypeId} {x y : Operand} {k : IntKind} {a b : Int} (hx : ρ x = .int k a) (hy : ρ y = .int k b) : Yld P L (execOp ρ ⟨d, .binOp .leq t x y u, ty, ps, af, g⟩) (.bool (decide (a ≤ b))) := y_bin hx hy (by simp [binOp, Op.intCmp])
theorem y_gtr {t u : TypeId} {x y : Operand} {k : IntKind} {a b : Int} (hx : ρ x = .int k a) (hy : ρ y = .int k b) : Yld P L (execOp ρ ⟨d, .binOp .gtr t x y u, ty, ps, af, g⟩) (.bool (decide (b < a))) := y_bin hx hy (by simp [binOp, Op.intCmp])
theorem y_geq {t u : TypeId} {x y : Operand} {k : IntKind} {a b : Int} (hx : ρ x = .int k a) (hy : ρ y = .int k b) : Yld P L (execOp ρ ⟨d, .binOp .geq t x y u, ty, ps, af, g⟩) (.bool (decide (b ≤ a))) := y_bin hx hy (by simp [binOp, Op.intCmp])
theorem y_conv {s t : TypeId} {ds : TypeDesc} {x : Operand} {j k : IntKind} {n : Int} (hx : ρ x = .int j n) (hs : P.underlying s = some ds) (ht : P.underlying t = some (.int k)) : Yld P L (execOp ρ ⟨d, .convert s t x, ty, ps, af, g⟩) (.int k (k.wrap n)) := by
 refine y_of (fun _ => rfl) fun K h => ?_
 unfold convert
 rw [hx, wpQ_bind, wpQ_underlying hs, wpQ_bind, wpQ_underlying ht]
 exact h
theorem y_not {t : TypeId} {x : Operand} {b : Bool} (hx : ρ x = .bool b) : Yld P L (execOp ρ ⟨d, .unOp .not t x, ty, ps, af, g⟩) (.bool !b) := by
 refine y_of (fun _ => rfl) fun K h => ?_
 rw [hx]; exact h
theorem y_neg {t : TypeId} {x : Operand} {k : IntKind} {n : Int} (hx : ρ x = .int k n) : Yld P L (execOp ρ ⟨d, .unOp .neg t x, ty, ps, af, g⟩) (.int k (k.wrap (0 - n))) := by
 refine y_of (fun _ => rfl) fun K h => ?_
 rw [hx]; exact h
theorem y_extract {x : Operand} {i : Nat} {vs : Array Value} {v : Value} (hx : ρ x = .tuple vs) (hv : vs[i]? = some v) : Yld P L (execOp ρ ⟨d, .extract x i, ty, ps, af, g⟩) v := by
 refine y_of (fun _ => rfl) fun K h => ?_
 rw [hx]
 simp only [Instr.extract, hv]; exact h
theorem y_makeFunc {f : Fn} {c1 c2 : Array Operand} : Yld P L (execOp ρ ⟨d, .makeFunc f c1 c2, ty, ps, af, g⟩) (.func f (c1.map ρ) (c2.map ρ)) := y_of (fun _ => rfl) fun _ h => h
theorem y_makeIface {t : TypeId} {x : Operand} {ds : TypeDesc} (ht : P.underlying t = some ds) (hi : ∀ ms, ds ≠ .interface ms) : Yld P L (execOp ρ ⟨d, .makeInterface t x, ty, ps, af, g⟩) (.iface t (ρ x)) := by
 refine y_of (fun _ => rfl) fun K h => ?_
 unfold Instr.makeInterface
 rw [wpQ_bind, wpQ_underlying ht]
 cases ds <;> first | exact h | exact absurd rfl (hi _)
theorem wpQ_part1 {t off : Nat} {cs : Array Value} {v : Value} {K : Value → Prop} (hg : aggAt P t = some false) (hv : cs[off]? = some v) (h : K v) : wpQ P (part t cs off) K L := by
 unfold part
 rw [wpQ_bind, wpQ_isAgg hg]
 simp only [Bool.false_eq_true, if_false, hv]
 exact h
theorem y_field {x : Operand} {s f off n : Nat} {cs : Array Value} {v : Value} (hx : ρ x = .agg cs) (hf : fieldPart P s f = some (off, n, false)) (hv : cs[off]? = some v) : Yld P L (execOp ρ ⟨d, .field s x f, ty, ps, af, g⟩) v := by
 refine y_of (fun _ => rfl) fun K h => ?_
 unfold fieldPart at hf
 split at hf <;> try cases hf
 rename_i fs hu
 split at hf <;> try cases hf
 rename_i fd hfd
 split at hf <;> try cases hf
 rename_i h1 h2
 unfold Instr.field
 rw [wpQ_bind, wpQ_underlying hu, hx]
 simp only [hfd]
 exact wpQ_part1 h2 hv h
theorem y_builtin {b : Builtin} {args : Array Operand} {ats : Array TypeId} {s : Array Bool → Sem Value} {v : Value} (hb : ∀ cs, builtin b ats ty cs (args.map ρ) = (s cs >>= fun v => pure (.value v))) (h : ∀ cs (K : Value → Prop), K v → wpQ P (s cs) K L) :
   Yld P L (execOp ρ ⟨d, .call ⟨.builtin b, args, ats⟩, ty, ps, af, g⟩) v := by
 show wpQ P (builtin b ats ty _ (args.map ρ)) _ L
 rw [hb, wpQ_bind]
 exact h _ _ rfl
theorem y_lenSl {x : Operand} {ats : Array TypeId} {t : TypeId} {e : TypeId} {base : Option Addr} {len cap : Nat} (hx : ρ x = .slice base len cap) (ha : ats[0]? = some t) (hu : P.underlying t = some (.slice e)) : Yld P L (execOp ρ ⟨d, .call ⟨.builtin .len, #[x], ats⟩, ty, ps, af, g⟩) (.int .i64 len) := by
 refine y_builtin (s := fun _ => Builtin.len_ ats ty (#[x].map ρ)) (fun _ => rfl) fun _ K h => ?_
 unfold Builtin.len_
 simp only [ha, List.map_toArray, List.map_cons, List.map_nil, hx, List.getElem?_toArray, List.getElem?_cons_zero]
 rw [wpQ_bind, wpQ_underlying hu]
 exact h
theorem y_min {x y : Operand} {ats : Array TypeId} {k k' : IntKind} {a b : Int} (hx : ρ x = .int k a) (hy : ρ y = .int k' b) : Yld P L (execOp ρ ⟨d, .call ⟨.builtin .min, #[x, y], ats⟩, ty, ps, af, g⟩) (.int k (if b < a then b else a)) := by
 refine y_builtin (s := fun _ => Builtin.min_ ats ty (#[x, y].map ρ)) (fun _ => rfl) fun _ K h => ?_
 unfold Builtin.min_
 simp only [List.map_toArray, List.map_cons, List.map_nil, hx, hy, List.foldlM, Builtin.min2]
 exact h
theorem eqGuard_ptr {op : BinOp} {t : TypeId} {x y : Operand} {a b : Option Addr} : eqGuard op t x y (.pointer a) (.pointer b) = pure () := by
 unfold eqGuard
 cases op <;> rfl
theorem y_ptr {op : BinOp} {t u e : TypeId} {x y : Operand} {a b : Option Addr} {v : Bool} (hop : op = .eql ∨ op = .neq) (hx : ρ x = .pointer a) (hy : ρ y = .pointer b) (hu : P.underlying t = some (.pointer e))
   (h : ∀ (K : Bool → Prop), K v → wpQ P (Op.equal t (.pointer a) (.pointer b)) K L) : Yld P L (execOp ρ ⟨d, .binOp op t x y u, ty, ps, af, g⟩) (.bool (if op = .eql then v else !v)) := by
 refine y_of (fun _ => rfl) fun K hQ => ?_
 rw [hx, hy, eqGuard_ptr]
 show wpQ P (binOp op t (.pointer a) (.pointer b)) K L
 rcases hop with rfl | rfl
 · show wpQ P (do pure (.bool (← Op.equal t (.pointer a) (.pointer b)))) K L
   rw [wpQ_bind]
   exact h _ hQ
 · show wpQ P (do pure (.bool (!(← Op.equal t (.pointer a) (.pointer b))))) K L
   rw [wpQ_bind]
   exact h _ hQ
theorem equal_unf {t : TypeId} {x y : Value} : Op.equal t x y = Op.equalIn (9999 + 1) t x y := rfl
theorem wpQ_eqNone' {t e : TypeId} {a : Option Addr} {K : Bool → Prop} (hu : P.underlying t = some (.pointer e)) (h : K a.isNone) : wpQ P (Op.equal t (.pointer a) (.pointer none)) K L := by
 rw [equal_unf, Op.equalIn.eq_def]
 rw [wpQ_bind, wpQ_underlying hu]
 cases a <;> exact h
theorem wpQ_noView {a : Addr} {fl : Bool} {cs : Array Value} {t : TypeId} {fr : Nat × Nat} {K : Unit → Prop} (h : (a.block, fl, .cells cs t fr) ∈ L) (hQ : K ()) : wpQ P (noView a) K L := by
 unfold noView viewAt
 rw [wpQ_bind, wpQ_bind]
 refine wpQ_shape h ?_
 simp only [Option.isSome_some, if_true]
 exact hQ
theorem wpQ_stringish {a : Addr} {fl : Bool} {cs : Array Value} {t : TypeId} {K : Bool → Prop} (h : (a.block, fl, .cells cs t) ∈ L) (hQ : K false) : wpQ P (stringish a) K L := by
 unfold stringish
 rw [wpQ_bind]
 refine wpQ_frozen h ?_
 simp only [Bool.false_eq_true, if_false]
 rw [wpQ_bind]
 refine wpQ_shape h ?_
 exact wpQ_frozen (a := { block := a.block, off := cs.size }) h hQ
theorem wpQ_mayBeOne {a b : Addr} {fl fl' : Bool} {cs cs' : Array Value} {t t' : TypeId} {K : Bool → Prop} (h : (a.block, fl, .cells cs t) ∈ L) (h' : (b.block, fl', .cells cs' t') ∈ L) (hQ : K false) : wpQ P (mayBeOne a b) K L := by
 unfold mayBeOne
 rw [wpQ_bind]
 refine wpQ_stringish h ?_
 rw [wpQ_bind]
 refine wpQ_stringish h' ?_
 simp only [Bool.false_and, Bool.or_false, wpQ_bind]
 refine wpQ_shape h ?_
 refine wpQ_shape h' ?_
 exact hQ
theorem wpQ_eqAddr {t e n : TypeId} {b i b' i' : Nat} {cs cs' : Array Value} {ty1 ty1' : TypeId} {fl fl' : Bool} {K : Bool → Prop} (hu : P.underlying t = some (.pointer e)) (hs : sizeAt P e = some (n + 1))
   (h1 : (b, fl, .cells cs ty1) ∈ L) (h2 : (b', fl', .cells cs' ty1') ∈ L) (h : K (decide ((b, i) = (b', i')))) : wpQ P (Op.equal t (.pointer (some ⟨b, i, none⟩)) (.pointer (some ⟨b', i', none⟩))) K L := by
 rw [equal_unf, Op.equalIn.eq_def]
 rw [wpQ_bind, wpQ_underlying hu]
 show wpQ P (do if (← sizeOf e) ≠ 0 then sameAddr ⟨b, i, none⟩ ⟨b', i', none⟩ else _) K L
 rw [wpQ_bind, wpQ_sizeOf hs]
 simp only [ne_eq, Nat.add_eq_zero_iff, Nat.one_ne_zero, and_false, not_false_eq_true, if_true]
 unfold sameAddr
 by_cases hb : b = b'
 · subst hb
   simp only [beq_self_eq_true, if_true]
   have e0 : ((⟨b, i, none⟩ : Addr) == ⟨b, i', none⟩) = decide ((b, i) = (b, i')) := by
     rw [Bool.eq_iff_iff]; simp [Prod.ext_iff]
   rw [e0]; exact h
 · have hne : (b == b') = false := by simpa using hb
   have hd : decide ((b, i) = (b', i')) = false := by simp [hb]
   rw [hd] at h
   simp only [hne, Bool.false_eq_true, if_false]
   rw [wpQ_bind]
   refine wpQ_frozen h1 ?_
   rw [wpQ_bind]
   refine wpQ_frozen h2 ?_
   simp only [Bool.and_false, Bool.false_eq_true, if_false]
   rw [wpQ_bind]
   refine wpQ_noView h1 ?_
   rw [wpQ_bind]
   refine wpQ_noView h2 ?_
   rw [wpQ_bind]
   refine wpQ_mayBeOne h1 h2 ?_
   exact h
theorem y_eqNil {t u e : TypeId} {x y : Operand} {a : Option Addr} (hx : ρ x = .pointer a) (hy : ρ y = .pointer none) (hu : P.underlying t = some (.pointer e)) : Yld P L (execOp ρ ⟨d, .binOp .eql t x y u, ty, ps, af, g⟩) (.bool a.isNone) :=
 y_ptr (.inl rfl) hx hy hu fun _ h => wpQ_eqNone' hu h
theorem y_eqAddr {t u e n : TypeId} {x y : Operand} {b i b' i' : Nat} {cs cs' : Array Value} {ty1 ty1' : TypeId} {fl fl' : Bool} (hx : ρ x = .pointer (some ⟨b, i, none⟩)) (hy : ρ y = .pointer (some ⟨b', i', none⟩)) (hu : P.underlying t = some (.pointer e)) (hs : sizeAt P e = some (n + 1))
   (h1 : (b, fl, .cells cs ty1) ∈ L) (h2 : (b', fl', .cells cs' ty1') ∈ L) : Yld P L (execOp ρ ⟨d, .binOp .eql t x y u, ty, ps, af, g⟩) (.bool (decide ((b, i) = (b', i')))) :=
 y_ptr (.inl rfl) hx hy hu fun _ h => wpQ_eqAddr hu hs h1 h2 h
theorem y_ifNil {op : BinOp} {t u : TypeId} {x y : Operand} {v : Value} {b : Bool} {ms : Array (String × TypeId)} (hop : op = .eql ∨ op = .neq) (hv : (v = .nilIface ∧ b = true) ∨ (∃ s w, v = .iface s w ∧ b = false)) (hx : ρ x = v) (hy : y = .const .nilIface) (hy' : ρ y = .nilIface) (hu : P.underlying t = some (.interface ms)) :
   Yld P L (execOp ρ ⟨d, .binOp op t x y u, ty, ps, af, g⟩) (.bool (if op = .eql then b else !b)) := by
 refine y_of (fun _ => rfl) fun K hQ => ?_
 have hg : eqGuard op t x y v .nilIface = pure () := by
   unfold eqGuard
   rcases hop with rfl | rfl <;> rcases hv with ⟨rfl, _⟩ | ⟨s, w, rfl, _⟩ <;> subst hy <;> simp
 rw [hx, hy', hg]
 show wpQ P (binOp op t v .nilIface) K L
 have he : ∀ (K : Bool → Prop), K b → wpQ P (Op.equal t v .nilIface) K L := fun K hQ => by
   rw [equal_unf, Op.equalIn.eq_def, wpQ_bind, wpQ_underlying hu]
   rcases hv with ⟨rfl, rfl⟩ | ⟨s, w, rfl, rfl⟩ <;> exact hQ
 have e1 : binOp op t v .nilIface = if op = .eql then (do pure (.bool (← Op.equal t v .nilIface))) else (do pure (.bool (!(← Op.equal t v .nilIface)))) := by
   rcases hop with rfl | rfl <;> rcases hv with ⟨rfl, _⟩ | ⟨s, w, rfl, _⟩ <;> rfl
 rw [e1]
 rcases hop with rfl | rfl
 · simp only [if_true, wpQ_bind]; exact he _ hQ
 · simp only [reduceCtorEq, if_false, wpQ_bind]; exact he _ hQ
end
end Go.Lo
