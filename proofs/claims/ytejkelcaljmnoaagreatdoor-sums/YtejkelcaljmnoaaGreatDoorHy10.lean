/-
  Part 10 of the proof.
  No condition but those that each statement names.
-/
import Derived.Test.YtejkelcaljmnoaaGreatDoorHy09
set_option maxRecDepth 100000
set_option linter.unusedVariables false
set_option linter.unusedSimpArgs false
set_option linter.unusedSectionVars false
namespace Go.Lo
open Go.Conc Go.Hx
abbrev Frag := List (Nat × Bool × Obj)
def cellOf : Obj → Addr → Option Value
 | .cells c _ _, a => if a.spot.isSome then none else c[a.off]?
 | _, _ => none
def shapeOf : Obj → Option (TypeId × Nat)
 | .cells c e _ => some (e, c.size)
 | _ => none
def frozenOf : Obj → Addr → Bool
 | .cells _ _ (lo, hi), a => lo ≤ a.off && a.off < hi
 | _, _ => false
def thing : Obj → Bool
 | .cells .. => false
 | .chan .. => false
 | _ => true
def plainV : Value → Bool
 | .agg _ => false
 | .tuple _ => false
 | _ => true
def fits : Obj → Obj → Bool
 | .cells _ t _, .cells _ t' _ => t == t'
 | o, o' => thing o && thing o'
def okMark : Mark → Bool
 | .noRoom => true
 | .extern _ => true
 | _ => false
def froze (fr : Nat × Nat) (a : Addr) (m : Nat) : Nat × Nat := if m = 0 then fr else if fr.1 == fr.2 then (a.off, a.off + m) else (min fr.1 a.off, max fr.2 (a.off + m))
def wpS {α : Type} (P : Program) (New : Obj → Prop) : Sem α → (α → Frag → Prop) → Frag → Prop
 | .pure a, Q, L => Q a L
 | .load m a k, Q, L => m = .plain ∧ ∃ fl o v, (a.block, fl, o) ∈ L ∧ cellOf o a = some v ∧ wpS P New (k v) Q L
 | .store m a v k, Q, L => m = .plain ∧ plainV v = true ∧ a.spot = none ∧ ∃ n cs ty fr, L[n]? = some (a.block, true, .cells cs ty fr) ∧ a.off < cs.size ∧ frozenOf (.cells cs ty fr) a = false ∧ wpS P New k Q (L.set n (a.block, true, .cells (cs.setIfInBounds a.off v) ty fr))
 | .new o k, Q, L => New o ∧ ∀ b, (∀ t ∈ L, t.1 ≠ b) → wpS P New (k b) Q ((b, true, o) :: L)
 | .shape r k, Q, L => ∃ fl o, (r, fl, o) ∈ L ∧ wpS P New (k (shapeOf o)) Q L
 | .freeze a m k, Q, L => ∃ n cs ty fr, L[n]? = some (a.block, true, .cells cs ty fr) ∧ wpS P New k Q (L.set n (a.block, true, .cells cs ty (froze fr a m)))
 | .frozen a k, Q, L => ∃ fl o, (a.block, fl, o) ∈ L ∧ wpS P New (k (frozenOf o a)) Q L
 | .getObj r k, Q, L => ∃ fl o, (r, fl, o) ∈ L ∧ thing o = true ∧ wpS P New (k o) Q L
 | .setObj r o k, Q, L => thing o = true ∧ ∃ n o', L[n]? = some (r, true, o') ∧ thing o' = true ∧ wpS P New k Q (L.set n (r, true, o))
 | .choose q k, Q, L => (q.forced = true → wpS P New (k 0) Q L) ∧ (q.forced = false → ∀ t, wpS P New (k (q.cut t)) Q L)
 | .sys _ _, _, _ => False
 | .program k, Q, L => wpS P New (k P) Q L
 | .mark m k, Q, L => okMark m = true ∧ wpS P New k Q L
 | .halt _, _, _ => False
section
variable {α β : Type} {P : Program} {New : Obj → Prop}
theorem wpS_mono {Q Q' : α → Frag → Prop} (h : ∀ a L, Q a L → Q' a L) : ∀ (s : Sem α) (L : Frag), wpS P New s Q L → wpS P New s Q' L := by
 intro s
 induction s with
 | pure a => exact fun L x => h _ _ x
 | load m a k ih => rintro L ⟨h1, fl, o, v, h2, h3, h4⟩; exact ⟨h1, fl, o, v, h2, h3, ih _ _ h4⟩
 | store m a v k ih => rintro L ⟨h1, h2, h3, n, cs, ty, fr, h4, h5, h6, h7⟩; exact ⟨h1, h2, h3, n, cs, ty, fr, h4, h5, h6, ih _ h7⟩
 | new o k ih => rintro L ⟨h1, h2⟩; exact ⟨h1, fun b hb => ih _ _ (h2 b hb)⟩
 | shape r k ih => rintro L ⟨fl, o, h1, h2⟩; exact ⟨fl, o, h1, ih _ _ h2⟩
 | freeze a m k ih => rintro L ⟨n, cs, ty, fr, h1, h2⟩; exact ⟨n, cs, ty, fr, h1, ih _ h2⟩
 | frozen a k ih => rintro L ⟨fl, o, h1, h2⟩; exact ⟨fl, o, h1, ih _ _ h2⟩
 | getObj r k ih => rintro L ⟨fl, o, h1, h2, h3⟩; exact ⟨fl, o, h1, h2, ih _ _ h3⟩
 | setObj r o k ih => rintro L ⟨h0, n, o', h1, h2, h3⟩; exact ⟨h0, n, o', h1, h2, ih _ h3⟩
 | choose q k ih => rintro L ⟨h1, h2⟩; exact ⟨fun e => ih _ _ (h1 e), fun e t => ih _ _ (h2 e t)⟩
 | sys c k ih => exact fun L x => x
 | program k ih => exact fun L x => ih _ _ x
 | mark m k ih => rintro L ⟨h1, h2⟩; exact ⟨h1, ih _ h2⟩
 | halt x => exact fun L x => x
theorem wpS_bind' (f : α → Sem β) (Q : β → Frag → Prop) : ∀ (s : Sem α) (L : Frag), wpS P New (s.bind f) Q L = wpS P New s (fun a L' => wpS P New (f a) Q L') L := by
 intro s
 induction s with
 | pure a => exact fun L => rfl
 | load m a k ih => intro L; simp only [Sem.bind, wpS, ih]
 | store m a v k ih => intro L; simp only [Sem.bind, wpS, ih]
 | new o k ih => intro L; simp only [Sem.bind, wpS, ih]
 | shape r k ih => intro L; simp only [Sem.bind, wpS, ih]
 | freeze a n k ih => intro L; simp only [Sem.bind, wpS, ih]
 | frozen a k ih => intro L; simp only [Sem.bind, wpS, ih]
 | getObj r k ih => intro L; simp only [Sem.bind, wpS, ih]
 | setObj r o k ih => intro L; simp only [Sem.bind, wpS, ih]
 | choose q k ih => intro L; simp only [Sem.bind, wpS, ih]
 | sys c k ih => intro L; simp only [Sem.bind, wpS]
 | program k ih => intro L; simp only [Sem.bind, wpS, ih]
 | mark m k ih => intro L; simp only [Sem.bind, wpS, ih]
 | halt x => intro L; simp only [Sem.bind, wpS]
theorem wpS_bind (s : Sem α) (f : α → Sem β) (Q : β → Frag → Prop) (L : Frag) : wpS P New (s >>= f) Q L = wpS P New s (fun a L' => wpS P New (f a) Q L') L := wpS_bind' f Q s L
theorem wpS_pure (a : α) (Q : α → Frag → Prop) (L : Frag) : wpS P New (Pure.pure a) Q L = Q a L := rfl
theorem wpS_pure' (a : α) (Q : α → Frag → Prop) (L : Frag) : wpS P New (Sem.pure a) Q L = Q a L := rfl
end
def upd (w : World) (b : Nat) (o : Obj) : World := { w with heap := w.heap.setIfInBounds b o }
def more (w : World) (o : Obj) : World := { w with heap := w.heap.push o }
def drew (w : World) : World := { w with drawn := w.drawn + 1 }
structure Dom (R : World → World → Prop) (D : World → World → Array Event → Prop) where
 New : Obj → Prop
 Own : Frag → World → Prop
 Gu : World → World → Prop
 Ev : World → Event → Prop
 gr : ∀ w, Gu w w
 gt : ∀ {a b c}, Gu a b → Gu b c → Gu a c
 em : ∀ {w w' e}, Gu w w' → Ev w e → Ev w' e
 dd : ∀ {w w' es}, Gu w w' → (∀ e ∈ es, Ev w' e) → D w w' es
 rely : ∀ {L w w₁}, Own L w → R w w₁ → Own L w₁
 has : ∀ {L w b fl o}, Own L w → (b, fl, o) ∈ L → w.heap[b]? = some o
 evc : ∀ {L w b fl o}, Own L w → (b, fl, o) ∈ L → ∀ i, Ev w ⟨.cell ⟨b, i, none⟩, false, false⟩
 evo : ∀ {L w b fl o}, Own L w → (b, fl, o) ∈ L → Ev w ⟨.obj b, false, false⟩
 set : ∀ {L w n b o o'}, Own L w → L[n]? = some (b, true, o) → fits o o' = true → Own (L.set n (b, true, o')) (upd w b o') ∧ Gu w (upd w b o') ∧ (∀ i, Ev (upd w b o') ⟨.cell ⟨b, i, none⟩, true, false⟩) ∧ Ev (upd w b o') ⟨.obj b, true, false⟩
 new : ∀ {L w o}, Own L w → New o → (∀ t ∈ L, t.1 ≠ w.heap.size) ∧ Own ((w.heap.size, true, o) :: L) (more w o) ∧ Gu w (more w o)
 draw : ∀ {L w}, Own L w → Own L (drew w) ∧ Gu w (drew w)
 nor : ∀ w m, okMark m = true → Ev w ⟨.mark m, false, true⟩
 sub : ∀ {L L' w}, Own L w → (∀ t ∈ L', t ∈ L) → (L'.map (·.1)).Nodup → Own L' w
 nd : ∀ {L w}, Own L w → (L.map (·.1)).Nodup
 ld : LetsDraw D
section
variable {R : World → World → Prop} {D : World → World → Array Event → Prop} {α : Type} {P : Program}
theorem freeze_upd {w : World} {a : Addr} {cs : Array Value} {ty : TypeId} {fr : Nat × Nat} {m : Nat} (h : w.heap[a.block]? = some (.cells cs ty fr)) : w.freeze a m = upd w a.block (.cells cs ty (froze fr a m)) := by
 obtain ⟨hlt, he⟩ := Array.getElem?_eq_some_iff.1 h
 unfold World.freeze froze
 split
 · have e : w.heap.setIfInBounds a.block (Obj.cells cs ty fr) = w.heap := by
     apply Array.ext
     · simp
     · intro j h1 h2
       simp only [Array.getElem_setIfInBounds h2]
       split
       · subst_vars; simp [he]
       · rfl
   unfold upd
   rw [e]
 · unfold upd
   congr 1
   apply Array.ext
   · simp
   · intro j h1 h2
     simp only [Array.getElem_modify, Array.getElem_setIfInBounds (by simpa using h1)]
     split
     · subst_vars; simp [he]
     · rfl
theorem setCell_upd {w : World} {b : Nat} {cs : Array Value} {ty : TypeId} {fr : Nat × Nat} {i : Nat} {v : Value} (h : w.heap[b]? = some (.cells cs ty fr)) : w.setCell ⟨b, i, none⟩ v = upd w b (.cells (cs.setIfInBounds i v) ty fr) := by
 obtain ⟨hlt, he⟩ := Array.getElem?_eq_some_iff.1 h
 unfold World.setCell upd
 congr 1
 apply Array.ext
 · simp
 · intro j h1 h2
   simp only [Array.getElem_modify, Array.getElem_setIfInBounds (by simpa using h1)]
   split
   · subst_vars; simp [he]
   · rfl
theorem cell_of {w : World} {a : Addr} {o : Obj} {v : Value} (h : w.heap[a.block]? = some o) (hv : cellOf o a = some v) : w.cell? a = some v := by
 unfold World.cell?
 rw [h]
 cases o <;> simp_all [cellOf]
theorem fits_thing {o o' : Obj} (h : thing o' = true) (k : thing o = true) : fits o' o = true := by
 unfold fits
 split
 · simp [thing] at h
 · simp [h, k]
theorem thing_chan {o : Obj} (h : thing o = true) : o.isChan = false := by cases o <;> first | rfl | cases h
theorem runT_getObj {r : Nat} {k : Obj → Sem α} {w : World} {es : Array Event} {o : Obj} (hb : w.heap[r]? = some o) (h : thing o = true) : (Sem.getObj r k).runT P w es = (k o).runT P w (es.push ⟨.obj r, false, false⟩) := by
 have hc := thing_chan h
 simp only [Sem.runT, hb]
 cases o <;> first | rfl | cases h
theorem runT_setObj {r : Nat} {k : Sem α} {w : World} {es : Array Event} {o o' : Obj} (hb : w.heap[r]? = some o') (h' : thing o' = true) (h : thing o = true) : (Sem.setObj r o k).runT P w es = k.runT P (upd w r o) (es.push ⟨.obj r, true, false⟩) := by
 have hc := thing_chan h
 simp only [Sem.runT, hb, hc]
 cases o' <;> first | rfl | cases h'
theorem runT_store {a : Addr} {v : Value} {k : Sem α} {w : World} {es : Array Event} {u : Value} (hc : w.cell? a = some u) (hz : w.frozen? a = false) (hp : plainV v = true) : (Sem.store Mode.plain a v k).runT P w es = k.runT P (w.setCell a v) (es.push ⟨.cell a, true, false⟩) := by
 cases v <;> first | (simp only [Sem.runT, hc, hz]; rfl) | cases hp
set_option maxHeartbeats 1000000 in
theorem sound (Δ : Dom R D) : ∀ (s : Sem α) (Q : α → Frag → Prop) (L : Frag) (w : World) (es : Array Event), Δ.Own L w → wpS P Δ.New s Q L →
   ∃ a w' es', s.runT P w es = (.ok a w', es ++ es') ∧ Δ.Gu w w' ∧ (∀ e ∈ es', Δ.Ev w' e) ∧ ∃ L', Δ.Own L' w' ∧ Q a L' := by
 intro s
 induction s with
 | pure a => exact fun Q L w es hO h => ⟨a, w, #[], by simp [Sem.runT, -Sem.runT_eq], Δ.gr w, by simp, L, hO, h⟩
 | load m a k ih =>
   rintro Q L w es hO ⟨rfl, fl, o, v, hm, hv, h⟩
   have hb := Δ.has hO hm
   have hc := cell_of hb hv
   have hs : a.spot = none := by cases o <;> simp_all [cellOf]
   obtain ⟨x, w', es', hr, hg, he, hL⟩ := ih v Q L w (es.push ⟨.cell a, false, false⟩) hO h
   refine ⟨x, w', #[⟨.cell a, false, false⟩] ++ es', by simp only [Sem.runT, hc]; rw [show ((Mode.plain == Mode.atomic) = false) from rfl, hr]; simp, hg, fun e hm' => ?_, hL⟩
   rcases Array.mem_append.1 hm' with h1 | h1
   · obtain rfl := by simpa using h1
     obtain ⟨b, i, sp⟩ := a
     obtain rfl : sp = none := hs
     exact Δ.em hg (Δ.evc hO hm i)
   · exact he e h1
 | store m a v k ih =>
   rintro Q L w es hO ⟨rfl, hp, hs, n, cs, ty, fr, hn, hi, hfr, h⟩
   obtain ⟨b, i, sp⟩ := a
   obtain rfl : sp = none := hs
   have hb := Δ.has hO (List.mem_of_getElem? hn)
   have hc : w.cell? ⟨b, i, none⟩ = some cs[i] := cell_of hb (by simp [cellOf, hi])
   have hz : w.frozen? ⟨b, i, none⟩ = false := by unfold World.frozen?; rw [hb]; exact hfr
   obtain ⟨h1, h2, h3, _⟩ := Δ.set (o' := .cells (cs.setIfInBounds i v) ty fr) hO hn (by simp [fits])
   obtain ⟨x, w', es', hr, hg, he, hL⟩ := ih Q _ _ (es.push ⟨.cell ⟨b, i, none⟩, true, false⟩) h1 h
   refine ⟨x, w', #[⟨.cell ⟨b, i, none⟩, true, false⟩] ++ es', ?_, Δ.gt h2 hg, fun e hm' => ?_, hL⟩
   · rw [runT_store hc hz hp, setCell_upd hb, hr]; simp
   · rcases Array.mem_append.1 hm' with h4 | h4
     · obtain rfl := by simpa using h4
       exact Δ.em hg (h3 i)
     · exact he e h4
 | new o k ih =>
   rintro Q L w es hO ⟨hN, h⟩
   obtain ⟨h1, h2, h3⟩ := Δ.new hO hN
   obtain ⟨x, w', es', hr, hg, he, hL⟩ := ih _ Q _ _ es h2 (h _ h1)
   exact ⟨x, w', es', by simp only [Sem.runT]; exact hr, Δ.gt h3 hg, he, hL⟩
 | shape r k ih =>
   rintro Q L w es hO ⟨fl, o, hm, h⟩
   have hb := Δ.has hO hm
   obtain ⟨x, w', es', hr, hg, he, hL⟩ := ih _ Q L w es hO h
   refine ⟨x, w', es', ?_, hg, he, hL⟩
   have e0 : w.shape? r = shapeOf o := by unfold World.shape?; rw [hb]; cases o <;> rfl
   simp only [Sem.runT, e0]; exact hr
 | freeze a m k ih =>
   rintro Q L w es hO ⟨n, cs, ty, fr, hn, h⟩
   have hb := Δ.has hO (List.mem_of_getElem? hn)
   obtain ⟨h1, h2, _⟩ := Δ.set (o' := .cells cs ty (froze fr a m)) hO hn (by simp [fits])
   obtain ⟨x, w', es', hr, hg, he, hL⟩ := ih Q _ _ es h1 h
   exact ⟨x, w', es', by simp only [Sem.runT]; rw [freeze_upd hb]; exact hr, Δ.gt h2 hg, he, hL⟩
 | frozen a k ih =>
   rintro Q L w es hO ⟨fl, o, hm, h⟩
   have hb := Δ.has hO hm
   obtain ⟨x, w', es', hr, hg, he, hL⟩ := ih _ Q L w es hO h
   refine ⟨x, w', es', ?_, hg, he, hL⟩
   have e0 : w.frozen? a = frozenOf o a := by unfold World.frozen?; rw [hb]; cases o <;> rfl
   simp only [Sem.runT, e0]; exact hr
 | getObj r k ih =>
   rintro Q L w es hO ⟨fl, o, hm, ho, h⟩
   have hb := Δ.has hO hm
   obtain ⟨x, w', es', hr, hg, he, hL⟩ := ih o Q L w (es.push ⟨.obj r, false, false⟩) hO h
   refine ⟨x, w', #[⟨.obj r, false, false⟩] ++ es', ?_, hg, fun e hm' => ?_, hL⟩
   · rw [runT_getObj hb ho, hr]; simp
   · rcases Array.mem_append.1 hm' with h1 | h1
     · obtain rfl := by simpa using h1
       exact Δ.em hg (Δ.evo hO hm)
     · exact he e h1
 | setObj r o k ih =>
   rintro Q L w es hO ⟨ho, n, o', hn, ho', h⟩
   have hb := Δ.has hO (List.mem_of_getElem? hn)
   obtain ⟨h1, h2, _, h3⟩ := Δ.set (o' := o) hO hn (fits_thing ho' ho)
   obtain ⟨x, w', es', hr, hg, he, hL⟩ := ih Q _ _ (es.push ⟨.obj r, true, false⟩) h1 h
   refine ⟨x, w', #[⟨.obj r, true, false⟩] ++ es', ?_, Δ.gt h2 hg, fun e hm' => ?_, hL⟩
   · rw [runT_setObj hb ho' ho, hr]; simp
   · rcases Array.mem_append.1 hm' with h4 | h4
     · obtain rfl := by simpa using h4
       exact Δ.em hg h3
     · exact he e h4
 | choose q k ih =>
   rintro Q L w es hO ⟨h0, h1⟩
   cases hf : q.forced with
   | true =>
     obtain ⟨x, w', es', hr, hg, he, hL⟩ := ih _ Q L w es hO (h0 hf)
     exact ⟨x, w', es', by simp only [Sem.runT, hf, if_true]; exact hr, hg, he, hL⟩
   | false =>
     obtain ⟨d1, d2⟩ := Δ.draw hO
     obtain ⟨x, w', es', hr, hg, he, hL⟩ := ih _ Q L (drew w) es d1 (h1 hf (w.tape w.drawn q))
     exact ⟨x, w', es', by simp only [Sem.runT, hf, Bool.false_eq_true, if_false]; exact hr, Δ.gt d2 hg, he, hL⟩
 | sys c k ih => exact fun Q L w es hO h => h.elim
 | program k ih =>
   intro Q L w es hO h
   obtain ⟨x, w', es', hr, hg, he, hL⟩ := ih P Q L w es hO h
   exact ⟨x, w', es', by simp only [Sem.runT]; exact hr, hg, he, hL⟩
 | mark m k ih =>
   rintro Q L w es hO ⟨hm, h⟩
   obtain ⟨x, w', es', hr, hg, he, hL⟩ := ih Q L w (es.push ⟨.mark m, false, true⟩) hO h
   refine ⟨x, w', #[⟨.mark m, false, true⟩] ++ es', by simp only [Sem.runT]; rw [hr]; simp, hg, fun e hm' => ?_, hL⟩
   rcases Array.mem_append.1 hm' with h1 | h1
   · obtain rfl := by simpa using h1
     exact Δ.nor w' m hm
   · exact he e h1
 | halt x => exact fun Q L w es hO h => h.elim
theorem sound' (Δ : Dom R D) {s : Sem α} {Q : α → Frag → Prop} {L : Frag} {w : World} (hO : Δ.Own L w) (h : wpS P Δ.New s Q L) :
   ∃ a w', s.run P w = .ok a w' ∧ Δ.Gu w w' ∧ (∀ e ∈ s.events P w #[], Δ.Ev w' e) ∧ ∃ L', Δ.Own L' w' ∧ Q a L' := by
 obtain ⟨a, w', es', hr, hg, he, hL⟩ := sound Δ s Q L w #[] hO h
 refine ⟨a, w', ?_, hg, ?_, hL⟩
 · rw [← Sem.runT_fst P s w #[], hr]
 · unfold Sem.events; rw [hr]; simpa using he
end
section
variable {σ : Type} {F : Fam σ} (Δ : ∀ s, Dom (F.R s) (F.D s)) (P : Program) (main : Bool) (fn : FuncId)
def up (Q : σ → Exit → Act → Frag → Prop) : σ → Exit → Act → World → Prop := fun s e a w => ∃ L, (Δ s).Own L w ∧ Q s e a L
def upV (Q : σ → Value → Frag → Prop) : σ → Value → World → Prop := fun s v w => ∃ L, (Δ s).Own L w ∧ Q s v L
def wpL (c : Code) (n : Nat) (s : σ) (Q : σ → Exit → Act → Frag → Prop) (a : Act) (L : Frag) : Prop := ∀ w, (Δ s).Own L w → wpX F P main fn c n s (up Δ Q) a w
def OpsL (ops : Array Oper) (todo : List Nat) (n : Nat) (s : σ) (Q : σ → Exit → Act → Frag → Prop) (a : Act) (L : Frag) : Prop := ∀ w, (Δ s).Own L w → OpsX F P main fn ops todo n s (up Δ Q) a w
def LoopL (c : Code) (n : Nat) (s : σ) (Q : σ → Exit → Act → Frag → Prop) (a : Act) (L : Frag) : Prop := ∀ w, (Δ s).Own L w → LoopX F P main fn c n s (up Δ Q) a w
def CallsL (f : FuncId) (args : Array Value) (n : Nat) (s : σ) (L : Frag) (Post : σ → Value → Frag → Prop) : Prop := ∀ w, (Δ s).Own L w → CallsX F P main f args n s w (upV Δ Post)
end
section
variable {σ : Type}
def thenL (K : σ → Act → Frag → Prop) (Q : σ → Exit → Act → Frag → Prop) : σ → Exit → Act → Frag → Prop
 | s, .normal, a, L => K s a L
 | s, e, a, L => Q s e a L
def inBlockL (id : Nat) (Q : σ → Exit → Act → Frag → Prop) : σ → Exit → Act → Frag → Prop
 | s, .exit id', a, L => if id' = id then Q s .normal a L else Q s (.exit id') a L
 | s, e, a, L => Q s e a L
def bodyL (P : Program) (g : Func) (Post : σ → Value → Frag → Prop) : σ → Exit → Act → Frag → Prop
 | s, .normal, a, L | s, .ret, a, L => a.defers = [] ∧ ∃ v, ResultsC P g a.tmps v ∧ Post s v L
 | _, _, _, _ => False
def onNext (o : Oper) (a : Act) (K : Act → Prop) : Next → Prop
 | .value v => K (a.put o.dst v)
 | .skip => K (a.put o.dst undef)
 | _ => False
end
section
variable {σ : Type} {F : Fam σ} {Δ : ∀ s, Dom (F.R s) (F.D s)} {P : Program} {main : Bool} {fn : FuncId} {Q : σ → Exit → Act → Frag → Prop} {s : σ} {a : Act} {L : Frag}
theorem up_then {K : σ → Act → Frag → Prop} {K' : σ → Act → World → Prop} (h : ∀ s a L w, (Δ s).Own L w → K s a L → K' s a w) {s : σ} {e : Exit} {a : Act} {w : World} (q : up Δ (thenL K Q) s e a w) : ThenX K' (up Δ Q) s e a w := by
 obtain ⟨L, hO, q⟩ := q
 cases e <;> first | exact h _ _ _ _ hO q | exact ⟨L, hO, q⟩
theorem wpL_mono {Q' : σ → Exit → Act → Frag → Prop} {c : Code} {n : Nat} (h : wpL Δ P main fn c n s Q a L) (hq : ∀ s e a L, Q s e a L → Q' s e a L) : wpL Δ P main fn c n s Q' a L :=
 fun w hO => wpX_mono (h w hO) fun s e a w ⟨L, hL, q⟩ => ⟨L, hL, hq _ _ _ _ q⟩
theorem wpL_more {c : Code} {n n' : Nat} (h : wpL Δ P main fn c n s Q a L) (hn : n ≤ n') : wpL Δ P main fn c n' s Q a L := fun w hO => wpX_more (h w hO) hn
theorem opsL_more {ops : Array Oper} {todo : List Nat} {n n' : Nat} (h : OpsL Δ P main fn ops todo n s Q a L) (hn : n ≤ n') : OpsL Δ P main fn ops todo n' s Q a L := fun w hO => opsX_more (h w hO) hn
theorem wpL_nd {c : Code} {n : Nat} (h : (L.map (·.1)).Nodup → wpL Δ P main fn c n s Q a L) : wpL Δ P main fn c n s Q a L := fun w hO => h ((Δ s).nd hO) w hO
theorem opsL_nd {ops : Array Oper} {todo : List Nat} {n : Nat} (h : (L.map (·.1)).Nodup → OpsL Δ P main fn ops todo n s Q a L) : OpsL Δ P main fn ops todo n s Q a L := fun w hO => h ((Δ s).nd hO) w hO
theorem wpL_seq {x y : Code} {n₁ n₂ : Nat} (h : wpL Δ P main fn x n₁ s (thenL (fun s' a' L' => wpL Δ P main fn y n₂ s' Q a' L') Q) a L) : wpL Δ P main fn (.seq x y) (n₁ + n₂ + 1) s Q a L :=
 fun w hO => wpX_seq (wpX_mono (h w hO) fun _ _ _ _ q => up_then (fun _ _ _ _ hO k => k _ hO) q)
theorem wpL_cond {c : Operand} {x y : Code} {t : Bool} {n : Nat} (hc : a.eval c = .bool t) (h : wpL Δ P main fn (if t then x else y) n s Q a L) : wpL Δ P main fn (.cond c x y) (n + 1) s Q a L := fun w hO => wpX_cond hc (h w hO)
theorem wpL_block {id : Nat} {c : Code} {n : Nat} (h : wpL Δ P main fn c n s (inBlockL id Q) a L) : wpL Δ P main fn (.block id c) (n + 2) s Q a L :=
 fun w hO => wpX_block (wpX_mono (h w hO) fun s' e a' w' ⟨L', hL, q⟩ => by
   cases e with
   | exit id' =>
     simp only [inBlockL] at q
     simp only [Exit.inBlock]
     split
     · rename_i e; rw [if_pos e] at q; exact ⟨L', hL, q⟩
     · rename_i e; rw [if_neg e] at q; exact ⟨L', hL, q⟩
   | _ => exact ⟨L', hL, q⟩)
theorem wpL_skip (h : Q s .normal a L) : wpL Δ P main fn .skip 1 s Q a L := fun _ hO => wpX_of (wpC_skip (F.terms s) ⟨L, hO, h⟩)
theorem wpL_ret (h : Q s .ret a L) : wpL Δ P main fn .ret 1 s Q a L := fun _ hO => wpX_of (wpC_ret (F.terms s) ⟨L, hO, h⟩)
theorem wpL_exit {id : Nat} (h : Q s (.exit id) a L) : wpL Δ P main fn (.exit id) 1 s Q a L := fun _ hO => wpX_of (wpC_exit (F.terms s) ⟨L, hO, h⟩)
theorem wpL_loop1 {c : Code} {n₁ n₂ : Nat} (h : wpL Δ P main fn c n₁ s (thenL (fun s' a' L' => LoopL Δ P main fn c n₂ s' Q a' L') Q) a L) : wpL Δ P main fn (.loop c) (n₁ + n₂ + 1) s Q a L :=
 fun w hO => wpX_loop1 (wpX_mono (h w hO) fun _ _ _ _ q => up_then (fun _ _ _ _ hO k => k _ hO) q)
theorem loopL1 {c : Code} {n₁ n₂ : Nat} (h : wpL Δ P main fn c n₁ s (thenL (fun s' a' L' => LoopL Δ P main fn c n₂ s' Q a' L') Q) a L) : LoopL Δ P main fn c (n₁ + n₂ + 1) s Q a L :=
 fun w hO => loopX1 (wpX_mono (h w hO) fun _ _ _ _ q => up_then (fun _ _ _ _ hO k => k _ hO) q)
theorem loopL_more {c : Code} {n n' : Nat} (h : LoopL Δ P main fn c n s Q a L) (hn : n ≤ n') : LoopL Δ P main fn c n' s Q a L :=
 fun w hO b k cs m hb hk hc => (h w hO b k cs m hb hk hc).mono (by omega)
theorem loopL_rounds {c : Code} {n : Nat} (I : Nat → σ → Act → Frag → Prop) (h : ∀ k s a L, I k s a L → wpL Δ P main fn c n s (thenL (fun s' a' L' => ∃ k', k' < k ∧ I k' s' a' L') Q) a L) :
   ∀ (k : Nat) (s : σ) (a : Act) (L : Frag), I k s a L → LoopL Δ P main fn c ((k + 1) * (n + 1)) s Q a L := by
 intro k
 induction k using Nat.strongRecOn with
 | _ k ih =>
   intro s a L hI
   refine loopL_more (loopL1 (n₂ := k * (n + 1)) (wpL_mono (h k s a L hI) fun s' e a' L' q => ?_)) (by rw [Nat.succ_mul]; omega)
   cases e with
   | normal =>
     obtain ⟨k', hk', hi⟩ := q
     exact loopL_more (ih k' hk' s' a' L' hi) (Nat.mul_le_mul_right _ hk')
   | _ => exact q
theorem wpL_loop {c : Code} {n : Nat} (I : Nat → σ → Act → Frag → Prop) (h : ∀ k s a L, I k s a L → wpL Δ P main fn c n s (thenL (fun s' a' L' => ∃ k', k' < k ∧ I k' s' a' L') Q) a L) (k : Nat) (hI : I k s a L) :
   wpL Δ P main fn (.loop c) ((k + 1) * (n + 1)) s Q a L := by
 refine wpL_more (wpL_loop1 (n₂ := k * (n + 1)) (wpL_mono (h k s a L hI) fun s' e a' L' q => ?_)) (by rw [Nat.succ_mul]; omega)
 cases e with
 | normal =>
   obtain ⟨k', hk', hi⟩ := q
   exact loopL_more (loopL_rounds I h k' s' a' L' hi) (Nat.mul_le_mul_right _ hk')
 | _ => exact q
theorem wpL_region {id : Nat} {ops : Array Oper} {n : Nat} (h : OpsL Δ P main fn ops (List.range ops.size) n s Q a L) : wpL Δ P main fn (.region id ops false) (n + 1) s Q a L := fun w hO => wpX_region (h w hO)
theorem opsL_nil {ops : Array Oper} (h : Q s .normal a L) : OpsL Δ P main fn ops [] 1 s Q a L := fun _ hO => opsX_nil ⟨L, hO, h⟩
theorem opsL_unwanted {ops : Array Oper} {i : Nat} {rest : List Nat} {o : Oper} {n : Nat} (ho : ops[i]? = some o) (hw : Region.wanted o (yielded ops a.tmps) = false)
   (h : OpsL Δ P main fn ops rest n s Q (a.put o.dst undef) L) : OpsL Δ P main fn ops (i :: rest) (n + 1) s Q a L := fun w hO => opsX_unwanted ho hw (h w hO)
theorem upon_of {o : Oper} {w w' : World} {x : Next} {K : Act → World → Prop} {KL : Act → Frag → Prop} {L' : Frag} (hr : (execOp a.eval o).run P w = .ok x w') (hL : (Δ s).Own L' w')
   (h : onNext o a (fun a' => KL a' L') x) (hk : ∀ a', KL a' L' → K a' w') : uponK o a K ((execOp a.eval o).run P w) := by
 rw [hr]
 cases x <;> simp only [onNext] at h <;> first | exact hk _ h | exact h.elim
theorem opsL_cons {ops : Array Oper} {i : Nat} {rest : List Nat} {o : Oper} {n : Nat} (ho : ops[i]? = some o) (hw : Region.wanted o (yielded ops a.tmps) = true)
   (h : wpS P (Δ s).New (execOp a.eval o) (fun x L' => onNext o a (fun a' => OpsL Δ P main fn ops rest n s Q a' L') x) L) : OpsL Δ P main fn ops (i :: rest) (n + 1) s Q a L := by
 intro w hO
 refine opsX_cons ho hw fun w₁ h₁ => ?_
 have hO₁ := (Δ s).rely hO h₁
 obtain ⟨x, w', hr, hg, he, L', hL, hx⟩ := sound' (Δ s) hO₁ h
 refine upon_of (Δ := Δ) (s := s) (KL := fun a' L' => OpsL Δ P main fn ops rest n s Q a' L') hr hL hx fun a' k => ⟨(Δ s).dd hg fun e hm => he e (mem_listed hm), k _ hL⟩
theorem callsL_of {f : FuncId} {g : Func} {c : Code} {args : Array Value} {n : Nat} {Post : σ → Value → Frag → Prop} (hf : P.funcs[f]? = some g) (hname : (g.name == "runtime.NumGoroutine") = false) (hb : g.body = some c)
   (h : wpL Δ P main f c n s (bodyL P g Post) { tmps := args ++ Array.replicate (g.ntmps - args.size) undef, defers := [] } L) : CallsL Δ P main f args n s L Post :=
 fun w hO => callsX_of_wpX hf hname hb (wpX_mono (h w hO) fun s' e a' w' ⟨L', hL, q⟩ => by
   cases e <;> first | exact ⟨q.1, q.2.choose, q.2.choose_spec.1, L', hL, q.2.choose_spec.2⟩ | exact q)
theorem opsL_call {ops : Array Oper} {i : Nat} {rest : List Nat} {o : Oper} {f : FuncId} {args : Array Operand} {ats : Array TypeId} {nf n : Nat} {Post : σ → Value → Frag → Prop}
   (ho : ops[i]? = some o) (hw : Region.wanted o (yielded ops a.tmps) = true) (hop : o.op = .call { callee := .value (.func f), args, argTypes := ats })
   (hcall : CallsL Δ P main f (args.map a.eval) nf s L Post) (hnext : ∀ s' v L', Post s' v L' → OpsL Δ P main fn ops rest n s' Q (a.put o.dst v) L') : OpsL Δ P main fn ops (i :: rest) (n + nf + 3) s Q a L :=
 fun w hO => opsX_call ho hw hop (hcall w hO) fun s' v w' ⟨L', hL, hp⟩ => hnext s' v L' hp w' hL
end
def sizeAt (P : Program) (t : TypeId) : Option Nat := (P.info? t).map (·.size)
def bytesAt (P : Program) (t : TypeId) : Option Nat := (P.info? t).map (·.bytes)
def zeroAt (P : Program) (t : TypeId) : Option Value := (P.info? t).bind (·.zero)
def aggAt (P : Program) (t : TypeId) : Option Bool := (P.underlying t).map fun | .struct _ | .array _ _ => true | _ => false
def fieldOff (P : Program) (s f : Nat) : Option Nat :=
 match P.underlying s with
 | some (.struct fs) => match fs[f]? with
   | some fd => match sizeAt P fd.type with
     | some (_ + 1) => some fd.offset
     | _ => none
   | none => none
 | _ => none
def fieldPart (P : Program) (s f : Nat) : Option (Nat × Nat × Bool) :=
 match P.underlying s with
 | some (.struct fs) => match fs[f]? with
   | some fd => match sizeAt P fd.type, aggAt P fd.type with
     | some n, some g => some (fd.offset, n, g)
     | _, _ => none
   | none => none
 | _ => none
section
variable {α β : Type} {P : Program} {New : Obj → Prop} {L : Frag}
theorem wpS_underlying {t : TypeId} {d : TypeDesc} {Q : TypeDesc → Frag → Prop} (h : P.underlying t = some d) : wpS P New (underlying t) Q L = Q d L := by
 show (wpS P New (match P.underlying t with | some d => pure d | none => stuck "no such type") Q L) = Q d L
 rw [h]; rfl
theorem wpS_typeInfo {t : TypeId} {i : TypeInfo} {Q : TypeInfo → Frag → Prop} (h : P.info? t = some i) : wpS P New (typeInfo t) Q L = Q i L := by
 show (wpS P New (match P.info? t with | some d => pure d | none => stuck "no such type") Q L) = Q i L
 rw [h]; rfl
theorem wpS_sizeOf {t n : Nat} {Q : Nat → Frag → Prop} (h : sizeAt P t = some n) : wpS P New (sizeOf t) Q L = Q n L := by
 obtain ⟨i, hi, rfl⟩ := Option.map_eq_some_iff.1 h
 unfold sizeOf
 rw [wpS_bind, wpS_typeInfo hi]; rfl
theorem wpS_zeroValue {t : Nat} {v : Value} {Q : Value → Frag → Prop} (h : zeroAt P t = some v) : wpS P New (zeroValue t) Q L = Q v L := by
 obtain ⟨i, hi, hz⟩ := Option.bind_eq_some_iff.1 h
 unfold zeroValue
 rw [wpS_bind, wpS_typeInfo hi, hz]; rfl
theorem wpS_sureAddr {a : Addr} {Q : Addr → Frag → Prop} : wpS P New (Instr.sureAddr (.pointer (some a))) Q L = Q a L := rfl
def At (L : Frag) (b i : Nat) (v : Value) : Prop := ∃ fl cs ty fr, (b, fl, Obj.cells cs ty fr) ∈ L ∧ cs[i]? = some v
theorem At.at {b i n : Nat} {v : Value} {fl : Bool} {cs : Array Value} {ty : TypeId} {fr : Nat × Nat} (h : L[n]? = some (b, fl, .cells cs ty fr)) (hv : cs[i]? = some v) : At L b i v := ⟨fl, cs, ty, fr, List.mem_of_getElem? h, hv⟩
theorem wpS_load {b i : Nat} {v : Value} {Q : Value → Frag → Prop} (h : At L b i v) (hQ : Q v L) : wpS P New (load ⟨b, i, none⟩) Q L := by
 obtain ⟨fl, cs, ty, fr, hm, hv⟩ := h
 exact ⟨rfl, fl, _, v, hm, by simpa [cellOf] using hv, hQ⟩
theorem wpS_store {b i n : Nat} {cs : Array Value} {ty : TypeId} {v : Value} {Q : Unit → Frag → Prop} (h : L[n]? = some (b, true, .cells cs ty)) (hi : i < cs.size) (hp : plainV v = true) (hQ : Q () (L.set n (b, true, .cells (cs.setIfInBounds i v) ty))) : wpS P New (store ⟨b, i, none⟩ v) Q L :=
 ⟨rfl, hp, rfl, n, cs, ty, (0, 0), h, hi, by simp [frozenOf], hQ⟩
theorem wpS_newObj {o : Obj} {Q : Nat → Frag → Prop} (hN : New o) (hQ : ∀ b, (∀ t ∈ L, t.1 ≠ b) → Q b ((b, true, o) :: L)) : wpS P New (newObj o) Q L := ⟨hN, hQ⟩
theorem wpS_getObj {r : Nat} {o : Obj} {fl : Bool} {Q : Obj → Frag → Prop} (hm : (r, fl, o) ∈ L) (ho : thing o = true) (hQ : Q o L) : wpS P New (getObj r) Q L := ⟨fl, o, hm, ho, hQ⟩
theorem wpS_setObj {r n : Nat} {o o' : Obj} {Q : Unit → Frag → Prop} (hn : L[n]? = some (r, true, o')) (ho' : thing o' = true) (ho : thing o = true) (hQ : Q () (L.set n (r, true, o))) : wpS P New (setObj r o) Q L := ⟨ho, n, o', hn, ho', hQ⟩
theorem addr_add (b o i : Nat) : (⟨b, o, none⟩ : Addr).add i = ⟨b, o + i, none⟩ := by
 unfold Addr.add
 split
 · subst_vars; rfl
 · rfl
theorem wpS_loadFrom {b o : Nat} {cs : Array Value} {ty : TypeId} {fr : Nat × Nat} {fl : Bool} (hm : (b, fl, .cells cs ty fr) ∈ L) {Q : Array Value → Frag → Prop} :
   ∀ (n i : Nat) (acc : Array Value), o + i + n ≤ cs.size → Q (acc ++ cs.extract (o + i) (o + i + n)) L → wpS P New (loadCellsFrom ⟨b, o, none⟩ i n acc) Q L := by
 intro n
 induction n with
 | zero =>
   intro i acc h hQ
   have e : cs.extract (o + i) (o + i + 0) = #[] := by apply Array.ext'; simp
   rw [e, Array.append_empty] at hQ
   exact hQ
 | succ n ih =>
   intro i acc h hQ
   have hi : o + i < cs.size := by omega
   unfold loadCellsFrom
   rw [wpS_bind, addr_add]
   refine wpS_load (b := b) (i := o + i) ⟨fl, cs, ty, fr, hm, Array.getElem?_eq_getElem hi⟩ ?_
   refine ih (i + 1) _ (by omega) ?_
   have e : acc.push cs[o + i] ++ cs.extract (o + (i + 1)) (o + (i + 1) + n) = acc ++ cs.extract (o + i) (o + i + (n + 1)) := by
     apply Array.ext'
     simp only [Array.toList_append, Array.toList_push, Array.toList_extract, List.append_assoc]
     congr 1
     rw [List.extract_eq_take_drop, List.extract_eq_take_drop]
     have : cs.toList.drop (o + i) = cs[o + i] :: cs.toList.drop (o + i + 1) := by
       rw [List.drop_eq_getElem_cons (by simpa using hi)]; simp
     rw [this, show o + i + (n + 1) - (o + i) = n + 1 by omega, show o + (i + 1) + n - (o + (i + 1)) = n by omega, List.take_succ_cons, Nat.add_assoc]
     simp
   rw [e]; exact hQ
theorem wpS_loadCells {b o n : Nat} {cs : Array Value} {ty : TypeId} {fr : Nat × Nat} {fl : Bool} (hm : (b, fl, .cells cs ty fr) ∈ L) {Q : Array Value → Frag → Prop} (h : o + n ≤ cs.size) (hQ : Q (cs.extract o (o + n)) L) : wpS P New (loadCells ⟨b, o, none⟩ n) Q L :=
 wpS_loadFrom hm n 0 #[] (by omega) (by simpa using hQ)
def puts (cs : Array Value) (o : Nat) : List Value → Array Value
 | [] => cs
 | v :: vs => puts (cs.setIfInBounds o v) (o + 1) vs
theorem wpS_storeFrom {b n : Nat} {ty : TypeId} : ∀ (vs : List Value) (o i : Nat) (cs : Array Value) (L : Frag) {Q : Unit → Frag → Prop}, L[n]? = some (b, true, .cells cs ty) → o + i + vs.length ≤ cs.size → vs.all plainV = true →
   Q () (L.set n (b, true, .cells (puts cs (o + i) vs) ty)) → wpS P New (storeCells ⟨b, o, none⟩ vs i) Q L := by
 intro vs
 induction vs with
 | nil =>
   intro o i cs L Q hn h _ hQ
   have e : L.set n (b, true, .cells cs ty) = L := by
     apply List.ext_getElem?
     intro j
     rw [List.getElem?_set]
     split
     · rename_i e; subst e; obtain ⟨hl, he⟩ := List.getElem?_eq_some_iff.1 hn; simp [hl, he]
     · rfl
   rw [puts, e] at hQ
   exact hQ
 | cons v vs ih =>
   intro o i cs L Q hn h hp hQ
   simp only [List.length_cons] at h
   simp only [List.all_cons, Bool.and_eq_true] at hp
   obtain ⟨hl, he⟩ := List.getElem?_eq_some_iff.1 hn
   unfold storeCells
   rw [wpS_bind, addr_add]
   refine wpS_store (b := b) (i := o + i) hn (by omega) hp.1 ?_
   refine ih o (i + 1) (cs.setIfInBounds (o + i) v) _ (by simp [hl]) (by simp; omega) hp.2 ?_
   rw [List.set_set]
   exact hQ
theorem wpS_storeCells {b n o : Nat} {ty : TypeId} {vs : List Value} {cs : Array Value} {Q : Unit → Frag → Prop} (hn : L[n]? = some (b, true, .cells cs ty)) (h : o + vs.length ≤ cs.size) (hp : vs.all plainV = true)
   (hQ : Q () (L.set n (b, true, .cells (puts cs o vs) ty))) : wpS P New (storeCells ⟨b, o, none⟩ vs) Q L := wpS_storeFrom vs o 0 cs L hn (by omega) hp hQ
end
end Go.Lo
