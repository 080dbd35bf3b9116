/-
  Part 1 of the proof.
  No condition but those that each statement names.
-/
import Derived.Conc.Beside
set_option maxRecDepth 100000
set_option linter.unusedVariables false
set_option linter.unusedSimpArgs false
set_option linter.unusedSectionVars false
namespace Go.Hx
open Go.Conc
structure Par where
 ety : TypeId
 N0 : Nat
 Still : Loc → Prop
def isEv (ety : TypeId) : Obj → Bool
 | .cells _ e _ => e == ety
 | _ => false
def FA (p : Par) (w : World) (b : Nat) : Prop := p.N0 ≤ b ∧ ∃ o, w.heap[b]? = some o ∧ isEv p.ety o = true
theorem FA.lt {p : Par} {w : World} {b : Nat} (h : FA p w b) : b < w.heap.size := by
 obtain ⟨_, o, ho, _⟩ := h
 exact (Array.getElem?_eq_some_iff.1 ho).1
def blk : Loc → Option Nat
 | .cell a => some a.block
 | .obj r => some r
 | _ => none
structure Kept (p : Par) (w w' : World) : Prop where
 size : w.heap.size ≤ w'.heap.size
 fa : ∀ b, FA p w b → FA p w' b
 nf : ∀ b, b < w.heap.size → ¬ FA p w b → ¬ FA p w' b
theorem Kept.refl (p : Par) (w : World) : Kept p w w := ⟨Nat.le_refl _, fun _ h => h, fun _ _ h => h⟩
theorem Kept.trans {p : Par} {a b c : World} (h : Kept p a b) (k : Kept p b c) : Kept p a c :=
 ⟨Nat.le_trans h.size k.size, fun x hx => k.fa x (h.fa x hx), fun x hl hx => k.nf x (Nat.lt_of_lt_of_le hl h.size) (h.nf x hl hx)⟩
def ClsA (p : Par) (w : World) (a : Touch) : Prop := ∃ b, blk a.loc = some b ∧ FA p w b
def ClsB (p : Par) (w : World) (a : Touch) : Prop := ∃ b, blk a.loc = some b ∧ b < w.heap.size ∧ ¬ FA p w b
theorem ClsA.kept {p : Par} {w w' : World} {a : Touch} (k : Kept p w w') : ClsA p w a → ClsA p w' a
 | ⟨b, h, f⟩ => ⟨b, h, k.fa b f⟩
theorem ClsB.kept {p : Par} {w w' : World} {a : Touch} (k : Kept p w w') : ClsB p w a → ClsB p w' a
 | ⟨b, h, l, f⟩ => ⟨b, h, Nat.lt_of_lt_of_le l k.size, k.nf b l f⟩
theorem cls_apart {p : Par} {w : World} {a b : Touch} (ha : ClsA p w a) (hb : ClsB p w b) (h : a.loc = b.loc) : False := by
 obtain ⟨x, hx, f⟩ := ha
 obtain ⟨y, hy, _, nf⟩ := hb
 rw [h, hy] at hx
 cases hx
 exact nf f
structure ShOk (p : Par) (Sh : Loc → Prop) : Prop where
 low : ∀ l b, Sh l → blk l = some b → b < p.N0
 st : ∀ l b, p.Still l → blk l = some b → b < p.N0
 ap : ∀ l, p.Still l → ¬ Sh l
def EvA (p : Par) (w : World) (e : Event) : Prop :=
 (∀ x, (MemAct.ofEvent e).touch? = some x → x.loc.isMemory = true → ClsA p w x ∨ (p.Still x.loc ∧ x.write = false)) ∧ (e.loc ≠ .mark .disable ∧ e.loc ≠ .mark .enable) ∧ ∀ a, e.loc ≠ .mark (.release a)
def Ev0 (Sh : Loc → Prop) (e : Event) : Prop :=
 (∀ x, (MemAct.ofEvent e).touch? = some x → Sh x.loc ∧ x.kind ≠ .plain) ∧ ∀ a, e.loc ≠ .mark (.release a)
def EvB (p : Par) (Sh : Loc → Prop) (w : World) (e : Event) : Prop :=
 (∀ x, (MemAct.ofEvent e).touch? = some x → x.loc.isMemory = true → ClsB p w x ∧ (Sh x.loc → x.kind = .atomic) ∧ (p.Still x.loc → x.write = false)) ∧ (e.loc ≠ .mark .disable ∧ e.loc ≠ .mark .enable)
theorem g_ofEvents {g : Nat} {fn : FuncId} {pos : String} {es : Array Event} : ∀ op ∈ MemOp.ofEvents g fn pos es, op.g = g := fun op hop => by obtain ⟨_, _, rfl⟩ := Conc.mem_ofEvents hop; rfl
theorem deaf_same {es : Array Event} (h : ∀ e ∈ es, e.loc ≠ .mark .disable ∧ e.loc ≠ .mark .enable) (t : Trace) (g : Nat) (fn : FuncId) (pos : String) (g' : Nat) :
   Deaf (t ++ MemOp.ofEvents g fn pos es) g' = Deaf t g' := by
 by_cases e : g = g'
 · subst e
   rw [Deaf_own]
   exact deafBehind_still h _
 · exact Deaf_other t e _ g_ofEvents
def OverBut (c : Nat) (t : Trace) : Prop := ∀ i g, t.g? i = some g → g ≠ 0 → g ≠ c → t.counts i → ∃ j, t.g? j = some 0 ∧ HappensBefore t i j
theorem OverBut.app {c : Nat} {t u : Trace} (h : OverBut c t) (hu : ∀ op ∈ u, op.g = 0 ∨ op.g = c ∨ op.act.touch? = none) : OverBut c (t ++ u) := by
 intro i g hg h0 hc hcn
 obtain ⟨x, hx, _⟩ := id hcn
 obtain ⟨op, hop, hox⟩ := touch_of hx
 have hopg : op.g = g := by simpa [Trace.g?, hop] using hg
 rcases getElem?_append_cases hop with ⟨hi, _⟩ | ⟨_, hopu⟩
 · obtain ⟨j, hj, hb⟩ := h i g (by rw [← g?_old (u := u) hi]; exact hg) h0 hc ((counts_old hi).1 hcn)
   have hjl : j < t.size := by
     obtain ⟨z, hz, _⟩ := Option.map_eq_some_iff.1 hj
     exact lt_size_of_getElem? hz
   exact ⟨j, by rw [g?_old hjl]; exact hj, hb_app u hb⟩
 · rcases hu op hopu with e | e | e
   · exact absurd (hopg.symm.trans e) h0
   · exact absurd (hopg.symm.trans e) hc
   · rw [e] at hox; cases hox
def Cls (p : Par) (Sh : Loc → Prop) (c : Nat) (w : World) (t : Trace) (i : Nat) (a : Touch) : Prop :=
 (Knows t 0 i ∧ Knows t c i) ∨ (Sh a.loc ∧ (a.kind = .atomic ∨ (a.kind = .said ∧ t.g? i = some 0))) ∨ (t.g? i = some 0 ∧ ClsA p w a) ∨ (t.g? i = some c ∧ ClsB p w a ∧ ¬ Sh a.loc ∧ ¬ p.Still a.loc) ∨
 ((t.g? i = some 0 ∨ t.g? i = some c) ∧ p.Still a.loc ∧ a.write = false)
structure Core (p : Par) (Sh : Loc → Prop) (c : Nat) (w : World) (t : Trace) : Prop where
 clean : ∀ said, ¬ Race said t
 cls : ∀ i a, touchAt t i = some a → a.loc.isMemory = true → Cls p Sh c w t i a
 over : OverBut c t
section
variable {p : Par} {Sh : Loc → Prop} {c : Nat} {w w' : World} {t u : Trace}
theorem knows_of_g {t : Trace} {i g : Nat} (h : t.g? i = some g) : Knows t g i := by
 obtain ⟨z, hz, hg⟩ := Option.map_eq_some_iff.1 h
 exact hg ▸ knows_own hz
theorem g?_new {i : Nat} {op : MemOp} (h : (t ++ u)[i]? = some op) : (t ++ u).g? i = some op.g := by simp [Trace.g?, h]
theorem Cls.app {i : Nat} {a : Touch} (h : Cls p Sh c w t i a) (k : Kept p w w') (u : Trace) (hi : i < t.size) : Cls p Sh c w' (t ++ u) i a := by
 rcases h with ⟨x, y⟩ | ⟨s, x⟩ | ⟨g, x⟩ | ⟨g, x, y⟩ | ⟨g, x⟩
 · exact .inl ⟨x.app u, y.app u⟩
 · exact .inr (.inl ⟨s, by rw [g?_old hi]; exact x⟩)
 · exact .inr (.inr (.inl ⟨by rw [g?_old hi]; exact g, x.kept k⟩))
 · exact .inr (.inr (.inr (.inl ⟨by rw [g?_old hi]; exact g, x.kept k, y⟩)))
 · exact .inr (.inr (.inr (.inr ⟨by rw [g?_old hi]; exact g, x⟩)))
theorem lt_of_touch {i : Nat} {a : Touch} (h : touchAt t i = some a) : i < t.size := by
 obtain ⟨op, ho, _⟩ := touch_of h
 exact lt_size_of_getElem? ho
theorem cls_app (h : ∀ i a, touchAt t i = some a → a.loc.isMemory = true → Cls p Sh c w t i a) (k : Kept p w w') (hu : ∀ i op a, (t ++ u)[i]? = some op → op ∈ u → op.act.touch? = some a → a.loc.isMemory = true → Cls p Sh c w' (t ++ u) i a) :
   ∀ i a, touchAt (t ++ u) i = some a → a.loc.isMemory = true → Cls p Sh c w' (t ++ u) i a := by
 intro i a ha hm
 obtain ⟨x, hx, hxa⟩ := touch_of ha
 rcases getElem?_append_cases hx with ⟨hi, hx'⟩ | ⟨_, hxu⟩
 · exact (h i a (by rw [touchAt_of hx']; exact hxa) hm).app k u hi
 · exact hu i x a hx hxu hxa hm
theorem no_touch_append {said : Bool} (h : ¬ Race said t) (hu : ∀ op ∈ u, op.act.touch? = none) : ¬ Race said (t ++ u) := by
 rintro ⟨i, j, hij, ⟨a, b, ha, hb, hc⟩, n1, n2⟩
 obtain ⟨x, hx, hxa⟩ := touch_of ha
 obtain ⟨y, hy, hyb⟩ := touch_of hb
 rcases getElem?_append_cases hy with ⟨hj, hy'⟩ | ⟨_, hyu⟩
 · have hi : i < t.size := Nat.lt_trans hij hj
   have hx' : t[i]? = some x := by rw [← getElem?_append_old (u := u) hi]; exact hx
   exact h ⟨i, j, hij, ⟨a, b, by simp [Trace.act?, hx', hxa], by simp [Trace.act?, hy', hyb], hc⟩, fun e => n1 (hb_app u e), fun e => n2 (hb_app u e)⟩
 · rw [hu y hyu] at hyb; cases hyb
theorem Core.world (h : Core p Sh c w t) (k : Kept p w w') : Core p Sh c w' t :=
 ⟨h.clean, fun i a ha hm => by
   have := (h.cls i a ha hm).app k #[] (lt_of_touch ha)
   simpa using this, h.over⟩
theorem Core.still (h : Core p Sh c w t) (hu : ∀ op ∈ u, op.act.touch? = none) : Core p Sh c w (t ++ u) :=
 ⟨fun said => no_touch_append (h.clean said) hu, cls_app h.cls (Kept.refl p w) fun i op a _ hop ha _ => (by rw [hu op hop] at ha; cases ha), h.over.app fun op hop => .inr (.inr (hu op hop))⟩
theorem Core.addA (h : Core p Sh c w t) (k : Kept p w w') (hSh : ShOk p Sh) (fn : FuncId) (pos : String) {es : Array Event} (hes : ∀ e ∈ es, EvA p w' e) :
   Core p Sh c w' (t ++ MemOp.ofEvents 0 fn pos es) := by
 refine ⟨fun said => noRace_append (h.clean said) g_ofEvents fun i a ha op hop b hb hc => ?_, cls_app h.cls k fun i op a hi hop ha hm => ?_, h.over.app fun op hop => .inl (g_ofEvents op hop)⟩
 · obtain ⟨e, he, rfl⟩ := Conc.mem_ofEvents hop
   rcases (hes e he).1 b hb (hc.1 ▸ hc.2.1) with hB | ⟨hB, hBw⟩
   · have low : ∀ y, blk a.loc = some y → ¬ y < p.N0 := fun y hy hl => by
       obtain ⟨z, hz, f⟩ := hB
       rw [← hc.1, hy] at hz
       cases hz
       have := f.1
       omega
     have some1 : ∃ y, blk a.loc = some y := by obtain ⟨z, hz, _⟩ := hB; exact ⟨z, by rw [hc.1]; exact hz⟩
     obtain ⟨y, hy⟩ := some1
     rcases h.cls i a ha hc.2.1 with ⟨x, _⟩ | ⟨s, _⟩ | ⟨g, _⟩ | ⟨_, x, _⟩ | ⟨_, x, _⟩
     · exact x
     · exact absurd (hSh.low _ _ s hy) (low y hy)
     · exact knows_of_g g
     · exact (cls_apart hB (x.kept k) hc.1.symm).elim
     · exact absurd (hSh.st _ _ x hy) (low y hy)
   · have hSa : p.Still a.loc := hc.1 ▸ hB
     rcases h.cls i a ha hc.2.1 with ⟨x, _⟩ | ⟨s, _⟩ | ⟨g, _⟩ | ⟨_, _, _, x⟩ | ⟨_, _, x⟩
     · exact x
     · exact absurd s (hSh.ap _ hSa)
     · exact knows_of_g g
     · exact absurd hSa x
     · obtain ⟨_, _, hw, _⟩ := hc
       rw [x, hBw] at hw
       rcases hw with z | z <;> cases z
 · have hxg := g?_new hi
   rw [g_ofEvents op hop] at hxg
   obtain ⟨e, he, rfl⟩ := Conc.mem_ofEvents hop
   rcases (hes e he).1 a ha hm with hB | hB
   · exact .inr (.inr (.inl ⟨hxg, hB⟩))
   · exact .inr (.inr (.inr (.inr ⟨.inl hxg, hB⟩)))
theorem Core.add0 (h : Core p Sh c w t) (hSh : ShOk p Sh) (fn : FuncId) (pos : String) {es : Array Event} (hes : ∀ e ∈ es, Ev0 Sh e) :
   Core p Sh c w (t ++ MemOp.ofEvents 0 fn pos es) := by
 refine ⟨fun said => noRace_append (h.clean said) g_ofEvents fun i a ha op hop b hb hc => ?_, cls_app h.cls (Kept.refl p w) fun i op a hi hop ha hm => ?_, h.over.app fun op hop => .inl (g_ofEvents op hop)⟩
 · obtain ⟨e, he, rfl⟩ := Conc.mem_ofEvents hop
   obtain ⟨hS, hk⟩ := (hes e he).1 b hb
   rcases h.cls i a ha hc.2.1 with ⟨x, _⟩ | ⟨_, hka | ⟨_, g⟩⟩ | ⟨g, _⟩ | ⟨_, _, x, _⟩ | ⟨_, x, _⟩
   · exact x
   · obtain ⟨_, _, _, hcase⟩ := hc
     rw [hka] at hcase
     rcases hcase with z | z | ⟨_, z, _⟩
     · cases z
     · exact absurd z hk
     · cases z
   · exact knows_of_g g
   · exact knows_of_g g
   · exact absurd (hc.1 ▸ hS) x
   · exact absurd (hc.1 ▸ hS) (hSh.ap _ x)
 · have hxg := g?_new hi
   rw [g_ofEvents op hop] at hxg
   obtain ⟨e, he, rfl⟩ := Conc.mem_ofEvents hop
   obtain ⟨hS, hk⟩ := (hes e he).1 a ha
   refine .inr (.inl ⟨hS, ?_⟩)
   cases hkk : a.kind with
   | plain => exact absurd hkk hk
   | atomic => exact .inl rfl
   | said => exact .inr ⟨rfl, hxg⟩
theorem Core.addB (h : Core p Sh c w t) (k : Kept p w w') (fn : FuncId) (pos : String) {es : Array Event} (hes : ∀ e ∈ es, ∀ x, (MemAct.ofEvent e).touch? = some x → x.loc.isMemory = true → ClsB p w' x ∧ (Sh x.loc → x.kind = .atomic) ∧ (p.Still x.loc → x.write = false)) :
   Core p Sh c w' (t ++ MemOp.ofEvents c fn pos es) := by
 refine ⟨fun said => noRace_append (h.clean said) g_ofEvents fun i a ha op hop b hb hc => ?_, cls_app h.cls k fun i op a hi hop ha hm => ?_, h.over.app fun op hop => .inr (.inl (g_ofEvents op hop))⟩
 · obtain ⟨e, he, rfl⟩ := Conc.mem_ofEvents hop
   obtain ⟨hB, hB2, hB3⟩ := hes e he b hb (hc.1 ▸ hc.2.1)
   rcases h.cls i a ha hc.2.1 with ⟨_, x⟩ | ⟨s, hka⟩ | ⟨_, x⟩ | ⟨g, _⟩ | ⟨_, x, y⟩
   · exact x
   · have hkb := hB2 (hc.1 ▸ s)
     obtain ⟨_, _, _, hcase⟩ := hc
     rw [hkb] at hcase
     rcases hcase with z | z | ⟨_, _, z⟩
     · rcases hka with y | ⟨y, _⟩ <;> rw [y] at z <;> cases z
     · cases z
     · cases z
   · exact (cls_apart (x.kept k) hB hc.1).elim
   · exact knows_of_g g
   · have hBw := hB3 (hc.1 ▸ x)
     obtain ⟨_, _, hw, _⟩ := hc
     rw [y, hBw] at hw
     rcases hw with z | z <;> cases z
 · have hxg := g?_new hi
   rw [g_ofEvents op hop] at hxg
   obtain ⟨e, he, rfl⟩ := Conc.mem_ofEvents hop
   obtain ⟨hB, hB2, hB3⟩ := hes e he a ha hm
   by_cases hS : Sh a.loc
   · exact .inr (.inl ⟨hS, .inl (hB2 hS)⟩)
   · by_cases hSt : p.Still a.loc
     · exact .inr (.inr (.inr (.inr ⟨.inr hxg, hSt, hB3 hSt⟩)))
     · exact .inr (.inr (.inr (.inl ⟨hxg, hB, hS, hSt⟩)))
theorem still_mute {g : Nat} {fn : FuncId} {pos : String} {es : Array Event} (hm : ∀ e ∈ es, e.mute = true) : ∀ op ∈ MemOp.ofEvents g fn pos es, op.act.touch? = none := fun op hop => by
 obtain ⟨e, he, rfl⟩ := Conc.mem_ofEvents hop
 exact touch_mute (hm e he)
end
def InWg (Wg : Nat) (l : Loc) : Prop := ∃ a : Addr, l = .cell a ∧ a.block = Wg
def stW (Wg : Nat) : Addr := ⟨Wg, 0, none⟩
structure Talk (p : Par) (Sh : Loc → Prop) (c : Nat) (w : World) (t : Trace) (d0 : Nat) : Prop where
 core : Core p Sh c w t
 hear0 : Deaf t 0 = d0
 hearc : Deaf t c = 0
structure Rel (p : Par) (Sh : Loc → Prop) (Wg c : Nat) (w : World) (t : Trace) (d0 d1 r : Nat) : Prop where
 core : Core p Sh c w t
 hear0 : Deaf t 0 = d0
 hearc : Deaf t c = d1
 act : t.act? r = some (.mark (.releaseMerge (stW Wg)))
 g : t.g? r = some c
 heard : t.heard r
 norel : ∀ i, r < i → t.act? i ≠ some (.mark (.release (stW Wg)))
 after : ∀ i, r < i → t.g? i = some c → ¬ t.counts i ∧ ∀ a, touchAt t i = some a → Sh a.loc
section
variable {p : Par} {Sh : Loc → Prop} {Wg c : Nat} {w w' : World} {t u : Trace} {d0 d1 r : Nat}
theorem Talk.world (h : Talk p Sh c w t d0) (k : Kept p w w') : Talk p Sh c w' t d0 := ⟨h.core.world k, h.hear0, h.hearc⟩
theorem Talk.still (h : Talk p Sh c w t d0) (hu : ∀ op ∈ u, op.act.touch? = none) (hd : ∀ g, Deaf (t ++ u) g = Deaf t g) : Talk p Sh c w (t ++ u) d0 :=
 ⟨h.core.still hu, (hd 0).trans h.hear0, (hd c).trans h.hearc⟩
theorem Talk.addA (h : Talk p Sh c w t d0) (k : Kept p w w') (hSh : ShOk p Sh) (fn : FuncId) (pos : String) {es : Array Event} (hes : ∀ e ∈ es, EvA p w' e) : Talk p Sh c w' (t ++ MemOp.ofEvents 0 fn pos es) d0 :=
 ⟨h.core.addA k hSh fn pos hes, (deaf_same (fun e he => (hes e he).2.1) t 0 fn pos 0).trans h.hear0, (deaf_same (fun e he => (hes e he).2.1) t 0 fn pos c).trans h.hearc⟩
theorem Talk.add0 (h : Talk p Sh c w t d0) (hc0 : c ≠ 0) (hSh : ShOk p Sh) (fn : FuncId) (pos : String) {es : Array Event} (hes : ∀ e ∈ es, Ev0 Sh e) : Talk p Sh c w (t ++ MemOp.ofEvents 0 fn pos es) (deafBehind d0 es) :=
 ⟨h.core.add0 hSh fn pos hes, by rw [Deaf_own, h.hear0], (Deaf_other t (fun e => hc0 e.symm) _ g_ofEvents).trans h.hearc⟩
theorem Talk.addB (h : Talk p Sh c w t d0) (k : Kept p w w') (fn : FuncId) (pos : String) {es : Array Event} (hes : ∀ e ∈ es, EvB p Sh w' e) : Talk p Sh c w' (t ++ MemOp.ofEvents c fn pos es) d0 :=
 ⟨h.core.addB k fn pos (fun e he => (hes e he).1), (deaf_same (fun e he => (hes e he).2) t c fn pos 0).trans h.hear0, (deaf_same (fun e he => (hes e he).2) t c fn pos c).trans h.hearc⟩
theorem Talk.mute (h : Talk p Sh c w t d0) {g : Nat} (h0 : g ≠ 0) (hc : g ≠ c) (fn : FuncId) (pos : String) {es : Array Event} (hm : ∀ e ∈ es, e.mute = true) : Talk p Sh c w (t ++ MemOp.ofEvents g fn pos es) d0 :=
 ⟨h.core.still (still_mute hm), (Deaf_other t h0 _ g_ofEvents).trans h.hear0, (Deaf_other t hc _ g_ofEvents).trans h.hearc⟩
theorem Talk.release (h : Talk p Sh c w t d0) (hc0 : c ≠ 0) (fn : FuncId) (pos : String) : Rel p Sh Wg c w (t ++ #[{ g := c, fn := fn, pos := pos, act := .mark (.releaseMerge (stW Wg)) }]) d0 0 t.size := by
 have hlast : (t ++ #[({ g := c, fn := fn, pos := pos, act := .mark (.releaseMerge (stW Wg)) } : MemOp)])[t.size]? = some { g := c, fn := fn, pos := pos, act := .mark (.releaseMerge (stW Wg)) } := by simp
 have hdf : ∀ g, Deaf (t ++ #[({ g := c, fn := fn, pos := pos, act := .mark (.releaseMerge (stW Wg)) } : MemOp)]) g = Deaf t g := fun g => by rw [Deaf_push]; simp [deafStep]
 have big : ∀ {α : Prop} (i : Nat), t.size < i → (t ++ #[({ g := c, fn := fn, pos := pos, act := .mark (.releaseMerge (stW Wg)) } : MemOp)])[i]? ≠ none → α := fun i hi hne => by
   exfalso
   apply hne
   exact Array.getElem?_eq_none (by simp; omega)
 refine ⟨h.core.still fun op hop => ?_, (hdf 0).trans h.hear0, (hdf c).trans h.hearc, by rw [act?_of hlast], by simp [Trace.g?, hlast], ⟨c, by simp [Trace.g?, hlast], ?_⟩, fun i hi e => big i hi ?_, fun i hi e => big i hi ?_⟩
 · have : op = { g := c, fn := fn, pos := pos, act := .mark (.releaseMerge (stW Wg)) } := by simpa using hop
   rw [this]; rfl
 · rw [deaf_old (Nat.le_refl _)]; exact h.hearc
 · obtain ⟨z, hz, _⟩ := Option.map_eq_some_iff.1 e
   rw [hz]; simp
 · obtain ⟨z, hz, _⟩ := Option.map_eq_some_iff.1 e
   rw [hz]; simp
theorem Rel.lt (h : Rel p Sh Wg c w t d0 d1 r) : r < t.size := lt_of_act? h.act
theorem Rel.grow (h : Rel p Sh Wg c w t d0 d1 r) {e0 e1 : Nat} (hcore : Core p Sh c w' (t ++ u)) (h0 : Deaf (t ++ u) 0 = e0) (h1 : Deaf (t ++ u) c = e1) (hnr : ∀ op ∈ u, op.act ≠ .mark (.release (stW Wg)))
   (haf : ∀ i op, t.size ≤ i → (t ++ u)[i]? = some op → op ∈ u → op.g = c → ¬ (t ++ u).counts i ∧ ∀ a, op.act.touch? = some a → Sh a.loc) : Rel p Sh Wg c w' (t ++ u) e0 e1 r := by
 refine ⟨hcore, h0, h1, by rw [act?_old h.lt]; exact h.act, by rw [g?_old h.lt]; exact h.g, (heard_old h.lt).2 h.heard, fun i hi e => ?_, fun i hi hg => ?_⟩
 · obtain ⟨op, ho, hoa⟩ := Option.map_eq_some_iff.1 e
   rcases getElem?_append_cases ho with ⟨_, ho'⟩ | ⟨_, hou⟩
   · exact h.norel i hi (by rw [act?_of ho', hoa])
   · exact hnr op hou hoa
 · obtain ⟨op, ho, hog⟩ := Option.map_eq_some_iff.1 hg
   rcases getElem?_append_cases ho with ⟨hl, ho'⟩ | ⟨hl, hou⟩
   · obtain ⟨x, y⟩ := h.after i hi (by simp [Trace.g?, ho', hog])
     exact ⟨fun z => x ((counts_old hl).1 z), fun a ha => y a (by rw [← touchAt_old (u := u) hl]; exact ha)⟩
   · obtain ⟨x, y⟩ := haf i op hl ho hou hog
     exact ⟨x, fun a ha => y a (by rw [touchAt_of ho] at ha; exact ha)⟩
theorem norel_of {g : Nat} {fn : FuncId} {pos : String} {es : Array Event} (h : ∀ e ∈ es, ∀ a, e.loc ≠ .mark (.release a)) : ∀ op ∈ MemOp.ofEvents g fn pos es, op.act ≠ .mark (.release (stW Wg)) := by
 intro op hop hr
 obtain ⟨e, he, rfl⟩ := Conc.mem_ofEvents hop
 obtain ⟨loc, wr, sy⟩ := e
 have := h _ he (stW Wg)
 cases loc with
 | mark m => simp [MemAct.ofEvent] at hr; exact this (by rw [hr])
 | obj x => cases wr <;> cases sy <;> simp [MemAct.ofEvent] at hr
 | _ => simp [MemAct.ofEvent] at hr
theorem Rel.addA (h : Rel p Sh Wg c w t d0 d1 r) (hc0 : c ≠ 0) (k : Kept p w w') (hSh : ShOk p Sh) (fn : FuncId) (pos : String) {es : Array Event} (hes : ∀ e ∈ es, EvA p w' e) : Rel p Sh Wg c w' (t ++ MemOp.ofEvents 0 fn pos es) d0 d1 r :=
 h.grow (h.core.addA k hSh fn pos hes) ((deaf_same (fun e he => (hes e he).2.1) t 0 fn pos 0).trans h.hear0) ((deaf_same (fun e he => (hes e he).2.1) t 0 fn pos c).trans h.hearc) (norel_of fun e he => (hes e he).2.2)
   fun i op _ _ hop hg => absurd ((g_ofEvents op hop).symm.trans hg).symm hc0
theorem Rel.add0 (h : Rel p Sh Wg c w t d0 d1 r) (hc0 : c ≠ 0) (hSh : ShOk p Sh) (fn : FuncId) (pos : String) {es : Array Event} (hes : ∀ e ∈ es, Ev0 Sh e) : Rel p Sh Wg c w (t ++ MemOp.ofEvents 0 fn pos es) (deafBehind d0 es) d1 r :=
 h.grow (h.core.add0 hSh fn pos hes) (by rw [Deaf_own, h.hear0]) ((Deaf_other t (fun e => hc0 e.symm) _ g_ofEvents).trans h.hearc) (norel_of fun e he => (hes e he).2)
   fun i op _ _ hop hg => absurd ((g_ofEvents op hop).symm.trans hg).symm hc0
theorem Rel.still (h : Rel p Sh Wg c w t d0 d1 r) (hu : ∀ op ∈ u, op.act.touch? = none) (hnr : ∀ op ∈ u, op.act ≠ .mark (.release (stW Wg))) {e0 e1 : Nat} (h0 : Deaf (t ++ u) 0 = e0) (h1 : Deaf (t ++ u) c = e1) : Rel p Sh Wg c w (t ++ u) e0 e1 r :=
 h.grow (h.core.still hu) h0 h1 hnr fun i op _ hi hop _ => by
   refine ⟨fun hcn => ?_, fun a ha => ?_⟩
   · obtain ⟨x, hx, _⟩ := hcn
     have hx' : touchAt (t ++ u) i = some x := hx
     rw [touchAt_of hi, hu op hop] at hx'
     cases hx'
   · rw [hu op hop] at ha
     cases ha
theorem Rel.world (h : Rel p Sh Wg c w t d0 d1 r) (k : Kept p w w') : Rel p Sh Wg c w' t d0 d1 r := ⟨h.core.world k, h.hear0, h.hearc, h.act, h.g, h.heard, h.norel, h.after⟩
theorem mute_norel {e : Event} (h : e.mute = true) (a : Addr) : e.loc ≠ .mark (.release a) := by
 obtain ⟨loc, wr, sy⟩ := e
 rintro rfl
 simp [Event.mute] at h
theorem Rel.mute (h : Rel p Sh Wg c w t d0 d1 r) {g : Nat} (h0 : g ≠ 0) (fn : FuncId) (pos : String) {es : Array Event} (hm : ∀ e ∈ es, e.mute = true) {e1 : Nat} (h1 : Deaf (t ++ MemOp.ofEvents g fn pos es) c = e1) : Rel p Sh Wg c w (t ++ MemOp.ofEvents g fn pos es) d0 e1 r :=
 h.still (still_mute hm) (norel_of fun e he => mute_norel (hm e he)) ((Deaf_other t h0 _ g_ofEvents).trans h.hear0) h1
def EvW (Wg : Nat) (e : Event) : Prop := ∃ (a : Addr) (wr : Bool), e = ⟨.cell a, wr, true⟩ ∧ a.block = Wg
theorem EvW.touch {e : Event} (h : EvW Wg e) {x : Touch} (hx : (MemAct.ofEvent e).touch? = some x) : InWg Wg x.loc ∧ x.kind = .atomic := by
 obtain ⟨a, wr, rfl, ha⟩ := h
 simp only [MemAct.ofEvent, MemAct.touch?, Option.some.injEq] at hx
 subst hx
 exact ⟨⟨a, rfl, ha⟩, rfl⟩
theorem Rel.own (h : Rel p Sh Wg c w t d0 d1 r) (hc0 : c ≠ 0) (hN : Wg < p.N0) (hNw : p.N0 ≤ w.heap.size) (hSh : ShOk p Sh) (hS : ∀ l, InWg Wg l → Sh l) (fn : FuncId) (pos : String) {es : Array Event}
   (hes : ∀ j e, es[j]? = some e → ((MemAct.ofEvent e).touch? = none ∧ ∀ a, e.loc ≠ .mark (.release a)) ∨ (EvW Wg e ∧ 0 < deafBehind d1 (es.extract 0 j))) :
   Rel p Sh Wg c w (t ++ MemOp.ofEvents c fn pos es) d0 (deafBehind d1 es) r := by
 have hmem : ∀ e ∈ es, ((MemAct.ofEvent e).touch? = none ∧ ∀ a, e.loc ≠ .mark (.release a)) ∨ EvW Wg e := fun e he => by
   obtain ⟨j, hj, rfl⟩ := Array.mem_iff_getElem.1 he
   exact (hes j _ (Array.getElem?_eq_getElem hj)).imp id And.left
 refine h.grow (h.core.addB (Kept.refl p w) fn pos fun e he x hx _ => ?_) ((Deaf_other t hc0 _ g_ofEvents).trans h.hear0) (by rw [Deaf_own, h.hearc]) (norel_of fun e he a => ?_) fun i op hi hio hop _ => ?_
 · rcases hmem e he with ⟨hn, _⟩ | hw
   · rw [hn] at hx; cases hx
   · obtain ⟨⟨a, ha, hab⟩, hk⟩ := hw.touch hx
     exact ⟨⟨Wg, by rw [ha]; simp [blk, hab], by omega, fun f => by have := f.1; omega⟩, fun _ => hk, fun st => absurd (hS _ ⟨a, ha, hab⟩) (hSh.ap _ st)⟩
 · rcases hmem e he with ⟨_, hn⟩ | hw
   · exact hn a
   · obtain ⟨x, wr, rfl, _⟩ := hw
     simp
 · have hj : (MemOp.ofEvents c fn pos es)[i - t.size]? = some op := by
     rw [Array.getElem?_append] at hio
     simpa [Nat.not_lt.2 hi] using hio
   rw [ofEvents_eq, Array.getElem?_map] at hj
   obtain ⟨e, he, rfl⟩ := Option.map_eq_some_iff.1 hj
   have hjs : i - t.size < es.size := (Array.getElem?_eq_some_iff.1 he).1
   rcases hes _ e he with ⟨hn, _⟩ | ⟨hw, hd⟩
   · refine ⟨fun hcn => ?_, fun a ha => ?_⟩
     · obtain ⟨x, hx, _⟩ := hcn
       have hx' : touchAt (t ++ MemOp.ofEvents c fn pos es) i = some x := hx
       rw [touchAt_of hio, hn] at hx'
       cases hx'
     · rw [hn] at ha; cases ha
   · refine ⟨fun hcn => ?_, fun a ha => hS _ (hw.touch ha).1⟩
     obtain ⟨x, hx, _, hk⟩ := hcn
     have hx' : touchAt (t ++ MemOp.ofEvents c fn pos es) i = some x := hx
     rw [touchAt_of hio] at hx'
     rcases hk with hk | ⟨g, hg, hdf⟩
     · exact hk (hw.touch hx').2
     · have : g = c := by simpa [Trace.g?, hio] using hg.symm
       subst this
       have := Conc.deaf_inside t g fn pos es (i - t.size) (Nat.le_of_lt hjs)
       rw [show t.size + (i - t.size) = i by omega, hdf, h.hearc] at this
       omega
end
structure Past0 (Sh : Loc → Prop) (t : Trace) (d : Nat := 0) : Prop where
 clean : ∀ said, ¬ Race said t
 known : ∀ i a, touchAt t i = some a → a.loc.isMemory = true → Knows t 0 i ∨ (Sh a.loc ∧ a.kind = .atomic)
 over : t.HandedOver
 hears : Deaf t 0 = d
theorem Rel.acquire {p : Par} {Sh : Loc → Prop} {Wg c : Nat} {w : World} {t : Trace} {d1 r : Nat} (h : Rel p Sh Wg c w t 0 d1 r) (hSh : ShOk p Sh) (fn : FuncId) (pos : String) :
   Past0 Sh (t ++ #[{ g := 0, fn := fn, pos := pos, act := .mark (.acquire (stW Wg)) }]) := by
 have hlast : (t ++ #[({ g := 0, fn := fn, pos := pos, act := .mark (.acquire (stW Wg)) } : MemOp)])[t.size]? = some { g := 0, fn := fn, pos := pos, act := .mark (.acquire (stW Wg)) } := by simp
 have hdf : Deaf (t ++ #[({ g := 0, fn := fn, pos := pos, act := .mark (.acquire (stW Wg)) } : MemOp)]) 0 = Deaf t 0 := by rw [Deaf_push]; simp [deafStep]
 have hu : ∀ op ∈ (#[{ g := 0, fn := fn, pos := pos, act := .mark (.acquire (stW Wg)) }] : Trace), op.act.touch? = none ∧ op.act ≠ .mark (.release (stW Wg)) := fun op hop => by
   have : op = { g := 0, fn := fn, pos := pos, act := .mark (.acquire (stW Wg)) } := by simpa using hop
   rw [this]; exact ⟨rfl, by simp⟩
 have h' : Rel p Sh Wg c w (t ++ #[{ g := 0, fn := fn, pos := pos, act := .mark (.acquire (stW Wg)) }]) 0 d1 r := h.still (fun op hop => (hu op hop).1) (fun op hop => (hu op hop).2) (hdf.trans h.hear0) ((by rw [Deaf_push]; simp [deafStep] : _ = Deaf t c).trans h.hearc)
 have hh : (t ++ #[({ g := 0, fn := fn, pos := pos, act := .mark (.acquire (stW Wg)) } : MemOp)]).heard t.size := ⟨0, by simp [Trace.g?, hlast], by rw [deaf_old (Nat.le_refl _)]; exact h.hear0⟩
 have hrl := h.lt
 generalize hgen : (t ++ #[({ g := 0, fn := fn, pos := pos, act := .mark (.acquire (stW Wg)) } : MemOp)]) = t' at hlast h' hh
 have edge : HappensBefore t' r t.size := .single (.inr ⟨.marked hrl (.inr h'.act) (by rw [act?_of hlast]) (fun k h1 _ => h'.norel k h1), h'.heard, hh⟩)
 have before : ∀ i, t'.g? i = some c → i ≤ r → HappensBefore t' i t.size := fun i hg hi => by
   rcases Nat.lt_or_ge i r with hl | hl
   · exact .trans (.single (.inl ⟨hl, c, hg, h'.g⟩)) edge
   · obtain rfl : i = r := by omega
     exact edge
 refine ⟨h'.core.clean, fun i a ha hm => ?_, fun i g hg hne hcn => ?_, h'.hear0⟩
 · have mine : ∀ (_ : t'.g? i = some c) (_ : ¬ Sh a.loc), Knows t' 0 i := fun g ns =>
     ⟨t.size, _, hlast, rfl, .inr (before i g (Nat.le_of_not_lt fun hl => ns ((h'.after i hl g).2 a ha)))⟩
   rcases h'.core.cls i a ha hm with ⟨x, _⟩ | ⟨s, x | ⟨_, g⟩⟩ | ⟨g, _⟩ | ⟨g, _, ns, _⟩ | ⟨g | g, x, _⟩
   · exact .inl x
   · exact .inr ⟨s, x⟩
   · exact .inl (knows_of_g g)
   · exact .inl (knows_of_g g)
   · exact .inl (mine g ns)
   · exact .inl (knows_of_g g)
   · exact .inl (mine g (hSh.ap _ x))
 · by_cases hgc : g = c
   · subst hgc
     exact ⟨t.size, by simp [Trace.g?, hlast], before i hg (Nat.le_of_not_lt fun hl => (h'.after i hl hg).1 hcn)⟩
   · exact h'.core.over i g hg hne hgc hcn
end Go.Hx
