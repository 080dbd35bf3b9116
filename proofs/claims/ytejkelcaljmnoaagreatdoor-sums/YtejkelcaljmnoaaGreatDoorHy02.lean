/-
  Part 2 of the proof.
  No condition but those that each statement names.
-/
import Derived.Test.YtejkelcaljmnoaaGreatDoorHy01
import Derived.Conc.Token
set_option maxRecDepth 100000
set_option linter.unusedVariables false
set_option linter.unusedSimpArgs false
set_option linter.unusedSectionVars false
namespace Go.Hx
open Go.Conc
open Go.ConcN (sumTo upd sumTo_upd upd_ne upd_same)
structure RB (p : Par) (E Dn : Nat) (w w₁ : World) : Prop where
 tape : w₁.tape = w.tape
 os : w₁.os = w.os
 output : w₁.output = w.output
 kept : Kept p w w₁
 block : ∀ b, b < w.heap.size → ¬ FA p w b → b ≠ E → b ≠ Dn → w₁.heap[b]? = w.heap[b]?
structure RA (p : Par) (w w₁ : World) : Prop where
 tape : w₁.tape = w.tape
 os : w₁.os = w.os
 output : w₁.output = w.output
 kept : Kept p w w₁
 block : ∀ b, FA p w b → w₁.heap[b]? = w.heap[b]?
 still : ∀ b cs ty fl, (∃ i, p.Still (.cell ⟨b, i, none⟩)) → w.heap[b]? = some (.cells cs ty fl) → w₁.heap[b]? = some (.cells cs ty fl)
theorem kept_at (p : Par) (w : World) (d : Nat) : Kept p w (w.at d) := ⟨Nat.le_refl _, fun _ h => h, fun _ _ h => h⟩
theorem RB.refl (p : Par) (E Dn : Nat) (w : World) : RB p E Dn w w := ⟨rfl, rfl, rfl, Kept.refl p w, fun _ _ _ _ _ => rfl⟩
theorem RB.at (p : Par) (E Dn : Nat) (w : World) (d : Nat) : RB p E Dn w (w.at d) := ⟨rfl, rfl, rfl, kept_at p w d, fun _ _ _ _ _ => rfl⟩
theorem RB.trans {p : Par} {E Dn : Nat} (a b c : World) (h : RB p E Dn a b) (k : RB p E Dn b c) : RB p E Dn a c :=
 ⟨k.tape.trans h.tape, k.os.trans h.os, k.output.trans h.output, h.kept.trans k.kept,
  fun x hl hn he hd => (k.block x (Nat.lt_of_lt_of_le hl h.kept.size) (h.kept.nf x hl hn) he hd).trans (h.block x hl hn he hd)⟩
theorem RA.refl (p : Par) (w : World) : RA p w w := ⟨rfl, rfl, rfl, Kept.refl p w, fun _ _ => rfl, fun _ _ _ _ _ h => h⟩
theorem RA.at (p : Par) (w : World) (d : Nat) : RA p w (w.at d) := ⟨rfl, rfl, rfl, kept_at p w d, fun _ _ => rfl, fun _ _ _ _ _ h => h⟩
theorem RA.trans {p : Par} (a b c : World) (h : RA p a b) (k : RA p b c) : RA p a c :=
 ⟨k.tape.trans h.tape, k.os.trans h.os, k.output.trans h.output, h.kept.trans k.kept, fun x hx => (k.block x (h.kept.fa x hx)).trans (h.block x hx), fun x cs ty fl hs hx => k.still x cs ty fl hs (h.still x cs ty fl hs hx)⟩
theorem setChan_get {w : World} {c cap : Nat} {buf : Array Value} {cl : Bool} {s r : Nat} {tm : Bool} {o : Obj} (h : w.heap[c]? = some o) : (w.setChan c cap buf cl s r tm).heap[c]? = some (.chan cap buf cl s r tm) := by
 have hlt := (Array.getElem?_eq_some_iff.1 h).1
 simp [World.setChan, hlt]
theorem setChan_ne {w : World} {c cap : Nat} {buf : Array Value} {cl : Bool} {s r : Nat} {tm : Bool} {b : Nat} (h : b ≠ c) : (w.setChan c cap buf cl s r tm).heap[b]? = w.heap[b]? := by
 simp [World.setChan, Array.getElem?_setIfInBounds_ne (Ne.symm h)]
section
variable {p : Par} {w : World} {c cap cap' : Nat} {buf buf' : Array Value} {cl cl' : Bool} {s r s' r' : Nat} {tm tm' : Bool}
theorem chan_not_fa (h : w.heap[c]? = some (.chan cap buf cl s r tm)) : ¬ FA p w c := by
 rintro ⟨_, o, ho, hi⟩
 rw [h] at ho
 cases ho
 simp [isEv] at hi
theorem setChan_kept (h : w.heap[c]? = some (.chan cap buf cl s r tm)) : Kept p w (w.setChan c cap' buf' cl' s' r' tm') := by
 refine ⟨by simp [World.setChan], fun b hb => ?_, fun b hl hn hb => ?_⟩
 · have hne : b ≠ c := fun e => chan_not_fa h (e ▸ hb)
   obtain ⟨x, o, ho, hi⟩ := hb
   exact ⟨x, o, by rw [setChan_ne hne]; exact ho, hi⟩
 · obtain ⟨x, o, ho, hi⟩ := hb
   by_cases e : b = c
   · subst e
     rw [setChan_get h] at ho
     cases ho
     simp [isEv] at hi
   · rw [setChan_ne e] at ho
     exact hn ⟨x, o, ho, hi⟩
theorem setChan_RA (h : w.heap[c]? = some (.chan cap buf cl s r tm)) : RA p w (w.setChan c cap' buf' cl' s' r' tm') :=
 ⟨rfl, rfl, rfl, setChan_kept h, fun b hb => setChan_ne fun e => chan_not_fa h (e ▸ hb), fun b cs ty fl _ hb => (setChan_ne fun e => by rw [e, h] at hb; cases hb).trans hb⟩
theorem setChan_RB {E Dn : Nat} (h : w.heap[c]? = some (.chan cap buf cl s r tm)) (hc : c = E ∨ c = Dn) : RB p E Dn w (w.setChan c cap' buf' cl' s' r' tm') :=
 ⟨rfl, rfl, rfl, setChan_kept h, fun b _ _ h1 h2 => setChan_ne fun e => hc.elim (fun z => h1 (e.trans z)) (fun z => h2 (e.trans z))⟩
end
section
variable (P : Program) (p : Par) (Shun : Loc → Prop) (E Dn : Nat) (zE zD : Value) (PostB : World → Prop) (After Fin : Goroutine → World → Prop)
def selCases : Array CommCase := #[rcase E zE, rcase Dn zD]
def DG (w w' : World) (es : Array Event) : Prop := RB p E Dn w w' ∧ w'.heap[E]? = w.heap[E]? ∧ w'.heap[Dn]? = w.heap[Dn]? ∧ ∀ e ∈ es, EvA p w' e
def DT (w w' : World) (es : Array Event) : Prop := RA p w w' ∧ w'.heap[E]? = w.heap[E]? ∧ w'.heap[Dn]? = w.heap[Dn]? ∧ ∀ e ∈ es, EvB p Shun w' e
def AtSel (K : Goroutine → World → Prop) (g : Goroutine) (w : World) : Prop :=
 g.status = .running ∧ ∃ es, stepG P true g w = .comm (core g) (selCases E Dn zE zD) true .select w es ∧ (∀ e ∈ es, EvA p w e) ∧ ∀ w₂, RA p w w₂ → K (core g) w₂
def Gathers : List Value → Goroutine → World → Prop
 | [], g, w => ∃ n, Goes P true (RA p) (DG p E Dn) (AtSel P p E Dn zE zD fun g₂ w₂ => PostB w₂ → Fin (Conc.served g₂ (commResult (selCases E Dn zE zD) .select 1 zD false)) w₂) n g w
 | v :: vs, g, w => ∃ n, Goes P true (RA p) (DG p E Dn) (AtSel P p E Dn zE zD fun g₂ w₂ => Gathers vs (Conc.served g₂ (commResult (selCases E Dn zE zD) .select 0 v true)) w₂) n g w
def StopG : List Value → Goroutine → World → Prop
 | [] => AtSel P p E Dn zE zD fun g₂ w₂ => PostB w₂ → Fin (Conc.served g₂ (commResult (selCases E Dn zE zD) .select 1 zD false)) w₂
 | v :: vs => AtSel P p E Dn zE zD fun g₂ w₂ => Gathers P p E Dn zE zD PostB Fin vs (Conc.served g₂ (commResult (selCases E Dn zE zD) .select 0 v true)) w₂
theorem gathers_iff (vs : List Value) (g : Goroutine) (w : World) : Gathers P p E Dn zE zD PostB Fin vs g w ↔ ∃ n, Goes P true (RA p) (DG p E Dn) (StopG P p E Dn zE zD PostB Fin vs) n g w := by
 cases vs <;> exact Iff.rfl
def AtTell (v : Value) (K : Goroutine → World → Prop) (g : Goroutine) (w : World) : Prop :=
 g.status = .running ∧ ∃ es z', stepG P false g w = .comm (core g) #[scase E v z'] true .send w es ∧ (∀ e ∈ es, EvB p Shun w e) ∧ ∀ w₂, RB p E Dn w w₂ → K (core g) w₂
def AtOver (g : Goroutine) (w : World) : Prop :=
 g.status = .running ∧ mayWake P g = true ∧ PostB w ∧ ∃ g', g'.status = .running ∧ (w.heap[Dn]? = some (.chan 0 #[] false 0 0 false) → stepG P false g w = .go g' (w.setChan Dn 0 #[] true 0 0 false) (closeEvents Dn)) ∧
   After g' (w.setChan Dn 0 #[] true 0 0 false)
def Tells : List Value → Goroutine → World → Prop
 | [], g, w => ∃ n, Goes P false (RB p E Dn) (DT p Shun E Dn) (AtOver P Dn PostB After) n g w
 | v :: vs, g, w => ∃ n, Goes P false (RB p E Dn) (DT p Shun E Dn) (AtTell P p Shun E Dn v fun g₂ w₂ => Tells vs (Conc.served g₂ undef) w₂) n g w
def StopT : List Value → Goroutine → World → Prop
 | [] => AtOver P Dn PostB After
 | v :: vs => AtTell P p Shun E Dn v fun g₂ w₂ => Tells P p Shun E Dn PostB After vs (Conc.served g₂ undef) w₂
theorem tells_iff (vs : List Value) (g : Goroutine) (w : World) : Tells P p Shun E Dn PostB After vs g w ↔ ∃ n, Goes P false (RB p E Dn) (DT p Shun E Dn) (StopT P p Shun E Dn PostB After vs) n g w := by
 cases vs <;> exact Iff.rfl
def SitG (vs : List Value) (ra : Nat) (a : Goroutine) (w : World) : Prop :=
 (∃ n, ra = n + 1 ∧ Goes P true (RA p) (DG p E Dn) (StopG P p E Dn zE zD PostB Fin vs) n a w) ∨
 (ra = 0 ∧ ∃ g, a = parked (core g) (selCases E Dn zE zD) .select ∧ ∀ w₁, RA p w w₁ → StopG P p E Dn zE zD PostB Fin vs g w₁)
def SitT (vs : List Value) (rb : Nat) (b : Goroutine) (w : World) : Prop :=
 (∃ n, rb = n + 1 ∧ Goes P false (RB p E Dn) (DT p Shun E Dn) (StopT P p Shun E Dn PostB After vs) n b w) ∨
 (rb = 0 ∧ ∃ v vs' g z', vs = v :: vs' ∧ b = parked (core g) #[scase E v z'] .send ∧ ∀ w₂, RB p E Dn w w₂ → Tells P p Shun E Dn PostB After vs' (Conc.served (core g) undef) w₂)
end
section
variable {P : Program} {p : Par} {Shun : Loc → Prop} {E Dn : Nat} {zE zD : Value} {PostB : World → Prop} {After Fin : Goroutine → World → Prop}
theorem StopG.sel {vs : List Value} {g : Goroutine} {w : World} (h : StopG P p E Dn zE zD PostB Fin vs g w) :
   g.status = .running ∧ ∃ es, stepG P true g w = .comm (core g) (selCases E Dn zE zD) true .select w es ∧ ∀ e ∈ es, EvA p w e := by
 cases vs <;> exact let ⟨h0, es, h1, h2, _⟩ := h; ⟨h0, es, h1, h2⟩
theorem StopG.running {vs : List Value} {g : Goroutine} {w : World} (h : StopG P p E Dn zE zD PostB Fin vs g w) : g.status = .running := h.sel.1
theorem StopG.cons {v : Value} {vs : List Value} {g : Goroutine} {w : World} (h : StopG P p E Dn zE zD PostB Fin (v :: vs) g w) :
   ∀ w₂, RA p w w₂ → Gathers P p E Dn zE zD PostB Fin vs (Conc.served (core g) (commResult (selCases E Dn zE zD) .select 0 v true)) w₂ := let ⟨_, _, _, _, h3⟩ := h; h3
theorem StopG.nil {g : Goroutine} {w : World} (h : StopG P p E Dn zE zD PostB Fin [] g w) :
   ∀ w₂, RA p w w₂ → PostB w₂ → Fin (Conc.served (core g) (commResult (selCases E Dn zE zD) .select 1 zD false)) w₂ := let ⟨_, _, _, _, h3⟩ := h; h3
theorem StopG.tries {vs : List Value} {g : Goroutine} {w : World} (h : StopG P p E Dn zE zD PostB Fin vs g w) :
   StopG P p E Dn zE zD PostB Fin vs { parked (core g) (selCases E Dn zE zD) .select with status := .running } w := by
 have e : stepG P true { parked (core g) (selCases E Dn zE zD) .select with status := .running } w = stepG P true g w := stepG_same rfl rfl rfl w
 cases vs <;> exact let ⟨_, es, h1, h2, h3⟩ := h; ⟨rfl, es, by rw [e]; exact h1, h2, h3⟩
theorem StopT.running {vs : List Value} {g : Goroutine} {w : World} (h : StopT P p Shun E Dn PostB After vs g w) : g.status = .running := by cases vs <;> exact h.1
theorem SitG.rely {vs : List Value} {ra : Nat} {a : Goroutine} {w w₁ : World} (h : SitG P p E Dn zE zD PostB Fin vs ra a w) (hr : RA p w w₁) : SitG P p E Dn zE zD PostB Fin vs ra a w₁ := by
 rcases h with ⟨n, e, hg⟩ | ⟨e, g, ea, hs⟩
 · exact .inl ⟨n, e, Goes.rely RA.trans hg hr⟩
 · exact .inr ⟨e, g, ea, fun w₂ h₂ => hs w₂ (hr.trans _ _ _ h₂)⟩
theorem SitT.rely {vs : List Value} {rb : Nat} {b : Goroutine} {w w₁ : World} (h : SitT P p Shun E Dn PostB After vs rb b w) (hr : RB p E Dn w w₁) : SitT P p Shun E Dn PostB After vs rb b w₁ := by
 rcases h with ⟨n, e, hg⟩ | ⟨e, v, vs', g, z', ev, eb, hs⟩
 · exact .inl ⟨n, e, Goes.rely RB.trans hg hr⟩
 · exact .inr ⟨e, v, vs', g, z', ev, eb, fun w₂ h₂ => hs w₂ (hr.trans _ _ _ h₂)⟩
theorem SitG.status {vs : List Value} {ra : Nat} {a : Goroutine} {w : World} (h : SitG P p E Dn zE zD PostB Fin vs ra a w) : (a.status = .running ∧ 0 < ra) ∨ (a.status = .blocked ∧ ra = 0) := by
 rcases h with ⟨n, e, hg⟩ | ⟨e, g, rfl, _⟩
 · exact .inl ⟨hg.running (fun _ _ => StopG.running) w (RA.refl p w), by omega⟩
 · exact .inr ⟨rfl, e⟩
theorem SitT.status {vs : List Value} {rb : Nat} {b : Goroutine} {w : World} (h : SitT P p Shun E Dn PostB After vs rb b w) : (b.status = .running ∧ 0 < rb) ∨ (b.status = .blocked ∧ rb = 0) := by
 rcases h with ⟨n, e, hg⟩ | ⟨e, v, vs', g, z', _, rfl, _⟩
 · exact .inl ⟨hg.running (fun _ _ => StopT.running) w (RB.refl p E Dn w), by omega⟩
 · exact .inr ⟨rfl, e⟩
theorem SitG.again {vs : List Value} {ra : Nat} {a : Goroutine} {w w' : World} {cE bE sE rE cD bD sD rD tE tD} (h : SitG P p E Dn zE zD PostB Fin vs ra a w) (hE : w'.heap[E]? = some (.chan cE bE false sE rE tE)) (hD : w'.heap[Dn]? = some (.chan cD bD false sD rD tD)) : a.again w' = a := by
 rcases h with ⟨n, e, hg⟩ | ⟨e, g, rfl, _⟩
 · exact again_running _ (.inl (hg.running (fun _ _ => StopG.running) w (RA.refl p w)))
 · refine again_all_open fun cc hcc => ?_
   simp only [selCases, List.mem_toArray, List.mem_cons, List.not_mem_nil, or_false] at hcc
   rcases hcc with rfl | rfl
   · exact ⟨E, zE, _, _, _, _, _, rfl, hE⟩
   · exact ⟨Dn, zD, _, _, _, _, _, rfl, hD⟩
theorem SitT.again {vs : List Value} {rb : Nat} {b : Goroutine} {w w' : World} {cE bE sE rE tE} (h : SitT P p Shun E Dn PostB After vs rb b w) (hE : w'.heap[E]? = some (.chan cE bE false sE rE tE)) : b.again w' = b := by
 rcases h with ⟨n, e, hg⟩ | ⟨e, v, vs', g, z', _, rfl, _⟩
 · exact again_running _ (.inl (hg.running (fun _ _ => StopT.running) w (RB.refl p E Dn w)))
 · exact again_send_open hE
end
structure Crew (P : Program) (c : Nat) (gs : Array Goroutine) (a b : Goroutine) (T : Trace) (q : Nat → Nat) : Prop where
 size : gs.size = c + 1
 pos : 0 < c
 h0 : gs[0]? = some a
 hc : gs[c]? = some b
 old : ∀ i g, 0 < i → i < c → gs[i]? = some g → QuitsD P (q i) (Deaf T i) g
 above : ∀ j, c < j → Deaf T j = 0
section
variable {P : Program} {c : Nat} {gs : Array Goroutine} {a b a' b' : Goroutine} {T u : Trace} {q : Nat → Nat} {w' : World}
theorem Crew.awake (C : Crew P c gs a b T q) (ha : awake a) (hb : awake b) : ∀ g ∈ gs, Conc.awake g := by
 intro g hg
 obtain ⟨i, hi, rfl⟩ := Array.mem_iff_getElem.1 hg
 have hgi : gs[i]? = some gs[i] := Array.getElem?_eq_getElem hi
 by_cases h0 : i = 0
 · subst h0; rw [C.h0] at hgi; rw [← Option.some.inj hgi]; exact ha
 · by_cases h1 : i = c
   · subst h1; rw [C.hc] at hgi; rw [← Option.some.inj hgi]; exact hb
   · exact awake_of ((C.old i _ (by omega) (by have := C.size; omega) hgi).status.elim .inl fun x => .inr (.inr x))
theorem Crew.put (C : Crew P c gs a b T q) {gs' : Array Goroutine} (hsz : gs'.size = gs.size) (h0 : gs'[0]? = some a') (hc : gs'[c]? = some b') (ho : ∀ x, x ≠ 0 → x ≠ c → gs'[x]? = gs[x]?) (hu : ∀ op ∈ u, op.g = 0 ∨ op.g = c) :
   Crew P c gs' a' b' (T ++ u) q := by
 have hd : ∀ j, j ≠ 0 → j ≠ c → Deaf (T ++ u) j = Deaf T j := by
   intro j hj0 hjc
   obtain ⟨l⟩ := u
   rw [Deaf_append]
   have : ∀ (l : List MemOp) (d : Nat), (∀ op ∈ l, op.g = 0 ∨ op.g = c) → l.foldl (deafStep j) d = d := by
     intro l
     induction l with
     | nil => intro d _; rfl
     | cons y l ih =>
       intro d hl
       have hy : y.g ≠ j := fun e => (hl y (by simp)).elim (fun z => hj0 (e.symm.trans z)) (fun z => hjc (e.symm.trans z))
       have e1 : deafStep j d y = d := by
         obtain ⟨g, fn, pos, act⟩ := y
         simp only at hy
         cases act with
         | mark m => cases m <;> simp [deafStep, hy]
         | _ => simp [deafStep]
       rw [List.foldl_cons, e1]
       exact ih d fun op hop => hl op (by simp [hop])
   exact this l _ fun op hop => hu op (by simpa using hop)
 refine ⟨hsz.trans C.size, C.pos, h0, hc, fun i g hi hic hg => ?_, fun j hj => ?_⟩
 · rw [ho i (by omega) (by omega)] at hg
   rw [hd i (by omega) (by omega)]
   exact C.old i g hi hic hg
 · rw [hd j (by omega) (by omega)]
   exact C.above j hj
theorem woken_same {P : Program} {g g' x : Goroutine} {w : World} (h : x.again w = x) : woken P g g' w x = x := woken_of_again h
theorem Crew.step0 (C : Crew P c gs a b T q) (hb : b.again w' = b) (hu : ∀ op ∈ u, op.g = 0) : Crew P c ((gs.map (woken P a a' w')).setIfInBounds 0 a') a' b (T ++ u) q := by
 have hp := C.pos
 have hs := C.size
 refine C.put (by simp) (by simp [hs]) ?_ (fun x h0 hxc => ?_) fun op hop => .inl (hu op hop)
 · rw [Array.getElem?_setIfInBounds_ne (by omega), Array.getElem?_map, C.hc]
   simp [woken_same hb]
 · rw [Array.getElem?_setIfInBounds_ne (Ne.symm h0), Array.getElem?_map]
   cases hx : gs[x]? with
   | none => rfl
   | some y =>
     have hlt := (Array.getElem?_eq_some_iff.1 hx).1
     simp [woken_quitsD (C.old x y (by omega) (by omega) hx)]
theorem Crew.stepc (C : Crew P c gs a b T q) (ha : woken P b b' w' a = a') (hu : ∀ op ∈ u, op.g = c) : Crew P c ((gs.map (woken P b b' w')).setIfInBounds c b') a' b' (T ++ u) q := by
 have hp := C.pos
 have hs := C.size
 refine C.put (by simp) ?_ (by simp [hs]) (fun x h0 hxc => ?_) fun op hop => .inr (hu op hop)
 · rw [Array.getElem?_setIfInBounds_ne (by omega), Array.getElem?_map, C.h0]
   simp [ha]
 · rw [Array.getElem?_setIfInBounds_ne (Ne.symm hxc), Array.getElem?_map]
   cases hx : gs[x]? with
   | none => rfl
   | some y =>
     have hlt := (Array.getElem?_eq_some_iff.1 hx).1
     simp [woken_quitsD (C.old x y (by omega) (by omega) hx)]
theorem Crew.leaver (C : Crew P c gs a b T q) {i : Nat} {g : Goroutine} (hi : gs[i]? = some g) (h0 : i ≠ 0) (hic : i ≠ c) (hrun : g.status = .running) (sl : Option (Nat × Nat)) (w : World) :
   ∃ g' es k, q i = k + 1 ∧ runT P (crowd gs w sl) i = (.next (crowd ((gs.map (woken P g g' w)).setIfInBounds i g') w sl), MemOp.ofEvents i g.frame.fn g.frame.place es) ∧ (∀ e ∈ es, e.mute = true) ∧
     Crew P c ((gs.map (woken P g g' w)).setIfInBounds i g') (woken P g g' w a) (woken P g g' w b) (T ++ MemOp.ofEvents i g.frame.fn g.frame.place es) (upd q i k) := by
 have hlt : i < gs.size := (Array.getElem?_eq_some_iff.1 hi).1
 have hs := C.size
 have hq := C.old i g (by omega) (by omega) hi
 have hi0 : (i == 0) = false := by simp [h0]
 cases hqi : q i with
 | zero => rw [hqi] at hq; rw [hq.1] at hrun; cases hrun
 | succ k =>
   rw [hqi] at hq
   rcases hq with ⟨hf, _⟩ | ⟨_, g', es, hm, hstp, hq'⟩
   · rw [hf] at hrun; cases hrun
   have hops : ∀ op ∈ MemOp.ofEvents i g.frame.fn g.frame.place es, op.g = i := fun op hop => by obtain ⟨_, _, rfl⟩ := Conc.mem_ofEvents hop; rfl
   refine ⟨g', es, k, rfl, runT_crowd_go hi (by rw [hi0]; exact hstp w), hm, by simp [hs], C.pos, ?_, ?_, fun j x hj hjc hx => ?_, fun j hj => by rw [Deaf_other T (by omega) _ hops]; exact C.above j hj⟩
   · rw [Array.getElem?_setIfInBounds_ne h0, Array.getElem?_map, C.h0]; rfl
   · rw [Array.getElem?_setIfInBounds_ne hic, Array.getElem?_map, C.hc]; rfl
   · by_cases hji : i = j
     · subst hji
       rw [Array.getElem?_setIfInBounds_self_of_lt (by simpa using hlt)] at hx
       obtain rfl := Option.some.inj hx
       rw [upd_same, Deaf_own]
       exact hq'
     · rw [Array.getElem?_setIfInBounds_ne hji, Array.getElem?_map] at hx
       obtain ⟨y, hy, rfl⟩ := Option.map_eq_some_iff.1 hx
       have hqj := C.old j y hj hjc hy
       rw [woken_quitsD hqj, upd_ne q k (Ne.symm hji), Deaf_other T hji _ hops]
       exact hqj
theorem sum_leaver {c i k : Nat} {q : Nat → Nat} (hic : i < c) (hq : q i = k + 1) : sumTo c (upd q i k) + 1 = sumTo c q := by
 have := sumTo_upd q k id hic
 simp only [id, hq] at this
 have h2 : sumTo c (fun a => upd q i k a) = sumTo c (upd q i k) := rfl
 have h3 : sumTo c (fun a => q a) = sumTo c q := rfl
 omega
theorem Crew.noOffer (C : Crew P c gs a b T q) {x : Nat} {y : Goroutine} (h0 : x ≠ 0) (hc : x ≠ c) (hx : gs[x]? = some y) (ch : Nat) (s : Bool) : offersAt y ch s = [] := by
 have hlt : x < gs.size := (Array.getElem?_eq_some_iff.1 hx).1
 have hs := C.size
 have hq := C.old x y (by omega) (by omega) hx
 exact offersAt_of_not_blocked (fun hb => by rcases hq.status with z | z <;> rw [z] at hb <;> cases hb) ch s
end
end Go.Hx
