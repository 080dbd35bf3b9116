/-
  Part 4 of the proof.
  No condition but those that each statement names.
-/
import Derived.Test.YtejkelcaljmnoaaGreatDoorHy03
import Derived.Conc.FxGenWait
set_option maxRecDepth 100000
set_option linter.unusedVariables false
set_option linter.unusedSimpArgs false
set_option linter.unusedSectionVars false
namespace Go.Hx
open Go.Conc
open Go.ConcX
open Go.ConcN (sumTo upd sumTo_upd upd_ne upd_same)
section
variable [Payload] (P : Program) (ty : TypeId) (Wg C Low : Nat) [Shy Wg C] (vals : List Value) (Mine : Loc → Prop) (p : Par) (Sh : Loc → Prop) (c : Nat) (wf : World)
structure Fix : Prop where
 hW : Wg < Low
 hC : C < Low
 hCW : C ≠ Wg
 hLow : Low ≤ p.N0
 hc0 : c ≠ 0
 hSh : ShOk p Sh
 hSW : ∀ l, InWg Wg l → Sh l
 hCS : ∀ i, ¬ p.Still (.cell ⟨C, i, none⟩)
 ok0 : ∀ e, EvQ Mine Wg C 0 e → Ev0 Sh e
def Law (rel : Bool) (w : World) (T : Trace) (d0 d1 : Nat) : Prop :=
 match rel with
 | false => Talk p Sh c w T d0 ∧ d1 = 0
 | true => ∃ r, Rel p Sh Wg c w T d0 d1 r
end
section
variable [Payload] {P : Program} {ty : TypeId} {Wg C Low : Nat} [Shy Wg C] {vals : List Value} {Mine : Loc → Prop} {p : Par} {Sh : Loc → Prop} {c : Nat} {w w' : World} {T : Trace} {rel : Bool} {d0 d1 : Nat}
omit [Payload] in
theorem Law.world (h : Law Wg p Sh c rel w T d0 d1) (k : Kept p w w') : Law Wg p Sh c rel w' T d0 d1 := by
 cases rel with
 | false => exact ⟨h.1.world k, h.2⟩
 | true => obtain ⟨r, h⟩ := h; exact ⟨r, h.world k⟩
omit [Payload] in
theorem Law.addA (h : Law Wg p Sh c rel w T d0 d1) (hc0 : c ≠ 0) (k : Kept p w w') (hSh : ShOk p Sh) (fn : FuncId) (pos : String) {es : Array Event} (hes : ∀ e ∈ es, EvA p w' e) :
   Law Wg p Sh c rel w' (T ++ MemOp.ofEvents 0 fn pos es) d0 d1 := by
 cases rel with
 | false => exact ⟨h.1.addA k hSh fn pos hes, h.2⟩
 | true => obtain ⟨r, h⟩ := h; exact ⟨r, h.addA hc0 k hSh fn pos hes⟩
omit [Payload] in
theorem Law.add0 (h : Law Wg p Sh c rel w T d0 d1) (hc0 : c ≠ 0) (hSh : ShOk p Sh) (fn : FuncId) (pos : String) {es : Array Event} (hes : ∀ e ∈ es, Ev0 Sh e) :
   Law Wg p Sh c rel w (T ++ MemOp.ofEvents 0 fn pos es) (deafBehind d0 es) d1 := by
 cases rel with
 | false => exact ⟨h.1.add0 hc0 hSh fn pos hes, h.2⟩
 | true => obtain ⟨r, h⟩ := h; exact ⟨r, h.add0 hc0 hSh fn pos hes⟩
omit [Payload] in
theorem Law.mute (h : Law Wg p Sh c rel w T d0 d1) {g : Nat} (h0 : g ≠ 0) (hc : g ≠ c) (fn : FuncId) (pos : String) {es : Array Event} (hm : ∀ e ∈ es, e.mute = true) :
   Law Wg p Sh c rel w (T ++ MemOp.ofEvents g fn pos es) d0 d1 := by
 cases rel with
 | false => exact ⟨h.1.mute h0 hc fn pos hm, h.2⟩
 | true => obtain ⟨r, h⟩ := h; exact ⟨r, h.mute h0 fn pos hm ((Deaf_other T hc _ g_ofEvents).trans h.hearc)⟩
omit [Payload] in
theorem Law.still (h : Law Wg p Sh c rel w T d0 d1) {u : Trace} (hu : ∀ op ∈ u, op.act.touch? = none) (hnr : ∀ op ∈ u, op.act ≠ .mark (.release (stW Wg))) (hd : ∀ g, Deaf (T ++ u) g = Deaf T g) : Law Wg p Sh c rel w (T ++ u) d0 d1 := by
 cases rel with
 | false => exact ⟨h.1.still hu hd, h.2⟩
 | true => obtain ⟨r, h⟩ := h; exact ⟨r, h.still hu hnr ((hd 0).trans h.hear0) ((hd c).trans h.hearc)⟩
omit [Payload] in
theorem Law.idle0 (F : Fix Wg C Low Mine p Sh c) (h : Law Wg p Sh c rel w T d0 d1) (fn : FuncId) (pos : String) {v v' : World} {es : Array Event} (hD : DPi Mine Wg C Low v v' es) : Law Wg p Sh c rel w (T ++ MemOp.ofEvents 0 fn pos es) d0 d1 := by
 have := h.add0 F.hc0 F.hSh fn pos (fun e he => F.ok0 e (hD.2 e he))
 rwa [deafBehind_still (fun e he => ⟨(hD.2 e he).2.1, (hD.2 e he).2.2.1⟩)] at this
omit [Payload] [Shy Wg C] in
theorem ev0_of_bk (hSW : ∀ l, InWg Wg l → Sh l) {es : Array Event} (h : ∀ e ∈ es, Bk Wg e) : ∀ e ∈ es, Ev0 Sh e := by
 intro e he
 rcases h e he with h1 | h1 | ⟨a, wr, rfl, ha⟩
 · refine ⟨fun x hx => ?_, fun a => by rw [h1]; simp⟩
   obtain ⟨loc, b1, b2⟩ := e
   simp only at h1
   subst h1
   simp [MemAct.ofEvent, MemAct.touch?] at hx
 · refine ⟨fun x hx => ?_, fun a => by rw [h1]; simp⟩
   obtain ⟨loc, b1, b2⟩ := e
   simp only at h1
   subst h1
   simp [MemAct.ofEvent, MemAct.touch?] at hx
 · refine ⟨fun x hx => ?_, fun a => by simp⟩
   simp only [MemAct.ofEvent, MemAct.touch?, Option.some.injEq] at hx
   subst hx
   exact ⟨hSW _ ⟨a, rfl, ha⟩, by simp⟩
omit [Payload] in
theorem Law.bk0 (F : Fix Wg C Low Mine p Sh c) (h : Law Wg p Sh c rel w T d0 d1) (fn : FuncId) (pos : String) {es : Array Event} (hb : ∀ e ∈ es, Bk Wg e) : Law Wg p Sh c rel w (T ++ MemOp.ofEvents 0 fn pos es) (deafBehind d0 es) d1 :=
 h.add0 F.hc0 F.hSh fn pos (ev0_of_bk F.hSW hb)
inductive CAOut (P : Program) (ty : TypeId) (Wg C Low : Nat) [Shy Wg C] (vals : List Value) (Mine : Loc → Prop) (p : Par) (Sh : Loc → Prop) (c : Nat) (wf : World) (st : Int) (d0 rc mc : Nat) (b' : Goroutine) (w' : World) (T' : Trace) : Prop
 | stay (rc' d1' : Nat) (rel' : Bool) (vs' : List Value) (cl' : Bool) (mc' : Nat) : Lt2 (rc', mc') (rc, mc) → WgAt ty Wg w' st 0 → (rel' = true → Full C vals w') → Law Wg p Sh c rel' wf T' d0 d1' → CA P ty Wg C Low vals Mine rc' d1' rel' vs' cl' mc' b' w' →
     CAOut P ty Wg C Low vals Mine p Sh c wf st d0 rc mc b' w' T'
 | lone (q : Nat) : st = KK → WgAt ty Wg w' 0 0 → Full C vals w' → Law Wg p Sh c true wf T' d0 1 → QuitsD P q 1 b' → CAOut P ty Wg C Low vals Mine p Sh c wf st d0 rc mc b' w' T'
 | met (m' : Nat) : st = KK + 1 → WgAt ty Wg w' 1 0 → Full C vals w' → Law Wg p Sh c true wf T' d0 1 → CD P Wg Low 4 1 m' b' w' → CAOut P ty Wg C Low vals Mine p Sh c wf st d0 rc mc b' w' T'
omit [Payload] in
theorem rel_words {r : Nat} (h : Rel p Sh Wg c w T d0 d1 r) (F : Fix Wg C Low Mine p Sh c) (hN : p.N0 ≤ w.heap.size) (fn : FuncId) (pos : String) {es : Array Event} (hb : ∀ e ∈ es, Bk Wg e) (hd : ∀ j, 0 < deafBehind d1 (es.extract 0 j) ∨ ∀ e, es[j]? = some e → e.loc = .mark .disable) :
   Rel p Sh Wg c w (T ++ MemOp.ofEvents c fn pos es) d0 (deafBehind d1 es) r := by
 refine h.own F.hc0 (Nat.lt_of_lt_of_le F.hW F.hLow) hN F.hSh F.hSW fn pos fun j e he => ?_
 have hmem : e ∈ es := Array.mem_of_getElem? he
 have words : ∀ m, e.loc = .mark m → (m = .disable ∨ m = .enable) → ((MemAct.ofEvent e).touch? = none ∧ ∀ a, e.loc ≠ .mark (.release a)) := by
   intro m hm hmm
   obtain ⟨loc, b1, b2⟩ := e
   simp only at hm
   subst hm
   refine ⟨?_, fun a => ?_⟩
   · rcases hmm with rfl | rfl <;> rfl
   · rcases hmm with rfl | rfl <;> simp
 rcases hb e hmem with h1 | h1 | ⟨a, wr, rfl, ha⟩
 · exact .inl (words _ h1 (.inl rfl))
 · exact .inl (words _ h1 (.inr rfl))
 · rcases hd j with h2 | h2
   · exact .inr ⟨⟨a, wr, rfl, ha⟩, h2⟩
   · exact absurd (h2 _ he) (by simp)
theorem Full.of_block {w w' : World} (h : Full C vals w) (e : w'.heap[C]? = w.heap[C]?) : Full C vals w' := ChanAt.of_block h e
theorem ca_move (F : Fix Wg C Low Mine p Sh c) {wf : World} (hN : p.N0 ≤ wf.heap.size) (ok1 : ∀ e, EvQ Mine Wg C 1 e → EvB p Sh wf e) {st : Int} (hst : st = KK ∨ st = KK + 1) {rc mc : Nat} {vs : List Value} {cl : Bool} {b : Goroutine} {w : World}
   (hL : Law Wg p Sh c rel wf T d0 d1) (hF : rel = true → Full C vals w) (hwg : WgAt ty Wg w st 0) (hc : CA P ty Wg C Low vals Mine rc d1 rel vs cl mc b w) (fn : FuncId) (pos : String) :
   ∃ b' w' es, stepG P false b w = .go b' w' es ∧ Aside2 C Wg w w' ∧ CAOut P ty Wg C Low vals Mine p Sh c wf st d0 rc mc b' w' (T ++ MemOp.ofEvents c fn pos es) := by
 cases hc with
 | @r0 m _ _ h =>
   rcases Goes.cases h with hstop | ⟨m', rfl, hstep⟩
   · obtain ⟨_, hfull, b', hgo, m', hg'⟩ := hstop w (RCa.refl w)
     refine ⟨b', w, _, hgo, .refl w, .stay 6 0 true [] true m' (.left _ _ (by omega)) hwg (fun _ => hfull) ⟨T.size, ?_⟩ (.k1 hg')⟩
     have e1 : MemOp.ofEvents c fn pos #[mk (.releaseMerge (stA Wg))] = #[{ g := c, fn := fn, pos := pos, act := .mark (.releaseMerge (stW Wg)) }] := by simp [MemOp.ofEvents, mk, MemAct.ofEvent, stA, stW]
     rw [e1]
     exact hL.1.release F.hc0 fn pos
   · obtain ⟨b', w', es, hgo, hD, hg'⟩ := hstep w (RCa.refl w)
     refine ⟨b', w', es, hgo, .of_C hD.1, .stay 7 0 false [] false m' (.right _ (by omega)) (hwg.of_block (hD.1.block Wg (Ne.symm F.hCW))) (fun e => by cases e) ⟨?_, rfl⟩ (.r0 hg')⟩
     exact hL.1.addB (Kept.refl p wf) fn pos fun e he => ok1 e (hD.2 e he)
 | @k1 m _ _ h =>
   obtain ⟨r, hL⟩ := hL
   rcases Goes.cases h with hstop | ⟨m', rfl, hstep⟩
   · obtain ⟨_, b', hgo, m', hg'⟩ := hstop w (RCa.refl w)
     refine ⟨b', w, _, hgo, .refl w, .stay 5 1 true [] true m' (.left _ _ (by omega)) hwg hF ⟨r, ?_⟩ (.d1 hg')⟩
     exact rel_words hL F hN fn pos (es := #[mk .disable]) (bk1 (mk .disable) (.inl rfl)) fun j => by
       rcases j with _ | j
       · exact .inr fun e he => by simp at he; subst he; rfl
       · exact .inr fun e he => by simp at he
   · obtain ⟨b', w', es, hgo, ⟨rfl, rfl⟩, hg'⟩ := hstep w (RCa.refl w)
     exact ⟨b', w', _, hgo, .refl w', .stay 6 0 true [] true m' (.right _ (by omega)) hwg hF ⟨r, by simpa [MemOp.ofEvents] using hL⟩ (.k1 hg')⟩
 | @d1 m _ _ h =>
   obtain ⟨r, hL⟩ := hL
   have hfull := hF rfl
   rcases Goes.cases h with hstop | ⟨m', rfl, hstep⟩
   · obtain ⟨_, hlone, hmet⟩ := hstop w (RCa.refl w)
     have hA : ∀ v, Aside Wg w (w.setCell (stA Wg) v) := fun v => aside_setCell w (stA Wg) v
     have hlaw : Rel p Sh Wg c wf (T ++ MemOp.ofEvents c fn pos #[rd (stA Wg), wr (stA Wg)]) d0 1 r :=
       rel_words hL F hN fn pos (bk2 _ _ (bk_cell _ _ rfl) (bk_cell _ _ rfl)) fun j => by
         rcases j with _ | _ | j <;> exact .inl (by simp [deafBehind, rd, wr])
     rcases hst with rfl | rfl
     · obtain ⟨b', hgo, q, hq⟩ := hlone hwg
       exact ⟨b', _, _, hgo, .of_Wg (hA _), .lone q rfl (hwg.setSt _) (hfull.of_block ((hA _).block C F.hCW)) ⟨r, hlaw⟩ hq⟩
     · obtain ⟨b', hgo, m', hg'⟩ := hmet hwg
       exact ⟨b', _, _, hgo, .of_Wg (hA _), .met m' rfl (hwg.setSt _) (hfull.of_block ((hA _).block C F.hCW)) ⟨r, hlaw⟩ (.d2 hg')⟩
   · obtain ⟨b', w', es, hgo, ⟨rfl, rfl⟩, hg'⟩ := hstep w (RCa.refl w)
     exact ⟨b', w', _, hgo, .refl w', .stay 5 1 true [] true m' (.right _ (by omega)) hwg hF ⟨r, by simpa [MemOp.ofEvents] using hL⟩ (.d1 hg')⟩
inductive CDOut (P : Program) (ty : TypeId) (Wg Low : Nat) (p : Par) (Sh : Loc → Prop) (c : Nat) (wf : World) (d0 rc mc : Nat) (b b' : Goroutine) (w' : World) (T' : Trace) : Prop
 | stay (rc' : Nat) (st' : Int) (mc' : Nat) : Lt2 (rc', mc') (rc, mc) → WgAt ty Wg w' st' 0 → Law Wg p Sh c true wf T' d0 1 → CD P Wg Low rc' st' mc' b' w' → CDOut P ty Wg Low p Sh c wf d0 rc mc b b' w' T'
 | freed (q : Nat) : mayWake P b = true → WgAt ty Wg w' 0 1 → Law Wg p Sh c true wf T' d0 1 → QuitsD P q 1 b' → CDOut P ty Wg Low p Sh c wf d0 rc mc b b' w' T'
theorem cd_move (F : Fix Wg C Low Mine p Sh c) {wf : World} (hN : p.N0 ≤ wf.heap.size) {st : Int} {rc mc : Nat} {b : Goroutine} {w : World}
   (hL : Law Wg p Sh c true wf T d0 1) (hwg : WgAt ty Wg w st 0) (hc : CD P Wg Low rc st mc b w) (fn : FuncId) (pos : String) :
   ∃ b' w' es, stepG P false b w = .go b' w' es ∧ Aside Wg w w' ∧ CDOut P ty Wg Low p Sh c wf d0 rc mc b b' w' (T ++ MemOp.ofEvents c fn pos es) := by
 obtain ⟨r, hL⟩ := hL
 have hA : ∀ a v, a.block = Wg → Aside Wg w (w.setCell a v) := fun a v ha => by
   have := aside_setCell w a v
   rwa [ha] at this
 have one : ∀ e : Event, Bk Wg e → (∃ a wr, e = ⟨.cell a, wr, true⟩) → Rel p Sh Wg c wf (T ++ MemOp.ofEvents c fn pos #[e]) d0 1 r := by
   intro e he hw
   obtain ⟨a, wr, rfl⟩ := hw
   exact rel_words hL F hN fn pos (bk1 _ he) fun j => by rcases j with _ | j <;> exact .inl (by simp [deafBehind])
 cases hc with
 | @d2 m _ _ h =>
   rcases Goes.cases h with hstop | ⟨m', rfl, hstep⟩
   · obtain ⟨_, b', hgo, m', hg'⟩ := hstop w (RCd.refl w)
     exact ⟨b', w, _, hgo, Aside.refl Wg w, .stay 3 1 m' (.left _ _ (by omega)) hwg ⟨r, one _ (bk_cell _ _ rfl) ⟨_, _, rfl⟩⟩ (.d3 hg')⟩
   · obtain ⟨b', w', es, hgo, ⟨rfl, rfl⟩, hg'⟩ := hstep w (RCd.refl w)
     exact ⟨b', w', _, hgo, Aside.refl Wg w', .stay 4 1 m' (.right _ (by omega)) hwg ⟨r, by simpa [MemOp.ofEvents] using hL⟩ (.d2 hg')⟩
 | @d3 m _ _ h =>
   rcases Goes.cases h with hstop | ⟨m', rfl, hstep⟩
   · obtain ⟨_, b', hgo, m', hg'⟩ := hstop w (RCd.refl w)
     exact ⟨b', _, _, hgo, hA _ _ rfl, .stay 2 0 m' (.left _ _ (by omega)) (hwg.setSt _) ⟨r, one _ (bk_cell _ _ rfl) ⟨_, _, rfl⟩⟩ (.d4 hg')⟩
   · obtain ⟨b', w', es, hgo, ⟨rfl, rfl⟩, hg'⟩ := hstep w (RCd.refl w)
     exact ⟨b', w', _, hgo, Aside.refl Wg w', .stay 3 1 m' (.right _ (by omega)) hwg ⟨r, by simpa [MemOp.ofEvents] using hL⟩ (.d3 hg')⟩
 | @d4 m _ _ h =>
   rcases Goes.cases h with hstop | ⟨m', rfl, hstep⟩
   · obtain ⟨_, hmw, b', hgo, q, hq⟩ := hstop w (RCd.refl w)
     refine ⟨b', _, _, hgo, hA _ _ rfl, .freed q hmw (hwg.setSm _) ⟨r, ?_⟩ hq⟩
     have := rel_words hL F hN fn pos (es := semEvents (smA Wg)) bk_sem fun j => by
       rcases j with _ | _ | _ | _ | j <;> exact .inl (by simp [deafBehind, semEvents])
     simpa [deafBehind, semEvents] using this
   · obtain ⟨b', w', es, hgo, ⟨rfl, rfl⟩, hg'⟩ := hstep w (RCd.refl w)
     exact ⟨b', w', _, hgo, Aside.refl Wg w', .stay 2 0 m' (.right _ (by omega)) hwg ⟨r, by simpa [MemOp.ofEvents] using hL⟩ (.d4 hg')⟩
variable {AnchW : Goroutine → World → Prop} {Post : Value → World → Prop}
inductive PAOutA (P : Program) (ty : TypeId) (Wg C Low : Nat) [Shy Wg C] (vals : List Value) (Mine : Loc → Prop) (AnchW : Goroutine → World → Prop) (Post : Value → World → Prop) (p : Par) (Sh : Loc → Prop) (c : Nat) (wf : World) (rel : Bool) (d1 rp mp : Nat) (a' : Goroutine) (w' : World) (T' : Trace) : Prop
 | stay (rp' d0' mp' : Nat) : Lt2 (rp', mp') (rp, mp) → WgAt ty Wg w' KK 0 → Law Wg p Sh c rel wf T' d0' d1 → PA P ty Wg C Low vals Mine AnchW Post rp' d0' mp' a' w' → PAOutA P ty Wg C Low vals Mine AnchW Post p Sh c wf rel d1 rp mp a' w' T'
 | reg (mp' : Nat) : WgAt ty Wg w' (KK + 1) 0 → Law Wg p Sh c rel wf T' 1 d1 → PB P ty Wg C Low vals Mine Post 1 mp' a' w' → PAOutA P ty Wg C Low vals Mine AnchW Post p Sh c wf rel d1 rp mp a' w' T'
theorem PAOutA.mono {wf : World} {rp mp rp₂ mp₂ : Nat} {a' : Goroutine} {w' : World} {T' : Trace} (h : PAOutA P ty Wg C Low vals Mine AnchW Post p Sh c wf rel d1 rp mp a' w' T') (hl : Lt2 (rp, mp) (rp₂, mp₂)) :
   PAOutA P ty Wg C Low vals Mine AnchW Post p Sh c wf rel d1 rp₂ mp₂ a' w' T' := by
 cases h with
 | stay a b c h1 h2 h3 h4 => exact .stay a b c (lt2_trans h1 hl) h2 h3 h4
 | reg a h1 h2 h3 => exact .reg a h1 h2 h3
theorem pa_moveA (F : Fix Wg C Low Mine p Sh c) {wf : World} (hAn : ∀ g w, AnchW g w → ∃ m, Goes P true (RPa ty Wg C vals) (DPi Mine Wg C Low) (AtW1 P ty Wg C Low vals Mine AnchW Post) m g w)
   {rp mp : Nat} {a : Goroutine} {w : World} (hL : Law Wg p Sh c rel wf T d0 d1) (hwg : WgAt ty Wg w KK 0) (hp : PA P ty Wg C Low vals Mine AnchW Post rp d0 mp a w) (fn : FuncId) (pos : String) :
   ∃ a' w' es, stepG P true a w = .go a' w' es ∧ RCa ty Wg Low w w' ∧ (∀ b, b < Low → b ≠ Wg → w'.heap[b]? = w.heap[b]?) ∧ PAOutA P ty Wg C Low vals Mine AnchW Post p Sh c wf rel d1 rp mp a' w' (T ++ MemOp.ofEvents 0 fn pos es) := by
 have w1 : ∀ m, d0 = 1 → Goes P true (RPa ty Wg C vals) (DPi Mine Wg C Low) (AtW1 P ty Wg C Low vals Mine AnchW Post) m a w →
     ∃ a' w' es, stepG P true a w = .go a' w' es ∧ RCa ty Wg Low w w' ∧ (∀ b, b < Low → b ≠ Wg → w'.heap[b]? = w.heap[b]?) ∧ PAOutA P ty Wg C Low vals Mine AnchW Post p Sh c wf rel d1 2 m a' w' (T ++ MemOp.ofEvents 0 fn pos es) := by
   intro m hd h
   subst hd
   rcases Goes.cases h with hstop | ⟨m', rfl, hstep⟩
   · obtain ⟨_, a', hgo, hk, _⟩ := hstop w (RPa.refl w)
     obtain ⟨m', hg'⟩ := hk hwg
     exact ⟨_, _, _, hgo, .refl w, fun _ _ _ => rfl, .stay 1 1 m' (.left _ _ (by omega)) hwg (hL.bk0 F fn pos (bk1 _ (bk_cell _ _ rfl))) (.w2 hg')⟩
   · obtain ⟨a', w', es, hgo, hD, hg'⟩ := hstep w (RPa.refl w)
     exact ⟨_, _, _, hgo, RCd.toA F.hW hD.1, fun b hb _ => hD.1 b hb, .stay 2 1 m' (.right _ (by omega)) (hwg.of_block (hD.1 Wg F.hW)) (hL.idle0 F fn pos hD) (.w1 hg')⟩
 cases hp with
 | @kd m _ _ h =>
   rcases Goes.cases h with hstop | ⟨m', rfl, hstep⟩
   · obtain ⟨_, a', hgo, m', hg'⟩ := hstop w (RPa.refl w)
     exact ⟨_, _, _, hgo, .refl w, fun _ _ _ => rfl, .stay 3 1 m' (.left _ _ (by omega)) hwg (hL.bk0 F fn pos (es := #[mk .disable]) (bk1 (mk .disable) (.inl rfl))) (.anch hg')⟩
   · obtain ⟨a', w', es, hgo, hD, hg'⟩ := hstep w (RPa.refl w)
     exact ⟨_, _, _, hgo, RCd.toA F.hW hD.1, fun b hb _ => hD.1 b hb, .stay 4 0 m' (.right _ (by omega)) (hwg.of_block (hD.1 Wg F.hW)) (hL.idle0 F fn pos hD) (.kd hg')⟩
 | @anch m _ _ h =>
   rcases Goes.cases h with hstop | ⟨m', rfl, hstep⟩
   · obtain ⟨m1, h1⟩ := hAn a w (hstop w (RPa.refl w))
     obtain ⟨a', w', es, e1, e2, e4, e3⟩ := w1 m1 rfl h1
     exact ⟨a', w', es, e1, e2, e4, e3.mono (.left _ _ (by omega))⟩
   · obtain ⟨a', w', es, hgo, hD, hg'⟩ := hstep w (RPa.refl w)
     exact ⟨_, _, _, hgo, RCd.toA F.hW hD.1, fun b hb _ => hD.1 b hb, .stay 3 1 m' (.right _ (by omega)) (hwg.of_block (hD.1 Wg F.hW)) (hL.idle0 F fn pos hD) (.anch hg')⟩
 | @w1 _ _ _ h => exact w1 mp rfl h
 | @w2 m _ _ h =>
   rcases Goes.cases h with hstop | ⟨m', rfl, hstep⟩
   · obtain ⟨_, hhit, _⟩ := hstop w (RPa.refl w)
     obtain ⟨a', hgo, m', hg'⟩ := hhit hwg
     have hA := aside_setCell w (stA Wg) (.int .u64 (KK + 1))
     exact ⟨_, _, _, hgo, ⟨fun x _ hx => hA.block x hx, fun _ => .inr (hwg.setSt _)⟩, fun b _ hb => hA.block b hb, .reg m' (hwg.setSt _) (hL.bk0 F fn pos (bk2 _ _ (bk_cell _ _ rfl) (bk_cell _ _ rfl))) (.w3 hg')⟩
   · obtain ⟨a', w', es, hgo, hD, hg'⟩ := hstep w (RPa.refl w)
     exact ⟨_, _, _, hgo, RCd.toA F.hW hD.1, fun b hb _ => hD.1 b hb, .stay 1 1 m' (.right _ (by omega)) (hwg.of_block (hD.1 Wg F.hW)) (hL.idle0 F fn pos hD) (.w2 hg')⟩
inductive PAOutC (P : Program) (ty : TypeId) (Wg C Low : Nat) [Shy Wg C] (vals : List Value) (Mine : Loc → Prop) (AnchW : Goroutine → World → Prop) (Post : Value → World → Prop) (p : Par) (Sh : Loc → Prop) (c : Nat) (wf : World) (d1 rp mp : Nat) (a' : Goroutine) (w' : World) (T' : Trace) : Prop
 | stay (rp' d0' mp' : Nat) : Lt2 (rhoC rp', mp') (rhoC rp, mp) → WgAt ty Wg w' 0 0 → Full C vals w' → Law Wg p Sh c true wf T' d0' d1 → PA P ty Wg C Low vals Mine AnchW Post rp' d0' mp' a' w' → PAOutC P ty Wg C Low vals Mine AnchW Post p Sh c wf d1 rp mp a' w' T'
 | joined (mp' : Nat) : WgAt ty Wg w' 0 0 → Full C vals w' → Law Wg p Sh c true wf T' 1 d1 → PJ P Wg C Low vals Mine Post (vals.length + 4) 1 false vals mp' a' w' → PAOutC P ty Wg C Low vals Mine AnchW Post p Sh c wf d1 rp mp a' w' T'
theorem pa_moveC (F : Fix Wg C Low Mine p Sh c) {wf : World} (hAn : ∀ g w, AnchW g w → ∃ m, Goes P true (RPa ty Wg C vals) (DPi Mine Wg C Low) (AtW1 P ty Wg C Low vals Mine AnchW Post) m g w)
   {rp mp : Nat} {a : Goroutine} {w : World} (hL : Law Wg p Sh c true wf T d0 d1) (hwg : WgAt ty Wg w 0 0) (hf : Full C vals w) (hp : PA P ty Wg C Low vals Mine AnchW Post rp d0 mp a w) (fn : FuncId) (pos : String) :
   ∃ a' w' es, stepG P true a w = .go a' w' es ∧ PAOutC P ty Wg C Low vals Mine AnchW Post p Sh c wf d1 rp mp a' w' (T ++ MemOp.ofEvents 0 fn pos es) := by
 have kc : KPc ty Wg C vals w := ⟨hwg, hf⟩
 have w1 : ∀ m r₀ m₀, d0 = 1 → Lt2 (2, m) (rhoC r₀, m₀) ∨ (2, m) = (rhoC r₀, m₀) → Goes P true (RPa ty Wg C vals) (DPi Mine Wg C Low) (AtW1 P ty Wg C Low vals Mine AnchW Post) m a w →
     ∃ a' w' es, stepG P true a w = .go a' w' es ∧ PAOutC P ty Wg C Low vals Mine AnchW Post p Sh c wf d1 r₀ m₀ a' w' (T ++ MemOp.ofEvents 0 fn pos es) := by
   intro m r₀ m₀ hd hl h
   subst hd
   rcases Goes.cases h with hstop | ⟨m', rfl, hstep⟩
   · obtain ⟨_, a', hgo, _, hk⟩ := hstop w (RPa.refl w)
     obtain ⟨m', hg'⟩ := hk kc
     exact ⟨_, _, _, hgo, .joined m' hwg hf (hL.bk0 F fn pos (bk1 _ (bk_cell _ _ rfl))) (.ke hg')⟩
   · obtain ⟨a', w', es, hgo, hD, hg'⟩ := hstep w (RPa.refl w)
     have l1 : Lt2 (rhoC 2, m') (2, m' + 1) := .right _ (by omega)
     exact ⟨_, _, _, hgo, .stay 2 1 m' (hl.elim (lt2_trans l1) (fun e => e ▸ l1)) (hwg.of_block (hD.1 Wg F.hW)) (hf.of_block (hD.1 C F.hC)) (hL.idle0 F fn pos hD) (.w1 hg')⟩
 cases hp with
 | @kd m _ _ h =>
   rcases Goes.cases h with hstop | ⟨m', rfl, hstep⟩
   · obtain ⟨_, a', hgo, m', hg'⟩ := hstop w (RPa.refl w)
     exact ⟨_, _, _, hgo, .stay 3 1 m' (.left _ _ (by decide)) hwg hf (hL.bk0 F fn pos (es := #[mk .disable]) (bk1 (mk .disable) (.inl rfl))) (.anch hg')⟩
   · obtain ⟨a', w', es, hgo, hD, hg'⟩ := hstep w (RPa.refl w)
     exact ⟨_, _, _, hgo, .stay 4 0 m' (.right _ (by omega)) (hwg.of_block (hD.1 Wg F.hW)) (hf.of_block (hD.1 C F.hC)) (hL.idle0 F fn pos hD) (.kd hg')⟩
 | @anch m _ _ h =>
   rcases Goes.cases h with hstop | ⟨m', rfl, hstep⟩
   · obtain ⟨m1, h1⟩ := hAn a w (hstop w (RPa.refl w))
     exact w1 m1 3 mp rfl (.inl (.left _ _ (by decide))) h1
   · obtain ⟨a', w', es, hgo, hD, hg'⟩ := hstep w (RPa.refl w)
     exact ⟨_, _, _, hgo, .stay 3 1 m' (.right _ (by omega)) (hwg.of_block (hD.1 Wg F.hW)) (hf.of_block (hD.1 C F.hC)) (hL.idle0 F fn pos hD) (.anch hg')⟩
 | @w1 _ _ _ h => exact w1 mp 2 mp rfl (.inr rfl) h
 | @w2 m _ _ h =>
   rcases Goes.cases h with hstop | ⟨m', rfl, hstep⟩
   · obtain ⟨_, _, hmiss⟩ := hstop w (RPa.refl w)
     obtain ⟨a', hgo, m', hg'⟩ := hmiss kc
     exact ⟨_, _, _, hgo, .stay 3 1 m' (.left _ _ (by decide)) hwg hf (hL.bk0 F fn pos (bk1 _ (bk_cell _ _ rfl))) (.anch hg')⟩
   · obtain ⟨a', w', es, hgo, hD, hg'⟩ := hstep w (RPa.refl w)
     exact ⟨_, _, _, hgo, .stay 1 1 m' (.right _ (by omega)) (hwg.of_block (hD.1 Wg F.hW)) (hf.of_block (hD.1 C F.hC)) (hL.idle0 F fn pos hD) (.w2 hg')⟩
theorem pb_move0 (F : Fix Wg C Low Mine p Sh c) {wf : World} {mp : Nat} {a : Goroutine} {w : World} {st : Int} (hL : Law Wg p Sh c rel wf T 1 d1) (hwg : WgAt ty Wg w st 0) (hp : PB P ty Wg C Low vals Mine Post 1 mp a w) (fn : FuncId) (pos : String) :
   ∃ a' w' es, stepG P true a w = .go a' w' es ∧ RCd Low w w' ∧ ∃ rp' mp', Lt2 (rp', mp') (1, mp) ∧ Law Wg p Sh c rel wf (T ++ MemOp.ofEvents 0 fn pos es) 1 d1 ∧ PB P ty Wg C Low vals Mine Post rp' mp' a' w' := by
 cases hp with
 | @w3 m _ _ h =>
   rcases Goes.cases h with hstop | ⟨m', rfl, hstep⟩
   · obtain ⟨_, _, hblk, _⟩ := hstop w (RPb.refl w)
     exact ⟨_, _, _, hblk ⟨st, hwg⟩, RCd.refl w, 0, 0, .left _ _ (by omega), by simpa [MemOp.ofEvents] using hL, .blk hstop⟩
   · obtain ⟨a', w', es, hgo, hD, hg'⟩ := hstep w (RPb.refl w)
     exact ⟨_, _, _, hgo, hD.1, 1, m', .right _ (by omega), hL.idle0 F fn pos hD, .w3 hg'⟩
theorem pb_moveF (F : Fix Wg C Low Mine p Sh c) {wf : World} {mp : Nat} {a : Goroutine} {w : World} (hL : Law Wg p Sh c true wf T 1 d1) (hwg : WgAt ty Wg w 0 1) (hf : Full C vals w) (hp : PB P ty Wg C Low vals Mine Post 1 mp a w) (fn : FuncId) (pos : String) :
   ∃ a' w' es, stepG P true a w = .go a' w' es ∧ Full C vals w' ∧ ((∃ mp', mp' < mp ∧ WgAt ty Wg w' 0 1 ∧ Law Wg p Sh c true wf (T ++ MemOp.ofEvents 0 fn pos es) 1 d1 ∧ PB P ty Wg C Low vals Mine Post 1 mp' a' w') ∨
     (∃ mp', WgAt ty Wg w' 0 0 ∧ Law Wg p Sh c true wf (T ++ MemOp.ofEvents 0 fn pos es) 1 d1 ∧ PJ P Wg C Low vals Mine Post (vals.length + 5) 1 false vals mp' a' w')) := by
 cases hp with
 | @w3 m _ _ h =>
   rcases Goes.cases h with hstop | ⟨m', rfl, hstep⟩
   · obtain ⟨_, _, _, hfree⟩ := hstop w (RPb.refl w)
     obtain ⟨a', hgo, m', hg'⟩ := hfree ⟨hwg, hf⟩
     have hA := aside_setCell w (smA Wg) (.int .u32 0)
     refine ⟨_, _, _, hgo, hf.of_block (hA.block C F.hCW), .inr ⟨m', hwg.setSm _, ?_, .w4 hg'⟩⟩
     have := hL.bk0 F fn pos (es := semEvents (smA Wg)) bk_sem
     simpa [deafBehind, semEvents] using this
   · obtain ⟨a', w', es, hgo, hD, hg'⟩ := hstep w (RPb.refl w)
     exact ⟨_, _, _, hgo, hf.of_block (hD.1 C F.hC), .inl ⟨m', by omega, hwg.of_block (hD.1 Wg F.hW), hL.idle0 F fn pos hD, .w3 hg'⟩⟩
theorem pj_move (F : Fix Wg C Low Mine p Sh c) {wf : World} {rp mp : Nat} {vs : List Value} {a : Goroutine} {w : World} (hL : Law Wg p Sh c true wf T d0 d1) (hp : PJ P Wg C Low vals Mine Post rp d0 false vs mp a w) (fn : FuncId) (pos : String) :
   ∃ a' w' es, stepG P true a w = .go a' w' es ∧ ((∃ rp' d0' mp', Lt2 (rp', mp') (rp, mp) ∧ Law Wg p Sh c true wf (T ++ MemOp.ofEvents 0 fn pos es) d0' d1 ∧ PJ P Wg C Low vals Mine Post rp' d0' false vs mp' a' w') ∨
     (∃ m, Past0 Sh (T ++ MemOp.ofEvents 0 fn pos es) ∧ Deaf (T ++ MemOp.ofEvents 0 fn pos es) c = d1 ∧ Goes P true AtRel (DPj Mine Wg C Low) (AtRetJ P Wg C Mine Post) m a' w')) := by
 cases hp with
 | @w4 m _ _ h =>
   rcases Goes.cases h with hstop | ⟨m', rfl, hstep⟩
   · obtain ⟨_, a', hgo, m', hg'⟩ := hstop w (AtRel.refl w)
     exact ⟨_, _, _, hgo, .inl ⟨_, 1, m', .left _ _ (Nat.lt_succ_self _), hL.bk0 F fn pos (bk1 _ (bk_cell _ _ rfl)), .ke hg'⟩⟩
   · obtain ⟨a', w', es, hgo, hD, hg'⟩ := hstep w (AtRel.refl w)
     exact ⟨_, _, _, hgo, .inl ⟨_, 1, m', .right _ (Nat.lt_succ_self _), hL.idle0 F fn pos hD, .w4 hg'⟩⟩
 | @ke m _ _ h =>
   rcases Goes.cases h with hstop | ⟨m', rfl, hstep⟩
   · obtain ⟨_, a', hgo, m', hg'⟩ := hstop w (AtRel.refl w)
     exact ⟨_, _, _, hgo, .inl ⟨_, 0, m', .left _ _ (Nat.lt_succ_self _), hL.bk0 F fn pos (es := #[mk .enable]) (bk1 (mk .enable) (.inr (.inl rfl))), .acq hg'⟩⟩
   · obtain ⟨a', w', es, hgo, hD, hg'⟩ := hstep w (AtRel.refl w)
     exact ⟨_, _, _, hgo, .inl ⟨_, 1, m', .right _ (Nat.lt_succ_self _), hL.idle0 F fn pos hD, .ke hg'⟩⟩
 | @acq m _ _ h =>
   rcases Goes.cases h with hstop | ⟨m', rfl, hstep⟩
   · obtain ⟨_, a', hgo, m', hg'⟩ := hstop w (AtRel.refl w)
     obtain ⟨r, hL⟩ := hL
     have e1 : MemOp.ofEvents 0 fn pos #[mk (.acquire (stA Wg))] = #[{ g := 0, fn := fn, pos := pos, act := .mark (.acquire (stW Wg)) }] := by simp [MemOp.ofEvents, mk, MemAct.ofEvent, stA, stW]
     refine ⟨_, _, _, hgo, .inr ⟨m', ?_, ?_, hg'⟩⟩
     · rw [e1]; exact hL.acquire F.hSh fn pos
     · rw [e1, Deaf_push]; simp [deafStep]; exact hL.hearc
   · obtain ⟨a', w', es, hgo, hD, hg'⟩ := hstep w (AtRel.refl w)
     exact ⟨_, _, _, hgo, .inl ⟨_, 0, m', .right _ (Nat.lt_succ_self _), hL.idle0 F fn pos hD, .acq hg'⟩⟩
end
end Go.Hx
