/-
  Part 5 of the proof.
  No condition but those that each statement names.
-/
import Derived.Test.YtejkelcaljmnoaaGreatDoorHy04
import Derived.Conc.FxFrame
set_option maxRecDepth 100000
set_option linter.unusedVariables false
set_option linter.unusedSimpArgs false
set_option linter.unusedSectionVars false
namespace Go.Hx
open Go.Conc
open Go.ConcX
open Go.ConcN (sumTo upd sumTo_upd upd_ne upd_same)
section
variable [Payload] (P : Program) (ty : TypeId) (Wg C Low : Nat) [Shy Wg C] (vals : List Value) (Mine : Loc → Prop) (AnchW : Goroutine → World → Prop) (Post : Value → World → Prop) (p : Par) (Sh : Loc → Prop) (c : Nat) (wf : World)
inductive J3 : Nat × Nat × Nat × Nat → Goroutine → Goroutine → World → Trace → Prop
 | a {a b : Goroutine} {w : World} {T : Trace} {rel cl : Bool} {vs : List Value} {d0 d1 rp mp rc mc : Nat} : WgAt ty Wg w KK 0 → (rel = true → Full C vals w) → Law Wg p Sh c rel wf T d0 d1 →
     PA P ty Wg C Low vals Mine AnchW Post rp d0 mp a w → CA P ty Wg C Low vals Mine rc d1 rel vs cl mc b w → J3 (rc, mc, rp + 2, mp) a b w T
 | b {a b : Goroutine} {w : World} {T : Trace} {rel cl : Bool} {vs : List Value} {d1 rp mp rc mc : Nat} : WgAt ty Wg w (KK + 1) 0 → (rel = true → Full C vals w) → Law Wg p Sh c rel wf T 1 d1 →
     PB P ty Wg C Low vals Mine Post rp mp a w → CA P ty Wg C Low vals Mine rc d1 rel vs cl mc b w → J3 (rc, mc, rp, mp) a b w T
 | c {a b : Goroutine} {w : World} {T : Trace} {d0 d1 rp mp q : Nat} : WgAt ty Wg w 0 0 → Full C vals w → Law Wg p Sh c true wf T d0 d1 →
     PA P ty Wg C Low vals Mine AnchW Post rp d0 mp a w → QuitsD P q d1 b → J3 (0, q, rhoC rp + vals.length + 5, mp) a b w T
 | d {a b : Goroutine} {w : World} {T : Trace} {st : Int} {rp mp rc mc : Nat} : WgAt ty Wg w st 0 → Full C vals w → Law Wg p Sh c true wf T 1 1 →
     PB P ty Wg C Low vals Mine Post rp mp a w → CD P Wg Low rc st mc b w → J3 (rc, mc, rp, mp) a b w T
 | f {a b : Goroutine} {w : World} {T : Trace} {d1 mp q : Nat} : WgAt ty Wg w 0 1 → Full C vals w → Law Wg p Sh c true wf T 1 d1 →
     PB P ty Wg C Low vals Mine Post 1 mp a w → QuitsD P q d1 b → J3 (0, q, vals.length + 6, mp) a b w T
 | j {a b : Goroutine} {w : World} {T : Trace} {vs : List Value} {d0 d1 rp mp q : Nat} : Law Wg p Sh c true wf T d0 d1 →
     PJ P Wg C Low vals Mine Post rp d0 false vs mp a w → QuitsD P q d1 b → J3 (0, q, rp, mp) a b w T
def Inv3 (μ : Nat × (Nat × Nat × Nat × Nat)) (M : Machine) (T : Trace) : Prop :=
 ∃ (gs : Array Goroutine) (a b : Goroutine) (w : World) (sl : Option (Nat × Nat)) (q : Nat → Nat) (ν : Nat × Nat × Nat × Nat),
   M = crowd gs w sl ∧ Crew P c gs a b T q ∧ J3 P ty Wg C Low vals Mine AnchW Post p Sh c wf ν a b w T ∧ μ = (sumTo c q, ν)
def Done3 (M : Machine) (T : Trace) : Prop :=
 ∃ (gs : Array Goroutine) (a b : Goroutine) (w : World) (sl : Option (Nat × Nat)) (q : Nat → Nat) (k m : Nat),
   M = crowd gs w sl ∧ Crew P c gs a b T q ∧ Past0 Sh T ∧ QuitsD P k (Deaf T c) b ∧ Goes P true AtRel (DPj Mine Wg C Low) (AtRetJ P Wg C Mine Post) m a w
end
section
variable [Payload] {P : Program} {ty : TypeId} {Wg C Low : Nat} [Shy Wg C] {vals : List Value} {Mine : Loc → Prop} {AnchW : Goroutine → World → Prop} {Post : Value → World → Prop} {p : Par} {Sh : Loc → Prop} {c : Nat} {wf : World}
theorem J3.at {ν : Nat × Nat × Nat × Nat} {a b : Goroutine} {w : World} {T : Trace} (h : J3 P ty Wg C Low vals Mine AnchW Post p Sh c wf ν a b w T) (d : Nat) : J3 P ty Wg C Low vals Mine AnchW Post p Sh c wf ν a b (w.at d) T := by
 cases h with
 | a h1 h2 h3 h4 h5 => exact .a h1 h2 h3 (h4.rely (RPa.at w d)) (h5.rely (RCa.at w d))
 | b h1 h2 h3 h4 h5 => exact .b h1 h2 h3 (h4.rely (RPb.at w d)) (h5.rely (RCa.at w d))
 | c h1 h2 h3 h4 h5 => exact .c h1 h2 h3 (h4.rely (RPa.at w d)) h5
 | d h1 h2 h3 h4 h5 => exact .d h1 h2 h3 (h4.rely (RPb.at w d)) (h5.rely (RCd.at w d))
 | f h1 h2 h3 h4 h5 => exact .f h1 h2 h3 (h4.rely (RPb.at w d)) h5
 | j h3 h4 h5 => exact .j h3 (h4.rely (AtRel.at w d)) h5
theorem J3.shape (hAr : ∀ g w, AnchW g w → g.status = .running) {ν : Nat × Nat × Nat × Nat} {a b : Goroutine} {w : World} {T : Trace} (h : J3 P ty Wg C Low vals Mine AnchW Post p Sh c wf ν a b w T) :
   awake a ∧ awake b ∧ (a.status = .running ∨ b.status = .running) := by
 cases h with
 | a h1 h2 h3 h4 h5 => exact ⟨awake_of (.inl (h4.running hAr)), awake_of (.inl h5.running), .inl (h4.running hAr)⟩
 | b h1 h2 h3 h4 h5 => exact ⟨awake_of (h4.status.elim (fun x => .inl x.2) (fun x => .inr (.inl x.2.1))), awake_of (.inl h5.running), .inr h5.running⟩
 | c h1 h2 h3 h4 h5 => exact ⟨awake_of (.inl (h4.running hAr)), awake_of (h5.status.elim .inl fun x => .inr (.inr x)), .inl (h4.running hAr)⟩
 | d h1 h2 h3 h4 h5 => exact ⟨awake_of (h4.status.elim (fun x => .inl x.2) (fun x => .inr (.inl x.2.1))), awake_of (.inl h5.running), .inr h5.running⟩
 | f h1 h2 h3 h4 h5 =>
   have ra : a.status = .running := h4.status.elim (fun x => x.2) (fun x => by cases x.1)
   exact ⟨awake_of (.inl ra), awake_of (h5.status.elim .inl fun x => .inr (.inr x)), .inl ra⟩
 | j h3 h4 h5 => exact ⟨awake_of (.inl h4.running), awake_of (h5.status.elim .inl fun x => .inr (.inr x)), .inl h4.running⟩
theorem J3.other (hAr : ∀ g w, AnchW g w → g.status = .running) {ν : Nat × Nat × Nat × Nat} {a b g g' : Goroutine} {w : World} {T : Trace} (h : J3 P ty Wg C Low vals Mine AnchW Post p Sh c wf ν a b w T) {i : Nat} (h0 : i ≠ 0) (hc : i ≠ c) (fn : FuncId) (pos : String) {es : Array Event} (hm : ∀ e ∈ es, e.mute = true) :
   ∃ ν', J3 P ty Wg C Low vals Mine AnchW Post p Sh c wf ν' (woken P g g' w a) (woken P g g' w b) w (T ++ MemOp.ofEvents i fn pos es) := by
 cases h with
 | a h1 h2 h3 h4 h5 => rw [woken_run (h4.running hAr), woken_run h5.running]; exact ⟨_, .a h1 h2 (h3.mute h0 hc fn pos hm) h4 h5⟩
 | b h1 h2 h3 h4 h5 => obtain ⟨r', m', h4'⟩ := h4.woken (b := g) (b' := g'); rw [woken_run h5.running]; exact ⟨_, .b h1 h2 (h3.mute h0 hc fn pos hm) h4' h5⟩
 | c h1 h2 h3 h4 h5 => rw [woken_run (h4.running hAr), woken_quitsD h5]; exact ⟨_, .c h1 h2 (h3.mute h0 hc fn pos hm) h4 h5⟩
 | d h1 h2 h3 h4 h5 => obtain ⟨r', m', h4'⟩ := h4.woken (b := g) (b' := g'); rw [woken_run h5.running]; exact ⟨_, .d h1 h2 (h3.mute h0 hc fn pos hm) h4' h5⟩
 | f h1 h2 h3 h4 h5 =>
   have ra : a.status = .running := h4.status.elim (fun x => x.2) (fun x => by cases x.1)
   rw [woken_run ra, woken_quitsD h5]; exact ⟨_, .f h1 h2 (h3.mute h0 hc fn pos hm) h4 h5⟩
 | j h3 h4 h5 => rw [woken_run h4.running, woken_quitsD h5]; exact ⟨_, .j (h3.mute h0 hc fn pos hm) h4 h5⟩
theorem quit_step {Wg : Nat} {T : Trace} {d0 d1 k : Nat} {b : Goroutine} {w : World} (hc0 : c ≠ 0) (hL : Law Wg p Sh c true wf T d0 d1) (hq : QuitsD P k d1 b) (hr : b.status = .running) (fn : FuncId) (pos : String) :
   ∃ b' es k' d1', stepG P false b w = .go b' w es ∧ k' < k ∧ Law Wg p Sh c true wf (T ++ MemOp.ofEvents c fn pos es) d0 d1' ∧ QuitsD P k' d1' b' := by
 cases k with
 | zero => rw [hq.1] at hr; cases hr
 | succ k =>
   rcases hq with ⟨hf, _⟩ | ⟨_, b', es, hm, hst, hq'⟩
   · rw [hf] at hr; cases hr
   obtain ⟨r, hL⟩ := hL
   exact ⟨b', es, k, _, hst w, Nat.lt_succ_self _, ⟨r, hL.mute hc0 fn pos hm (by rw [Deaf_own, hL.hearc])⟩, hq'⟩
theorem wg_again {g g' a : Goroutine} {w : World} (hm : mayWake P g = true) (h1 : g'.status = .running ∨ g'.status = .finished) : woken P g g' w a = a.again w := by
 unfold woken
 rw [if_pos]
 rcases h1 with h | h <;> simp [hm, h]
theorem join_step (F : Fix Wg C Low Mine p Sh c) (hN : p.N0 ≤ wf.heap.size) (ok1 : ∀ e, EvQ Mine Wg C 1 e → EvB p Sh wf e) (hAr : ∀ g w, AnchW g w → g.status = .running)
   (hAn : ∀ g w, AnchW g w → ∃ m, Goes P true (RPa ty Wg C vals) (DPi Mine Wg C Low) (AtW1 P ty Wg C Low vals Mine AnchW Post) m g w)
   {μ : Nat × (Nat × Nat × Nat × Nat)} {M : Machine} {T : Trace} (h : Inv3 P ty Wg C Low vals Mine AnchW Post p Sh c wf μ M T) :
   ∃ M' ops, stepT P M = (.next M', ops) ∧ ((∃ μ', LtG μ' μ ∧ Inv3 P ty Wg C Low vals Mine AnchW Post p Sh c wf μ' M' (T ++ ops)) ∨ Done3 P Wg C Low Mine Post Sh c M' (T ++ ops)) := by
 obtain ⟨gs, a, b, w₀, sl₀, q, ν, rfl, Cr, hJ₀, rfl⟩ := h
 obtain ⟨awa, awb, hrun⟩ := hJ₀.shape hAr
 obtain ⟨i, g, d, sl, hi, hg, hst⟩ := crowd_pick (P := P) (w := w₀) (sl := sl₀) (Cr.awake awa awb) (hrun.elim (fun x => ⟨0, a, Cr.h0, x⟩) (fun x => ⟨c, b, Cr.hc, x⟩))
 have hJ := hJ₀.at d
 generalize w₀.at d = w at *
 clear hJ₀
 have hs := Cr.size
 have hilt : i < gs.size := (Array.getElem?_eq_some_iff.1 hi).1
 have hc0 := F.hc0
 by_cases h0 : i = 0
 · subst h0
   obtain rfl : g = a := by rw [Cr.h0] at hi; exact (Option.some.inj hi).symm
   have fin : ∀ {a' : Goroutine} {w' : World} {es : Array Event} {ν' : Nat × Nat × Nat × Nat}, stepG P true g w = .go a' w' es → b.again w' = b → Lt4 ν' ν →
       J3 P ty Wg C Low vals Mine AnchW Post p Sh c wf ν' a' b w' (T ++ MemOp.ofEvents 0 g.frame.fn g.frame.place es) →
       ∃ M' ops, stepT P (crowd gs w₀ sl₀) = (.next M', ops) ∧ ((∃ μ', LtG μ' (sumTo c q, ν) ∧ Inv3 P ty Wg C Low vals Mine AnchW Post p Sh c wf μ' M' (T ++ ops)) ∨ Done3 P Wg C Low Mine Post Sh c M' (T ++ ops)) :=
     fun hgo hb hlt hj => ⟨_, _, hst.trans (runT_crowd_go hi (show stepG P (0 == 0) g w = _ from hgo)), .inl ⟨(sumTo c q, _), .right _ hlt, _, _, b, _, sl, q, _, rfl, Cr.step0 hb g_ofEvents, hj, rfl⟩⟩
   cases hJ with
   | a h1 h2 h3 h4 h5 =>
     obtain ⟨a', w', es, hgo, hrc, hlow, hout⟩ := pa_moveA F hAn h3 h1 h4 g.frame.fn g.frame.place
     have hb := again_running w' (.inl h5.running)
     have hf : ∀ {rel : Bool}, (rel = true → Full C vals w) → (rel = true → Full C vals w') := fun hh e => (hh e).of_block (hlow C F.hC F.hCW)
     cases hout with
     | stay rp' d0' mp' hl k1 k2 k3 => exact fin hgo hb (lt4_caller (lt2_shift 2 hl)) (.a k1 (hf h2) k2 k3 (h5.rely hrc))
     | reg mp' k1 k2 k3 => exact fin hgo hb (lt4_caller (.left _ _ (by omega))) (.b k1 (hf h2) k2 k3 (h5.rely hrc))
   | @b _ _ _ _ rel cl vs d1 rp mp rc mc h1 h2 h3 h4 h5 =>
     obtain rfl : rp = 1 := h4.status.elim (fun x => x.1) (fun x => by rw [x.2.1] at hg; cases hg)
     obtain ⟨a', w', es, hgo, hrc, rp', mp', hl, k1, k2⟩ := pb_move0 F h3 h1 h4 g.frame.fn g.frame.place
     exact fin hgo (again_running w' (.inl h5.running)) (lt4_caller hl) (.b (h1.of_block (hrc Wg F.hW)) (fun e => (h2 e).of_block (hrc C F.hC)) k1 k2 (h5.rely (RCd.toA F.hW hrc)))
   | c h1 h2 h3 h4 h5 =>
     obtain ⟨a', w', es, hgo, hout⟩ := pa_moveC F hAn h3 h1 h2 h4 g.frame.fn g.frame.place
     have hb := again_running w' h5.status
     cases hout with
     | stay rp' d0' mp' hl k1 k2 k3 k4 => exact fin hgo hb (lt4_caller (by have := lt2_shift (vals.length + 5) hl; simpa [Nat.add_assoc] using this)) (.c k1 k2 k3 k4 h5)
     | joined mp' k1 k2 k3 k4 => exact fin hgo hb (lt4_caller (.left _ _ (by omega))) (.j k3 k4 h5)
   | @d _ _ _ _ st rp mp rc mc h1 h2 h3 h4 h5 =>
     obtain rfl : rp = 1 := h4.status.elim (fun x => x.1) (fun x => by rw [x.2.1] at hg; cases hg)
     obtain ⟨a', w', es, hgo, hrc, rp', mp', hl, k1, k2⟩ := pb_move0 F h3 h1 h4 g.frame.fn g.frame.place
     exact fin hgo (again_running w' (.inl h5.running)) (lt4_caller hl) (.d (h1.of_block (hrc Wg F.hW)) (h2.of_block (hrc C F.hC)) k1 k2 (h5.rely hrc))
   | f h1 h2 h3 h4 h5 =>
     obtain ⟨a', w', es, hgo, hf, hout⟩ := pb_moveF F h3 h1 h2 h4 g.frame.fn g.frame.place
     have hb := again_running w' h5.status
     rcases hout with ⟨mp', hl, k1, k2, k3⟩ | ⟨mp', k1, k2, k3⟩
     · exact fin hgo hb (lt4_caller (.right _ hl)) (.f k1 hf k2 k3 h5)
     · exact fin hgo hb (lt4_caller (.left _ _ (by omega))) (.j k2 k3 h5)
   | j h3 h4 h5 =>
     obtain ⟨a', w', es, hgo, hout⟩ := pj_move F h3 h4 g.frame.fn g.frame.place
     have hb := again_running w' h5.status
     rcases hout with ⟨rp', d0', mp', hl, k1, k2⟩ | ⟨m, k1, k2, k3⟩
     · exact fin hgo hb (lt4_caller hl) (.j k1 k2 h5)
     · exact ⟨_, _, hst.trans (runT_crowd_go hi (show stepG P (0 == 0) g w = _ from hgo)), .inr ⟨_, a', b, w', sl, q, _, m, rfl, Cr.step0 hb g_ofEvents, k1, k2 ▸ h5, k3⟩⟩
 by_cases h1 : i = c
 · subst h1
   obtain rfl : g = b := by rw [Cr.hc] at hi; exact (Option.some.inj hi).symm
   have hi0 : (i == 0) = false := by simp [h0]
   have fin : ∀ {a' b' : Goroutine} {w' : World} {es : Array Event} {ν' : Nat × Nat × Nat × Nat}, stepG P false g w = .go b' w' es → woken P g b' w' a = a' → Lt4 ν' ν →
       J3 P ty Wg C Low vals Mine AnchW Post p Sh i wf ν' a' b' w' (T ++ MemOp.ofEvents i g.frame.fn g.frame.place es) →
       ∃ M' ops, stepT P (crowd gs w₀ sl₀) = (.next M', ops) ∧ ((∃ μ', LtG μ' (sumTo i q, ν) ∧ Inv3 P ty Wg C Low vals Mine AnchW Post p Sh i wf μ' M' (T ++ ops)) ∨ Done3 P Wg C Low Mine Post Sh i M' (T ++ ops)) :=
     fun hgo ha hlt hj => ⟨_, _, hst.trans (runT_crowd_go hi (by rw [hi0]; exact hgo)), .inl ⟨(sumTo i q, _), .right _ hlt, _, _, _, _, sl, q, _, rfl, Cr.stepc ha g_ofEvents, hj, rfl⟩⟩
   cases hJ with
   | a h1 h2 h3 h4 h5 =>
     obtain ⟨b', w', es, hgo, hA, hout⟩ := ca_move F hN ok1 (.inl rfl) h3 h2 h1 h5 g.frame.fn g.frame.place
     have ha : woken P g b' w' a = a := woken_run (h4.running hAr)
     cases hout with
     | stay rc' d1' rel' vs' cl' mc' hl k1 k2 k3 k4 => exact fin hgo ha (lt4_child _ _ hl) (.a k1 k2 k3 (h4.rely (rpa_of_a h1 hA (.inl k1))) k4)
     | lone q' _ k1 k2 k3 k4 => exact fin hgo ha (.left _ _ (by have := h5.rank_pos; omega)) (.c k1 k2 k3 (h4.rely (rpa_of_a h1 hA (.inr ⟨k1, k2⟩))) k4)
     | met _ e _ _ _ _ => exact absurd e kk1_ne
   | b h1 h2 h3 h4 h5 =>
     obtain ⟨b', w', es, hgo, hA, hout⟩ := ca_move F hN ok1 (.inr rfl) h3 h2 h1 h5 g.frame.fn g.frame.place
     cases hout with
     | stay rc' d1' rel' vs' cl' mc' hl k1 k2 k3 k4 =>
       obtain ⟨r', m', h4'⟩ := (h4.rely (rpb_of_0 h1 hA (.inl k1))).woken (b := g) (b' := b')
       exact fin hgo rfl (lt4_child _ _ hl) (.b k1 k2 k3 h4' k4)
     | lone _ e _ _ _ _ => exact absurd e.symm kk1_ne
     | met m1 _ k1 k2 k3 k4 =>
       obtain ⟨r', m', h4'⟩ := (h4.rely (rpb_of_0 h1 hA (.inr (.inl k1)))).woken (b := g) (b' := b')
       exact fin hgo rfl (.left _ _ (by have := h5.rank_pos; omega)) (.d k1 k2 k3 h4' k4)
   | c h1 h2 h3 h4 h5 =>
     obtain ⟨b', es, k', d1', hgo, hlt, k1, k2⟩ := quit_step (w := w) hc0 h3 h5 hg g.frame.fn g.frame.place
     exact fin hgo (woken_run (h4.running hAr)) (.right _ (.left _ _ hlt)) (.c h1 h2 k1 h4 k2)
   | @d _ _ _ _ st rp mp rc mc h1 h2 h3 h4 h5 =>
     obtain ⟨b', w', es, hgo, hA, hout⟩ := cd_move F hN h3 h1 h5 g.frame.fn g.frame.place
     have hf := h2.of_block (hA.block C F.hCW)
     cases hout with
     | stay rc' st' mc' hl k1 k2 k3 =>
       have hk : KPb ty Wg C vals w' := by
         rcases k3.st01 with rfl | rfl
         · exact .inr (.inl k1)
         · exact .inr (.inr (.inl k1))
       obtain ⟨r', m', h4'⟩ := (h4.rely (rpb_of_0 h1 (.of_Wg hA) hk)).woken (b := g) (b' := b')
       exact fin hgo rfl (lt4_child _ _ hl) (.d k1 hf k2 h4' k3)
     | freed q' hmw k1 k2 k3 =>
       obtain ⟨m', h4'⟩ := (h4.rely (rpb_of_0 h1 (.of_Wg hA) (.inr (.inr (.inr ⟨k1, hf⟩))))).again
       exact fin hgo (wg_again hmw k3.status) (.left _ _ h5.rank_pos) (.f k1 hf k2 h4' k3)
   | f h1 h2 h3 h4 h5 =>
     have ra : a.status = .running := h4.status.elim (fun x => x.2) (fun x => by cases x.1)
     obtain ⟨b', es, k', d1', hgo, hlt, k1, k2⟩ := quit_step (w := w) hc0 h3 h5 hg g.frame.fn g.frame.place
     exact fin hgo (woken_run ra) (.right _ (.left _ _ hlt)) (.f h1 h2 k1 h4 k2)
   | j h3 h4 h5 =>
     obtain ⟨b', es, k', d1', hgo, hlt, k1, k2⟩ := quit_step (w := w) hc0 h3 h5 hg g.frame.fn g.frame.place
     exact fin hgo (woken_run h4.running) (.right _ (.left _ _ hlt)) (.j k1 h4 k2)
 · obtain ⟨g', es, kk, hq, hrunT, hm, Cr'⟩ := Cr.leaver hi h0 h1 hg sl w
   obtain ⟨ν', hJ'⟩ := hJ.other (g := g) (g' := g') hAr h0 h1 g.frame.fn g.frame.place hm
   have hsum := sum_leaver (c := c) (by omega) hq
   exact ⟨_, _, hst.trans hrunT, .inl ⟨(sumTo c (upd q i kk), ν'), .left _ _ (by omega), _, _, _, w, sl, upd q i kk, ν', rfl, Cr', hJ', rfl⟩⟩
theorem join_runs (F : Fix Wg C Low Mine p Sh c) (hN : p.N0 ≤ wf.heap.size) (ok1 : ∀ e, EvQ Mine Wg C 1 e → EvB p Sh wf e) (hAr : ∀ g w, AnchW g w → g.status = .running)
   (hAn : ∀ g w, AnchW g w → ∃ m, Goes P true (RPa ty Wg C vals) (DPi Mine Wg C Low) (AtW1 P ty Wg C Low vals Mine AnchW Post) m g w) :
   ∀ (μ : Nat × (Nat × Nat × Nat × Nat)) (M : Machine) (T : Trace), Inv3 P ty Wg C Low vals Mine AnchW Post p Sh c wf μ M T →
     ∃ N M' T', runNT P N M T = (.next M', T') ∧ Done3 P Wg C Low Mine Post Sh c M' T' := by
 intro μ
 induction μ using ltG_wf.induction with
 | _ μ ih =>
   intro M T h
   obtain ⟨M', ops, hs, hr⟩ := join_step F hN ok1 hAr hAn h
   rcases hr with ⟨μ', hlt, hI⟩ | hd
   · obtain ⟨N, M'', T'', hr, hd⟩ := ih μ' hlt M' _ hI
     exact ⟨N + 1, M'', T'', by simp only [runNT, hs]; exact hr, hd⟩
   · exact ⟨1, M', T ++ ops, by simp only [runNT, hs], hd⟩
end
open Go.ConcX
open Go.ConcN (sumTo upd sumTo_upd upd_ne upd_same)
section
variable {p : Par} {C Wg : Nat} {w w' : World}
theorem fa_aside (hC : C < p.N0) (hW : Wg < p.N0) (h : Aside2 C Wg w w') (b : Nat) : FA p w' b ↔ FA p w b := by
 constructor
 · rintro ⟨hn, o, ho, hi⟩
   exact ⟨hn, o, by rw [← h.block b (by omega) (by omega)]; exact ho, hi⟩
 · rintro ⟨hn, o, ho, hi⟩
   exact ⟨hn, o, by rw [h.block b (by omega) (by omega)]; exact ho, hi⟩
theorem kept_aside (hC : C < p.N0) (hW : Wg < p.N0) (h : Aside2 C Wg w w') : Kept p w w' :=
 ⟨Nat.le_of_eq h.size.symm, fun b hb => (fa_aside hC hW h b).2 hb, fun b _ hn hb => hn ((fa_aside hC hW h b).1 hb)⟩
theorem ra_aside (hC : C < p.N0) (hW : Wg < p.N0) (hCs : ∀ i, ¬ p.Still (.cell ⟨C, i, none⟩)) (hWs : ∀ i, ¬ p.Still (.cell ⟨Wg, i, none⟩)) (h : Aside2 C Wg w w') : RA p w w' :=
 ⟨h.tape, h.os, h.output, kept_aside hC hW h, fun b hb => h.block b (by have := hb.1; omega) (by have := hb.1; omega), fun b cs ty fl hs hb => (h.block b (fun e => by obtain ⟨i, hi⟩ := hs; rw [e] at hi; exact hCs i hi) (fun e => by obtain ⟨i, hi⟩ := hs; rw [e] at hi; exact hWs i hi)).trans hb⟩
end
section
variable [Payload] (P : Program) (ty : TypeId) (Wg C Low : Nat) [Shy Wg C] (vals : List Value) (Mine : Loc → Prop) (AnchW : Goroutine → World → Prop) (Post : Value → World → Prop) (p : Par) (Sh : Loc → Prop) (c E Dn : Nat) (zE zD : Value) (PostB : World → Prop)
def AfterD (b : Goroutine) (w : World) : Prop := WgAt ty Wg w KK 0 ∧ ∃ n, Goes P false (RCa ty Wg Low) (DCs Mine Wg C) (AtR0 P ty Wg C Low vals) n b w
def FinW (g : Goroutine) (w : World) : Prop := KPa ty Wg C vals w → ∃ m, Goes P true (RPa ty Wg C vals) (DPi Mine Wg C Low) (AtKd P ty Wg C Low vals Mine AnchW) m g w
inductive Kid : Nat × Nat → Goroutine → World → Trace → Prop
 | ca {b : Goroutine} {w : World} {T : Trace} {rel cl : Bool} {vs : List Value} {d1 rc mc : Nat} : WgAt ty Wg w KK 0 → (rel = true → Full C vals w) → Law Wg p Sh c rel w T 0 d1 → CA P ty Wg C Low vals Mine rc d1 rel vs cl mc b w → Kid (rc, mc) b w T
 | quit {b : Goroutine} {w : World} {T : Trace} {d1 k : Nat} : WgAt ty Wg w 0 0 → Full C vals w → Law Wg p Sh c true w T 0 d1 → QuitsD P k d1 b → Kid (0, k) b w T
def Inv2 (μ : Nat × Nat) (M : Machine) (T : Trace) : Prop :=
 ∃ (gs : Array Goroutine) (a b : Goroutine) (w : World) (sl : Option (Nat × Nat)) (q : Nat → Nat) (k n rc mc : Nat),
   M = crowd gs w sl ∧ Crew P c gs a b T q ∧ w.heap[E]? = some (.chan 0 #[] false k k false) ∧ w.heap[Dn]? = some (.chan 0 #[] true 0 0 false) ∧ PostB w ∧ p.N0 ≤ w.heap.size ∧
   Goes P true (RA p) (DG p E Dn) (StopG P p E Dn zE zD PostB (FinW P ty Wg C Low vals Mine AnchW) []) n a w ∧ Kid P ty Wg C Low vals Mine p Sh c (rc, mc) b w T ∧ μ = (rc, mc + n + sumTo c q)
end
section
variable [Payload] {P : Program} {ty : TypeId} {Wg C Low : Nat} [Shy Wg C] {vals : List Value} {Mine : Loc → Prop} {AnchW : Goroutine → World → Prop} {Post : Value → World → Prop} {p : Par} {Sh : Loc → Prop} {c E Dn : Nat} {zE zD : Value} {PostB : World → Prop}
theorem Kid.status {μ : Nat × Nat} {b : Goroutine} {w : World} {T : Trace} (h : Kid P ty Wg C Low vals Mine p Sh c μ b w T) : b.status = .running ∨ b.status = .finished := by
 cases h with
 | ca _ _ _ h => exact .inl h.running
 | quit _ _ _ h => exact h.status
theorem rca_of (F : Fix Wg C Low Mine p Sh c) {w w' : World} (hN : p.N0 ≤ w.heap.size) (hR : RB p E Dn w w') (hE : w'.heap[E]? = w.heap[E]?) (hD : w'.heap[Dn]? = w.heap[Dn]?) : RCd Low w w' := fun b hb => by
 by_cases h1 : b = E
 · subst h1; exact hE
 · by_cases h2 : b = Dn
   · subst h2; exact hD
   · have := F.hLow
     exact hR.block b (by omega) (fun f => by have := f.1; omega) h1 h2
theorem Kid.caller (F : Fix Wg C Low Mine p Sh c) {μ : Nat × Nat} {b : Goroutine} {w w' : World} {T : Trace} (h : Kid P ty Wg C Low vals Mine p Sh c μ b w T) (hk : Kept p w w') (hR : RCd Low w w') (fn : FuncId) (pos : String) {es : Array Event} (hes : ∀ e ∈ es, EvA p w' e) :
   Kid P ty Wg C Low vals Mine p Sh c μ b w' (T ++ MemOp.ofEvents 0 fn pos es) := by
 cases h with
 | ca h1 h2 h3 h4 => exact .ca (h1.of_block (hR Wg F.hW)) (fun e => (h2 e).of_block (hR C F.hC)) (h3.addA F.hc0 hk F.hSh fn pos hes) (h4.rely (RCd.toA F.hW hR))
 | quit h1 h2 h3 h4 => exact .quit (h1.of_block (hR Wg F.hW)) (h2.of_block (hR C F.hC)) (h3.addA F.hc0 hk F.hSh fn pos hes) h4
theorem shut_step (F : Fix Wg C Low Mine p Sh c) (hED : E ≠ Dn) (hEW : E ≠ Wg ∧ E ≠ C) (hDW : Dn ≠ Wg ∧ Dn ≠ C) (ok1 : ∀ w, p.N0 ≤ w.heap.size → ∀ e, EvQ Mine Wg C 1 e → EvB p Sh w e)
   (hPb : ∀ w w₁, RB p E Dn w w₁ → PostB w → PostB w₁) (hPc : ∀ w w₁, Aside2 C Wg w w₁ → PostB w → PostB w₁)
   {μ : Nat × Nat} {M : Machine} {T : Trace} (h : Inv2 P ty Wg C Low vals Mine AnchW p Sh c E Dn zE zD PostB μ M T) :
   ∃ M' ops, stepT P M = (.next M', ops) ∧ ((∃ μ', LtP μ' μ ∧ Inv2 P ty Wg C Low vals Mine AnchW p Sh c E Dn zE zD PostB μ' M' (T ++ ops)) ∨
     (∃ wf μ', p.N0 ≤ wf.heap.size ∧ Inv3 P ty Wg C Low vals Mine AnchW Post p Sh c wf μ' M' (T ++ ops))) := by
 obtain ⟨gs, a, b, w₀, sl₀, q, k, n, rc, mc, rfl, Cr, hE₀, hD₀, hP₀, hN₀, hA₀, hK₀, rfl⟩ := h
 have hW0 : Wg < p.N0 := Nat.lt_of_lt_of_le F.hW F.hLow
 have hC0 : C < p.N0 := Nat.lt_of_lt_of_le F.hC F.hLow
 have ra := hA₀.running (fun _ _ => StopG.running) w₀ (RA.refl p w₀)
 obtain ⟨i, g, d, sl, hi, hg, hst⟩ := crowd_pick (P := P) (w := w₀) (sl := sl₀) (Cr.awake (awake_of (.inl ra)) (awake_of (hK₀.status.elim .inl fun x => .inr (.inr x)))) ⟨0, a, Cr.h0, ra⟩
 have hE : (w₀.at d).heap[E]? = some (.chan 0 #[] false k k false) := hE₀
 have hD : (w₀.at d).heap[Dn]? = some (.chan 0 #[] true 0 0 false) := hD₀
 have hP : PostB (w₀.at d) := hPb _ _ (RB.at p E Dn w₀ d) hP₀
 have hN : p.N0 ≤ (w₀.at d).heap.size := hN₀
 have hA := Goes.rely RA.trans hA₀ (RA.at p w₀ d)
 have hK : Kid P ty Wg C Low vals Mine p Sh c (rc, mc) b (w₀.at d) T := by
   cases hK₀ with
   | ca h1 h2 h3 h4 => exact .ca h1 h2 (h3.world (kept_at p w₀ d)) (h4.rely (RCa.at w₀ d))
   | quit h1 h2 h3 h4 => exact .quit h1 h2 (h3.world (kept_at p w₀ d)) h4
 generalize w₀.at d = w at *
 clear hE₀ hD₀ hP₀ hN₀ hA₀ hK₀
 have hs := Cr.size
 have hcp := Cr.pos
 have hilt : i < gs.size := (Array.getElem?_eq_some_iff.1 hi).1
 by_cases h0 : i = 0
 · subst h0
   obtain rfl : g = a := by rw [Cr.h0] at hi; exact (Option.some.inj hi).symm
   rcases hA.cases with hstop | ⟨n', rfl, hstep⟩
   · obtain ⟨_, es, hcomm, hev⟩ := (hstop w (RA.refl p w)).sel
     have hcomm0 : stepG P (0 == 0) g w = .comm (core g) (selCases E Dn zE zD) true .select w es := hcomm
     have none : ∀ ch, partners (gs.setIfInBounds 0 ph) ch true = [] := fun ch => partners_nil fun x y hy => by
       rcases getElem?_stand gs 0 x y hy with ⟨_, rfl⟩ | ⟨hx, hy'⟩
       · exact offersAt_ph _ _
       · by_cases hxc : x = c
         · subst hxc
           rw [Cr.hc] at hy'
           obtain rfl := Option.some.inj hy'
           exact offersAt_of_not_blocked (fun hb => by rcases hK.status with z | z <;> rw [z] at hb <;> cases hb) _ _
         · exact Cr.noOffer hx hxc hy' _ _
     have hrun := crowd_sel_recv_closed (sl := sl) (k := 1) (c := Dn) (z := zD) hi hcomm0 rfl
       (fun m c' hm hc' => by
         rcases m with _ | _ | m
         · have : c' = rcase E zE := by simpa [selCases] using hc'.symm
           subst this
           exact ways_recv_none hE (none E)
         · omega
         · simp [selCases] at hc') hD (none Dn)
     have hfin := (hstop w (RA.refl p w)).nil w (RA.refl p w) hP
     have hKa := hK.caller F (Kept.refl p w) (RCd.refl w) g.frame.fn g.frame.place hev
     have hput : Crew P c (gs.setIfInBounds 0 ((core g).finishComm P (selCases E Dn zE zD) .select 1 zD false)) (Conc.served (core g) (commResult (selCases E Dn zE zD) .select 1 zD false)) b
         (T ++ (MemOp.ofEvents 0 g.frame.fn g.frame.place es ++ #[{ g := 0, fn := (core g).frame.fn, pos := (core g).frame.place, act := .recvClosed Dn }])) q :=
       Cr.put (by simp) (by simp [hilt]; rfl) (by rw [Array.getElem?_setIfInBounds_ne (by omega)]; exact Cr.hc) (fun x hx _ => Array.getElem?_setIfInBounds_ne (Ne.symm hx)) (fun op hop => .inl (by
         rcases Array.mem_append.1 hop with x | x
         · exact g_ofEvents op x
         · have : op = { g := 0, fn := (core g).frame.fn, pos := (core g).frame.place, act := .recvClosed Dn } := by simpa using x
           rw [this]))
     have st1 : ∀ {rel : Bool} {d1 : Nat}, Law Wg p Sh c rel w (T ++ MemOp.ofEvents 0 g.frame.fn g.frame.place es) 0 d1 →
         Law Wg p Sh c rel w (T ++ (MemOp.ofEvents 0 g.frame.fn g.frame.place es ++ #[{ g := 0, fn := (core g).frame.fn, pos := (core g).frame.place, act := .recvClosed Dn }])) 0 d1 := fun hl => by
       rw [← Array.append_assoc]
       refine hl.still (fun op hop => ?_) (fun op hop => ?_) (fun g' => by rw [Deaf_push]; simp [deafStep])
       · have : op = { g := 0, fn := (core g).frame.fn, pos := (core g).frame.place, act := .recvClosed Dn } := by simpa using hop
         rw [this]; rfl
       · have : op = { g := 0, fn := (core g).frame.fn, pos := (core g).frame.place, act := .recvClosed Dn } := by simpa using hop
         rw [this]; simp
     cases hKa with
     | ca h1 h2 h3 h4 =>
       obtain ⟨m, hm⟩ := hfin (.inl h1)
       exact ⟨_, _, hst.trans hrun, .inr ⟨w, (sumTo c q, _), hN, _, _, b, w, sl, q, _, rfl, hput, .a h1 h2 (st1 h3) (.kd hm) h4, rfl⟩⟩
     | quit h1 h2 h3 h4 =>
       obtain ⟨m, hm⟩ := hfin (.inr ⟨h1, h2⟩)
       exact ⟨_, _, hst.trans hrun, .inr ⟨w, (sumTo c q, _), hN, _, _, b, w, sl, q, _, rfl, hput, .c h1 h2 (st1 h3) (.kd hm) h4, rfl⟩⟩
   · obtain ⟨a', w', es, hgo, ⟨hR, hE', hD', hev⟩, hG'⟩ := hstep w (RA.refl p w)
     exact ⟨_, _, hst.trans (runT_crowd_go hi (show stepG P (0 == 0) g w = _ from hgo)), .inl ⟨(rc, mc + n' + sumTo c q), .right _ (by omega), _, a', b, w', sl, q, k, n', rc, mc, rfl,
       Cr.step0 (again_running w' hK.status) g_ofEvents, hE'.trans hE, hD'.trans hD, hPb _ _ hR hP, Nat.le_trans hN hR.kept.size, hG', hK.caller F hR.kept (rca_of F hN hR hE' hD') _ _ hev, rfl⟩⟩
 by_cases h1 : i = c
 · subst h1
   obtain rfl : g = b := by rw [Cr.hc] at hi; exact (Option.some.inj hi).symm
   have hi0 : (i == 0) = false := by simp [h0]
   have ra' := hA.running (fun _ _ => StopG.running) w (RA.refl p w)
   have fin : ∀ {b' : Goroutine} {w' : World} {es : Array Event} {rc' mc' : Nat}, stepG P false g w = .go b' w' es → Aside2 C Wg w w' → Lt2 (rc', mc') (rc, mc) → Kid P ty Wg C Low vals Mine p Sh i (rc', mc') b' w' (T ++ MemOp.ofEvents i g.frame.fn g.frame.place es) →
       ∃ M' ops, stepT P (crowd gs w₀ sl₀) = (.next M', ops) ∧ ((∃ μ', LtP μ' (rc, mc + n + sumTo i q) ∧ Inv2 P ty Wg C Low vals Mine AnchW p Sh i E Dn zE zD PostB μ' M' (T ++ ops)) ∨
         (∃ wf μ', p.N0 ≤ wf.heap.size ∧ Inv3 P ty Wg C Low vals Mine AnchW Post p Sh i wf μ' M' (T ++ ops))) := by
     intro b' w' es rc' mc' hgo hAs hlt hk
     refine ⟨_, _, hst.trans (runT_crowd_go hi (by rw [hi0]; exact hgo)), .inl ⟨(rc', mc' + n + sumTo i q), ?_, _, a, b', w', sl, q, k, n, rc', mc', rfl, Cr.stepc (woken_run ra') g_ofEvents, ?_, ?_, hPc _ _ hAs hP, by rw [hAs.size]; exact hN, Goes.rely RA.trans hA (ra_aside hC0 hW0 F.hCS (fun i s => F.hSh.ap _ s (F.hSW _ ⟨_, rfl, rfl⟩)) hAs), hk, rfl⟩⟩
     · rcases Prod.lex_def.1 hlt with z | ⟨z1, z2⟩
       · exact .left _ _ z
       · simp only at z1 z2
         subst z1
         exact .right _ (by omega)
     · rw [hAs.block E hEW.2 hEW.1]; exact hE
     · rw [hAs.block Dn hDW.2 hDW.1]; exact hD
   cases hK with
   | ca h1 h2 h3 h4 =>
     obtain ⟨b', w', es, hgo, hAs, hout⟩ := ca_move F hN (ok1 w hN) (.inl rfl) h3 h2 h1 h4 g.frame.fn g.frame.place
     have hkw := kept_aside hC0 hW0 hAs
     cases hout with
     | stay rc' d1' rel' vs' cl' mc' hl k1 k2 k3 k4 => exact fin hgo hAs hl (.ca k1 k2 (k3.world hkw) k4)
     | lone q' _ k1 k2 k3 k4 => exact fin hgo hAs (.left _ _ (by have := h4.rank_pos; omega)) (.quit k1 k2 (k3.world hkw) k4)
     | met _ e _ _ _ _ => exact absurd e kk1_ne
   | quit h1 h2 h3 h4 =>
     obtain ⟨b', es, k', d1', hgo, hlt, k1, k2⟩ := quit_step (w := w) F.hc0 h3 h4 hg g.frame.fn g.frame.place
     exact fin hgo (.refl w) (.right _ hlt) (.quit h1 h2 k1 k2)
 · obtain ⟨g', es, kk, hq, hrunT, hm, Cr'⟩ := Cr.leaver hi h0 h1 hg sl w
   have ra' := hA.running (fun _ _ => StopG.running) w (RA.refl p w)
   rw [woken_run ra', woken_same (again_running w hK.status)] at Cr'
   have hsum := sum_leaver (c := c) (by omega) hq
   have hK' : Kid P ty Wg C Low vals Mine p Sh c (rc, mc) b w (T ++ MemOp.ofEvents i g.frame.fn g.frame.place es) := by
     cases hK with
     | ca k1 k2 k3 k4 => exact .ca k1 k2 (k3.mute h0 h1 _ _ hm) k4
     | quit k1 k2 k3 k4 => exact .quit k1 k2 (k3.mute h0 h1 _ _ hm) k4
   exact ⟨_, _, hst.trans hrunT, .inl ⟨(rc, mc + n + sumTo c (upd q i kk)), .right _ (by omega), _, a, b, w, sl, upd q i kk, k, n, rc, mc, rfl, Cr', hE, hD, hP, hN, hA, hK', rfl⟩⟩
theorem shut_runs (F : Fix Wg C Low Mine p Sh c) (hED : E ≠ Dn) (hEW : E ≠ Wg ∧ E ≠ C) (hDW : Dn ≠ Wg ∧ Dn ≠ C) (ok1 : ∀ w, p.N0 ≤ w.heap.size → ∀ e, EvQ Mine Wg C 1 e → EvB p Sh w e)
   (hPb : ∀ w w₁, RB p E Dn w w₁ → PostB w → PostB w₁) (hPc : ∀ w w₁, Aside2 C Wg w w₁ → PostB w → PostB w₁) :
   ∀ (μ : Nat × Nat) (M : Machine) (T : Trace), Inv2 P ty Wg C Low vals Mine AnchW p Sh c E Dn zE zD PostB μ M T →
     ∃ N M' T' wf μ', runNT P N M T = (.next M', T') ∧ p.N0 ≤ wf.heap.size ∧ Inv3 P ty Wg C Low vals Mine AnchW Post p Sh c wf μ' M' T' := by
 intro μ
 induction μ using ltP_wf.induction with
 | _ μ ih =>
   intro M T h
   obtain ⟨M', ops, hs, hr⟩ := shut_step (Post := Post) F hED hEW hDW ok1 hPb hPc h
   rcases hr with ⟨μ', hlt, hI⟩ | ⟨wf, μ', hn, hd⟩
   · obtain ⟨N, M'', T'', wf, ν, hr, hd⟩ := ih μ' hlt M' _ hI
     exact ⟨N + 1, M'', T'', wf, ν, by simp only [runNT, hs]; exact hr, hd⟩
   · exact ⟨1, M', T ++ ops, wf, μ', by simp only [runNT, hs], hn, hd⟩
theorem gather_runs (F : Fix Wg C Low Mine p Sh c) (hED : E ≠ Dn) (hEW : E ≠ Wg ∧ E ≠ C) (hDW : Dn ≠ Wg ∧ Dn ≠ C) (hDN : Dn < p.N0) (hDS : ∀ l, Sh l → l ≠ .obj Dn) (ok1 : ∀ w, p.N0 ≤ w.heap.size → ∀ e, EvQ Mine Wg C 1 e → EvB p Sh w e)
   (hPb : ∀ w w₁, RB p E Dn w w₁ → PostB w → PostB w₁) (hPc : ∀ w w₁, Aside2 C Wg w w₁ → PostB w → PostB w₁) (hPn : ∀ w, PostB w → p.N0 ≤ w.heap.size)
   (hAr : ∀ g w, AnchW g w → g.status = .running) (hAn : ∀ g w, AnchW g w → ∃ m, Goes P true (RPa ty Wg C vals) (DPi Mine Wg C Low) (AtW1 P ty Wg C Low vals Mine AnchW Post) m g w)
   (μ : Nat × Nat) (M : Machine) (T : Trace) (h : Inv1 P p Sh E Dn zE zD PostB (AfterD P ty Wg C Low vals Mine) (FinW P ty Wg C Low vals Mine AnchW) c μ M T) :
   ∃ N M' T', runNT P N M T = (.next M', T') ∧ Done3 P Wg C Low Mine Post Sh c M' T' := by
 obtain ⟨N1, M1, T1, r1, gs, a, b, w, sl, q, k, rfl, Cr, hT, hE, hD, hP, hG, ⟨hwg, nb, hB⟩, hbr⟩ := talk_runs hED F.hc0 hDN F.hSh hDS hPb μ M T h
 obtain ⟨n, hG⟩ := (gathers_iff _ _ _ _ _ _ _ _ _ _ _).1 hG
 have hI : Inv2 P ty Wg C Low vals Mine AnchW p Sh c E Dn zE zD PostB (7, nb + n + sumTo c q) (crowd gs w sl) T1 :=
   ⟨gs, a, b, w, sl, q, k, n, 7, nb, rfl, Cr, hE, hD, hP, hPn w hP, hG, .ca (rel := false) hwg (fun e => by cases e) ⟨hT, rfl⟩ (.r0 hB), rfl⟩
 obtain ⟨N2, M2, T2, wf, ν, r2, hn, hI3⟩ := shut_runs (Post := Post) F hED hEW hDW ok1 hPb hPc _ _ _ hI
 obtain ⟨N3, M3, T3, r3, hd⟩ := join_runs F hn (ok1 wf hn) hAr hAn _ _ _ hI3
 refine ⟨N1 + N2 + N3, M3, T3, ?_, hd⟩
 rw [runNT_add, runNT_add, r1]
 simp only [r2]
 exact r3
end
end Go.Hx
