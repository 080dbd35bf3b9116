/-
  Part 2 of the proof.
  No condition but those that each statement names.
-/
import Derived.Test.YtejkelcaljmnoaaGreatDoorHy01
import Derived.Conc.FxFrame
import Derived.Conc.CompanyMem
import Derived.Conc.Starve
import Derived.Laws.MakeOwn
import Derived.Below
import Derived.OwnWalk
import Derived.Conc.AppendWalk
import Derived.RowKit
import Derived.KernelRfl
import Derived.LaidEqlPtr
import Derived.WideLaws
import Derived.ArgAppend
set_option maxRecDepth 100000
set_option linter.unusedVariables false
set_option linter.unusedSimpArgs false
set_option linter.unusedSectionVars false
namespace Go.Hx
open Go.Conc
open Go.ConcX
open Go.ConcN (sumTo upd sumTo_upd upd_ne upd_same)
section
variable [Payload] (P : Program) (ty : TypeId) (Wg C Low : Nat) [Shy Wg C] (vals : List Value) (Mine : Loc → Prop) (AnchW : Goroutine → World → Prop) (Post : Value → World → Prop) (p : Par) (Sh : Loc → Prop) (c : Nat) (wf : World)
inductive J3 : Nat × Nat × Nat × Nat → Goroutine → Goroutine → World → Trace → Prop
 | a {a b : Goroutine} {w : World} {T : Trace} {rel cl : Bool} {vs : List Value} {d0 d1 rp mp rc mc : Nat} : WgAt ty Wg w KK 0 → (rel = true → Full C vals w) → Law Wg p Sh c rel wf T d0 d1 →
     PA P ty Wg C Low vals Mine AnchW Post rp d0 mp a w → CA P ty Wg C Low vals Mine rc d1 rel vs cl mc b w → J3 (rc, mc, rp + 2, mp) a b w T
 | b {a b : Goroutine} {w : World} {T : Trace} {rel cl : Bool} {vs : List Value} {d1 rp mp rc mc : Nat} : WgAt ty Wg w (KK + 1) 0 → (rel = true → Full C vals w) → Law Wg p Sh c rel wf T 1 d1 →
     PB P ty Wg C Low vals Mine Post rp mp a w → CA P ty Wg C Low vals Mine rc d1 rel vs cl mc b w → J3 (rc, mc, rp, mp) a b w T
 | c {a b : Goroutine} {w : World} {T : Trace} {d0 d1 rp mp q : Nat} : WgAt ty Wg w 0 0 → Full C vals w → Law Wg p Sh c true wf T d0 d1 →
     PA P ty Wg C Low vals Mine AnchW Post rp d0 mp a w → QuitsD P q d1 b → J3 (0, q, rhoC rp + vals.length + 5, mp) a b w T
 | d {a b : Goroutine} {w : World} {T : Trace} {st : Int} {rp mp rc mc : Nat} : WgAt ty Wg w st 0 → Full C vals w → Law Wg p Sh c true wf T 1 1 →
     PB P ty Wg C Low vals Mine Post rp mp a w → CD P Wg Low rc st mc b w → J3 (rc, mc, rp, mp) a b w T
 | f {a b : Goroutine} {w : World} {T : Trace} {d1 mp q : Nat} : WgAt ty Wg w 0 1 → Full C vals w → Law Wg p Sh c true wf T 1 d1 →
     PB P ty Wg C Low vals Mine Post 1 mp a w → QuitsD P q d1 b → J3 (0, q, vals.length + 6, mp) a b w T
 | j {a b : Goroutine} {w : World} {T : Trace} {vs : List Value} {d0 d1 rp mp q : Nat} : Law Wg p Sh c true wf T d0 d1 →
     PJ P Wg C Low vals Mine Post rp d0 false vs mp a w → QuitsD P q d1 b → J3 (0, q, rp, mp) a b w T
def Inv3 (μ : Nat × (Nat × Nat × Nat × Nat)) (M : Machine) (T : Trace) : Prop :=
 ∃ (gs : Array Goroutine) (a b : Goroutine) (w : World) (sl : Option (Nat × Nat)) (q : Nat → Nat) (ν : Nat × Nat × Nat × Nat),
   M = crowd gs w sl ∧ Crew P c gs a b T q ∧ J3 P ty Wg C Low vals Mine AnchW Post p Sh c wf ν a b w T ∧ μ = (sumTo c q, ν)
def Done3 (M : Machine) (T : Trace) : Prop :=
 ∃ (gs : Array Goroutine) (a b : Goroutine) (w : World) (sl : Option (Nat × Nat)) (q : Nat → Nat) (k m : Nat),
   M = crowd gs w sl ∧ Crew P c gs a b T q ∧ Past0 Sh T ∧ QuitsD P k (Deaf T c) b ∧ Goes P true AtRel (DPj Mine Wg C Low) (AtRetJ P Wg C Mine Post) m a w
end
section
variable [Payload] {P : Program} {ty : TypeId} {Wg C Low : Nat} [Shy Wg C] {vals : List Value} {Mine : Loc → Prop} {AnchW : Goroutine → World → Prop} {Post : Value → World → Prop} {p : Par} {Sh : Loc → Prop} {c : Nat} {wf : World}
theorem J3.at {ν : Nat × Nat × Nat × Nat} {a b : Goroutine} {w : World} {T : Trace} (h : J3 P ty Wg C Low vals Mine AnchW Post p Sh c wf ν a b w T) (d : Nat) : J3 P ty Wg C Low vals Mine AnchW Post p Sh c wf ν a b (w.at d) T := by
 cases h with
 | a h1 h2 h3 h4 h5 => exact .a h1 h2 h3 (h4.rely (RPa.at w d)) (h5.rely (RCa.at w d))
 | b h1 h2 h3 h4 h5 => exact .b h1 h2 h3 (h4.rely (RPb.at w d)) (h5.rely (RCa.at w d))
 | c h1 h2 h3 h4 h5 => exact .c h1 h2 h3 (h4.rely (RPa.at w d)) h5
 | d h1 h2 h3 h4 h5 => exact .d h1 h2 h3 (h4.rely (RPb.at w d)) (h5.rely (RCd.at w d))
 | f h1 h2 h3 h4 h5 => exact .f h1 h2 h3 (h4.rely (RPb.at w d)) h5
 | j h3 h4 h5 => exact .j h3 (h4.rely (AtRel.at w d)) h5
theorem J3.shape (hAr : ∀ g w, AnchW g w → g.status = .running) {ν : Nat × Nat × Nat × Nat} {a b : Goroutine} {w : World} {T : Trace} (h : J3 P ty Wg C Low vals Mine AnchW Post p Sh c wf ν a b w T) :
   awake a ∧ awake b ∧ (a.status = .running ∨ b.status = .running) := by
 cases h with
 | a h1 h2 h3 h4 h5 => exact ⟨awake_of (.inl (h4.running hAr)), awake_of (.inl h5.running), .inl (h4.running hAr)⟩
 | b h1 h2 h3 h4 h5 => exact ⟨awake_of (h4.status.elim (fun x => .inl x.2) (fun x => .inr (.inl x.2.1))), awake_of (.inl h5.running), .inr h5.running⟩
 | c h1 h2 h3 h4 h5 => exact ⟨awake_of (.inl (h4.running hAr)), awake_of (h5.status.elim .inl fun x => .inr (.inr x)), .inl (h4.running hAr)⟩
 | d h1 h2 h3 h4 h5 => exact ⟨awake_of (h4.status.elim (fun x => .inl x.2) (fun x => .inr (.inl x.2.1))), awake_of (.inl h5.running), .inr h5.running⟩
 | f h1 h2 h3 h4 h5 =>
   have ra : a.status = .running := h4.status.elim (fun x => x.2) (fun x => by cases x.1);exact ⟨awake_of (.inl ra), awake_of (h5.status.elim .inl fun x => .inr (.inr x)), .inl ra⟩
 | j h3 h4 h5 => exact ⟨awake_of (.inl h4.running), awake_of (h5.status.elim .inl fun x => .inr (.inr x)), .inl h4.running⟩
theorem J3.other (hAr : ∀ g w, AnchW g w → g.status = .running) {ν : Nat × Nat × Nat × Nat} {a b g g' : Goroutine} {w : World} {T : Trace} (h : J3 P ty Wg C Low vals Mine AnchW Post p Sh c wf ν a b w T) {i : Nat} (h0 : i ≠ 0) (hc : i ≠ c) (fn : FuncId) (pos : String) {es : Array Event} (hm : ∀ e ∈ es, e.mute = true) :
   ∃ ν', J3 P ty Wg C Low vals Mine AnchW Post p Sh c wf ν' (woken P g g' w a) (woken P g g' w b) w (T ++ MemOp.ofEvents i fn pos es) := by
 cases h with
 | a h1 h2 h3 h4 h5 => rw [woken_run (h4.running hAr), woken_run h5.running]; exact ⟨_, .a h1 h2 (h3.mute h0 hc fn pos hm) h4 h5⟩
 | b h1 h2 h3 h4 h5 => obtain ⟨r', m', h4'⟩ := h4.woken (b := g) (b' := g'); rw [woken_run h5.running]; exact ⟨_, .b h1 h2 (h3.mute h0 hc fn pos hm) h4' h5⟩
 | c h1 h2 h3 h4 h5 => rw [woken_run (h4.running hAr), woken_quitsD h5]; exact ⟨_, .c h1 h2 (h3.mute h0 hc fn pos hm) h4 h5⟩
 | d h1 h2 h3 h4 h5 => obtain ⟨r', m', h4'⟩ := h4.woken (b := g) (b' := g'); rw [woken_run h5.running]; exact ⟨_, .d h1 h2 (h3.mute h0 hc fn pos hm) h4' h5⟩
 | f h1 h2 h3 h4 h5 =>
   have ra : a.status = .running := h4.status.elim (fun x => x.2) (fun x => by cases x.1);rw [woken_run ra, woken_quitsD h5]; exact ⟨_, .f h1 h2 (h3.mute h0 hc fn pos hm) h4 h5⟩
 | j h3 h4 h5 => rw [woken_run h4.running, woken_quitsD h5]; exact ⟨_, .j (h3.mute h0 hc fn pos hm) h4 h5⟩
theorem fH {Wg : Nat} {T : Trace} {d0 d1 k : Nat} {b : Goroutine} {w : World} (hc0 : c ≠ 0) (hL : Law Wg p Sh c true wf T d0 d1) (hq : QuitsD P k d1 b) (hr : b.status = .running) (fn : FuncId) (pos : String) :
   ∃ b' es k' d1', stepG P false b w = .go b' w es ∧ k' < k ∧ Law Wg p Sh c true wf (T ++ MemOp.ofEvents c fn pos es) d0 d1' ∧ QuitsD P k' d1' b' := by
 cases k with
 | zero => rw [hq.1] at hr; cases hr
 | succ k =>
   rcases hq with ⟨hf, _⟩ | ⟨_, b', es, hm, hst, hq'⟩
   · rw [hf] at hr; cases hr
   obtain ⟨r, hL⟩ := hL;exact ⟨b', es, k, _, hst w, Nat.lt_succ_self _, ⟨r, hL.mute hc0 fn pos hm (by rw [Deaf_own, hL.hearc])⟩, hq'⟩
theorem sr {g g' a : Goroutine} {w : World} (hm : mayWake P g = true) (h1 : g'.status = .running ∨ g'.status = .finished) : woken P g g' w a = a.again w := by
 unfold woken;rw [if_pos];rcases h1 with h | h <;> simp [hm, h]
theorem qA (F : Fix Wg C Low Mine p Sh c) (hN : p.N0 ≤ wf.heap.size) (ok1 : ∀ e, EvQ Mine Wg C 1 e → EvB p Sh wf e) (hAr : ∀ g w, AnchW g w → g.status = .running)
   (hAn : ∀ g w, AnchW g w → ∃ m, Goes P true (RPa ty Wg C vals) (DPi Mine Wg C Low) (AtW1 P ty Wg C Low vals Mine AnchW Post) m g w)
   {μ : Nat × (Nat × Nat × Nat × Nat)} {M : Machine} {T : Trace} (h : Inv3 P ty Wg C Low vals Mine AnchW Post p Sh c wf μ M T) :
   ∃ M' ops, stepT P M = (.next M', ops) ∧ ((∃ μ', LtG μ' μ ∧ Inv3 P ty Wg C Low vals Mine AnchW Post p Sh c wf μ' M' (T ++ ops)) ∨ Done3 P Wg C Low Mine Post Sh c M' (T ++ ops)) := by
 obtain ⟨gs, a, b, w₀, sl₀, q, ν, rfl, Cr, hJ₀, rfl⟩ := h;obtain ⟨awa, awb, hrun⟩ := hJ₀.shape hAr;obtain ⟨i, g, d, sl, hi, hg, hst⟩ := crowd_pick (P := P) (w := w₀) (sl := sl₀) (Cr.awake awa awb) (hrun.elim (fun x => ⟨0, a, Cr.h0, x⟩) (fun x => ⟨c, b, Cr.hc, x⟩));have hJ := hJ₀.at d;generalize w₀.at d = w at *;clear hJ₀;have hs := Cr.size;have hilt : i < gs.size := (Array.getElem?_eq_some_iff.1 hi).1;have hc0 := F.hc0;by_cases h0 : i = 0
 · subst h0;obtain rfl : g = a := by rw [Cr.h0] at hi; exact (Option.some.inj hi).symm
   have fin : ∀ {a' : Goroutine} {w' : World} {es : Array Event} {ν' : Nat × Nat × Nat × Nat}, stepG P true g w = .go a' w' es → b.again w' = b → Lt4 ν' ν →
       J3 P ty Wg C Low vals Mine AnchW Post p Sh c wf ν' a' b w' (T ++ MemOp.ofEvents 0 g.frame.fn g.frame.place es) →
       ∃ M' ops, stepT P (crowd gs w₀ sl₀) = (.next M', ops) ∧ ((∃ μ', LtG μ' (sumTo c q, ν) ∧ Inv3 P ty Wg C Low vals Mine AnchW Post p Sh c wf μ' M' (T ++ ops)) ∨ Done3 P Wg C Low Mine Post Sh c M' (T ++ ops)) :=
     fun hgo hb hlt hj => ⟨_, _, hst.trans (runT_crowd_go hi (show stepG P (0 == 0) g w = _ from hgo)), .inl ⟨(sumTo c q, _), .right _ hlt, _, _, b, _, sl, q, _, rfl, Cr.step0 hb aO, hj, rfl⟩⟩
   cases hJ with
   | a h1 h2 h3 h4 h5 =>
     obtain ⟨a', w', es, hgo, hrc, hlow, hout⟩ := sm F hAn h3 h1 h4 g.frame.fn g.frame.place;have hb := again_running w' (.inl h5.running);have hf : ∀ {rel : Bool}, (rel = true → Full C vals w) → (rel = true → Full C vals w') := fun hh e => (hh e).of_block (hlow C F.hC F.hCW);cases hout with
     | stay rp' d0' mp' hl k1 k2 k3 => exact fin hgo hb (lt4_caller (lt2_shift 2 hl)) (.a k1 (hf h2) k2 k3 (h5.rely hrc))
     | reg mp' k1 k2 k3 => exact fin hgo hb (lt4_caller (.left _ _ (by omega))) (.b k1 (hf h2) k2 k3 (h5.rely hrc))
   | @b _ _ _ _ rel cl vs d1 rp mp rc mc h1 h2 h3 h4 h5 =>
     obtain rfl : rp = 1 := h4.status.elim (fun x => x.1) (fun x => by rw [x.2.1] at hg; cases hg);obtain ⟨a', w', es, hgo, hrc, rp', mp', hl, k1, k2⟩ := mD F h3 h1 h4 g.frame.fn g.frame.place;exact fin hgo (again_running w' (.inl h5.running)) (lt4_caller hl) (.b (h1.of_block (hrc Wg F.hW)) (fun e => (h2 e).of_block (hrc C F.hC)) k1 k2 (h5.rely (RCd.toA F.hW hrc)))
   | c h1 h2 h3 h4 h5 =>
     obtain ⟨a', w', es, hgo, hout⟩ := sn F hAn h3 h1 h2 h4 g.frame.fn g.frame.place;have hb := again_running w' h5.status;cases hout with
     | stay rp' d0' mp' hl k1 k2 k3 k4 => exact fin hgo hb (lt4_caller (by have := lt2_shift (vals.length + 5) hl; simpa [Nat.add_assoc] using this)) (.c k1 k2 k3 k4 h5)
     | joined mp' k1 k2 k3 k4 => exact fin hgo hb (lt4_caller (.left _ _ (by omega))) (.j k3 k4 h5)
   | @d _ _ _ _ st rp mp rc mc h1 h2 h3 h4 h5 =>
     obtain rfl : rp = 1 := h4.status.elim (fun x => x.1) (fun x => by rw [x.2.1] at hg; cases hg);obtain ⟨a', w', es, hgo, hrc, rp', mp', hl, k1, k2⟩ := mD F h3 h1 h4 g.frame.fn g.frame.place;exact fin hgo (again_running w' (.inl h5.running)) (lt4_caller hl) (.d (h1.of_block (hrc Wg F.hW)) (h2.of_block (hrc C F.hC)) k1 k2 (h5.rely hrc))
   | f h1 h2 h3 h4 h5 =>
     obtain ⟨a', w', es, hgo, hf, hout⟩ := sq F h3 h1 h2 h4 g.frame.fn g.frame.place;have hb := again_running w' h5.status;rcases hout with ⟨mp', hl, k1, k2, k3⟩ | ⟨mp', k1, k2, k3⟩
     · exact fin hgo hb (lt4_caller (.right _ hl)) (.f k1 hf k2 k3 h5)
     · exact fin hgo hb (lt4_caller (.left _ _ (by omega))) (.j k2 k3 h5)
   | j h3 h4 h5 =>
     obtain ⟨a', w', es, hgo, hout⟩ := vf F h3 h4 g.frame.fn g.frame.place;have hb := again_running w' h5.status;rcases hout with ⟨rp', d0', mp', hl, k1, k2⟩ | ⟨m, k1, k2, k3⟩
     · exact fin hgo hb (lt4_caller hl) (.j k1 k2 h5)
     · exact ⟨_, _, hst.trans (runT_crowd_go hi (show stepG P (0 == 0) g w = _ from hgo)), .inr ⟨_, a', b, w', sl, q, _, m, rfl, Cr.step0 hb aO, k1, k2 ▸ h5, k3⟩⟩
 by_cases h1 : i = c
 · subst h1;obtain rfl : g = b := by rw [Cr.hc] at hi; exact (Option.some.inj hi).symm
   have hi0 : (i == 0) = false := by simp [h0]
   have fin : ∀ {a' b' : Goroutine} {w' : World} {es : Array Event} {ν' : Nat × Nat × Nat × Nat}, stepG P false g w = .go b' w' es → woken P g b' w' a = a' → Lt4 ν' ν →
       J3 P ty Wg C Low vals Mine AnchW Post p Sh i wf ν' a' b' w' (T ++ MemOp.ofEvents i g.frame.fn g.frame.place es) →
       ∃ M' ops, stepT P (crowd gs w₀ sl₀) = (.next M', ops) ∧ ((∃ μ', LtG μ' (sumTo i q, ν) ∧ Inv3 P ty Wg C Low vals Mine AnchW Post p Sh i wf μ' M' (T ++ ops)) ∨ Done3 P Wg C Low Mine Post Sh i M' (T ++ ops)) :=
     fun hgo ha hlt hj => ⟨_, _, hst.trans (runT_crowd_go hi (by rw [hi0]; exact hgo)), .inl ⟨(sumTo i q, _), .right _ hlt, _, _, _, _, sl, q, _, rfl, Cr.stepc ha aO, hj, rfl⟩⟩
   cases hJ with
   | a h1 h2 h3 h4 h5 =>
     obtain ⟨b', w', es, hgo, hA, hout⟩ := lH F hN ok1 (.inl rfl) h3 h2 h1 h5 g.frame.fn g.frame.place;have ha : woken P g b' w' a = a := woken_run (h4.running hAr);cases hout with
     | stay rc' d1' rel' vs' cl' mc' hl k1 k2 k3 k4 => exact fin hgo ha (lt4_child _ _ hl) (.a k1 k2 k3 (h4.rely (rpa_of_a h1 hA (.inl k1))) k4)
     | lone q' _ k1 k2 k3 k4 => exact fin hgo ha (.left _ _ (by have := h5.rank_pos; omega)) (.c k1 k2 k3 (h4.rely (rpa_of_a h1 hA (.inr ⟨k1, k2⟩))) k4)
     | met _ e _ _ _ _ => exact absurd e kk1_ne
   | b h1 h2 h3 h4 h5 =>
     obtain ⟨b', w', es, hgo, hA, hout⟩ := lH F hN ok1 (.inr rfl) h3 h2 h1 h5 g.frame.fn g.frame.place;cases hout with
     | stay rc' d1' rel' vs' cl' mc' hl k1 k2 k3 k4 =>
       obtain ⟨r', m', h4'⟩ := (h4.rely (rpb_of_0 h1 hA (.inl k1))).woken (b := g) (b' := b');exact fin hgo rfl (lt4_child _ _ hl) (.b k1 k2 k3 h4' k4)
     | lone _ e _ _ _ _ => exact absurd e.symm kk1_ne
     | met m1 _ k1 k2 k3 k4 =>
       obtain ⟨r', m', h4'⟩ := (h4.rely (rpb_of_0 h1 hA (.inr (.inl k1)))).woken (b := g) (b' := b');exact fin hgo rfl (.left _ _ (by have := h5.rank_pos; omega)) (.d k1 k2 k3 h4' k4)
   | c h1 h2 h3 h4 h5 =>
     obtain ⟨b', es, k', d1', hgo, hlt, k1, k2⟩ := fH (w := w) hc0 h3 h5 hg g.frame.fn g.frame.place;exact fin hgo (woken_run (h4.running hAr)) (.right _ (.left _ _ hlt)) (.c h1 h2 k1 h4 k2)
   | @d _ _ _ _ st rp mp rc mc h1 h2 h3 h4 h5 =>
     obtain ⟨b', w', es, hgo, hA, hout⟩ := ve F hN h3 h1 h5 g.frame.fn g.frame.place;have hf := h2.of_block (hA.block C F.hCW);cases hout with
     | stay rc' st' mc' hl k1 k2 k3 =>
       have hk : KPb ty Wg C vals w' := by
         rcases k3.st01 with rfl | rfl
         · exact .inr (.inl k1)
         · exact .inr (.inr (.inl k1))
       obtain ⟨r', m', h4'⟩ := (h4.rely (rpb_of_0 h1 (.of_Wg hA) hk)).woken (b := g) (b' := b');exact fin hgo rfl (lt4_child _ _ hl) (.d k1 hf k2 h4' k3)
     | freed q' hmw k1 k2 k3 =>
       obtain ⟨m', h4'⟩ := (h4.rely (rpb_of_0 h1 (.of_Wg hA) (.inr (.inr (.inr ⟨k1, hf⟩))))).again;exact fin hgo (sr hmw k3.status) (.left _ _ h5.rank_pos) (.f k1 hf k2 h4' k3)
   | f h1 h2 h3 h4 h5 =>
     have ra : a.status = .running := h4.status.elim (fun x => x.2) (fun x => by cases x.1);obtain ⟨b', es, k', d1', hgo, hlt, k1, k2⟩ := fH (w := w) hc0 h3 h5 hg g.frame.fn g.frame.place;exact fin hgo (woken_run ra) (.right _ (.left _ _ hlt)) (.f h1 h2 k1 h4 k2)
   | j h3 h4 h5 =>
     obtain ⟨b', es, k', d1', hgo, hlt, k1, k2⟩ := fH (w := w) hc0 h3 h5 hg g.frame.fn g.frame.place;exact fin hgo (woken_run h4.running) (.right _ (.left _ _ hlt)) (.j k1 h4 k2)
 · obtain ⟨g', es, kk, hq, hrunT, hm, Cr'⟩ := Cr.leaver hi h0 h1 hg sl w;obtain ⟨ν', hJ'⟩ := hJ.other (g := g) (g' := g') hAr h0 h1 g.frame.fn g.frame.place hm;have hsum := eX (c := c) (by omega) hq;exact ⟨_, _, hst.trans hrunT, .inl ⟨(sumTo c (upd q i kk), ν'), .left _ _ (by omega), _, _, _, w, sl, upd q i kk, ν', rfl, Cr', hJ', rfl⟩⟩
theorem qB (F : Fix Wg C Low Mine p Sh c) (hN : p.N0 ≤ wf.heap.size) (ok1 : ∀ e, EvQ Mine Wg C 1 e → EvB p Sh wf e) (hAr : ∀ g w, AnchW g w → g.status = .running)
   (hAn : ∀ g w, AnchW g w → ∃ m, Goes P true (RPa ty Wg C vals) (DPi Mine Wg C Low) (AtW1 P ty Wg C Low vals Mine AnchW Post) m g w) :
   ∀ (μ : Nat × (Nat × Nat × Nat × Nat)) (M : Machine) (T : Trace), Inv3 P ty Wg C Low vals Mine AnchW Post p Sh c wf μ M T →
     ∃ N M' T', runNT P N M T = (.next M', T') ∧ Done3 P Wg C Low Mine Post Sh c M' T' := by
 intro μ
 induction μ using ltG_wf.induction with
 | _ μ ih =>
   intro M T h;obtain ⟨M', ops, hs, hr⟩ := qA F hN ok1 hAr hAn h;rcases hr with ⟨μ', hlt, hI⟩ | hd
   · obtain ⟨N, M'', T'', hr, hd⟩ := ih μ' hlt M' _ hI;exact ⟨N + 1, M'', T'', by simp only [runNT, hs]; exact hr, hd⟩
   · exact ⟨1, M', T ++ ops, by simp only [runNT, hs], hd⟩
end
open Go.ConcX
open Go.ConcN (sumTo upd sumTo_upd upd_ne upd_same)
section
variable {p : Par} {C Wg : Nat} {w w' : World}
theorem mE (hC : C < p.N0) (hW : Wg < p.N0) (h : Aside2 C Wg w w') (b : Nat) : FA p w' b ↔ FA p w b := by
 constructor
 · rintro ⟨hn, o, ho, hi⟩;exact ⟨hn, o, by rw [← h.block b (by omega) (by omega)]; exact ho, hi⟩
 · rintro ⟨hn, o, ho, hi⟩;exact ⟨hn, o, by rw [h.block b (by omega) (by omega)]; exact ho, hi⟩
theorem jz (hC : C < p.N0) (hW : Wg < p.N0) (h : Aside2 C Wg w w') : Kept p w w' :=
 ⟨Nat.le_of_eq h.size.symm, fun b hb => (mE hC hW h b).2 hb, fun b _ hn hb => hn ((mE hC hW h b).1 hb)⟩
theorem ss (hC : C < p.N0) (hW : Wg < p.N0) (hCs : ∀ i, ¬ p.Still (.cell ⟨C, i, none⟩)) (hWs : ∀ i, ¬ p.Still (.cell ⟨Wg, i, none⟩)) (h : Aside2 C Wg w w') : RA p w w' :=
 ⟨h.tape, h.os, h.output, jz hC hW h, fun b hb => h.block b (by have := hb.1; omega) (by have := hb.1; omega), fun b cs ty fl hs hb => (h.block b (fun e => by obtain ⟨i, hi⟩ := hs; rw [e] at hi; exact hCs i hi) (fun e => by obtain ⟨i, hi⟩ := hs; rw [e] at hi; exact hWs i hi)).trans hb⟩
end
section
variable [Payload] (P : Program) (ty : TypeId) (Wg C Low : Nat) [Shy Wg C] (vals : List Value) (Mine : Loc → Prop) (AnchW : Goroutine → World → Prop) (Post : Value → World → Prop) (p : Par) (Sh : Loc → Prop) (c E Dn : Nat) (zE zD : Value) (PostB : World → Prop)
def AfterD (b : Goroutine) (w : World) : Prop := WgAt ty Wg w KK 0 ∧ ∃ n, Goes P false (RCa ty Wg Low) (DCs Mine Wg C) (AtR0 P ty Wg C Low vals) n b w
def FinW (g : Goroutine) (w : World) : Prop := KPa ty Wg C vals w → ∃ m, Goes P true (RPa ty Wg C vals) (DPi Mine Wg C Low) (AtKd P ty Wg C Low vals Mine AnchW) m g w
inductive Kid : Nat × Nat → Goroutine → World → Trace → Prop
 | ca {b : Goroutine} {w : World} {T : Trace} {rel cl : Bool} {vs : List Value} {d1 rc mc : Nat} : WgAt ty Wg w KK 0 → (rel = true → Full C vals w) → Law Wg p Sh c rel w T 0 d1 → CA P ty Wg C Low vals Mine rc d1 rel vs cl mc b w → Kid (rc, mc) b w T
 | quit {b : Goroutine} {w : World} {T : Trace} {d1 k : Nat} : WgAt ty Wg w 0 0 → Full C vals w → Law Wg p Sh c true w T 0 d1 → QuitsD P k d1 b → Kid (0, k) b w T
def Inv2 (μ : Nat × Nat) (M : Machine) (T : Trace) : Prop :=
 ∃ (gs : Array Goroutine) (a b : Goroutine) (w : World) (sl : Option (Nat × Nat)) (q : Nat → Nat) (k n rc mc : Nat),
   M = crowd gs w sl ∧ Crew P c gs a b T q ∧ w.heap[E]? = some (.chan 0 #[] false k k false) ∧ w.heap[Dn]? = some (.chan 0 #[] true 0 0 false) ∧ PostB w ∧ p.N0 ≤ w.heap.size ∧
   Goes P true (RA p) (DG p E Dn) (StopG P p E Dn zE zD PostB (FinW P ty Wg C Low vals Mine AnchW) []) n a w ∧ Kid P ty Wg C Low vals Mine p Sh c (rc, mc) b w T ∧ μ = (rc, mc + n + sumTo c q)
end
section
variable [Payload] {P : Program} {ty : TypeId} {Wg C Low : Nat} [Shy Wg C] {vals : List Value} {Mine : Loc → Prop} {AnchW : Goroutine → World → Prop} {Post : Value → World → Prop} {p : Par} {Sh : Loc → Prop} {c E Dn : Nat} {zE zD : Value} {PostB : World → Prop}
theorem Kid.status {μ : Nat × Nat} {b : Goroutine} {w : World} {T : Trace} (h : Kid P ty Wg C Low vals Mine p Sh c μ b w T) : b.status = .running ∨ b.status = .finished := by
 cases h with
 | ca _ _ _ h => exact .inl h.running
 | quit _ _ _ h => exact h.status
theorem xL (F : Fix Wg C Low Mine p Sh c) {w w' : World} (hN : p.N0 ≤ w.heap.size) (hR : RB p E Dn w w') (hE : w'.heap[E]? = w.heap[E]?) (hD : w'.heap[Dn]? = w.heap[Dn]?) : RCd Low w w' := fun b hb => by
 by_cases h1 : b = E
 · subst h1; exact hE
 · by_cases h2 : b = Dn
   · subst h2; exact hD
   · have := F.hLow;exact hR.block b (by omega) (fun f => by have := f.1; omega) h1 h2
theorem Kid.caller (F : Fix Wg C Low Mine p Sh c) {μ : Nat × Nat} {b : Goroutine} {w w' : World} {T : Trace} (h : Kid P ty Wg C Low vals Mine p Sh c μ b w T) (hk : Kept p w w') (hR : RCd Low w w') (fn : FuncId) (pos : String) {es : Array Event} (hes : ∀ e ∈ es, EvA p w' e) :
   Kid P ty Wg C Low vals Mine p Sh c μ b w' (T ++ MemOp.ofEvents 0 fn pos es) := by
 cases h with
 | ca h1 h2 h3 h4 => exact .ca (h1.of_block (hR Wg F.hW)) (fun e => (h2 e).of_block (hR C F.hC)) (h3.addA F.hc0 hk F.hSh fn pos hes) (h4.rely (RCd.toA F.hW hR))
 | quit h1 h2 h3 h4 => exact .quit (h1.of_block (hR Wg F.hW)) (h2.of_block (hR C F.hC)) (h3.addA F.hc0 hk F.hSh fn pos hes) h4
theorem qC (F : Fix Wg C Low Mine p Sh c) (hED : E ≠ Dn) (hEW : E ≠ Wg ∧ E ≠ C) (hDW : Dn ≠ Wg ∧ Dn ≠ C) (ok1 : ∀ w, p.N0 ≤ w.heap.size → ∀ e, EvQ Mine Wg C 1 e → EvB p Sh w e)
   (hPb : ∀ w w₁, RB p E Dn w w₁ → PostB w → PostB w₁) (hPc : ∀ w w₁, Aside2 C Wg w w₁ → PostB w → PostB w₁)
   {μ : Nat × Nat} {M : Machine} {T : Trace} (h : Inv2 P ty Wg C Low vals Mine AnchW p Sh c E Dn zE zD PostB μ M T) :
   ∃ M' ops, stepT P M = (.next M', ops) ∧ ((∃ μ', LtP μ' μ ∧ Inv2 P ty Wg C Low vals Mine AnchW p Sh c E Dn zE zD PostB μ' M' (T ++ ops)) ∨
     (∃ wf μ', p.N0 ≤ wf.heap.size ∧ Inv3 P ty Wg C Low vals Mine AnchW Post p Sh c wf μ' M' (T ++ ops))) := by
 obtain ⟨gs, a, b, w₀, sl₀, q, k, n, rc, mc, rfl, Cr, hE₀, hD₀, hP₀, hN₀, hA₀, hK₀, rfl⟩ := h;have hW0 : Wg < p.N0 := Nat.lt_of_lt_of_le F.hW F.hLow;have hC0 : C < p.N0 := Nat.lt_of_lt_of_le F.hC F.hLow;have ra := hA₀.running (fun _ _ => StopG.running) w₀ (RA.refl p w₀);obtain ⟨i, g, d, sl, hi, hg, hst⟩ := crowd_pick (P := P) (w := w₀) (sl := sl₀) (Cr.awake (awake_of (.inl ra)) (awake_of (hK₀.status.elim .inl fun x => .inr (.inr x)))) ⟨0, a, Cr.h0, ra⟩;have hE : (w₀.at d).heap[E]? = some (.chan 0 #[] false k k false) := hE₀;have hD : (w₀.at d).heap[Dn]? = some (.chan 0 #[] true 0 0 false) := hD₀;have hP : PostB (w₀.at d) := hPb _ _ (RB.at p E Dn w₀ d) hP₀;have hN : p.N0 ≤ (w₀.at d).heap.size := hN₀;have hA := Goes.rely RA.trans hA₀ (RA.at p w₀ d);have hK : Kid P ty Wg C Low vals Mine p Sh c (rc, mc) b (w₀.at d) T := by
   cases hK₀ with
   | ca h1 h2 h3 h4 => exact .ca h1 h2 (h3.world (gM p w₀ d)) (h4.rely (RCa.at w₀ d))
   | quit h1 h2 h3 h4 => exact .quit h1 h2 (h3.world (gM p w₀ d)) h4
 generalize w₀.at d = w at *;clear hE₀ hD₀ hP₀ hN₀ hA₀ hK₀;have hs := Cr.size;have hcp := Cr.pos;have hilt : i < gs.size := (Array.getElem?_eq_some_iff.1 hi).1;by_cases h0 : i = 0
 · subst h0;obtain rfl : g = a := by rw [Cr.h0] at hi; exact (Option.some.inj hi).symm
   rcases hA.cases with hstop | ⟨n', rfl, hstep⟩
   · obtain ⟨_, es, hcomm, hev⟩ := (hstop w (RA.refl p w)).sel;have hcomm0 : stepG P (0 == 0) g w = .comm (core g) (selCases E Dn zE zD) true .select w es := hcomm;have none : ∀ ch, partners (gs.setIfInBounds 0 ph) ch true = [] := fun ch => partners_nil fun x y hy => by
       rcases getElem?_stand gs 0 x y hy with ⟨_, rfl⟩ | ⟨hx, hy'⟩
       · exact offersAt_ph _ _
       · by_cases hxc : x = c
         · subst hxc;rw [Cr.hc] at hy';obtain rfl := Option.some.inj hy';exact offersAt_of_not_blocked (fun hb => by rcases hK.status with z | z <;> rw [z] at hb <;> cases hb) _ _
         · exact Cr.noOffer hx hxc hy' _ _
     have hrun := crowd_sel_recv_closed (sl := sl) (k := 1) (c := Dn) (z := zD) hi hcomm0 rfl
       (fun m c' hm hc' => by
         rcases m with _ | _ | m
         · have : c' = rcase E zE := by simpa [selCases] using hc'.symm
           subst this;exact ways_recv_none hE (none E)
         · omega
         · simp [selCases] at hc') hD (none Dn)
     have hfin := (hstop w (RA.refl p w)).nil w (RA.refl p w) hP;have hKa := hK.caller F (Kept.refl p w) (RCd.refl w) g.frame.fn g.frame.place hev
     have hput : Crew P c (gs.setIfInBounds 0 ((core g).finishComm P (selCases E Dn zE zD) .select 1 zD false)) (Conc.served (core g) (commResult (selCases E Dn zE zD) .select 1 zD false)) b
         (T ++ (MemOp.ofEvents 0 g.frame.fn g.frame.place es ++ #[{ g := 0, fn := (core g).frame.fn, pos := (core g).frame.place, act := .recvClosed Dn }])) q :=
       Cr.put (by simp) (by simp [hilt]; rfl) (by rw [Array.getElem?_setIfInBounds_ne (by omega)]; exact Cr.hc) (fun x hx _ => Array.getElem?_setIfInBounds_ne (Ne.symm hx)) (fun op hop => .inl (by
         rcases Array.mem_append.1 hop with x | x
         · exact aO op x
         · have : op = { g := 0, fn := (core g).frame.fn, pos := (core g).frame.place, act := .recvClosed Dn } := by simpa using x
           rw [this]))
     have st1 : ∀ {rel : Bool} {d1 : Nat}, Law Wg p Sh c rel w (T ++ MemOp.ofEvents 0 g.frame.fn g.frame.place es) 0 d1 →
         Law Wg p Sh c rel w (T ++ (MemOp.ofEvents 0 g.frame.fn g.frame.place es ++ #[{ g := 0, fn := (core g).frame.fn, pos := (core g).frame.place, act := .recvClosed Dn }])) 0 d1 := fun hl => by
       rw [← Array.append_assoc];refine hl.still (fun op hop => ?_) (fun op hop => ?_) (fun g' => by rw [Deaf_push]; simp [deafStep])
       · have : op = { g := 0, fn := (core g).frame.fn, pos := (core g).frame.place, act := .recvClosed Dn } := by simpa using hop
         rw [this]; rfl
       · have : op = { g := 0, fn := (core g).frame.fn, pos := (core g).frame.place, act := .recvClosed Dn } := by simpa using hop
         rw [this]; simp
     cases hKa with
     | ca h1 h2 h3 h4 =>
       obtain ⟨m, hm⟩ := hfin (.inl h1);exact ⟨_, _, hst.trans hrun, .inr ⟨w, (sumTo c q, _), hN, _, _, b, w, sl, q, _, rfl, hput, .a h1 h2 (st1 h3) (.kd hm) h4, rfl⟩⟩
     | quit h1 h2 h3 h4 =>
       obtain ⟨m, hm⟩ := hfin (.inr ⟨h1, h2⟩);exact ⟨_, _, hst.trans hrun, .inr ⟨w, (sumTo c q, _), hN, _, _, b, w, sl, q, _, rfl, hput, .c h1 h2 (st1 h3) (.kd hm) h4, rfl⟩⟩
   · obtain ⟨a', w', es, hgo, ⟨hR, hE', hD', hev⟩, hG'⟩ := hstep w (RA.refl p w)
     exact ⟨_, _, hst.trans (runT_crowd_go hi (show stepG P (0 == 0) g w = _ from hgo)), .inl ⟨(rc, mc + n' + sumTo c q), .right _ (by omega), _, a', b, w', sl, q, k, n', rc, mc, rfl,
       Cr.step0 (again_running w' hK.status) aO, hE'.trans hE, hD'.trans hD, hPb _ _ hR hP, Nat.le_trans hN hR.kept.size, hG', hK.caller F hR.kept (xL F hN hR hE' hD') _ _ hev, rfl⟩⟩
 by_cases h1 : i = c
 · subst h1;obtain rfl : g = b := by rw [Cr.hc] at hi; exact (Option.some.inj hi).symm
   have hi0 : (i == 0) = false := by simp [h0]
   have ra' := hA.running (fun _ _ => StopG.running) w (RA.refl p w)
   have fin : ∀ {b' : Goroutine} {w' : World} {es : Array Event} {rc' mc' : Nat}, stepG P false g w = .go b' w' es → Aside2 C Wg w w' → Lt2 (rc', mc') (rc, mc) → Kid P ty Wg C Low vals Mine p Sh i (rc', mc') b' w' (T ++ MemOp.ofEvents i g.frame.fn g.frame.place es) →
       ∃ M' ops, stepT P (crowd gs w₀ sl₀) = (.next M', ops) ∧ ((∃ μ', LtP μ' (rc, mc + n + sumTo i q) ∧ Inv2 P ty Wg C Low vals Mine AnchW p Sh i E Dn zE zD PostB μ' M' (T ++ ops)) ∨
         (∃ wf μ', p.N0 ≤ wf.heap.size ∧ Inv3 P ty Wg C Low vals Mine AnchW Post p Sh i wf μ' M' (T ++ ops))) := by
     intro b' w' es rc' mc' hgo hAs hlt hk;refine ⟨_, _, hst.trans (runT_crowd_go hi (by rw [hi0]; exact hgo)), .inl ⟨(rc', mc' + n + sumTo i q), ?_, _, a, b', w', sl, q, k, n, rc', mc', rfl, Cr.stepc (woken_run ra') aO, ?_, ?_, hPc _ _ hAs hP, by rw [hAs.size]; exact hN, Goes.rely RA.trans hA (ss hC0 hW0 F.hCS (fun i s => F.hSh.ap _ s (F.hSW _ ⟨_, rfl, rfl⟩)) hAs), hk, rfl⟩⟩
     · rcases Prod.lex_def.1 hlt with z | ⟨z1, z2⟩
       · exact .left _ _ z
       · simp only at z1 z2;subst z1;exact .right _ (by omega)
     · rw [hAs.block E hEW.2 hEW.1]; exact hE
     · rw [hAs.block Dn hDW.2 hDW.1]; exact hD
   cases hK with
   | ca h1 h2 h3 h4 =>
     obtain ⟨b', w', es, hgo, hAs, hout⟩ := lH F hN (ok1 w hN) (.inl rfl) h3 h2 h1 h4 g.frame.fn g.frame.place;have hkw := jz hC0 hW0 hAs;cases hout with
     | stay rc' d1' rel' vs' cl' mc' hl k1 k2 k3 k4 => exact fin hgo hAs hl (.ca k1 k2 (k3.world hkw) k4)
     | lone q' _ k1 k2 k3 k4 => exact fin hgo hAs (.left _ _ (by have := h4.rank_pos; omega)) (.quit k1 k2 (k3.world hkw) k4)
     | met _ e _ _ _ _ => exact absurd e kk1_ne
   | quit h1 h2 h3 h4 =>
     obtain ⟨b', es, k', d1', hgo, hlt, k1, k2⟩ := fH (w := w) F.hc0 h3 h4 hg g.frame.fn g.frame.place;exact fin hgo (.refl w) (.right _ hlt) (.quit h1 h2 k1 k2)
 · obtain ⟨g', es, kk, hq, hrunT, hm, Cr'⟩ := Cr.leaver hi h0 h1 hg sl w;have ra' := hA.running (fun _ _ => StopG.running) w (RA.refl p w);rw [woken_run ra', dA (again_running w hK.status)] at Cr';have hsum := eX (c := c) (by omega) hq;have hK' : Kid P ty Wg C Low vals Mine p Sh c (rc, mc) b w (T ++ MemOp.ofEvents i g.frame.fn g.frame.place es) := by
     cases hK with
     | ca k1 k2 k3 k4 => exact .ca k1 k2 (k3.mute h0 h1 _ _ hm) k4
     | quit k1 k2 k3 k4 => exact .quit k1 k2 (k3.mute h0 h1 _ _ hm) k4
   exact ⟨_, _, hst.trans hrunT, .inl ⟨(rc, mc + n + sumTo c (upd q i kk)), .right _ (by omega), _, a, b, w, sl, upd q i kk, k, n, rc, mc, rfl, Cr', hE, hD, hP, hN, hA, hK', rfl⟩⟩
theorem qD (F : Fix Wg C Low Mine p Sh c) (hED : E ≠ Dn) (hEW : E ≠ Wg ∧ E ≠ C) (hDW : Dn ≠ Wg ∧ Dn ≠ C) (ok1 : ∀ w, p.N0 ≤ w.heap.size → ∀ e, EvQ Mine Wg C 1 e → EvB p Sh w e)
   (hPb : ∀ w w₁, RB p E Dn w w₁ → PostB w → PostB w₁) (hPc : ∀ w w₁, Aside2 C Wg w w₁ → PostB w → PostB w₁) :
   ∀ (μ : Nat × Nat) (M : Machine) (T : Trace), Inv2 P ty Wg C Low vals Mine AnchW p Sh c E Dn zE zD PostB μ M T →
     ∃ N M' T' wf μ', runNT P N M T = (.next M', T') ∧ p.N0 ≤ wf.heap.size ∧ Inv3 P ty Wg C Low vals Mine AnchW Post p Sh c wf μ' M' T' := by
 intro μ
 induction μ using Av.induction with
 | _ μ ih =>
   intro M T h;obtain ⟨M', ops, hs, hr⟩ := qC (Post := Post) F hED hEW hDW ok1 hPb hPc h;rcases hr with ⟨μ', hlt, hI⟩ | ⟨wf, μ', hn, hd⟩
   · obtain ⟨N, M'', T'', wf, ν, hr, hd⟩ := ih μ' hlt M' _ hI;exact ⟨N + 1, M'', T'', wf, ν, by simp only [runNT, hs]; exact hr, hd⟩
   · exact ⟨1, M', T ++ ops, wf, μ', by simp only [runNT, hs], hn, hd⟩
theorem mF (F : Fix Wg C Low Mine p Sh c) (hED : E ≠ Dn) (hEW : E ≠ Wg ∧ E ≠ C) (hDW : Dn ≠ Wg ∧ Dn ≠ C) (hDN : Dn < p.N0) (hDS : ∀ l, Sh l → l ≠ .obj Dn) (ok1 : ∀ w, p.N0 ≤ w.heap.size → ∀ e, EvQ Mine Wg C 1 e → EvB p Sh w e)
   (hPb : ∀ w w₁, RB p E Dn w w₁ → PostB w → PostB w₁) (hPc : ∀ w w₁, Aside2 C Wg w w₁ → PostB w → PostB w₁) (hPn : ∀ w, PostB w → p.N0 ≤ w.heap.size)
   (hAr : ∀ g w, AnchW g w → g.status = .running) (hAn : ∀ g w, AnchW g w → ∃ m, Goes P true (RPa ty Wg C vals) (DPi Mine Wg C Low) (AtW1 P ty Wg C Low vals Mine AnchW Post) m g w)
   (μ : Nat × Nat) (M : Machine) (T : Trace) (h : Inv1 P p Sh E Dn zE zD PostB (AfterD P ty Wg C Low vals Mine) (FinW P ty Wg C Low vals Mine AnchW) c μ M T) :
   ∃ N M' T', runNT P N M T = (.next M', T') ∧ Done3 P Wg C Low Mine Post Sh c M' T' := by
 obtain ⟨N1, M1, T1, r1, gs, a, b, w, sl, q, k, rfl, Cr, hT, hE, hD, hP, hG, ⟨hwg, nb, hB⟩, hbr⟩ := qx hED F.hc0 hDN F.hSh hDS hPb μ M T h;obtain ⟨n, hG⟩ := (cJ _ _ _ _ _ _ _ _ _ _ _).1 hG
 have hI : Inv2 P ty Wg C Low vals Mine AnchW p Sh c E Dn zE zD PostB (7, nb + n + sumTo c q) (crowd gs w sl) T1 :=
   ⟨gs, a, b, w, sl, q, k, n, 7, nb, rfl, Cr, hE, hD, hP, hPn w hP, hG, .ca (rel := false) hwg (fun e => by cases e) ⟨hT, rfl⟩ (.r0 hB), rfl⟩
 obtain ⟨N2, M2, T2, wf, ν, r2, hn, hI3⟩ := qD (Post := Post) F hED hEW hDW ok1 hPb hPc _ _ _ hI;obtain ⟨N3, M3, T3, r3, hd⟩ := qB F hn (ok1 wf hn) hAr hAn _ _ _ hI3;refine ⟨N1 + N2 + N3, M3, T3, ?_, hd⟩;rw [runNT_add, runNT_add, r1];simp only [r2];exact r3
end
open Go.ConcX
open Go.ConcN (sumTo upd sumTo_upd upd_ne upd_same)
def EvP (Sh : Loc → Prop) (e : Event) : Prop := (∀ x, (MemAct.ofEvent e).touch? = some x → Sh x.loc → x.kind ≠ .plain) ∧ (e.loc ≠ .mark .disable ∧ e.loc ≠ .mark .enable)
section
variable {Sh : Loc → Prop} {t : Trace} {d₀ : Nat}
theorem Past0.own (h : Past0 Sh t d₀) (fn : FuncId) (pos : String) {es : Array Event} (hes : ∀ e ∈ es, EvP Sh e) : Past0 Sh (t ++ MemOp.ofEvents 0 fn pos es) d₀ := by
 refine ⟨fun said => noRace_append (h.clean said) aO fun i a ha op hop b hb hc => ?_, fun i a ha hm => ?_, handedOver_app h.over fun op hop => .inl (aO op hop), (dz (fun e he => (hes e he).2) t 0 fn pos 0).trans h.hears⟩
 · obtain ⟨e, he, rfl⟩ := Conc.mem_ofEvents hop;rcases h.known i a ha hc.2.1 with x | ⟨s, hk⟩
   · exact x
   · have hkb := (hes e he).1 b hb (hc.1 ▸ s);obtain ⟨_, _, _, hcase⟩ := hc;rw [hk] at hcase;rcases hcase with z | z | ⟨_, z, _⟩
     · cases z
     · exact absurd z hkb
     · cases z
 · obtain ⟨x, hx, hxa⟩ := touch_of ha;rcases getElem?_append_cases hx with ⟨hi, hx'⟩ | ⟨_, hxu⟩
   · exact (h.known i a (by rw [touchAt_of hx']; exact hxa) hm).imp (·.app _) id
   · have hxg := g?_new hx;rw [aO x hxu] at hxg;exact .inl (cw hxg)
theorem Past0.mute (h : Past0 Sh t d₀) {g : Nat} (hg : g ≠ 0) (fn : FuncId) (pos : String) {es : Array Event} (hm : ∀ e ∈ es, e.mute = true) : Past0 Sh (t ++ MemOp.ofEvents g fn pos es) d₀ := by
 have hu := gq (g := g) (fn := fn) (pos := pos) hm;refine ⟨fun said => cS (h.clean said) hu, fun i a ha hm' => ?_, handedOver_app h.over fun op hop => .inr (hu op hop), (Deaf_other t hg _ aO).trans h.hears⟩;obtain ⟨x, hx, hxa⟩ := touch_of ha;rcases getElem?_append_cases hx with ⟨hi, hx'⟩ | ⟨_, hxu⟩
 · exact (h.known i a (by rw [touchAt_of hx']; exact hxa) hm').imp (·.app _) id
 · rw [hu x hxu] at hxa; cases hxa
theorem Past0.word (h : Past0 Sh t d₀) (fn : FuncId) (pos : String) {m : Mark} (hm : m = .disable ∨ m = .enable) : Past0 Sh (t ++ MemOp.ofEvents 0 fn pos #[ConcX.mk m]) (deafBehind d₀ #[ConcX.mk m]) := by
 have hu : ∀ op ∈ MemOp.ofEvents 0 fn pos #[ConcX.mk m], op.act.touch? = none := fun op hop => by
   obtain ⟨e, he, rfl⟩ := Conc.mem_ofEvents hop;rw [Array.mem_singleton] at he;subst he;rcases hm with rfl | rfl <;> rfl
 refine ⟨fun said => cS (h.clean said) hu, fun i a ha hm' => ?_, handedOver_app h.over fun op hop => .inl (aO op hop), by rw [Deaf_own, h.hears]⟩;obtain ⟨x, hx, hxa⟩ := touch_of ha;rcases getElem?_append_cases hx with ⟨hi, hx'⟩ | ⟨_, hxu⟩
 · exact (h.known i a (by rw [touchAt_of hx']; exact hxa) hm').imp (·.app _) id
 · rw [hu x hxu] at hxa; cases hxa
theorem qE : Past0 Sh #[] :=
 ⟨fun said => by rintro ⟨i, j, _, ⟨a, b, ha, _⟩, _⟩; simp [Trace.act?] at ha, fun i a ha => by simp [touchAt, Trace.act?] at ha, fun i g hg => by simp [Trace.g?] at hg, rfl⟩
end
section
variable {P : Program} {Sh : Loc → Prop} {D : World → World → Array Event → Prop} {Stop : Goroutine → World → Prop}
theorem mG {d₀ : Nat} (hSr : ∀ g w, Stop g w → g.status = .running) (hD : ∀ w w' es, D w w' es → ∀ e ∈ es, EvP Sh e) :
   ∀ (M n : Nat) (gs : Array Goroutine) (a : Goroutine) (w : World) (sl : Option (Nat × Nat)) (t : Trace) (q : Nat → Nat), n + sumTo gs.size q = M → gs[0]? = some a → Leavers P t gs q → Past0 Sh t d₀ →
     Goes P true AtRel D Stop n a w →
     ∃ (N : Nat) (gs' : Array Goroutine) (a' : Goroutine) (w' : World) (sl' : Option (Nat × Nat)) (t' : Trace) (q' : Nat → Nat) (d : Nat) (sl'' : Option (Nat × Nat)),
       runNT P N (crowd gs w sl) t = (.next (crowd gs' w' sl'), t') ∧ gs'.size = gs.size ∧ gs'[0]? = some a' ∧ Leavers P t' gs' q' ∧ Past0 Sh t' d₀ ∧ Stop a' (w'.at d) ∧ stepT P (crowd gs' w' sl') = runT P (crowd gs' (w'.at d) sl'') 0 := by
 intro M
 induction M using Nat.strongRecOn with
 | _ M ih =>
   intro n gs a w sl T q hM h0 hL hP hG;have hrun : a.status = .running := hG.running hSr w (atRel_refl w);have hpos : 0 < gs.size := (Array.getElem?_eq_some_iff.1 h0).1;have haw : ∀ g ∈ gs, awake g := by
     intro g hg;obtain ⟨i, hi, rfl⟩ := Array.mem_iff_getElem.1 hg;rcases Nat.eq_zero_or_pos i with rfl | hp
     · have : gs[0] = a := by simpa [Array.getElem?_eq_getElem hi] using h0
       rw [this]; exact awake_of (.inl hrun)
     · exact awake_of ((hL.old i _ hp (Array.getElem?_eq_getElem hi)).status.elim .inl fun x => .inr (.inr x))
   obtain ⟨i, g, d, sl', hi, hg, hst⟩ := crowd_pick (P := P) (w := w) (sl := sl) haw ⟨0, a, h0, hrun⟩;rcases Nat.eq_zero_or_pos i with rfl | hp
   · obtain rfl : g = a := by rw [h0] at hi; exact (Option.some.inj hi).symm
     rcases hG.cases with hstop | ⟨n', rfl, hstep⟩
     · exact ⟨0, gs, g, w, sl, T, q, d, sl', rfl, rfl, h0, hL, hP, hstop (w.at d) ⟨d, rfl⟩, hst⟩
     · obtain ⟨a', w', es, hgo, hd, hG'⟩ := hstep (w.at d) ⟨d, rfl⟩;have hrunT := runT_crowd_go (P := P) (sl := sl') (i := 0) hi (show stepG P (0 == 0) g (w.at d) = _ from hgo);have hsz : ((gs.map (Go.Conc.woken P g a' w')).setIfInBounds 0 a').size = gs.size := by simp
       have hL' : Leavers P (T ++ MemOp.ofEvents 0 g.frame.fn g.frame.place es) ((gs.map (Go.Conc.woken P g a' w')).setIfInBounds 0 a') q :=
         ⟨fun j x hj hx => by
           rw [Array.getElem?_setIfInBounds_ne (by omega), Array.getElem?_map] at hx;obtain ⟨y, hy, rfl⟩ := Option.map_eq_some_iff.1 hx;have hq := hL.old j y hj hy;rw [woken_quitsD hq, Deaf_other T (g' := 0) (by omega) _ aO];exact hq,
          fun j hj => by
           have hj' : gs.size ≤ j := by simpa using hj
           rw [Deaf_other T (g' := 0) (by omega) _ aO];exact hL.above j hj'⟩
       obtain ⟨N, gs', a'', w'', sl₂, T', q', d', sl₃, hr, hs', h0', hL2, hP2, hS, hst'⟩ := ih (n' + sumTo gs.size q) (by omega) n' ((gs.map (Go.Conc.woken P g a' w')).setIfInBounds 0 a') a' w' sl'
         (T ++ MemOp.ofEvents 0 g.frame.fn g.frame.place es) q (by rw [hsz]) (by simp [hpos]) hL' (hP.own _ _ (hD _ _ _ hd)) hG'
       exact ⟨N + 1, gs', a'', w'', sl₂, T', q', d', sl₃, by simp only [runNT, hst, hrunT]; exact hr, hs'.trans hsz, h0', hL2, hP2, hS, hst'⟩
   · have hq := hL.old i g hp hi;have hi0 : (i == 0) = false := by simp; omega
     have hlt : i < gs.size := (Array.getElem?_eq_some_iff.1 hi).1;cases hqi : q i with
     | zero => rw [hqi] at hq; rw [hq.1] at hg; cases hg
     | succ k =>
       rw [hqi] at hq;rcases hq with ⟨hf, _⟩ | ⟨_, g', es, hm, hstp, hq'⟩
       · rw [hf] at hg; cases hg
       have hrunT := runT_crowd_go (P := P) (sl := sl') (i := i) hi (by rw [hi0]; exact hstp (w.at d));have hsz : ((gs.map (Go.Conc.woken P g g' (w.at d))).setIfInBounds i g').size = gs.size := by simp
       have hsum := eX (c := gs.size) hlt hqi
       obtain ⟨N, gs', a'', w'', sl₂, T', q', d', sl₃, hr, hs', h0', hL2, hP2, hS, hst'⟩ := ih (n + sumTo gs.size (upd q i k)) (by omega) n ((gs.map (Go.Conc.woken P g g' (w.at d))).setIfInBounds i g') a (w.at d) sl'
         (T ++ MemOp.ofEvents i g.frame.fn g.frame.place es) (upd q i k) (by rw [hsz])
         (by rw [Array.getElem?_setIfInBounds_ne (by omega), Array.getElem?_map, h0]; simp [woken_run hrun])
         ⟨fun j x hj hx => by
           by_cases hji : i = j
           · subst hji;rw [Array.getElem?_setIfInBounds_self_of_lt (by simpa using hlt)] at hx;obtain rfl := Option.some.inj hx;rw [upd_same, Deaf_own];exact hq'
           · rw [Array.getElem?_setIfInBounds_ne hji, Array.getElem?_map] at hx;obtain ⟨y, hy, rfl⟩ := Option.map_eq_some_iff.1 hx;have hqj := hL.old j y hj hy;rw [woken_quitsD hqj, upd_ne q k (Ne.symm hji), Deaf_other T hji _ aO];exact hqj,
          fun j hj => by
           have hj' : gs.size ≤ j := by simpa using hj
           rw [Deaf_other T (g' := i) (by omega) _ aO];exact hL.above j hj'⟩
         (hP.mute (by omega) _ _ hm) (Goes.rely atRel_trans hG ⟨d, rfl⟩)
       exact ⟨N + 1, gs', a'', w'', sl₂, T', q', d', sl₃, by simp only [runNT, hst, hrunT]; exact hr, hs'.trans hsz, h0', hL2, hP2, hS, hst'⟩
theorem Aw {d₀ : Nat} {m : Mark} {Next : Goroutine → World → Prop} (hm : m = .disable ∨ m = .enable) (hD : ∀ w w' es, D w w' es → ∀ e ∈ es, EvP Sh e) {gs : Array Goroutine} {a : Goroutine} {w : World} {sl : Option (Nat × Nat)} {t : Trace} {q : Nat → Nat} {n : Nat}
   (h0 : gs[0]? = some a) (hL : Leavers P t gs q) (hP : Past0 Sh t d₀) (hG : Goes P true AtRel D (AtMkS P m Next) n a w) :
   ∃ (N : Nat) (gs' : Array Goroutine) (a' : Goroutine) (w' : World) (sl' : Option (Nat × Nat)) (t' : Trace) (q' : Nat → Nat),
     runNT P N (crowd gs w sl) t = (.next (crowd gs' w' sl'), t') ∧ gs'.size = gs.size ∧ gs'[0]? = some a' ∧ Leavers P t' gs' q' ∧ Past0 Sh t' (deafBehind d₀ #[mk m]) ∧ Next a' w' := by
 obtain ⟨N, gs', a', w', sl', t', q', d, sl'', hr, hsz, h0', hL', hP', ⟨hrun, g', hgo, hnext⟩, hst⟩ := mG (fun _ _ h => h.1) hD _ n gs a w sl t q rfl h0 hL hP hG;have hpos : 0 < gs'.size := (Array.getElem?_eq_some_iff.1 h0').1;have hrunT := runT_crowd_go (P := P) (sl := sl'') (i := 0) h0' (show stepG P (0 == 0) a' (w'.at d) = _ from hgo);refine ⟨N + 1, (gs'.map (Go.Conc.woken P a' g' (w'.at d))).setIfInBounds 0 g', g', w'.at d, sl'', _, q', ?_, by simp [hsz], by simp [hpos], ⟨fun j x hj hx => ?_, fun j hj => ?_⟩, hP'.word a'.frame.fn a'.frame.place hm, hnext⟩
 · rw [runNT_add, hr]; simp only [runNT, hst, hrunT]
 · rw [Array.getElem?_setIfInBounds_ne (by omega), Array.getElem?_map] at hx;obtain ⟨y, hy, rfl⟩ := Option.map_eq_some_iff.1 hx;have hq := hL'.old j y hj hy;rw [woken_quitsD hq, Deaf_other t' (g' := 0) (by omega) _ aO];exact hq
 · have hj' : gs'.size ≤ j := by simpa using hj
   rw [Deaf_other t' (g' := 0) (by omega) _ aO];exact hL'.above j hj'
def AtEnd0 (P : Program) (Sh : Loc → Prop) (Post : Value → World → Prop) (g : Goroutine) (w : World) : Prop :=
 g.status = .running ∧ ∃ v es, stepG P true g w = .ended (.done v) w es ∧ (∀ e ∈ es, EvP Sh e) ∧ Post v w
theorem yY {Post : Value → World → Prop} (hD : ∀ w w' es, D w w' es → ∀ e ∈ es, EvP Sh e) {gs : Array Goroutine} {a : Goroutine} {w : World} {sl : Option (Nat × Nat)} {t : Trace} {q : Nat → Nat} {n : Nat}
   (h0 : gs[0]? = some a) (hL : Leavers P t gs q) (hP : Past0 Sh t) (hG : Goes P true AtRel D (AtEnd0 P Sh Post) n a w) :
   ∃ N last o w' t', runNT P (N + 1) (crowd gs w sl) t = (.ended o w', t') ∧ runN P N (crowd gs w sl) = .next last ∧ step P last = .ended o w' ∧ Good P Post last o w' t' := by
 obtain ⟨N, gs', a', w', sl', t', q', d, sl'', hr, hsz, h0', hL', hP', ⟨hrun, v, es, hend, hes, hpost⟩, hst⟩ := mG (fun _ _ h => h.1) hD _ n gs a w sl t q rfl h0 hL hP hG;have hone : runT P (crowd gs' (w'.at d) sl'') 0 = (.ended (.done v) (w'.at d), MemOp.ofEvents 0 a'.frame.fn a'.frame.place es) := by
   obtain ⟨hlt, rfl⟩ := Array.getElem?_eq_some_iff.1 h0';have hsw := swapAt_of_lt hlt { (default : Goroutine) with status := .finished };show runT P { world := w'.at d, gs := gs', rest := { timers := #[], alone := none, slice := sl'' } } 0 = _;unfold runT;simp only [hsw, beq_self_eq_true, hend, GStep.es]
 have hP2 := hP'.own a'.frame.fn a'.frame.place hes;refine ⟨N, crowd gs' w' sl', .done v, w'.at d, t' ++ MemOp.ofEvents 0 a'.frame.fn a'.frame.place es, ?_, ?_, ?_, v, rfl, hpost, hP2.clean, hP2.over, ⟨fun g hg => ?_, rfl⟩, fun i g hi hne => ?_⟩
 · rw [runNT_add, hr]; simp only [runNT, hst, hone]
 · rw [← runNT_fst P _ _ t, hr]
 · unfold step; rw [hst, hone]
 · obtain ⟨i, hi⟩ := List.mem_iff_getElem?.1 hg;rw [List.getElem?_drop] at hi;have hi' : gs'[1 + i]? = some g := by simpa [crowd] using hi
   exact ⟨_, (hL'.old (1 + i) g (by omega) hi').leaves⟩
 · have hi' : gs'[i]? = some g := hi;have hq := hL'.old i g (by omega) hi';have hd : (t' ++ MemOp.ofEvents 0 a'.frame.fn a'.frame.place es).deaf i (t' ++ MemOp.ofEvents 0 a'.frame.fn a'.frame.place es).size = Deaf t' i := Deaf_other t' (g' := 0) (by omega) _ aO;rw [hd];exact ⟨_, hq.hears _⟩
def AtFork (P : Program) (Sh : Loc → Prop) (K : Goroutine → Goroutine → World → Prop) (g : Goroutine) (w : World) : Prop :=
 g.status = .running ∧ ∃ g' child es, stepG P true g w = .spawn g' child w es ∧ (∀ e ∈ es, EvP Sh e) ∧ K g' child w
theorem qF {p : Par} {Sh Sh' : Loc → Prop} {c : Nat} {w : World} {t : Trace} (h : Past0 Sh t) (hs : ∀ l, Sh l → Sh' l) (hc : Deaf t c = 0) (f1 f2 : FuncId) (p1 p2 : String) :
   Talk p Sh' c w (t ++ #[{ g := 0, fn := f1, pos := p1, act := .go c }, { g := c, fn := f2, pos := p2, act := .start }]) 0 := by
 have hu : ∀ op ∈ (#[{ g := 0, fn := f1, pos := p1, act := .go c }, { g := c, fn := f2, pos := p2, act := .start }] : Trace), op.act.touch? = none := by
   intro op hop;simp only [List.mem_toArray, List.mem_cons, List.not_mem_nil, or_false] at hop;rcases hop with rfl | rfl <;> rfl
 have hd : ∀ g, Deaf (t ++ #[{ g := 0, fn := f1, pos := p1, act := .go c }, { g := c, fn := f2, pos := p2, act := .start }]) g = Deaf t g := fun g => by
   rw [show (#[{ g := 0, fn := f1, pos := p1, act := .go c }, { g := c, fn := f2, pos := p2, act := .start }] : Trace) = ([{ g := 0, fn := f1, pos := p1, act := .go c }, { g := c, fn := f2, pos := p2, act := .start }] : List MemOp).toArray from rfl, Deaf_append];simp [deafStep]
 generalize hgen : (#[{ g := 0, fn := f1, pos := p1, act := .go c }, { g := c, fn := f2, pos := p2, act := .start }] : Trace) = u at hu hd;have h1 : (t ++ u)[t.size]? = some { g := 0, fn := f1, pos := p1, act := .go c } := by subst hgen; simp
 have h2 : (t ++ u)[t.size + 1]? = some { g := c, fn := f2, pos := p2, act := .start } := by subst hgen; simp
 have e1 : (t ++ u).heard t.size := ⟨0, by simp [Trace.g?, h1], by rw [deaf_old (Nat.le_refl _)]; exact h.hears⟩;have e2 : (t ++ u).heard (t.size + 1) := ⟨c, by simp [Trace.g?, h2], by rw [deaf_succ h1, deaf_old (Nat.le_refl _)]; simp [deafStep]; exact hc⟩;have edge : HappensBefore (t ++ u) t.size (t.size + 1) := .single (.inr ⟨.spawn (child := c) (by rw [act?_of h1]) (by rw [act?_of h2]) (by simp [Trace.g?, h2]), e1, e2⟩);refine ⟨⟨fun said => cS (h.clean said) hu, fun i a ha hm => ?_, fun i g hg h0 _ hcn => ?_⟩, (hd 0).trans h.hears, (hd c).trans hc⟩
 · obtain ⟨x, hx, hxa⟩ := touch_of ha;rcases getElem?_append_cases hx with ⟨hi, hx'⟩ | ⟨_, hxu⟩
   · rcases h.known i a (by rw [touchAt_of hx']; exact hxa) hm with k | ⟨s, hk⟩
     · exact .inl ⟨k.app u, t.size + 1, _, h2, rfl, .inr ((k.hb_new (Nat.le_refl _) h1 rfl).trans edge)⟩
     · exact .inr (.inl ⟨hs _ s, .inl hk⟩)
   · rw [hu x hxu] at hxa; cases hxa
 · exact (handedOver_app h.over fun op hop => .inr (hu op hop)) i g hg h0 hcn
theorem qG {K : Goroutine → Goroutine → World → Prop} {Sh' : Loc → Prop} {p : Par} (hs : ∀ l, Sh l → Sh' l) (hD : ∀ w w' es, D w w' es → ∀ e ∈ es, EvP Sh e) {gs : Array Goroutine} {a : Goroutine} {w : World} {sl : Option (Nat × Nat)} {t : Trace} {q : Nat → Nat} {n : Nat}
   (h0 : gs[0]? = some a) (hL : Leavers P t gs q) (hP : Past0 Sh t) (hG : Goes P true AtRel D (AtFork P Sh K) n a w) :
   ∃ (N : Nat) (gs' : Array Goroutine) (a' b' : Goroutine) (w' : World) (sl' : Option (Nat × Nat)) (t' : Trace) (q' : Nat → Nat),
     runNT P N (crowd gs w sl) t = (.next (crowd gs' w' sl'), t') ∧ Crew P gs.size gs' a' b' t' q' ∧ Talk p Sh' gs.size w' t' 0 ∧ K a' b' w' := by
 obtain ⟨N, gs', a', w', sl', t', q', d, sl'', hr, hsz, h0', hL', hP', ⟨hrun, g', child, es, hsp, hes, hK⟩, hst⟩ := mG (fun _ _ h => h.1) hD _ n gs a w sl t q rfl h0 hL hP hG;have hpos : 0 < gs'.size := (Array.getElem?_eq_some_iff.1 h0').1;have hone := runT_crowd_spawn (P := P) (sl := sl'') (i := 0) h0' (show stepG P (0 == 0) a' (w'.at d) = _ from hsp);have hP2 := hP'.own a'.frame.fn a'.frame.place hes;have hda : ∀ j, j ≠ 0 → Deaf (t' ++ MemOp.ofEvents 0 a'.frame.fn a'.frame.place es) j = Deaf t' j := fun j hj => Deaf_other t' (Ne.symm hj) _ aO;have hT := qF (p := p) (w := w'.at d) (c := gs.size) hP2 hs (by rw [hda _ (by omega)]; exact hL'.above _ (by omega)) a'.frame.fn child.frame.fn a'.frame.place a'.frame.place
 have eT : t' ++ ((MemOp.ofEvents 0 a'.frame.fn a'.frame.place es).push { g := 0, fn := a'.frame.fn, pos := a'.frame.place, act := .go gs'.size }).push { g := gs'.size, fn := child.frame.fn, pos := a'.frame.place, act := .start }
     = t' ++ MemOp.ofEvents 0 a'.frame.fn a'.frame.place es ++ #[{ g := 0, fn := a'.frame.fn, pos := a'.frame.place, act := .go gs.size }, { g := gs.size, fn := child.frame.fn, pos := a'.frame.place, act := .start }] := by
   rw [hsz]; apply Array.ext'; simp
 have hd2 : ∀ g, Deaf (t' ++ MemOp.ofEvents 0 a'.frame.fn a'.frame.place es ++ #[{ g := 0, fn := a'.frame.fn, pos := a'.frame.place, act := .go gs.size }, { g := gs.size, fn := child.frame.fn, pos := a'.frame.place, act := .start }]) g = Deaf (t' ++ MemOp.ofEvents 0 a'.frame.fn a'.frame.place es) g := fun g => by
   rw [show (#[{ g := 0, fn := a'.frame.fn, pos := a'.frame.place, act := .go gs.size }, { g := gs.size, fn := child.frame.fn, pos := a'.frame.place, act := .start }] : Trace) = ([{ g := 0, fn := a'.frame.fn, pos := a'.frame.place, act := .go gs.size }, { g := gs.size, fn := child.frame.fn, pos := a'.frame.place, act := .start }] : List MemOp).toArray from rfl, Deaf_append];simp [deafStep]
 refine ⟨N + 1, (gs'.setIfInBounds 0 g').push child, g', child, w'.at d, sl'', _, q', ?_, ⟨by simp [hsz], by omega, ?_, ?_, fun i g hi hic hg => ?_, fun j hj => ?_⟩, hT, hK⟩
 · rw [runNT_add, hr]; simp only [runNT, hst, hone, eT]
 · rw [Array.getElem?_push_lt (by simpa using hpos)]; simp
 · have e : gs.size = (gs'.setIfInBounds 0 g').size := by simp [hsz]
   rw [e, Array.getElem?_push_size]
 · have hx : gs'[i]? = some g := by
     rw [Array.getElem?_push, if_neg (by simp; omega), Array.getElem?_setIfInBounds_ne (by omega)] at hg;exact hg
   rw [hd2, hda i (by omega)];exact hL'.old i g hi hx
 · rw [hd2, hda j (by omega)];exact hL'.above j (by omega)
end
section
variable [Payload] {P : Program} {ty : TypeId} {Wg C Low : Nat} [Shy Wg C] {vals : List Value} {Mine : Loc → Prop} {AnchW : Goroutine → World → Prop} {Post : Value → World → Prop} {p : Par} {Sh Sh' : Loc → Prop} {E Dn : Nat} {zE zD : Value} {PostB : World → Prop} {D : World → World → Array Event → Prop}
def Both (P : Program) (ty : TypeId) (Wg C Low : Nat) [Shy Wg C] (vals : List Value) (Mine : Loc → Prop) (AnchW : Goroutine → World → Prop) (p : Par) (Sh' : Loc → Prop) (E Dn : Nat) (zE zD : Value) (PostB : World → Prop) (a b : Goroutine) (w : World) : Prop :=
 ∃ vs, w.heap[E]? = some (.chan 0 #[] false 0 0 false) ∧ w.heap[Dn]? = some (.chan 0 #[] false 0 0 false) ∧ Gathers P p E Dn zE zD PostB (FinW P ty Wg C Low vals Mine AnchW) vs a w ∧ Tells P p Sh' E Dn PostB (AfterD P ty Wg C Low vals Mine) vs b w
theorem xM (hs : ∀ l, Sh l → Sh' l) (hF : ∀ c, c ≠ 0 → Fix Wg C Low Mine p Sh' c) (hED : E ≠ Dn) (hEW : E ≠ Wg ∧ E ≠ C) (hDW : Dn ≠ Wg ∧ Dn ≠ C) (hDN : Dn < p.N0) (hDS : ∀ l, Sh' l → l ≠ .obj Dn) (ok1 : ∀ w, p.N0 ≤ w.heap.size → ∀ e, EvQ Mine Wg C 1 e → EvB p Sh' w e)
   (okJ : ∀ e, EvJ Mine Wg C e → EvP Sh' e)
   (hPb : ∀ w w₁, RB p E Dn w w₁ → PostB w → PostB w₁) (hPc : ∀ w w₁, Aside2 C Wg w w₁ → PostB w → PostB w₁) (hPn : ∀ w, PostB w → p.N0 ≤ w.heap.size)
   (hAr : ∀ g w, AnchW g w → g.status = .running) (hAn : ∀ g w, AnchW g w → ∃ m, Goes P true (RPa ty Wg C vals) (DPi Mine Wg C Low) (AtW1 P ty Wg C Low vals Mine AnchW Post) m g w)
   (hD : ∀ w w' es, D w w' es → ∀ e ∈ es, EvP Sh e) {gs : Array Goroutine} {a : Goroutine} {w : World} {sl : Option (Nat × Nat)} {t : Trace} {q : Nat → Nat} {n : Nat}
   (h0 : gs[0]? = some a) (hL : Leavers P t gs q) (hP : Past0 Sh t) (hG : Goes P true AtRel D (AtFork P Sh (Both P ty Wg C Low vals Mine AnchW p Sh' E Dn zE zD PostB)) n a w) :
   ∃ (N : Nat) (gs' : Array Goroutine) (a' : Goroutine) (w' : World) (sl' : Option (Nat × Nat)) (t' : Trace) (q' : Nat → Nat),
     runNT P N (crowd gs w sl) t = (.next (crowd gs' w' sl'), t') ∧ gs'.size = gs.size + 1 ∧ gs'[0]? = some a' ∧ a'.status = .running ∧ (∃ d, Shy.stop Wg C a' (w'.at d)) ∧ Leavers P t' gs' q' ∧ Past0 Sh' t' := by
 have hpos : 0 < gs.size := (Array.getElem?_eq_some_iff.1 h0).1;obtain ⟨N1, gs1, a1, b1, w1, sl1, t1, q1, r1, Cr, hT, vs, hE, hDn, hA, hB⟩ := qG (p := p) (sl := sl) hs hD h0 hL hP hG;obtain ⟨nA, hA⟩ := (cJ _ _ _ _ _ _ _ _ _ _ _).1 hA;obtain ⟨nB, hB⟩ := (eJ _ _ _ _ _ _ _ _ _ _).1 hB
 obtain ⟨N2, M2, t2, r2, gs2, a2, b2, w2, sl2, q2, k, m, rfl, Cr2, hP2, hq2, hG2⟩ := mF (hF gs.size (by omega)) hED hEW hDW hDN hDS ok1 hPb hPc hPn hAr hAn _ _ _
   (⟨gs1, a1, b1, w1, sl1, q1, vs, 0, nA + 1, nB + 1, rfl, Cr, hT, hE, hDn, .inl ⟨nA, rfl, hA⟩, .inl ⟨nB, rfl, hB⟩, by omega, rfl⟩ : Inv1 P p Sh' E Dn zE zD PostB (AfterD P ty Wg C Low vals Mine) (FinW P ty Wg C Low vals Mine AnchW) gs.size _ (crowd gs1 w1 sl1) t1)
 have hL2 : Leavers P t2 gs2 (upd q2 gs.size k) := ⟨fun i g hi hg => by
     by_cases e : i = gs.size
     · subst e;rw [Cr2.hc] at hg;obtain rfl := Option.some.inj hg;rw [upd_same]; exact hq2
     · have hlt := (Array.getElem?_eq_some_iff.1 hg).1;rw [upd_ne _ _ e];exact Cr2.old i g hi (by have := Cr2.size; omega) hg,
   fun j hj => Cr2.above j (by have := Cr2.size; omega)⟩
 obtain ⟨N3, gs3, a3, w3, sl3, t3, q3, d, sl4, r3, z3, h03, hL3, hP3, hS, _⟩ := mG (fun _ _ h => h.1) (fun _ _ _ hd e he => okJ e (hd.2 e he)) _ m gs2 a2 w2 sl2 t2 _ rfl Cr2.h0 hL2 hP2 hG2;refine ⟨N1 + N2 + N3, gs3, a3, w3, sl3, t3, q3, ?_, by have := Cr2.size; omega, h03, hS.1, ⟨d, hS.2⟩, hL3, hP3⟩;rw [runNT_add, runNT_add, r1];simp only [r2];exact r3
end
end Go.Hx
namespace Go.Hx
open Go.Conc Go.RowKit
variable {p : Par} {Sh : Loc → Prop} {E Dn : Nat} {w w₁ w' : World}
theorem dZ (p : Par) (Sh : Loc → Prop) (E Dn : Nat) : Terms (RB p E Dn) (DT p Sh E Dn) := ⟨RB.trans, fun w => ⟨RA.refl p w, rfl, rfl, by simp⟩⟩
def Has (b : Nat) (ty : TypeId) (cs : Array Value) (w : World) : Prop := w.heap[b]? = some (.cells cs ty (0, 0))
theorem eK (w : World) (o : Obj) {b : Nat} (h : b ≠ w.heap.size) : (w.alloc o).heap[b]? = w.heap[b]? := by
 show (w.heap.push o)[b]? = w.heap[b]?;rw [Array.getElem?_push, if_neg h]
theorem qH (w : World) (o : Obj) : (w.alloc o).heap[w.heap.size]? = some o := by
 show (w.heap.push o)[w.heap.size]? = some o;simp
theorem gy (w : World) (o : Obj) : (w.alloc o).heap.size = w.heap.size + 1 := by
 show (w.heap.push o).size = w.heap.size + 1;simp
theorem fo (w : World) (a : Addr) (v : Value) {b : Nat} (h : b ≠ a.block) : (w.setCell a v).heap[b]? = w.heap[b]? := by
 simp [World.setCell, Array.getElem?_modify, Ne.symm h]
theorem jl {es : Array Event} (hes : ∀ e ∈ es, EvB p Sh w e) : DT p Sh E Dn w w es := ⟨RA.refl p w, rfl, rfl, hes⟩
end Go.Hx
namespace Go.Hx
open Go.Conc
end Go.Hx
namespace Go.Hx
open Go.Conc Go.RowKit
section
variable {P : Program} {main : Bool} {R : World → World → Prop} {D : World → World → Array Event → Prop} {fn : FuncId} {Q : Exit → Act → World → Prop} {a : Act} {w : World}
def LoopC (P : Program) (main : Bool) (R : World → World → Prop) (D : World → World → Array Event → Prop) (fn : FuncId) (c : Code) (n : Nat) (Q : Exit → Act → World → Prop) (a : Act) (w : World) : Prop :=
 ∀ (b : Frame) (k : List Item) (cs : List Frame) (Stop : Goroutine → World → Prop) (m : Nat), b.fn = fn → b.kind ≠ .early →
   (∀ e a' w', Q e a' w' → After P main R D Stop m b k cs e a' w') → Goes P main R D Stop (m + n) (G (b.at a (.inLoop c :: k)) cs) w
end
structure Apart (p : Par) (Sh : Loc → Prop) (E Dn b : Nat) : Prop where
 e : b ≠ E
 d : b ≠ Dn
 s : ∀ i, ¬ Sh (.cell ⟨b, i, none⟩)
 t : ∀ i, ¬ p.Still (.cell ⟨b, i, none⟩)
structure Ad where
 K : Nat
 P : Nat
 R : Nat
 G : Nat
 rcap : Nat
 gn : Nat
 gcap : Nat
 rc : Array Value
 gc : Array Value
 keep : List (Nat × TypeId × Array Value)
 W : World
 O : Nat
structure En (p : Par) (Sh : Loc → Prop) (E Dn : Nat) (a : Ad) : Prop where
 ty : p.ety = 44
 sh : ShOk p Sh
 hE : E < p.N0
 hD : Dn < p.N0
 aK : Apart p Sh E Dn a.K
 aP : Apart p Sh E Dn a.P
 aR : Apart p Sh E Dn a.R
 aG : Apart p Sh E Dn a.G
 r0 : a.rc[0]? = some (.pointer (some ⟨a.P, 0, none⟩))
 kp : a.K ≠ a.P
 kd : ∀ t ∈ a.keep, t.1 ≠ E ∧ t.1 ≠ Dn ∧ t.2.1 ≠ 44 ∧ t.1 ≠ a.K ∧ t.1 ≠ a.P ∧ t.1 < p.N0
 oo : a.O ≤ a.K ∧ a.O ≤ a.P ∧ a.O ≤ E ∧ a.O ≤ Dn ∧ a.O ≤ p.N0
structure Old (a : Ad) (Q : Nat) (w : World) : Prop where
 q : a.O ≤ Q
 t : w.tape = a.W.tape
 o : w.os = a.W.os
 u : w.output = a.W.output
 b : ∀ x, x < a.O → w.heap[x]? = a.W.heap[x]?
structure Kst (a : Ad) (kc : Array Value) (s : Nat → Int) (bo now : Int) (r0 r1 r2 : Value) : Prop where
 sz : kc.size = 10
 sl : ∀ i, i < 3 → kc[i]? = some (.int .i64 (s i))
 bo : kc[3]? = some (.int .i64 bo)
 pr : kc[4]? = some (.slice (some ⟨a.G, 0, none⟩) a.gn a.gcap)
 ps : kc[5]? = some (.slice (some ⟨a.R, 0, none⟩) 1 a.rcap)
 r0 : kc[6]? = some r0
 r1 : kc[7]? = some r1
 r2 : kc[8]? = some r2
 now : kc[9]? = some (.int .i64 now)
structure Pst (pc : Array Value) (st status at_ lv used : Int) (r m : Nat → Int) : Prop where
 sz : pc.size = 79
 id : pc[0]? = some (.int .i64 1)
 par : pc[1]? = some (.int .i64 0)
 st : pc[2]? = some (.int .i64 st)
 stat : pc[3]? = some (.int .i64 status)
 at_ : pc[4]? = some (.int .i64 at_)
 lv : pc[5]? = some (.int .i64 lv)
 us : pc[6]? = some (.int .i64 used)
 reg : ∀ i, i < 8 → pc[7 + i]? = some (.int .u16 (r i))
 mem : ∀ i, i < 64 → pc[15 + i]? = some (.int .u8 (m i))
section
variable {pc : Array Value} {st status at_ lv used : Int} {r m : Nat → Int}
def put (f : Nat → Int) (i : Nat) (v : Int) : Nat → Int := fun j => if j = i then v else f j
end
structure KM (p : Par) (Sh : Loc → Prop) (E Dn : Nat) (a : Ad) (kc pc : Array Value) (Q : Nat) (qc : Array Value) (w : World) : Prop where
 k : Has a.K 88 kc w
 pp : Has a.P 75 pc w
 rr : Has a.R 72 a.rc w
 gg : Has a.G 110 a.gc w
 q : Has Q 72 qc w
 aQ : Apart p Sh E Dn Q
 sz : p.N0 ≤ w.heap.size
 kp : ∀ t ∈ a.keep, Has t.1 t.2.1 t.2.2 w
 kq : ∀ t ∈ a.keep, t.1 ≠ Q
 od : Old a Q w
structure KB (p : Par) (Sh : Loc → Prop) (E Dn : Nat) (a : Ad) (kc pc : Array Value) (Q : Nat) (qc : Array Value) (nb : Nat) (ty : TypeId) (bx : Array Value) (w : World) : Prop where
 m : KM p Sh E Dn a kc pc Q qc w
 b : Has nb ty bx w
 ab : Apart p Sh E Dn nb
def KO (p : Par) (Sh : Loc → Prop) (E Dn : Nat) (a : Ad) (kc pc pc1 : Array Value) (Q : Nat) (qc : Array Value) (w : World) : Prop := KM p Sh E Dn a kc pc Q qc w ∨ KM p Sh E Dn a kc pc1 Q qc w
structure Off (a : Ad) (Q nb : Nat) : Prop where
 k : nb ≠ a.K
 p : nb ≠ a.P
 r : nb ≠ a.R
 g : nb ≠ a.G
 q : nb ≠ Q
 kp : ∀ t ∈ a.keep, nb ≠ t.1
 o : a.O ≤ nb
structure Fam (σ : Type) where
 R : σ → World → World → Prop
 D : σ → World → World → Array Event → Prop
 Stop : σ → Goroutine → World → Prop
 terms : ∀ s, Terms (R s) (D s)
section
variable {σ : Type} (F : Fam σ) (P : Program) (main : Bool) (fn : FuncId)
def wpX (c : Code) (n : Nat) (s : σ) (Q : σ → Exit → Act → World → Prop) (a : Act) (w : World) : Prop :=
 ∀ (b : Frame) (k : List Item) (cs : List Frame) (m : Nat), b.fn = fn → b.kind ≠ .early →
   (∀ s' e a' w', Q s' e a' w' → After P main (F.R s') (F.D s') (F.Stop s') m b k cs e a' w') → Goes P main (F.R s) (F.D s) (F.Stop s) (m + n) (G (b.at a (.code c :: k)) cs) w
def OpsX (ops : Array Oper) (todo : List Nat) (n : Nat) (s : σ) (Q : σ → Exit → Act → World → Prop) (a : Act) (w : World) : Prop :=
 ∀ (b : Frame) (k : List Item) (cs : List Frame) (m : Nat), b.fn = fn → b.kind ≠ .early →
   (∀ s' e a' w', Q s' e a' w' → After P main (F.R s') (F.D s') (F.Stop s') m b k cs e a' w') → Goes P main (F.R s) (F.D s) (F.Stop s) (m + n) (G (b.at a (.inRegion ops todo :: k)) cs) w
def LoopX (c : Code) (n : Nat) (s : σ) (Q : σ → Exit → Act → World → Prop) (a : Act) (w : World) : Prop :=
 ∀ (b : Frame) (k : List Item) (cs : List Frame) (m : Nat), b.fn = fn → b.kind ≠ .early →
   (∀ s' e a' w', Q s' e a' w' → After P main (F.R s') (F.D s') (F.Stop s') m b k cs e a' w') → Goes P main (F.R s) (F.D s) (F.Stop s) (m + n) (G (b.at a (.inLoop c :: k)) cs) w
def ThenX (K : σ → Act → World → Prop) (Q : σ → Exit → Act → World → Prop) : σ → Exit → Act → World → Prop := fun s => Exit.then (K s) (Q s)
def BodyX (f : Func) (Post : σ → Value → World → Prop) : σ → Exit → Act → World → Prop := fun s => bodyPostC P f (Post s)
def CallsX (f : FuncId) (args : Array Value) (n : Nat) (s : σ) (w : World) (Post : σ → Value → World → Prop) : Prop :=
 ∃ fn c, P.funcs[f]? = some fn ∧ (fn.name == "runtime.NumGoroutine") = false ∧ fn.body = some c ∧
   wpX F P main f c n s (BodyX P fn Post) { tmps := args ++ Array.replicate (fn.ntmps - args.size) undef, defers := [] } w
end
section
variable {σ : Type} {F : Fam σ} {P : Program} {main : Bool} {fn : FuncId} {Q : σ → Exit → Act → World → Prop} {s : σ} {a : Act} {w : World}
theorem iG {c : Code} {n : Nat} (h : c.wpC P main (F.R s) (F.D s) fn n (Q s) a w) : wpX F P main fn c n s Q a w :=
 fun b k cs m hb hk hc => h b k cs _ m hb hk (hc s)
theorem vg {ops : Array Oper} {todo : List Nat} {n : Nat} (h : OpsC P main (F.R s) (F.D s) fn ops todo n (Q s) a w) : OpsX F P main fn ops todo n s Q a w :=
 fun b k cs m hb hk hc => h b k cs _ m hb hk (hc s)
theorem su {c : Code} {n : Nat} {w₁ : World} (h : wpX F P main fn c n s Q a w) (hr : F.R s w w₁) : wpX F P main fn c n s Q a w₁ :=
 fun b k cs m hb hk hc => (h b k cs m hb hk hc).rely (F.terms s).trans hr
theorem mH {f : FuncId} {args : Array Value} {n : Nat} {Post : σ → Value → World → Prop} {w₁ : World} (h : CallsX F P main f args n s w Post) (hr : F.R s w w₁) : CallsX F P main f args n s w₁ Post := by
 obtain ⟨g, c, h1, h2, h3, h4⟩ := h;exact ⟨g, c, h1, h2, h3, su h4 hr⟩
theorem sv {c : Code} {n n' : Nat} (h : wpX F P main fn c n s Q a w) (hn : n ≤ n') : wpX F P main fn c n' s Q a w :=
 fun b k cs m hb hk hc => (h b k cs m hb hk hc).mono (by omega)
theorem eL {ops : Array Oper} {todo : List Nat} {n n' : Nat} (h : OpsX F P main fn ops todo n s Q a w) (hn : n ≤ n') : OpsX F P main fn ops todo n' s Q a w :=
 fun b k cs m hb hk hc => (h b k cs m hb hk hc).mono (by omega)
theorem eM {c : Code} {n : Nat} {Q' : σ → Exit → Act → World → Prop} (h : wpX F P main fn c n s Q a w) (hq : ∀ s e a w, Q s e a w → Q' s e a w) : wpX F P main fn c n s Q' a w :=
 fun b k cs m hb hk hc => h b k cs m hb hk fun s' e a' w' q => hc s' e a' w' (hq s' e a' w' q)
theorem gz {K : σ → Act → World → Prop} {b : Frame} {x : Item} {k : List Item} {cs : List Frame} {m m' : Nat} (hx : x.plain = true) (hm : m ≤ m')
   (hc : ∀ s' e a' w', Q s' e a' w' → After P main (F.R s') (F.D s') (F.Stop s') m b k cs e a' w')
   (hK : ∀ s' a' w', K s' a' w' → Goes P main (F.R s') (F.D s') (F.Stop s') m' (G (b.at a' (x :: k)) cs) w') :
   ∀ s' e a' w', ThenX K Q s' e a' w' → After P main (F.R s') (F.D s') (F.Stop s') m' b (x :: k) cs e a' w' := by
 intro s' e a' w' q;cases e with
 | normal => exact hK s' a' w' q
 | exit id => exact ((hc _ _ _ _ q).mono hm).push hx (by simp)
 | ret => exact ((hc _ _ _ _ q).mono hm).push (x := x) hx (by simp)
 | goto l => exact hc _ _ _ _ q
 | panic ch => exact hc _ _ _ _ q
 | outgrown => exact hc _ _ _ _ q
theorem b5 {x y : Code} {n₁ n₂ : Nat} (h : wpX F P main fn x n₁ s (ThenX (fun s' a' w' => wpX F P main fn y n₂ s' Q a' w') Q) a w) : wpX F P main fn (Code.seq x y) (n₁ + n₂ + 1) s Q a w := by
 intro b k cs m hb hk hc;have hx := h b (.code y :: k) cs (m + n₂) hb hk (gz rfl (Nat.le_add_right _ _) hc fun s' a' w' q => q b k cs m hb hk hc);have e : m + (n₁ + n₂ + 1) = (m + n₂ + n₁) + 1 := by omega
 rw [e];exact Goes.step rfl fun w₁ h₁ => by rw [stepG_seq]; exact ⟨(F.terms s).idle _, hx.rely (F.terms s).trans h₁⟩
theorem fp {c : Operand} {x y : Code} {t : Bool} {n : Nat} (hc : a.eval c = .bool t) (h : wpX F P main fn (if t then x else y) n s Q a w) : wpX F P main fn (Code.cond c x y) (n + 1) s Q a w :=
 fun b k cs m hb hk hq => Goes.step rfl fun w₁ h₁ => by rw [stepG_cond hc]; exact ⟨(F.terms s).idle _, (h b k cs m hb hk hq).rely (F.terms s).trans h₁⟩
theorem dX {id : Nat} {c : Code} {n : Nat} (h : wpX F P main fn c n s (fun s' => Exit.inBlock id (Q s')) a w) : wpX F P main fn (Code.block id c) (n + 2) s Q a w := by
 intro b k cs m hb hk hc;have hx : Goes P main (F.R s) (F.D s) (F.Stop s) (m + 1 + n) (G (b.at a (.code c :: .inBlock id :: k)) cs) w := by
   refine h b (.inBlock id :: k) cs (m + 1) hb hk fun s' e a' w' q => ?_;cases e with
   | normal => exact Goes.step rfl fun w₁ h₁ => by rw [stepG_inBlock]; exact ⟨(F.terms s').idle _, Goes.rely (F.terms s').trans (hc _ _ _ _ q) h₁⟩
   | exit id' =>
     by_cases hid : id' = id
     · simp only [Exit.inBlock, hid, if_true] at q;exact ⟨k, by simp [exitTo, hid], Goes.more (hc _ _ _ _ q)⟩
     · simp only [Exit.inBlock, hid, if_false] at q;obtain ⟨k', hk', hg⟩ := hc _ _ _ _ q;have : (id == id') = false := by simp; exact fun h => hid h.symm
       exact ⟨k', by simp [exitTo, this, hk'], hg.more⟩
   | ret => exact fun todo => (hc _ _ _ _ q todo).more
   | goto l => exact hc _ _ _ _ q
   | panic ch => exact hc _ _ _ _ q
   | outgrown => exact hc _ _ _ _ q
 have e : m + (n + 2) = (m + 1 + n) + 1 := by omega
 rw [e];exact Goes.step rfl fun w₁ h₁ => by rw [stepG_block]; exact ⟨(F.terms s).idle _, hx.rely (F.terms s).trans h₁⟩
theorem kW {c : Code} {n₁ n₂ : Nat} (h : wpX F P main fn c n₁ s (ThenX (fun s' a' w' => LoopX F P main fn c n₂ s' Q a' w') Q) a w) : wpX F P main fn (Code.loop c) (n₁ + n₂ + 1) s Q a w := by
 intro b k cs m hb hk hc;have hx := h b (.inLoop c :: k) cs (m + n₂) hb hk (gz rfl (Nat.le_add_right _ _) hc fun s' a' w' q => q b k cs m hb hk hc);have e : m + (n₁ + n₂ + 1) = (m + n₂ + n₁) + 1 := by omega
 rw [e];exact Goes.step rfl fun w₁ h₁ => by rw [stepG_loop]; exact ⟨(F.terms s).idle _, hx.rely (F.terms s).trans h₁⟩
theorem ow {c : Code} {n₁ n₂ : Nat} (h : wpX F P main fn c n₁ s (ThenX (fun s' a' w' => LoopX F P main fn c n₂ s' Q a' w') Q) a w) : LoopX F P main fn c (n₁ + n₂ + 1) s Q a w := by
 intro b k cs m hb hk hc;have hx := h b (.inLoop c :: k) cs (m + n₂) hb hk (gz rfl (Nat.le_add_right _ _) hc fun s' a' w' q => q b k cs m hb hk hc);have e : m + (n₁ + n₂ + 1) = (m + n₂ + n₁) + 1 := by omega
 rw [e];exact Goes.step rfl fun w₁ h₁ => by rw [stepG_inLoop]; exact ⟨(F.terms s).idle _, hx.rely (F.terms s).trans h₁⟩
theorem bf {id : Nat} {ops : Array Oper} {n : Nat} (h : OpsX F P main fn ops (List.range ops.size) n s Q a w) : wpX F P main fn (Code.region id ops false) (n + 1) s Q a w :=
 fun b k cs m hb hk hc => Goes.step rfl fun w₁ h₁ => by rw [stepG_region]; exact ⟨(F.terms s).idle _, (h b k cs m hb hk hc).rely (F.terms s).trans h₁⟩
theorem bw {ops : Array Oper} (h : Q s .normal a w) : OpsX F P main fn ops [] 1 s Q a w := vg (opsC_nil (F.terms s) h)
theorem iH {ops : Array Oper} {i : Nat} {rest : List Nat} {o : Oper} {n : Nat} (ho : ops[i]? = some o) (hw : Region.wanted o (yielded ops a.tmps) = true)
   (h : ∀ w₁, F.R s w w₁ → uponK o a (fun a' w' => F.D s w₁ w' (listed P fn a o w₁) ∧ OpsX F P main fn ops rest n s Q a' w') ((execOp a.eval o).run P w₁)) : OpsX F P main fn ops (i :: rest) (n + 1) s Q a w := by
 intro b k cs m hb hk hc;refine Goes.step rfl fun w₁ h₁ => goes_oper ho hw hk ?_;have := h w₁ h₁
 revert this
 cases (execOp a.eval o).run P w₁ with
 | ok x w' => cases x <;> first | exact fun ⟨d, g⟩ => ⟨hb ▸ d, g b k cs m hb hk hc⟩ | exact id
 | halt _ _ => exact id
theorem aH {ops : Array Oper} {i : Nat} {rest : List Nat} {o : Oper} {n : Nat} (ho : ops[i]? = some o) (hw : Region.wanted o (yielded ops a.tmps) = true)
   (h : ∀ w₁, F.R s w w₁ → ∀ K : Act → World → Prop, (∀ a' w', F.D s w₁ w' (listed P fn a o w₁) ∧ OpsX F P main fn ops rest n s Q a' w' → K a' w') → uponK o a K ((execOp a.eval o).run P w₁)) : OpsX F P main fn ops (i :: rest) (n + 1) s Q a w :=
 iH ho hw fun w₁ h₁ => h w₁ h₁ _ fun _ _ x => x
theorem gd {ops : Array Oper} {i : Nat} {rest : List Nat} {o : Oper} {n : Nat} (ho : ops[i]? = some o) (hw : Region.wanted o (yielded ops a.tmps) = false)
   (h : OpsX F P main fn ops rest n s Q (a.put o.dst undef) w) : OpsX F P main fn ops (i :: rest) (n + 1) s Q a w :=
 fun b k cs m hb hk hc => Goes.step rfl fun w₁ h₁ => by rw [stepG_unwanted ho hw]; exact ⟨(F.terms s).idle _, (h b k cs m hb hk hc).rely (F.terms s).trans h₁⟩
theorem eH {f : FuncId} {g : Func} {c : Code} {args : Array Value} {n : Nat} {Post : σ → Value → World → Prop} (hf : P.funcs[f]? = some g) (hname : (g.name == "runtime.NumGoroutine") = false) (hb : g.body = some c)
   (h : wpX F P main f c n s (BodyX P g Post) { tmps := args ++ Array.replicate (g.ntmps - args.size) undef, defers := [] } w) : CallsX F P main f args n s w Post := ⟨g, c, hf, hname, hb, h⟩
theorem ox {b : Frame} {k : List Item} {cs : List Frame} {ops : Array Oper} {i : Nat} {rest : List Nat} {o : Oper} {f : FuncId} {args : Array Operand} {ats : Array TypeId}
   {nf m : Nat} {Post : σ → Value → World → Prop}
   (ho : ops[i]? = some o) (hw : Region.wanted o (yielded ops a.tmps) = true) (hk : b.kind ≠ .early) (hop : o.op = .call { callee := .value (.func f), args, argTypes := ats })
   (hcall : CallsX F P main f (args.map a.eval) nf s w Post)
   (hnext : ∀ s' v w', Post s' v w' → Goes P main (F.R s') (F.D s') (F.Stop s') m (G (b.at (a.put o.dst v) (.inRegion ops rest :: k)) cs) w') :
   Goes P main (F.R s) (F.D s) (F.Stop s) (m + nf + 3) (G (b.at a (.inRegion ops (i :: rest) :: k)) cs) w := by
 obtain ⟨g, c, hf, hname, hbody, hwp⟩ := hcall;have hfin : ∀ v, (b.at a (.inRegion ops (i :: rest) :: k)).finish v = b.at (a.put o.dst v) (.inRegion ops rest :: k) := fun v => by rw [Frame.finish_at, ho]; rfl
 have hleave : ∀ (s' : σ) (a' : Act) (w' : World) (todo : List Item), (a'.defers = [] ∧ ∃ v, ResultsC P g a'.tmps v ∧ Post s' v w') →
     Goes P main (F.R s') (F.D s') (F.Stop s') (m + 1) (G { (base f).at a' todo with mode := .returning } (b.at a (.inRegion ops (i :: rest) :: k) :: cs)) w' := by
   rintro s' a' w' todo ⟨hd, v, hr, hp⟩;refine Goes.step rfl fun w₁ h₁ => ?_;rw [stepG_leave (b := base f) rfl hd hf (hr w₁).1 (hr w₁).2, hfin];exact ⟨(F.terms s').idle _, (hnext s' v w' hp).rely (F.terms s').trans h₁⟩
 have hbodyG : Goes P main (F.R s) (F.D s) (F.Stop s) (m + 2 + nf) (G ((base f).at { tmps := args.map a.eval ++ Array.replicate (g.ntmps - (args.map a.eval).size) undef, defers := [] } [.code c]) (b.at a (.inRegion ops (i :: rest) :: k) :: cs)) w := by
   refine hwp (base f) [] _ (m + 2) rfl (by simp [base]) fun s' e a' w' q => ?_;cases e with
   | normal => exact Goes.step rfl fun w₁ h₁ => by rw [stepG_end]; exact ⟨(F.terms s').idle _, (hleave s' a' w' [] q).rely (F.terms s').trans h₁⟩
   | ret => exact fun todo => (hleave s' a' w' todo q).more
   | exit id => exact q.elim
   | goto l => exact q.elim
   | panic ch => exact q.elim
   | outgrown => exact q.elim
 have e : m + nf + 3 = (m + 2 + nf) + 1 := by omega
 rw [e];exact Goes.step rfl fun w₁ h₁ => goes_call ho hw hk hop hf hname hbody ⟨(F.terms s).idle _, hbodyG.rely (F.terms s).trans h₁⟩
theorem fI {ops : Array Oper} {i : Nat} {rest : List Nat} {o : Oper} {f : FuncId} {args : Array Operand} {ats : Array TypeId} {nf n : Nat} {Post : σ → Value → World → Prop}
   (ho : ops[i]? = some o) (hw : Region.wanted o (yielded ops a.tmps) = true) (hop : o.op = .call { callee := .value (.func f), args, argTypes := ats })
   (hcall : CallsX F P main f (args.map a.eval) nf s w Post) (hnext : ∀ s' v w', Post s' v w' → OpsX F P main fn ops rest n s' Q (a.put o.dst v) w') : OpsX F P main fn ops (i :: rest) (n + nf + 3) s Q a w := by
 intro b k cs m hb hk hc;have := ox (m := m + n) (b := b) (k := k) (cs := cs) ho hw hk hop hcall fun s' v w' hp => hnext s' v w' hp b k cs m hb hk hc;exact this.mono (by omega)
end
section
variable {σ : Type} (F : Fam σ) (P : Program) (main : Bool) (fn : FuncId) (ops : Array Oper) (md : Region.Mode) (S : σ → World → Prop) (Q : σ → Exit → Act → World → Prop) (nf : Nat)
def OpX (i : Nat) (K : σ → Act → World → Prop) (s : σ) (a : Act) (w : World) : Prop :=
 OpC P (F.R s) (F.D s) fn ops i (K s) a w ∨
 ∃ o f args ats Post, ops[i]? = some o ∧ Region.wanted o (yielded ops a.tmps) = true ∧ o.op = .call { callee := .value (.func f), args := args, argTypes := ats } ∧ CallsX F P main f (args.map a.eval) nf s w Post ∧
   ∀ s' v w', Post s' v w' → K s' (a.put o.dst v) w'
def AnyX : Nat → Array Bool → σ → Act → World → Prop
 | 0, listed, s, a, w => Region.ready md ops listed = [] ∧ Q s .normal a w
 | fuel + 1, listed, s, a, w =>
   (Region.ready md ops listed = [] → Q s .normal a w) ∧
   ∀ i ∈ Region.ready md ops listed, OpX F P main fn ops nf i (fun s' a' w' => S s' w' ∧ AnyX fuel (listed.setIfInBounds i true) s' a' w') s a w
end
section
variable {σ : Type} {F : Fam σ} {P : Program} {main : Bool} {fn : FuncId} {ops : Array Oper} {md : Region.Mode} {S : σ → World → Prop} {Q : σ → Exit → Act → World → Prop} {nf : Nat}
theorem mI {i : Nat} {s : σ} {a : Act} {w : World} {K K' : σ → Act → World → Prop} (h : ∀ s a w, K s a w → K' s a w) (hh : OpX F P main fn ops nf i K s a w) : OpX F P main fn ops nf i K' s a w := by
 rcases hh with x | ⟨o, f, args, ats, Post, h1, h2, h3, h4, h5⟩
 · exact .inl (OpC_mono (h s) x)
 · exact .inr ⟨o, f, args, ats, Post, h1, h2, h3, h4, fun s' v w' hp => h _ _ _ (h5 s' v w' hp)⟩
theorem mJ {i : Nat} {rest : List Nat} {n : Nat} {s : σ} {a : Act} {w : World} (h : OpX F P main fn ops nf i (fun s' a' w' => OpsX F P main fn ops rest n s' Q a' w') s a w) : OpsX F P main fn ops (i :: rest) (n + nf + 3) s Q a w := by
 rcases h with h | ⟨o, f, args, ats, Post, h1, h2, h3, h4, h5⟩
 · unfold OpC at h
   split at h
   · exact h.elim
   · rename_i o ho
     split at h
     · rename_i hw; exact eL (iH ho hw h) (by omega)
     · rename_i hw; exact eL (gd ho (by simpa using hw) h) (by omega)
 · exact fI h1 h2 h3 h4 h5
def YieldsX (F : Fam σ) (P : Program) (fn : FuncId) (ops : Array Oper) (S : σ → World → Prop) (o : Oper) (v : Value) (a : Act) : Prop := ∀ s, YieldsIfC P (F.D s) fn ops (S s) o v a
theorem YieldsX.opX (hSR : ∀ s x y, S s x → F.R s x y → S s y) {i : Nat} {o : Oper} {v : Value} {s : σ} {a : Act} (hi : ops[i]? = some o) (hy : YieldsX F P fn ops S o v a)
   {K : σ → Act → World → Prop} (hK : ∀ s a x y, K s a x → F.R s x y → K s a y) {w : World} (hS : S s w) (h : K s (a.put o.dst v) w) : OpX F P main fn ops nf i K s a w :=
 .inl ((hy s).opC (hSR s) hi (hK s) hS h)
end
end Go.Hx
namespace Go.Hx
open Go.Conc
section
variable {p : Par} {E Dn : Nat} {w w₁ w' : World} {b : Nat} {cs : Array Value}
def Fb (p : Par) (b : Nat) (cs : Array Value) (w : World) : Prop := p.N0 ≤ b ∧ w.heap[b]? = some (.cells cs p.ety (0, 0))
theorem Fb.fa (h : Fb p b cs w) : FA p w b := ⟨h.1, _, h.2, by simp [isEv]⟩
theorem Fb.lt (h : Fb p b cs w) : b < w.heap.size := (Array.getElem?_eq_some_iff.1 h.2).1
theorem Fb.rely (h : Fb p b cs w) (r : RA p w w₁) : Fb p b cs w₁ := ⟨h.1, (r.block b h.fa).trans h.2⟩
theorem Fb.cell (h : Fb p b cs w) {i : Nat} {v : Value} (hv : cs[i]? = some v) : w.cell? ⟨b, i, none⟩ = some v := by simp [World.cell?, h.2, hv]
theorem Fb.thaw (h : Fb p b cs w) (i : Nat) : w.frozen? ⟨b, i, none⟩ = false := by simp [World.frozen?, h.2]
theorem Fb.set (h : Fb p b cs w) (i : Nat) (v : Value) : Fb p b (cs.setIfInBounds i v) (w.setCell ⟨b, i, none⟩ v) := by
 refine ⟨h.1, ?_⟩;have hlt := h.lt;have h2 := h.2;rw [Array.getElem?_eq_getElem hlt] at h2;have h' := Option.some.inj h2;simp [World.setCell, hlt, Array.getElem_modify, h']
theorem Fb.new (hN : p.N0 ≤ w.heap.size) : Fb p w.heap.size cs (w.alloc (.cells cs p.ety)) := ⟨hN, qH w _⟩
theorem dL (h : Fb p b cs w) {ad : Addr} (hb : ad.block = b) (wr sy : Bool) : EvA p w ⟨.cell ad, wr, sy⟩ := by
 refine ⟨fun x hx _ => .inl ⟨b, ?_, h.fa⟩, by simp, by simp⟩;have hx' : x.loc = .cell ad := by cases sy <;> (simp [MemAct.ofEvent, MemAct.touch?] at hx; subst hx; rfl)
 rw [hx']; exact congrArg some hb
theorem jA {m : Mark} (hm : Conc.Neutral m) : EvA p w ⟨.mark m, false, true⟩ :=
 ⟨fun x hx _ => by simp [MemAct.ofEvent, hm.touch] at hx, ⟨fun h => hm.ne_disable (by simpa using h), fun h => hm.ne_enable (by simpa using h)⟩, fun a h => by
   have hm' : m = .noRoom := hm;subst hm';simp at h⟩
theorem jm {es : Array Event} (hes : ∀ e ∈ es, EvA p w e) : DG p E Dn w w es := ⟨RB.refl p E Dn w, rfl, rfl, hes⟩
theorem cT (p : Par) (E Dn : Nat) : Terms (RA p) (DG p E Dn) := ⟨RA.trans, fun w => jm (by simp)⟩
theorem sw (hN : p.N0 ≤ w.heap.size) : RB p E Dn w (w.alloc (.cells cs p.ety)) := by
 refine ⟨rfl, rfl, rfl, ⟨by rw [gy]; omega, fun x f => ?_, fun x hl hn f => hn ?_⟩, fun x hl _ _ _ => eK w _ (Nat.ne_of_lt hl)⟩
 · obtain ⟨h1, o, ho, hi⟩ := f;exact ⟨h1, o, by rw [eK w _ (Nat.ne_of_lt (Array.getElem?_eq_some_iff.1 ho).1)]; exact ho, hi⟩
 · obtain ⟨h1, o, ho, hi⟩ := f;exact ⟨h1, o, by rw [← eK w _ (Nat.ne_of_lt hl)]; exact ho, hi⟩
theorem sx (hN : p.N0 ≤ w.heap.size) (hE : E < p.N0) (hD : Dn < p.N0) {es : Array Event} (hes : ∀ e ∈ es, False) : DG p E Dn w (w.alloc (.cells cs p.ety)) es :=
 ⟨sw hN, eK w _ (by omega), eK w _ (by omega), fun e he => (hes e he).elim⟩
theorem pF {cs' : Array Value} (h : Fb p b cs w) (h' : Fb p b cs' w') (ht : w'.tape = w.tape) (ho : w'.os = w.os) (hu : w'.output = w.output) (hs : w'.heap.size = w.heap.size) (hb : ∀ x, x ≠ b → w'.heap[x]? = w.heap[x]?) (hE : E < p.N0) (hD : Dn < p.N0)
   {es : Array Event} (hes : ∀ e ∈ es, EvA p w' e) : DG p E Dn w w' es := by
 have hbN := h.1;refine ⟨⟨ht, ho, hu, ⟨by omega, fun x f => ?_, fun x hl hn f => hn ?_⟩, fun x _ hn _ _ => hb x fun e => hn (e ▸ h.fa)⟩, hb E (by omega), hb Dn (by omega), hes⟩
 · by_cases e : x = b
   · subst e; exact h'.fa
   · obtain ⟨h1, o, ho, hi⟩ := f; exact ⟨h1, o, by rw [hb x e]; exact ho, hi⟩
 · by_cases e : x = b
   · subst e; exact h.fa
   · obtain ⟨h1, o, ho, hi⟩ := f; exact ⟨h1, o, by rw [← hb x e]; exact ho, hi⟩
theorem lI (h : Fb p b cs w) (hE : E < p.N0) (hD : Dn < p.N0) (i : Nat) (v : Value) {es : Array Event} (hes : ∀ e ∈ es, ∃ ad wr sy, e = ⟨.cell ad, wr, sy⟩ ∧ ad.block = b) : DG p E Dn w (w.setCell ⟨b, i, none⟩ v) es :=
 pF h (h.set i v) rfl rfl rfl (by simp [World.setCell]) (fun x hx => fo w _ v hx) hE hD fun e he => by
   obtain ⟨ad, wr, sy, rfl, hb⟩ := hes e he; exact dL (h.set i v) hb wr sy
theorem jB {es : Array Event} (h : DG p E Dn w w₁ #[]) (h' : DG p E Dn w₁ w' es) : DG p E Dn w w' es := ⟨RB.trans _ _ _ h.1 h'.1, h'.2.1.trans h.2.1, h'.2.2.1.trans h.2.2.1, h'.2.2.2⟩
theorem vh (h : Fb p b cs w) (hE : E < p.N0) (hD : Dn < p.N0) (v0 v1 v2 v3 : Value) {es : Array Event} (hes : ∀ e ∈ es, ∃ ad wr sy, e = ⟨.cell ad, wr, sy⟩ ∧ ad.block = b) :
   DG p E Dn w ((((w.setCell ⟨b, 0, none⟩ v0).setCell ⟨b, 1, none⟩ v1).setCell ⟨b, 2, none⟩ v2).setCell ⟨b, 3, none⟩ v3) es :=
 jB (lI h hE hD 0 v0 (by simp)) (jB (lI (h.set 0 v0) hE hD 1 v1 (by simp)) (jB (lI ((h.set 0 v0).set 1 v1) hE hD 2 v2 (by simp)) (lI (((h.set 0 v0).set 1 v1).set 2 v2) hE hD 3 v3 hes)))
def Told (p : Par) (told : Value) (n : Nat) (xs : List Value) (w : World) : Prop := w.ownsRow p.N0 p.ety 4 told n xs
theorem Told.rely {told : Value} {n : Nat} {xs : List Value} (h : Told p told n xs w) (r : RA p w w₁) : Told p told n xs w₁ := by
 refine ⟨h.1, h.2.imp id ?_⟩;rintro ⟨g, cap, cur, h1, h2, h3, h4⟩;exact ⟨g, cap, cur, h1, h2, (r.block g (Fb.fa (p := p) ⟨h2, h3⟩)).trans h3, h4⟩
theorem Told.alloc {told : Value} {n : Nat} {xs : List Value} (h : Told p told n xs w) (o : Obj) : Told p told n xs (w.alloc o) := World.ownsRow.alloc h o
theorem mK (hg : w.grownBy w' none) (hN : p.N0 ≤ w.heap.size) (hE : E < p.N0) (hD : Dn < p.N0) {es : Array Event} (hes : ∀ e ∈ es, EvA p w' e) : DG p E Dn w w' es :=
 ⟨⟨hg.tape, hg.os, hg.output, ⟨hg.size, fun b f => by obtain ⟨x, o, ho, hi⟩ := f; exact ⟨x, o, by rw [hg.block b (Array.getElem?_eq_some_iff.1 ho).1 (by simp)]; exact ho, hi⟩,
   fun b hl hn f => hn (by obtain ⟨x, o, ho, hi⟩ := f; exact ⟨x, o, by rw [← hg.block b hl (by simp)]; exact ho, hi⟩)⟩, fun b hl _ _ _ => hg.block b hl (by simp)⟩,
  hg.block E (by omega) (by simp), hg.block Dn (by omega) (by simp), hes⟩
theorem Fb.grown (h : Fb p b cs w) (hg : w.grownBy w' none) : Fb p b cs w' := ⟨h.1, (hg.block b h.lt (by simp)).trans h.2⟩
theorem Told.app {P : Program} {t ty : TypeId} {i : TypeInfo} {z : Value} (ht : P.underlying t = some (.slice p.ety)) (hi : P.info? p.ety = some i) (hz : i.zero = some z) (hs : i.size = 4) (hb : i.bytes = 32) (hzs : z.cells.size = 4)
   (hE : E < p.N0) (hD : Dn < p.N0) (hN : p.N0 ≤ w.heap.size) {told : Value} {n : Nat} {xs : List Value} (h : Told p told n xs w) (hn : n < 10000) {nb : Nat} {v0 v1 v2 v3 : Value} (hnb : Fb p nb #[v0, v1, v2, v3] w) (h1 : ∀ u ∈ [v0, v1, v2, v3], u.oneCell' = true) :
   ∃ told' w', (Builtin.append_ #[t, t] ty #[told, .slice (some ⟨nb, 0, none⟩) 1 1]).run P w = .ok told' w' ∧ Told p told' (n + 1) (xs ++ [v0, v1, v2, v3]) w' ∧ p.N0 ≤ w'.heap.size ∧
     ∀ es : Array Event, (∀ e ∈ es, e ∈ (Builtin.append_ #[t, t] ty #[told, .slice (some ⟨nb, 0, none⟩) 1 1]).events P w #[]) → DG p E Dn w w' es := by
 have hnews : ∀ (j : Nat) (u : Value), [v0, v1, v2, v3][j]? = some u → w.cell? ((⟨nb, 0, none⟩ : Addr).add j) = some u := by
   intro j u hu;have e : (⟨nb, 0, none⟩ : Addr).add j = ⟨nb, j, none⟩ := by unfold Addr.add; split <;> simp_all
   rw [e];exact hnb.cell (by simpa using hu)
 have hev := events_append_where (P := P) w p.N0 t ty p.ety i z 4 32 ht hi hz hs hb told n xs h ⟨nb, 0, none⟩ 1 1 [v0, v1, v2, v3] (by simp) hnews h1 (by simp [maxLen]; omega) (by omega);rcases h.2 with ⟨rfl, rfl⟩ | ⟨g, cap, cur, rfl, hbg, hgc, hnc, hcm, hcs, htake⟩
 · obtain ⟨v', w', hr, hown, hg, _⟩ := run_append_own (P := P) w p.N0 t ty p.ety i z 4 32 ht hi hz hs hb hzs (by decide) (.slice none 0 0) 0 xs h ⟨nb, 0, none⟩ 1 1 [v0, v1, v2, v3] (by simp) hnews h1 (by simp [maxLen]) (by decide) hN;have hg' : w.grownBy w' none := hg;refine ⟨v', w', hr, hown, Nat.le_trans hN hg'.size, fun es hes => mK hg' hN hE hD fun e he => ?_⟩;rcases hev e (hes e he) with ⟨ad, h2, h3⟩ | ⟨m, rfl, hm⟩
   · rcases h3 with ⟨_, hb⟩ | h3
     · obtain ⟨l, wr, sy⟩ := e;simp only at h2;subst h2;exact dL (hnb.grown hg') hb _ _
     · simp [Value.ownBlock] at h3
   · exact jA hm
 · have hFg : Fb p g cur w := ⟨hbg, hgc⟩;by_cases hroom : n + 1 ≤ cap
   · have hr := run_append_room (P := P) w t ty p.ety i ht hi g n cap cur hgc ⟨nb, 0, none⟩ 1 1 [v0, v1, v2, v3] (by simp [hs]) hnews h1 hroom (by rw [hs, hcs]; simp; omega)
     have hF' : Fb p g (cur.toList.take (n * i.size) ++ [v0, v1, v2, v3] ++ cur.toList.drop (n * i.size + [v0, v1, v2, v3].length)).toArray (w.setRow g (cur.toList.take (n * i.size) ++ [v0, v1, v2, v3] ++ cur.toList.drop (n * i.size + [v0, v1, v2, v3].length)).toArray) :=
       ⟨hbg, setRow_heap w g cur _ p.ety (0, 0) hgc⟩
     refine ⟨_, _, hr, ⟨by rw [List.length_append, h.1]; simp; omega, .inr ⟨g, cap, _, rfl, hbg, hF'.2, hroom, hcm, ?_, ?_⟩⟩, by rw [size_setRow]; exact hN, fun es hes => pF hFg hF' rfl rfl rfl (by simp) (fun x hx => setRow_other w g x _ hx) hE hD fun e he => ?_⟩
     · simp [hs, hcs]; omega
     · rw [hs, List.append_assoc, htake, ← List.append_assoc];have e1 : (xs ++ [v0, v1, v2, v3]).length = (n + 1) * 4 := by rw [List.length_append, h.1]; simp; omega
       have e2 : ∀ (l r : List Value) (k : Nat), l.length = k → (l ++ r).take k = l := fun l r k hk => by subst hk; simp
       exact e2 _ _ _ e1
     · rcases hev e (hes e he) with ⟨ad, h2, h3⟩ | ⟨m, rfl, hm⟩
       · obtain ⟨l, wr, sy⟩ := e;simp only at h2;subst h2;rcases h3 with ⟨_, hb⟩ | h3
         · by_cases hq : nb = g
           · exact dL hF' (hb.trans hq) _ _
           · exact dL (p := p) (b := nb) (cs := #[v0, v1, v2, v3]) ⟨hnb.1, by rw [setRow_other w g nb _ hq]; exact hnb.2⟩ hb _ _
         · exact dL hF' (by simpa [Value.ownBlock] using h3) _ _
       · exact jA hm
   · have holds : ∀ (j : Nat) (u : Value), xs[j]? = some u → w.cell? ((⟨g, 0, none⟩ : Addr).add j) = some u := World.ownsRow.cells (e := p.ety) (size := 4) (base := p.N0) h (g := g) rfl;obtain ⟨v', w', hr, hown, hg⟩ := run_append_arg_grows (P := P) w t ty p.ety i z 4 32 ht hi hz hs hb hzs (by decide) ⟨g, 0, none⟩ n cap xs h.1 holds ⟨nb, 0, none⟩ 1 1 [v0, v1, v2, v3] (by simp) hnews (by omega) (by simp [maxLen]; omega) (by omega);refine ⟨v', w', hr, ?_, Nat.le_trans hN hg.size, fun es hes => mK hg hN hE hD fun e he => ?_⟩
     · refine ⟨hown.1, hown.2.imp id ?_⟩;rintro ⟨g', cap', cur', h1, h2, h3⟩;exact ⟨g', cap', cur', h1, Nat.le_trans hN h2, h3⟩
     · rcases hev e (hes e he) with ⟨ad, h2, h3⟩ | ⟨m, rfl, hm⟩
       · obtain ⟨l, wr, sy⟩ := e;simp only at h2;subst h2;rcases h3 with ⟨_, hb⟩ | h3
         · exact dL (hnb.grown hg) hb _ _
         · exact dL (hFg.grown hg) (by simpa [Value.ownBlock] using h3) _ _
       · exact jA hm
end
end Go.Hx
