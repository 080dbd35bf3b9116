/-
  Behind the close and before the gatherer has heard it; then the join: the run from the close to behind the caller's acquire.
  No condition but those that each statement names.
-/
import Derived.Test.YtbnaccilnilcmaaDoorHx05
set_option linter.unusedVariables false
set_option linter.unusedSimpArgs false
set_option linter.unusedSectionVars false
namespace Go.Hx
open Go.Conc
open Go.ConcX
open Go.ConcN (sumTo upd sumTo_upd upd_ne upd_same)

section
variable {p : Par} {C Wg : Nat} {w w' : World}

theorem fa_aside (hC : C < p.N0) (hW : Wg < p.N0) (h : Aside2 C Wg w w') (b : Nat) : FA p w' b ↔ FA p w b := by
  constructor
  · rintro ⟨hn, o, ho, hi⟩
    exact ⟨hn, o, by rw [← h.block b (by omega) (by omega)]; exact ho, hi⟩
  · rintro ⟨hn, o, ho, hi⟩
    exact ⟨hn, o, by rw [h.block b (by omega) (by omega)]; exact ho, hi⟩
theorem kept_aside (hC : C < p.N0) (hW : Wg < p.N0) (h : Aside2 C Wg w w') : Kept p w w' :=
  ⟨Nat.le_of_eq h.size.symm, fun b hb => (fa_aside hC hW h b).2 hb, fun b _ hn hb => hn ((fa_aside hC hW h b).1 hb)⟩
theorem ra_aside (hC : C < p.N0) (hW : Wg < p.N0) (hCs : ∀ i, ¬ p.Still (.cell ⟨C, i, none⟩)) (hWs : ∀ i, ¬ p.Still (.cell ⟨Wg, i, none⟩)) (h : Aside2 C Wg w w') : RA p w w' :=
  ⟨h.tape, h.os, h.output, kept_aside hC hW h, fun b hb => h.block b (by have := hb.1; omega) (by have := hb.1; omega), fun b cs ty fl hs hb => (h.block b (fun e => by obtain ⟨i, hi⟩ := hs; rw [e] at hi; exact hCs i hi) (fun e => by obtain ⟨i, hi⟩ := hs; rw [e] at hi; exact hWs i hi)).trans hb⟩
end

section
variable [Payload] (P : Program) (ty : TypeId) (Wg C Low : Nat) [Shy Wg C] (vals : List Value) (Mine : Loc → Prop) (AnchW : Goroutine → World → Prop) (Post : Value → World → Prop) (p : Par) (Sh : Loc → Prop) (c E Dn : Nat) (zE zD : Value) (PostB : World → Prop)

/-- What the worker does behind the close: its deferred Done. -/
def AfterD (b : Goroutine) (w : World) : Prop := WgAt ty Wg w KK 0 ∧ ∃ n, Goes P false (RCa ty Wg Low) (DCs Mine Wg C) (AtR0 P ty Wg C Low vals) n b w
/-- What the caller does when it has heard the close: it comes to Wait. -/
def FinW (g : Goroutine) (w : World) : Prop := KPa ty Wg C vals w → ∃ m, Goes P true (RPa ty Wg C vals) (DPi Mine Wg C Low) (AtKd P ty Wg C Low vals Mine AnchW) m g w

inductive Kid : Nat × Nat → Goroutine → World → Trace → Prop
  | ca {b : Goroutine} {w : World} {T : Trace} {rel cl : Bool} {vs : List Value} {d1 rc mc : Nat} : WgAt ty Wg w KK 0 → (rel = true → Full C vals w) → Law Wg p Sh c rel w T 0 d1 → CA P ty Wg C Low vals Mine rc d1 rel vs cl mc b w → Kid (rc, mc) b w T
  | quit {b : Goroutine} {w : World} {T : Trace} {d1 k : Nat} : WgAt ty Wg w 0 0 → Full C vals w → Law Wg p Sh c true w T 0 d1 → QuitsD P k d1 b → Kid (0, k) b w T

def Inv2 (μ : Nat × Nat) (M : Machine) (T : Trace) : Prop :=
  ∃ (gs : Array Goroutine) (a b : Goroutine) (w : World) (sl : Option (Nat × Nat)) (q : Nat → Nat) (k n rc mc : Nat),
    M = crowd gs w sl ∧ Crew P c gs a b T q ∧ w.heap[E]? = some (.chan 0 #[] false k k false) ∧ w.heap[Dn]? = some (.chan 0 #[] true 0 0 false) ∧ PostB w ∧ p.N0 ≤ w.heap.size ∧
    Goes P true (RA p) (DG p E Dn) (StopG P p E Dn zE zD PostB (FinW P ty Wg C Low vals Mine AnchW) []) n a w ∧ Kid P ty Wg C Low vals Mine p Sh c (rc, mc) b w T ∧ μ = (rc, mc + n + sumTo c q)
end

section
variable [Payload] {P : Program} {ty : TypeId} {Wg C Low : Nat} [Shy Wg C] {vals : List Value} {Mine : Loc → Prop} {AnchW : Goroutine → World → Prop} {Post : Value → World → Prop} {p : Par} {Sh : Loc → Prop} {c E Dn : Nat} {zE zD : Value} {PostB : World → Prop}

theorem Kid.status {μ : Nat × Nat} {b : Goroutine} {w : World} {T : Trace} (h : Kid P ty Wg C Low vals Mine p Sh c μ b w T) : b.status = .running ∨ b.status = .finished := by
  cases h with
  | ca _ _ _ h => exact .inl h.running
  | quit _ _ _ h => exact h.status

theorem rca_of (F : Fix Wg C Low Mine p Sh c) {w w' : World} (hN : p.N0 ≤ w.heap.size) (hR : RB p E Dn w w') (hE : w'.heap[E]? = w.heap[E]?) (hD : w'.heap[Dn]? = w.heap[Dn]?) : RCd Low w w' := fun b hb => by
  by_cases h1 : b = E
  · subst h1; exact hE
  · by_cases h2 : b = Dn
    · subst h2; exact hD
    · have := F.hLow
      exact hR.block b (by omega) (fun f => by have := f.1; omega) h1 h2

theorem Kid.caller (F : Fix Wg C Low Mine p Sh c) {μ : Nat × Nat} {b : Goroutine} {w w' : World} {T : Trace} (h : Kid P ty Wg C Low vals Mine p Sh c μ b w T) (hk : Kept p w w') (hR : RCd Low w w') (fn : FuncId) (pos : String) {es : Array Event} (hes : ∀ e ∈ es, EvA p w' e) :
    Kid P ty Wg C Low vals Mine p Sh c μ b w' (T ++ MemOp.ofEvents 0 fn pos es) := by
  cases h with
  | ca h1 h2 h3 h4 => exact .ca (h1.of_block (hR Wg F.hW)) (fun e => (h2 e).of_block (hR C F.hC)) (h3.addA F.hc0 hk F.hSh fn pos hes) (h4.rely (RCd.toA F.hW hR))
  | quit h1 h2 h3 h4 => exact .quit (h1.of_block (hR Wg F.hW)) (h2.of_block (hR C F.hC)) (h3.addA F.hc0 hk F.hSh fn pos hes) h4

theorem shut_step (F : Fix Wg C Low Mine p Sh c) (hED : E ≠ Dn) (hEW : E ≠ Wg ∧ E ≠ C) (hDW : Dn ≠ Wg ∧ Dn ≠ C) (ok1 : ∀ w, p.N0 ≤ w.heap.size → ∀ e, EvQ Mine Wg C 1 e → EvB p Sh w e)
    (hPb : ∀ w w₁, RB p E Dn w w₁ → PostB w → PostB w₁) (hPc : ∀ w w₁, Aside2 C Wg w w₁ → PostB w → PostB w₁)
    {μ : Nat × Nat} {M : Machine} {T : Trace} (h : Inv2 P ty Wg C Low vals Mine AnchW p Sh c E Dn zE zD PostB μ M T) :
    ∃ M' ops, stepT P M = (.next M', ops) ∧ ((∃ μ', LtP μ' μ ∧ Inv2 P ty Wg C Low vals Mine AnchW p Sh c E Dn zE zD PostB μ' M' (T ++ ops)) ∨
      (∃ wf μ', p.N0 ≤ wf.heap.size ∧ Inv3 P ty Wg C Low vals Mine AnchW Post p Sh c wf μ' M' (T ++ ops))) := by
  obtain ⟨gs, a, b, w₀, sl₀, q, k, n, rc, mc, rfl, Cr, hE₀, hD₀, hP₀, hN₀, hA₀, hK₀, rfl⟩ := h
  have hW0 : Wg < p.N0 := Nat.lt_of_lt_of_le F.hW F.hLow
  have hC0 : C < p.N0 := Nat.lt_of_lt_of_le F.hC F.hLow
  have ra := hA₀.running (fun _ _ => StopG.running) w₀ (RA.refl p w₀)
  obtain ⟨i, g, d, sl, hi, hg, hst⟩ := crowd_pick (P := P) (w := w₀) (sl := sl₀) (Cr.awake (awake_of (.inl ra)) (awake_of (hK₀.status.elim .inl fun x => .inr (.inr x)))) ⟨0, a, Cr.h0, ra⟩
  have hE : (w₀.at d).heap[E]? = some (.chan 0 #[] false k k false) := hE₀
  have hD : (w₀.at d).heap[Dn]? = some (.chan 0 #[] true 0 0 false) := hD₀
  have hP : PostB (w₀.at d) := hPb _ _ (RB.at p E Dn w₀ d) hP₀
  have hN : p.N0 ≤ (w₀.at d).heap.size := hN₀
  have hA := Goes.rely RA.trans hA₀ (RA.at p w₀ d)
  have hK : Kid P ty Wg C Low vals Mine p Sh c (rc, mc) b (w₀.at d) T := by
    cases hK₀ with
    | ca h1 h2 h3 h4 => exact .ca h1 h2 (h3.world (kept_at p w₀ d)) (h4.rely (RCa.at w₀ d))
    | quit h1 h2 h3 h4 => exact .quit h1 h2 (h3.world (kept_at p w₀ d)) h4
  generalize w₀.at d = w at *
  clear hE₀ hD₀ hP₀ hN₀ hA₀ hK₀
  have hs := Cr.size
  have hcp := Cr.pos
  have hilt : i < gs.size := (Array.getElem?_eq_some_iff.1 hi).1
  by_cases h0 : i = 0
  · subst h0
    obtain rfl : g = a := by rw [Cr.h0] at hi; exact (Option.some.inj hi).symm
    rcases hA.cases with hstop | ⟨n', rfl, hstep⟩
    · obtain ⟨_, es, hcomm, hev⟩ := (hstop w (RA.refl p w)).sel
      have hcomm0 : stepG P (0 == 0) g w = .comm (core g) (selCases E Dn zE zD) true .select w es := hcomm
      have none : ∀ ch, partners (gs.setIfInBounds 0 ph) ch true = [] := fun ch => partners_nil fun x y hy => by
        rcases getElem?_stand gs 0 x y hy with ⟨_, rfl⟩ | ⟨hx, hy'⟩
        · exact offersAt_ph _ _
        · by_cases hxc : x = c
          · subst hxc
            rw [Cr.hc] at hy'
            obtain rfl := Option.some.inj hy'
            exact offersAt_of_not_blocked (fun hb => by rcases hK.status with z | z <;> rw [z] at hb <;> cases hb) _ _
          · exact Cr.noOffer hx hxc hy' _ _
      have hrun := crowd_sel_recv_closed (sl := sl) (k := 1) (c := Dn) (z := zD) hi hcomm0 rfl
        (fun m c' hm hc' => by
          rcases m with _ | _ | m
          · have : c' = rcase E zE := by simpa [selCases] using hc'.symm
            subst this
            exact ways_recv_none hE (none E)
          · omega
          · simp [selCases] at hc') hD (none Dn)
      have hfin := (hstop w (RA.refl p w)).nil w (RA.refl p w) hP
      have hKa := hK.caller F (Kept.refl p w) (RCd.refl w) g.frame.fn g.frame.place hev
      have hput : Crew P c (gs.setIfInBounds 0 ((core g).finishComm P (selCases E Dn zE zD) .select 1 zD false)) (Conc.served (core g) (commResult (selCases E Dn zE zD) .select 1 zD false)) b
          (T ++ (MemOp.ofEvents 0 g.frame.fn g.frame.place es ++ #[{ g := 0, fn := (core g).frame.fn, pos := (core g).frame.place, act := .recvClosed Dn }])) q :=
        Cr.put (by simp) (by simp [hilt]; rfl) (by rw [Array.getElem?_setIfInBounds_ne (by omega)]; exact Cr.hc) (fun x hx _ => Array.getElem?_setIfInBounds_ne (Ne.symm hx)) (fun op hop => .inl (by
          rcases Array.mem_append.1 hop with x | x
          · exact g_ofEvents op x
          · have : op = { g := 0, fn := (core g).frame.fn, pos := (core g).frame.place, act := .recvClosed Dn } := by simpa using x
            rw [this]))
      have st1 : ∀ {rel : Bool} {d1 : Nat}, Law Wg p Sh c rel w (T ++ MemOp.ofEvents 0 g.frame.fn g.frame.place es) 0 d1 →
          Law Wg p Sh c rel w (T ++ (MemOp.ofEvents 0 g.frame.fn g.frame.place es ++ #[{ g := 0, fn := (core g).frame.fn, pos := (core g).frame.place, act := .recvClosed Dn }])) 0 d1 := fun hl => by
        rw [← Array.append_assoc]
        refine hl.still (fun op hop => ?_) (fun op hop => ?_) (fun g' => by rw [Deaf_push]; simp [deafStep])
        · have : op = { g := 0, fn := (core g).frame.fn, pos := (core g).frame.place, act := .recvClosed Dn } := by simpa using hop
          rw [this]; rfl
        · have : op = { g := 0, fn := (core g).frame.fn, pos := (core g).frame.place, act := .recvClosed Dn } := by simpa using hop
          rw [this]; simp
      cases hKa with
      | ca h1 h2 h3 h4 =>
        obtain ⟨m, hm⟩ := hfin (.inl h1)
        exact ⟨_, _, hst.trans hrun, .inr ⟨w, (sumTo c q, _), hN, _, _, b, w, sl, q, _, rfl, hput, .a h1 h2 (st1 h3) (.kd hm) h4, rfl⟩⟩
      | quit h1 h2 h3 h4 =>
        obtain ⟨m, hm⟩ := hfin (.inr ⟨h1, h2⟩)
        exact ⟨_, _, hst.trans hrun, .inr ⟨w, (sumTo c q, _), hN, _, _, b, w, sl, q, _, rfl, hput, .c h1 h2 (st1 h3) (.kd hm) h4, rfl⟩⟩
    · obtain ⟨a', w', es, hgo, ⟨hR, hE', hD', hev⟩, hG'⟩ := hstep w (RA.refl p w)
      exact ⟨_, _, hst.trans (runT_crowd_go hi (show stepG P (0 == 0) g w = _ from hgo)), .inl ⟨(rc, mc + n' + sumTo c q), .right _ (by omega), _, a', b, w', sl, q, k, n', rc, mc, rfl,
        Cr.step0 (again_running w' hK.status) g_ofEvents, hE'.trans hE, hD'.trans hD, hPb _ _ hR hP, Nat.le_trans hN hR.kept.size, hG', hK.caller F hR.kept (rca_of F hN hR hE' hD') _ _ hev, rfl⟩⟩
  by_cases h1 : i = c
  · subst h1
    obtain rfl : g = b := by rw [Cr.hc] at hi; exact (Option.some.inj hi).symm
    have hi0 : (i == 0) = false := by simp [h0]
    have ra' := hA.running (fun _ _ => StopG.running) w (RA.refl p w)
    have fin : ∀ {b' : Goroutine} {w' : World} {es : Array Event} {rc' mc' : Nat}, stepG P false g w = .go b' w' es → Aside2 C Wg w w' → Lt2 (rc', mc') (rc, mc) → Kid P ty Wg C Low vals Mine p Sh i (rc', mc') b' w' (T ++ MemOp.ofEvents i g.frame.fn g.frame.place es) →
        ∃ M' ops, stepT P (crowd gs w₀ sl₀) = (.next M', ops) ∧ ((∃ μ', LtP μ' (rc, mc + n + sumTo i q) ∧ Inv2 P ty Wg C Low vals Mine AnchW p Sh i E Dn zE zD PostB μ' M' (T ++ ops)) ∨
          (∃ wf μ', p.N0 ≤ wf.heap.size ∧ Inv3 P ty Wg C Low vals Mine AnchW Post p Sh i wf μ' M' (T ++ ops))) := by
      intro b' w' es rc' mc' hgo hAs hlt hk
      refine ⟨_, _, hst.trans (runT_crowd_go hi (by rw [hi0]; exact hgo)), .inl ⟨(rc', mc' + n + sumTo i q), ?_, _, a, b', w', sl, q, k, n, rc', mc', rfl, Cr.stepc (woken_run ra') g_ofEvents, ?_, ?_, hPc _ _ hAs hP, by rw [hAs.size]; exact hN, Goes.rely RA.trans hA (ra_aside hC0 hW0 F.hCS (fun i s => F.hSh.ap _ s (F.hSW _ ⟨_, rfl, rfl⟩)) hAs), hk, rfl⟩⟩
      · rcases Prod.lex_def.1 hlt with z | ⟨z1, z2⟩
        · exact .left _ _ z
        · simp only at z1 z2
          subst z1
          exact .right _ (by omega)
      · rw [hAs.block E hEW.2 hEW.1]; exact hE
      · rw [hAs.block Dn hDW.2 hDW.1]; exact hD
    cases hK with
    | ca h1 h2 h3 h4 =>
      obtain ⟨b', w', es, hgo, hAs, hout⟩ := ca_move F hN (ok1 w hN) (.inl rfl) h3 h2 h1 h4 g.frame.fn g.frame.place
      have hkw := kept_aside hC0 hW0 hAs
      cases hout with
      | stay rc' d1' rel' vs' cl' mc' hl k1 k2 k3 k4 => exact fin hgo hAs hl (.ca k1 k2 (k3.world hkw) k4)
      | lone q' _ k1 k2 k3 k4 => exact fin hgo hAs (.left _ _ (by have := h4.rank_pos; omega)) (.quit k1 k2 (k3.world hkw) k4)
      | met _ e _ _ _ _ => exact absurd e kk1_ne
    | quit h1 h2 h3 h4 =>
      obtain ⟨b', es, k', d1', hgo, hlt, k1, k2⟩ := quit_step (w := w) F.hc0 h3 h4 hg g.frame.fn g.frame.place
      exact fin hgo (.refl w) (.right _ hlt) (.quit h1 h2 k1 k2)
  · obtain ⟨g', es, kk, hq, hrunT, hm, Cr'⟩ := Cr.leaver hi h0 h1 hg sl w
    have ra' := hA.running (fun _ _ => StopG.running) w (RA.refl p w)
    rw [woken_run ra', woken_same (again_running w hK.status)] at Cr'
    have hsum := sum_leaver (c := c) (by omega) hq
    have hK' : Kid P ty Wg C Low vals Mine p Sh c (rc, mc) b w (T ++ MemOp.ofEvents i g.frame.fn g.frame.place es) := by
      cases hK with
      | ca k1 k2 k3 k4 => exact .ca k1 k2 (k3.mute h0 h1 _ _ hm) k4
      | quit k1 k2 k3 k4 => exact .quit k1 k2 (k3.mute h0 h1 _ _ hm) k4
    exact ⟨_, _, hst.trans hrunT, .inl ⟨(rc, mc + n + sumTo c (upd q i kk)), .right _ (by omega), _, a, b, w, sl, upd q i kk, k, n, rc, mc, rfl, Cr', hE, hD, hP, hN, hA, hK', rfl⟩⟩

theorem shut_runs (F : Fix Wg C Low Mine p Sh c) (hED : E ≠ Dn) (hEW : E ≠ Wg ∧ E ≠ C) (hDW : Dn ≠ Wg ∧ Dn ≠ C) (ok1 : ∀ w, p.N0 ≤ w.heap.size → ∀ e, EvQ Mine Wg C 1 e → EvB p Sh w e)
    (hPb : ∀ w w₁, RB p E Dn w w₁ → PostB w → PostB w₁) (hPc : ∀ w w₁, Aside2 C Wg w w₁ → PostB w → PostB w₁) :
    ∀ (μ : Nat × Nat) (M : Machine) (T : Trace), Inv2 P ty Wg C Low vals Mine AnchW p Sh c E Dn zE zD PostB μ M T →
      ∃ N M' T' wf μ', runNT P N M T = (.next M', T') ∧ p.N0 ≤ wf.heap.size ∧ Inv3 P ty Wg C Low vals Mine AnchW Post p Sh c wf μ' M' T' := by
  intro μ
  induction μ using ltP_wf.induction with
  | _ μ ih =>
    intro M T h
    obtain ⟨M', ops, hs, hr⟩ := shut_step (Post := Post) F hED hEW hDW ok1 hPb hPc h
    rcases hr with ⟨μ', hlt, hI⟩ | ⟨wf, μ', hn, hd⟩
    · obtain ⟨N, M'', T'', wf, ν, hr, hd⟩ := ih μ' hlt M' _ hI
      exact ⟨N + 1, M'', T'', wf, ν, by simp only [runNT, hs]; exact hr, hd⟩
    · exact ⟨1, M', T ++ ops, wf, μ', by simp only [runNT, hs], hn, hd⟩

/-- From the first event to behind the acquire, on whatever tape. -/
theorem gather_runs (F : Fix Wg C Low Mine p Sh c) (hED : E ≠ Dn) (hEW : E ≠ Wg ∧ E ≠ C) (hDW : Dn ≠ Wg ∧ Dn ≠ C) (hDN : Dn < p.N0) (hDS : ∀ l, Sh l → l ≠ .obj Dn) (ok1 : ∀ w, p.N0 ≤ w.heap.size → ∀ e, EvQ Mine Wg C 1 e → EvB p Sh w e)
    (hPb : ∀ w w₁, RB p E Dn w w₁ → PostB w → PostB w₁) (hPc : ∀ w w₁, Aside2 C Wg w w₁ → PostB w → PostB w₁) (hPn : ∀ w, PostB w → p.N0 ≤ w.heap.size)
    (hAr : ∀ g w, AnchW g w → g.status = .running) (hAn : ∀ g w, AnchW g w → ∃ m, Goes P true (RPa ty Wg C vals) (DPi Mine Wg C Low) (AtW1 P ty Wg C Low vals Mine AnchW Post) m g w)
    (μ : Nat × Nat) (M : Machine) (T : Trace) (h : Inv1 P p Sh E Dn zE zD PostB (AfterD P ty Wg C Low vals Mine) (FinW P ty Wg C Low vals Mine AnchW) c μ M T) :
    ∃ N M' T', runNT P N M T = (.next M', T') ∧ Done3 P Wg C Low Mine Post Sh c M' T' := by
  obtain ⟨N1, M1, T1, r1, gs, a, b, w, sl, q, k, rfl, Cr, hT, hE, hD, hP, hG, ⟨hwg, nb, hB⟩, hbr⟩ := talk_runs hED F.hc0 hDN F.hSh hDS hPb μ M T h
  obtain ⟨n, hG⟩ := (gathers_iff _ _ _ _ _ _ _ _ _ _ _).1 hG
  have hI : Inv2 P ty Wg C Low vals Mine AnchW p Sh c E Dn zE zD PostB (7, nb + n + sumTo c q) (crowd gs w sl) T1 :=
    ⟨gs, a, b, w, sl, q, k, n, 7, nb, rfl, Cr, hE, hD, hP, hPn w hP, hG, .ca (rel := false) hwg (fun e => by cases e) ⟨hT, rfl⟩ (.r0 hB), rfl⟩
  obtain ⟨N2, M2, T2, wf, ν, r2, hn, hI3⟩ := shut_runs (Post := Post) F hED hEW hDW ok1 hPb hPc _ _ _ hI
  obtain ⟨N3, M3, T3, r3, hd⟩ := join_runs F hn (ok1 wf hn) hAr hAn _ _ _ hI3
  refine ⟨N1 + N2 + N3, M3, T3, ?_, hd⟩
  rw [runNT_add, runNT_add, r1]
  simp only [r2]
  exact r3
end
end Go.Hx
