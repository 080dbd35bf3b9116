/-
  Part 3 of the proof.
  No condition but those that each statement names.
-/
import Derived.Test.YtejkelcaljmnoaaGreatDoorHy02
set_option maxRecDepth 100000
set_option linter.unusedVariables false
set_option linter.unusedSimpArgs false
set_option linter.unusedSectionVars false
namespace Go.Hx
open Go.Conc
open Go.ConcN (sumTo upd sumTo_upd upd_ne upd_same)
abbrev LtP : Nat × Nat → Nat × Nat → Prop := Prod.Lex (· < ·) (· < ·)
theorem ltP_wf : WellFounded LtP := (Prod.lex Nat.lt_wfRel Nat.lt_wfRel).wf
section
variable (P : Program) (p : Par) (Shun : Loc → Prop) (E Dn : Nat) (zE zD : Value) (PostB : World → Prop) (After Fin : Goroutine → World → Prop) (c : Nat)
def Inv1 (μ : Nat × Nat) (M : Machine) (T : Trace) : Prop :=
 ∃ (gs : Array Goroutine) (a b : Goroutine) (w : World) (sl : Option (Nat × Nat)) (q : Nat → Nat) (vs : List Value) (k ra rb : Nat),
   M = crowd gs w sl ∧ Crew P c gs a b T q ∧ Talk p Shun c w T 0 ∧ w.heap[E]? = some (.chan 0 #[] false k k false) ∧ w.heap[Dn]? = some (.chan 0 #[] false 0 0 false) ∧
   SitG P p E Dn zE zD PostB Fin vs ra a w ∧ SitT P p Shun E Dn PostB After vs rb b w ∧ 0 < ra + rb ∧ μ = (vs.length, ra + rb + sumTo c q)
def Shut1 (M : Machine) (T : Trace) : Prop :=
 ∃ (gs : Array Goroutine) (a b : Goroutine) (w : World) (sl : Option (Nat × Nat)) (q : Nat → Nat) (k : Nat),
   M = crowd gs w sl ∧ Crew P c gs a b T q ∧ Talk p Shun c w T 0 ∧ w.heap[E]? = some (.chan 0 #[] false k k false) ∧ w.heap[Dn]? = some (.chan 0 #[] true 0 0 false) ∧ PostB w ∧
   Gathers P p E Dn zE zD PostB Fin [] a w ∧ After b w ∧ b.status = .running
end
section
variable {P : Program} {p : Par} {Shun : Loc → Prop} {E Dn : Nat} {zE zD : Value} {PostB : World → Prop} {After Fin : Goroutine → World → Prop} {c : Nat}
theorem still_four {g1 g2 g3 g4 : Nat} {f1 f2 f3 f4 : FuncId} {p1 p2 p3 p4 : String} {ch s r k cap : Nat} {p : Par} {Shun : Loc → Prop} {c : Nat} {w : World} {t : Trace} (h : Talk p Shun c w t 0) :
   Talk p Shun c w (t ++ #[{ g := g1, fn := f1, pos := p1, act := .send ch s }, { g := g2, fn := f2, pos := p2, act := .recv ch r cap }, { g := g3, fn := f3, pos := p3, act := .sendDone ch k }, { g := g4, fn := f4, pos := p4, act := .recvDone ch r }]) 0 := by
 refine h.still (fun op hop => ?_) (fun g => ?_)
 · simp only [List.mem_toArray, List.mem_cons, List.not_mem_nil, or_false] at hop
   rcases hop with rfl | rfl | rfl | rfl <;> rfl
 · rw [show (#[{ g := g1, fn := f1, pos := p1, act := .send ch s }, { g := g2, fn := f2, pos := p2, act := .recv ch r cap }, { g := g3, fn := f3, pos := p3, act := .sendDone ch k }, { g := g4, fn := f4, pos := p4, act := .recvDone ch r }] : Trace)
     = ([{ g := g1, fn := f1, pos := p1, act := .send ch s }, { g := g2, fn := f2, pos := p2, act := .recv ch r cap }, { g := g3, fn := f3, pos := p3, act := .sendDone ch k }, { g := g4, fn := f4, pos := p4, act := .recvDone ch r }] : List MemOp).toArray from rfl, Deaf_append]
   simp [deafStep]
theorem talk_step (hED : E ≠ Dn) (hc0 : c ≠ 0) (hDN : Dn < p.N0) (hSh : ShOk p Shun) (hDS : ∀ l, Shun l → l ≠ .obj Dn) (hPb : ∀ w w₁, RB p E Dn w w₁ → PostB w → PostB w₁)
   {μ : Nat × Nat} {M : Machine} {T : Trace} (h : Inv1 P p Shun E Dn zE zD PostB After Fin c μ M T) :
   ∃ M' ops, stepT P M = (.next M', ops) ∧ ((∃ μ', LtP μ' μ ∧ Inv1 P p Shun E Dn zE zD PostB After Fin c μ' M' (T ++ ops)) ∨ Shut1 P p Shun E Dn zE zD PostB After Fin c M' (T ++ ops)) := by
 obtain ⟨gs, a, b, w₀, sl₀, q, vs, k, ra, rb, rfl, C, hT₀, hE₀, hD₀, hA₀, hB₀, hpos, rfl⟩ := h
 have sa := hA₀.status
 have sb := hB₀.status
 have aw := C.awake (awake_of (sa.elim (fun x => .inl x.1) (fun x => .inr (.inl x.1)))) (awake_of (sb.elim (fun x => .inl x.1) (fun x => .inr (.inl x.1))))
 have some1 : ∃ (i : Nat) (g : Goroutine), gs[i]? = some g ∧ g.status = .running := by
   rcases sa with x | x
   · exact ⟨0, a, C.h0, x.1⟩
   · rcases sb with y | y
     · exact ⟨c, b, C.hc, y.1⟩
     · omega
 obtain ⟨i, g, d, sl, hi, hg, hst⟩ := crowd_pick (P := P) (w := w₀) (sl := sl₀) aw some1
 have hT : Talk p Shun c (w₀.at d) T 0 := hT₀.world (kept_at p w₀ d)
 have hE : (w₀.at d).heap[E]? = some (.chan 0 #[] false k k false) := hE₀
 have hD : (w₀.at d).heap[Dn]? = some (.chan 0 #[] false 0 0 false) := hD₀
 have hA := hA₀.rely (RA.at p w₀ d)
 have hB := hB₀.rely (RB.at p E Dn w₀ d)
 generalize w₀.at d = w at *
 clear hT₀ hE₀ hD₀ hA₀ hB₀
 have hilt : i < gs.size := (Array.getElem?_eq_some_iff.1 hi).1
 have hs := C.size
 have hcp := C.pos
 by_cases h0 : i = 0
 ·
   subst h0
   obtain rfl : g = a := by rw [C.h0] at hi; exact (Option.some.inj hi).symm
   obtain ⟨n, rfl, hG⟩ : ∃ n, ra = n + 1 ∧ Goes P true (RA p) (DG p E Dn) (StopG P p E Dn zE zD PostB Fin vs) n g w := by
     rcases hA with x | ⟨_, g', rfl, _⟩
     · exact x
     · cases hg
   rcases hG.cases with hstop | ⟨n', rfl, hstep⟩
   · obtain ⟨_, es, hcomm, hev⟩ := (hstop w (RA.refl p w)).sel
     have hcomm0 : stepG P (0 == 0) g w = .comm (core g) (selCases E Dn zE zD) true .select w es := hcomm
     have hTa := hT.addA (Kept.refl p w) hSh g.frame.fn g.frame.place hev
     have noD : partners (gs.setIfInBounds 0 ph) Dn true = [] := partners_nil fun x y hy => by
       rcases getElem?_stand gs 0 x y hy with ⟨_, rfl⟩ | ⟨hx, hy'⟩
       · exact offersAt_ph _ _
       · by_cases hxc : x = c
         · subst hxc
           rw [C.hc] at hy'
           obtain rfl := Option.some.inj hy'
           rcases hB with ⟨_, _, hgo⟩ | ⟨_, v, vs', g', z', _, rfl, _⟩
           · have := hgo.running (fun _ _ => StopT.running) w (RB.refl p E Dn w)
             exact offersAt_of_not_blocked (fun hb => by rw [this] at hb; cases hb) _ _
           · rw [offersAt_parked_send, if_neg hED]
         · exact C.noOffer hx hxc hy' _ _
     rcases hB with ⟨m, rfl, hgo⟩ | ⟨rfl, v, vs', gw, z', rfl, rfl, hnext⟩
     ·
       have rb' := hgo.running (fun _ _ => StopT.running) w (RB.refl p E Dn w)
       have noE : partners (gs.setIfInBounds 0 ph) E true = [] := partners_nil fun x y hy => by
         rcases getElem?_stand gs 0 x y hy with ⟨_, rfl⟩ | ⟨hx, hy'⟩
         · exact offersAt_ph _ _
         · by_cases hxc : x = c
           · subst hxc
             rw [C.hc] at hy'
             obtain rfl := Option.some.inj hy'
             exact offersAt_of_not_blocked (fun hb => by rw [rb'] at hb; cases hb) _ _
           · exact C.noOffer hx hxc hy' _ _
       have hw : ∀ cc ∈ selCases E Dn zE zD, NoWays w (gs.setIfInBounds 0 ph) cc := by
         intro cc hcc
         simp only [selCases, List.mem_toArray, List.mem_cons, List.not_mem_nil, or_false] at hcc
         rcases hcc with rfl | rfl
         · exact ways_recv_none hE noE
         · exact ways_recv_none hD noD
       refine ⟨_, _, hst.trans (crowd_waits hi hcomm0 hw), .inl ⟨(vs.length, 0 + (m + 1) + sumTo c q), .right _ (by omega), _, _, b, w, sl, q, vs, k, 0, m + 1, rfl,
         C.put (by simp) (by simp [hilt]) (by rw [Array.getElem?_setIfInBounds_ne (by omega)]; exact C.hc) (fun x hx _ => Array.getElem?_setIfInBounds_ne (Ne.symm hx)) (fun op hop => .inl (by obtain ⟨_, _, rfl⟩ := Conc.mem_ofEvents hop; rfl)),
         hTa, hE, hD, .inr ⟨rfl, g, rfl, hstop⟩, .inl ⟨m, rfl, hgo⟩, by omega, rfl⟩⟩
     ·
       have oneE : partners (gs.setIfInBounds 0 ph) E true = [(c, 0)] := by
         have hj : (gs.setIfInBounds 0 ph)[c]? = some (parked (core gw) #[scase E v z'] .send) := by rw [Array.getElem?_setIfInBounds_ne (by omega)]; exact C.hc
         have := partners_one (gs := gs.setIfInBounds 0 ph) (r := E) (send := true) hj (fun x y hxc hy => by
           rcases getElem?_stand gs 0 x y hy with ⟨_, rfl⟩ | ⟨hx, hy'⟩
           · exact offersAt_ph _ _
           · exact C.noOffer hx hxc hy' _ _)
         rw [this, offersAt_parked_send, if_pos rfl]
         rfl
       have hrun := crowd_sel_recv_meets (sl := sl) (k := 0) (c := E) (j := c) (z := zE) hi hcomm0 rfl
         (fun m c' hm hc' => by
           rcases m with _ | _ | m
           · omega
           · have : c' = rcase Dn zD := by simpa [selCases] using hc'.symm
             subst this
             exact ways_recv_none hD noD
           · simp [selCases] at hc') hE (by omega) C.hc oneE
       have hk' := setChan_kept (p := p) (cap' := 0) (buf' := #[]) (cl' := false) (s' := k + 1) (r' := k + 1) (tm' := false) hE
       obtain ⟨nA, hnA⟩ := (gathers_iff P p E Dn zE zD PostB Fin vs' _ _).1 ((hstop w (RA.refl p w)).cons _ (setChan_RA (cap' := 0) (buf' := #[]) (cl' := false) (s' := k + 1) (r' := k + 1) (tm' := false) hE))
       obtain ⟨nB, hnB⟩ := (tells_iff P p Shun E Dn PostB After vs' _ _).1 (hnext _ (setChan_RB (cap' := 0) (buf' := #[]) (cl' := false) (s' := k + 1) (r' := k + 1) (tm' := false) hE (.inl rfl)))
       refine ⟨_, _, hst.trans hrun, .inl ⟨(vs'.length, (nA + 1) + (nB + 1) + sumTo c q), .left _ _ (by simp), _, _, _, _, sl, q, vs', k + 1, nA + 1, nB + 1, rfl,
         C.put (by simp) (by simp [hilt]; rfl) (by rw [Array.getElem?_setIfInBounds_ne (by omega)]; simp [hs]; rfl) (fun x hx hxc => by rw [Array.getElem?_setIfInBounds_ne (Ne.symm hx), Array.getElem?_setIfInBounds_ne (Ne.symm hxc)]) (fun op hop => ?_),
         ?_, setChan_get hE, by rw [setChan_ne (Ne.symm hED)]; exact hD, .inl ⟨nA, rfl, hnA⟩, .inl ⟨nB, rfl, hnB⟩, by omega, rfl⟩⟩
       · rcases Array.mem_append.1 hop with x | x
         · obtain ⟨_, _, rfl⟩ := Conc.mem_ofEvents x; exact .inl rfl
         · simp only [List.mem_toArray, List.mem_cons, List.not_mem_nil, or_false] at x
           rcases x with rfl | rfl | rfl | rfl
           · exact .inr rfl
           · exact .inl rfl
           · exact .inr rfl
           · exact .inl rfl
       · rw [← Array.append_assoc]
         exact still_four (hTa.world hk')
   ·
     obtain ⟨a', w', es, hgo, ⟨hR, hE', hD', hev⟩, hG'⟩ := hstep w (RA.refl p w)
     have hE2 := hE'.trans hE
     have hD2 := hD'.trans hD
     refine ⟨_, _, hst.trans (runT_crowd_go hi (show stepG P (0 == 0) g w = _ from hgo)), .inl ⟨(vs.length, (n' + 1) + rb + sumTo c q), .right _ (by omega), _, a', b, w', sl, q, vs, k, n' + 1, rb, rfl,
       C.step0 (hB.again hE2) (fun op hop => by obtain ⟨_, _, rfl⟩ := Conc.mem_ofEvents hop; rfl), hT.addA hR.kept hSh _ _ hev, hE2, hD2, .inl ⟨n', rfl, hG'⟩, hB.rely hR, by omega, rfl⟩⟩
 by_cases h1 : i = c
 ·
   subst h1
   obtain rfl : g = b := by rw [C.hc] at hi; exact (Option.some.inj hi).symm
   have hi0 : (i == 0) = false := by simp [h0]
   obtain ⟨n, rfl, hG⟩ : ∃ n, rb = n + 1 ∧ Goes P false (RB p E Dn) (DT p Shun E Dn) (StopT P p Shun E Dn PostB After vs) n g w := by
     rcases hB with x | ⟨_, v, vs', g', z', _, rfl, _⟩
     · exact x
     · cases hg
   rcases hG.cases with hstop | ⟨n', rfl, hstep⟩
   · cases vs with
     | nil =>
       obtain ⟨_, hmw, hpost, g', hg', hgo, hafter⟩ : AtOver P Dn PostB After g w := hstop w (RB.refl p E Dn w)
       have hgo := hgo hD
       have hk' := setChan_kept (p := p) (cap' := 0) (buf' := #[]) (cl' := true) (s' := 0) (r' := 0) (tm' := false) hD
       have hDt := setChan_get (cap := 0) (buf := #[]) (cl := true) (s := 0) (r := 0) (tm := false) hD
       have hRA := setChan_RA (p := p) (cap' := 0) (buf' := #[]) (cl' := true) (s' := 0) (r' := 0) (tm' := false) hD
       have key : Gathers P p E Dn zE zD PostB Fin [] (woken P g g' (w.setChan Dn 0 #[] true 0 0 false) a) (w.setChan Dn 0 #[] true 0 0 false) := by
         rw [gathers_iff]
         rcases hA with ⟨m, _, hgoA⟩ | ⟨_, ga, rfl, hsA⟩
         · rw [woken_same (again_running _ (.inl (hgoA.running (fun _ _ => StopG.running) w (RA.refl p w))))]
           exact ⟨m, Goes.rely RA.trans hgoA hRA⟩
         · refine ⟨0, fun w₁ h₁ => ?_⟩
           have e1 : woken P g g' (w.setChan Dn 0 #[] true 0 0 false) (parked (core ga) (selCases E Dn zE zD) .select) = { parked (core ga) (selCases E Dn zE zD) .select with status := .running } := by
             unfold woken
             rw [if_pos (by simp [hmw, hg']), again_some_closed (k := 1) (c := Dn) (z := zD) rfl hDt]
           rw [e1]
           exact (hsA w₁ (hRA.trans _ _ _ h₁)).tries
       refine ⟨_, _, hst.trans (runT_crowd_go hi (by rw [hi0]; exact hgo)), .inr ⟨_, _, g', _, sl, q, k, rfl, C.stepc rfl (fun op hop => by obtain ⟨_, _, rfl⟩ := Conc.mem_ofEvents hop; rfl), ?_, by rw [setChan_ne hED]; exact hE, hDt, hPb _ _ (setChan_RB hD (.inr rfl)) hpost, key, hafter, hg'⟩⟩
       have hlt : Dn < (w.setChan Dn 0 #[] true 0 0 false).heap.size := (Array.getElem?_eq_some_iff.1 hDt).1
       refine hT.addB hk' _ _ fun e he => ?_
       simp only [closeEvents, List.mem_toArray, List.mem_cons, List.not_mem_nil, or_false] at he
       rcases he with rfl | rfl
       · refine ⟨fun x hx _ => ?_, by simp, by simp⟩
         simp only [MemAct.ofEvent, MemAct.touch?, Option.some.injEq] at hx
         subst hx
         exact ⟨⟨Dn, rfl, hlt, chan_not_fa hDt⟩, fun s => absurd rfl (hDS _ s), fun _ => rfl⟩
       · exact ⟨fun x hx _ => by simp [MemAct.ofEvent, MemAct.touch?] at hx, by simp, by simp⟩
     | cons v vs' =>
       obtain ⟨_, es, z', hcomm, hev, hnext⟩ : AtTell P p Shun E Dn v (fun g₂ w₂ => Tells P p Shun E Dn PostB After vs' (Conc.served g₂ undef) w₂) g w := hstop w (RB.refl p E Dn w)
       have hcomm0 : stepG P (i == 0) g w = .comm (core g) #[scase E v z'] true .send w es := by rw [hi0]; exact hcomm
       have hTc := hT.addB (Kept.refl p w) g.frame.fn g.frame.place hev
       rcases hA with ⟨m, rfl, hgo⟩ | ⟨rfl, ga, rfl, hsA⟩
       ·
         have ra' := hgo.running (fun _ _ => StopG.running) w (RA.refl p w)
         have noE : partners (gs.setIfInBounds i ph) E false = [] := partners_nil fun x y hy => by
           rcases getElem?_stand gs i x y hy with ⟨_, rfl⟩ | ⟨hx, hy'⟩
           · exact offersAt_ph _ _
           · by_cases hx0 : x = 0
             · subst hx0
               rw [C.h0] at hy'
               obtain rfl := Option.some.inj hy'
               exact offersAt_of_not_blocked (fun hb => by rw [ra'] at hb; cases hb) _ _
             · exact C.noOffer hx0 hx hy' _ _
         have hw : ∀ cc ∈ (#[scase E v z'] : Array CommCase), NoWays w (gs.setIfInBounds i ph) cc := by
           intro cc hcc
           have : cc = scase E v z' := by simpa using hcc
           subst this
           exact ways_send_none hE (Nat.zero_le _) noE
         refine ⟨_, _, hst.trans (crowd_waits hi hcomm0 hw), .inl ⟨((v :: vs').length, (m + 1) + 0 + sumTo i q), .right _ (by omega), _, a, _, w, sl, q, v :: vs', k, m + 1, 0, rfl,
           C.put (by simp) (by rw [Array.getElem?_setIfInBounds_ne h0]; exact C.h0) (by simp [hilt]) (fun x _ hx => Array.getElem?_setIfInBounds_ne (Ne.symm hx)) (fun op hop => .inr (by obtain ⟨_, _, rfl⟩ := Conc.mem_ofEvents hop; rfl)),
           hTc, hE, hD, .inl ⟨m, rfl, hgo⟩, .inr ⟨rfl, v, vs', g, z', rfl, rfl, hnext⟩, by omega, rfl⟩⟩
       ·
         have hoff : offersAt (parked (core ga) (selCases E Dn zE zD) .select) E false = [0] := offersAt_parked_at (k := 0) (z := zE) rfl (fun m cc hm hcc => by
           rcases m with _ | _ | m
           · omega
           · have : cc = rcase Dn zD := by simpa [selCases] using hcc.symm
             subst this
             simp [rcase, Ne.symm hED]
           · simp [selCases] at hcc)
         have oneE : partners (gs.setIfInBounds i ph) E false = [(0, 0)] := by
           have hj : (gs.setIfInBounds i ph)[0]? = some (parked (core ga) (selCases E Dn zE zD) .select) := by rw [Array.getElem?_setIfInBounds_ne h0]; exact C.h0
           have := partners_one (gs := gs.setIfInBounds i ph) (r := E) (send := false) hj (fun x y hx0 hy => by
             rcases getElem?_stand gs i x y hy with ⟨_, rfl⟩ | ⟨hx, hy'⟩
             · exact offersAt_ph _ _
             · exact C.noOffer hx0 hx hy' _ _)
           rw [this, hoff]
           rfl
         have hrun := crowd_send_meets_sel (sl := sl) (k := 0) (c := E) (j := 0) (zj := zE) hi hcomm0 hE (by omega) C.h0 rfl oneE
         have hk' := setChan_kept (p := p) (cap' := 0) (buf' := #[]) (cl' := false) (s' := k + 1) (r' := k + 1) (tm' := false) hE
         obtain ⟨nA, hnA⟩ := (gathers_iff P p E Dn zE zD PostB Fin vs' _ _).1 ((hsA w (RA.refl p w)).cons _ (setChan_RA (cap' := 0) (buf' := #[]) (cl' := false) (s' := k + 1) (r' := k + 1) (tm' := false) hE))
         obtain ⟨nB, hnB⟩ := (tells_iff P p Shun E Dn PostB After vs' _ _).1 (hnext _ (setChan_RB (cap' := 0) (buf' := #[]) (cl' := false) (s' := k + 1) (r' := k + 1) (tm' := false) hE (.inl rfl)))
         refine ⟨_, _, hst.trans hrun, .inl ⟨(vs'.length, (nA + 1) + (nB + 1) + sumTo i q), .left _ _ (by simp), _, _, _, _, sl, q, vs', k + 1, nA + 1, nB + 1, rfl,
           C.put (by simp) (by rw [Array.getElem?_setIfInBounds_ne h0]; simp [hs]; rfl) (by simp [hilt]; rfl) (fun x hx hxc => by rw [Array.getElem?_setIfInBounds_ne (Ne.symm hxc), Array.getElem?_setIfInBounds_ne (Ne.symm hx)]) (fun op hop => ?_),
           ?_, setChan_get hE, by rw [setChan_ne (Ne.symm hED)]; exact hD, .inl ⟨nA, rfl, hnA⟩, .inl ⟨nB, rfl, hnB⟩, by omega, rfl⟩⟩
         · rcases Array.mem_append.1 hop with x | x
           · obtain ⟨_, _, rfl⟩ := Conc.mem_ofEvents x; exact .inr rfl
           · simp only [List.mem_toArray, List.mem_cons, List.not_mem_nil, or_false] at x
             rcases x with rfl | rfl | rfl | rfl
             · exact .inr rfl
             · exact .inl rfl
             · exact .inr rfl
             · exact .inl rfl
         · rw [← Array.append_assoc]
           exact still_four (hTc.world hk')
   ·
     obtain ⟨b', w', es, hgo, ⟨hR, hE', hD', hev⟩, hG'⟩ := hstep w (RB.refl p E Dn w)
     have hE2 := hE'.trans hE
     have hD2 := hD'.trans hD
     refine ⟨_, _, hst.trans (runT_crowd_go hi (by rw [hi0]; exact hgo)), .inl ⟨(vs.length, ra + (n' + 1) + sumTo i q), .right _ (by omega), _, a, b', w', sl, q, vs, k, ra, n' + 1, rfl,
       C.stepc (woken_same (hA.again hE2 hD2)) (fun op hop => by obtain ⟨_, _, rfl⟩ := Conc.mem_ofEvents hop; rfl), hT.addB hR.kept _ _ hev, hE2, hD2, hA.rely hR, .inl ⟨n', rfl, hG'⟩, by omega, rfl⟩⟩
 ·
   obtain ⟨g', es, kk, hq, hrun, hm, C'⟩ := C.leaver hi h0 h1 hg sl w
   rw [woken_same (hA.again hE hD), woken_same (hB.again hE)] at C'
   have hsum := sum_leaver (c := c) (by omega) hq
   refine ⟨_, _, hst.trans hrun, .inl ⟨(vs.length, ra + rb + sumTo c (upd q i kk)), .right _ (by omega), _, a, b, w, sl, upd q i kk, vs, k, ra, rb, rfl, C', hT.mute h0 h1 _ _ hm, hE, hD, hA, hB, hpos, rfl⟩⟩
theorem talk_runs (hED : E ≠ Dn) (hc0 : c ≠ 0) (hDN : Dn < p.N0) (hSh : ShOk p Shun) (hDS : ∀ l, Shun l → l ≠ .obj Dn) (hPb : ∀ w w₁, RB p E Dn w w₁ → PostB w → PostB w₁) :
   ∀ (μ : Nat × Nat) (M : Machine) (T : Trace), Inv1 P p Shun E Dn zE zD PostB After Fin c μ M T →
     ∃ N M' T', runNT P N M T = (.next M', T') ∧ Shut1 P p Shun E Dn zE zD PostB After Fin c M' T' := by
 intro μ
 induction μ using ltP_wf.induction with
 | _ μ ih =>
   intro M T h
   obtain ⟨M', ops, hs, hr⟩ := talk_step hED hc0 hDN hSh hDS hPb h
   rcases hr with ⟨μ', hlt, hI⟩ | hd
   · obtain ⟨N, M'', T'', hr, hd⟩ := ih μ' hlt M' _ hI
     exact ⟨N + 1, M'', T'', by simp only [runNT, hs]; exact hr, hd⟩
   · exact ⟨1, M', T ++ ops, by simp only [runNT, hs], hd⟩
end
end Go.Hx
