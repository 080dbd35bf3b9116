/-
  Part 33 of the proof.
  No condition but those that each statement names.
-/
import Derived.Test.YtejkelcaljmnoaaGreatDoorHy32
set_option maxRecDepth 100000
set_option linter.unusedVariables false
set_option linter.unusedSimpArgs false
set_option linter.unusedSectionVars false
namespace Go.Proofs.YtejkelcaljmnoaaGreatDoor
open Go.Conc Go.Hx Go.Lo
def erV (eb : Nat → Nat × Nat) : Option Nat → Value
 | none => .nilIface
 | some i => erv eb i
def Stays (b : Nat) (S : St) (G : Frag) : Prop := (∃ z, (b, z) ∈ S.ps) ∨ ∃ z, pb b z ∈ G ∧ z.st = 6
def St.hasChild (S : St) (x : PS) : Bool := S.ps.any fun q => decide (q.2.par = x.id)
def St.waitR (S : St) (b : Nat) (x : PS) : Option Nat × St := if S.hasChild x then (none, match S.childAt x with
 | some i => S.take b x i
 | none => S.stop1 b x 2) else (some 5, S)
theorem wait_0 : ∃ n, ∀ {σ : Type} {F : Fam σ} {Δ : ∀ s, Dom (F.R s) (F.D s)} {main : Bool} {s : σ} (K : Nat) (A : Lay) (S : St) (Fr L : Frag) (eb : Nat → Nat × Nat) (b : Nat) (x : PS), Rep K A S Fr L → Ers eb Fr → (b, x) ∈ S.ps → S.hasChild x = false →
   CallsL Δ Tryz.prog main 132 [ptr K, ptr b].toArray n s L (fun s' v L' => s = s' ∧ v = erv eb 5 ∧ Rep K A S Fr L') := by
 obtain ⟨n0, g0⟩ := isParentOf_s
 obtain ⟨n1, g1⟩ := containsFunc_s n0
 apply Exists.intro
 intro σ F Δ main s K A S Fr L eb b x hR hE hb hch
 obtain ⟨base, cap, hv, hat0⟩ := slv_view hR.pa
 simp only [List.length_map] at hv
 have h5 : At L K 5 (.slice base (S.ps.map (·.1)).length cap) := by rw [List.length_map, ← hv]; exact hR.kat rfl
 have hcl : ∀ c ∈ S.ps.map (·.1), ∀ L', Ext L L' → CallsL Δ Tryz.prog main 128 ([ptr b] ++ [ptr c] ++ []).toArray n0 s L' (fun s' v L'' => s = s' ∧ v = .bool (S.testB (fun y => decide (y.par = x.id)) c) ∧ Ext L' L'') := by
   intro c hc L' hE'
   obtain ⟨q, hq, rfl⟩ := List.mem_map.1 hc
   have e : S.testB (fun y => decide (y.par = x.id)) q.1 = decide (q.2.par = x.id) := by simp [St.testB, get_of hR.pn (b := q.1) (x := q.2) hq]
   rw [e]
   refine callsL_post (g0 L' b q.1 x q.2 (hE'.s _ (hR.p _ hb)) (hE'.s _ (hR.p _ hq))) fun s' v L'' ⟨h1, h2, h3⟩ => ⟨h1, h3, ?_⟩
   subst h2
   exact ⟨hE'.f, fun _ h => h⟩
 co_applyP callsE 21 Tryz.func132 Tryz.ntmps132
 co_applyP c_seq
 co_applyP c_region
 co_applyP oy rfl E_as
 co_applyP o_nil
 change wpE ..
 co_applyP c_seq (n₂ := 0)
 co_applyP c_seq
 co_applyP c_region
 co_applyP oy rfl E_mv
 co_applyP oy rfl E_nc
 co_applyP oy rfl (E_fa (hf := fo_115_2))
 co_applyP oy rfl (E_ld (ht := ag_91))
 co_applyP oy rfl E_mv
 co_applyP oy rfl E_mkm1
 co_applyP oc rfl rfl rfl (g1 L 128 _ [ptr b] [] (S.ps.map (·.1)) (S.testB fun y => decide (y.par = x.id)) base cap (fun i v hv => by obtain ⟨b, _, h2, h3⟩ := hat0 i v (by simpa using hv); exact ⟨b, h2, h3⟩) (by simpa using hR.p8) Tryz.func128 rfl rfl hcl)
 rintro _ _ _ ⟨rfl, rfl, hE1⟩
 co_applyP oy rfl E_not
 co_applyP o_nil
 change wpE ..
 rename_i L1
 have e1 : (S.ps.map (·.1)).any (S.testB fun y => decide (y.par = x.id)) = false := by rw [any_testB hR.pn]; exact hch
 have hR1 := hR.ext hE1
 have hg := (hE.mono hR1.fr).g 5 (by decide) (by decide)
 rw [e1]
 co_applyP c_true rfl
 co_applyP c_seq
 co_applyP c_region
 co_applyP oy rfl (E_ld (ht := ag_168))
 co_applyP oy rfl E_as
 co_applyP o_nil
 change wpE ..
 co_applyP c_ret
 change ∃ v, resE .. = some v ∧ _
 exact ⟨_, rfl, rfl, rfl, hR1⟩
theorem wait_1 : ∃ n, ∀ {σ : Type} {F : Fam σ} {Δ : ∀ s, Dom (F.R s) (F.D s)} {main : Bool} {s : σ} (K : Nat) (A : Lay) (S : St) (Fr L : Frag) (b : Nat) (x : PS), (∀ cs, (Δ s).New (.cells cs 93)) → Rep K A S Fr L → Inv S → (b, x) ∈ S.ps → x.st ≠ 6 → S.hasChild x = true → S.childAt x = none →
   CallsL Δ Tryz.prog main 132 [ptr K, ptr b].toArray n s L (fun s' v L' => s = s' ∧ v = .nilIface ∧ ∃ A', Rep K A' (S.stop1 b x 2) Fr L') := by
 obtain ⟨n0, g0⟩ := isParentOf_s
 obtain ⟨n1, g1⟩ := containsFunc_s n0
 obtain ⟨n2, g2⟩ := collect_s
 obtain ⟨n3, g3⟩ := stop_s
 apply Exists.intro
 intro σ F Δ main s K A S Fr L b x hN hR hI hb hx6 hch hca
 have hlv := hI.g.lv _ hb
 obtain ⟨base, cap, hv, hat0⟩ := slv_view hR.pa
 simp only [List.length_map] at hv
 have h5 : At L K 5 (.slice base (S.ps.map (·.1)).length cap) := by rw [List.length_map, ← hv]; exact hR.kat rfl
 have hcl : ∀ c ∈ S.ps.map (·.1), ∀ L', Ext L L' → CallsL Δ Tryz.prog main 128 ([ptr b] ++ [ptr c] ++ []).toArray n0 s L' (fun s' v L'' => s = s' ∧ v = .bool (S.testB (fun y => decide (y.par = x.id)) c) ∧ Ext L' L'') := by
   intro c hc L' hE'
   obtain ⟨q, hq, rfl⟩ := List.mem_map.1 hc
   have e : S.testB (fun y => decide (y.par = x.id)) q.1 = decide (q.2.par = x.id) := by simp [St.testB, get_of hR.pn (b := q.1) (x := q.2) hq]
   rw [e]
   refine callsL_post (g0 L' b q.1 x q.2 (hE'.s _ (hR.p _ hb)) (hE'.s _ (hR.p _ hq))) fun s' v L'' ⟨h1, h2, h3⟩ => ⟨h1, h3, ?_⟩
   subst h2
   exact ⟨hE'.f, fun _ h => h⟩
 co_applyP callsE 21 Tryz.func132 Tryz.ntmps132
 co_applyP c_seq
 co_applyP c_region
 co_applyP oy rfl E_as
 co_applyP o_nil
 change wpE ..
 co_applyP c_seq
 co_applyP c_seq
 co_applyP c_region
 co_applyP oy rfl E_mv
 co_applyP oy rfl E_nc
 co_applyP oy rfl (E_fa (hf := fo_115_2))
 co_applyP oy rfl (E_ld (ht := ag_91))
 co_applyP oy rfl E_mv
 co_applyP oy rfl E_mkm1
 co_applyP oc rfl rfl rfl (g1 L 128 _ [ptr b] [] (S.ps.map (·.1)) (S.testB fun y => decide (y.par = x.id)) base cap (fun i v hv => by obtain ⟨b, _, h2, h3⟩ := hat0 i v (by simpa using hv); exact ⟨b, h2, h3⟩) (by simpa using hR.p8) Tryz.func128 rfl rfl hcl)
 rintro _ _ _ ⟨rfl, rfl, hE1⟩
 co_applyP oy rfl E_not
 co_applyP o_nil
 change wpE ..
 rename_i L1
 have e1 : (S.ps.map (·.1)).any (S.testB fun y => decide (y.par = x.id)) = true := by rw [any_testB hR.pn]; exact hch
 have hR1 := hR.ext hE1
 rw [e1]
 co_applyP c_false rfl
 co_applyP c_skip
 change wpE ..
 co_applyP c_seq
 co_applyP c_seq
 co_applyP c_region
 co_applyP oy rfl E_mv
 co_applyP oy rfl E_mv
 co_applyP oc rfl rfl rfl (g2 K A S Fr L1 b x hN hR1 hb hx6)
 rintro _ _ _ ⟨rfl, hpost⟩
 rename_i v2 L2
 rw [hca] at hpost
 obtain ⟨rfl, hR2⟩ := hpost
 co_applyP oy rfl E_not
 co_applyP o_nil
 change wpE ..
 co_applyP c_true rfl
 co_applyP c_region
 co_applyP oy rfl E_mv
 co_applyP oy rfl E_mv
 co_applyP oc rfl rfl rfl (g3 K A S Fr L2 b x 2 hR2 hb hlv (hI.g.r8 hlv) (hI.g.ex hlv) (fun e he => slot_ne e.1 hlv))
 rintro _ _ _ ⟨rfl, rfl, A3, hw3, hR3⟩
 co_applyP o_nil
 change wpE ..
 co_applyP c_seq
 co_applyP c_region
 co_applyP oy rfl E_as
 co_applyP o_nil
 change wpE ..
 co_applyP c_ret
 change ∃ v, resE .. = some v ∧ _
 exact ⟨_, rfl, rfl, rfl, A3, hR3⟩
theorem wait_2 : ∃ n, ∀ {σ : Type} {F : Fam σ} {Δ : ∀ s, Dom (F.R s) (F.D s)} {main : Bool} {s : σ} (K : Nat) (A : Lay) (S : St) (Fr L : Frag) (b : Nat) (x : PS) (i : Nat), (∀ cs, (Δ s).New (.cells cs 93)) → Rep K A S Fr L → Inv S → (b, x) ∈ S.ps → x.st ≠ 6 → S.hasChild x = true → S.childAt x = some i →
   CallsL Δ Tryz.prog main 132 [ptr K, ptr b].toArray n s L (fun s' v L' => s = s' ∧ v = .nilIface ∧ ∃ A', Rep K A' (S.take b x i) Fr L') := by
 obtain ⟨n0, g0⟩ := isParentOf_s
 obtain ⟨n1, g1⟩ := containsFunc_s n0
 obtain ⟨n2, g2⟩ := collect_s
 apply Exists.intro
 intro σ F Δ main s K A S Fr L b x i hN hR hI hb hx6 hch hca
 obtain ⟨base, cap, hv, hat0⟩ := slv_view hR.pa
 simp only [List.length_map] at hv
 have h5 : At L K 5 (.slice base (S.ps.map (·.1)).length cap) := by rw [List.length_map, ← hv]; exact hR.kat rfl
 have hcl : ∀ c ∈ S.ps.map (·.1), ∀ L', Ext L L' → CallsL Δ Tryz.prog main 128 ([ptr b] ++ [ptr c] ++ []).toArray n0 s L' (fun s' v L'' => s = s' ∧ v = .bool (S.testB (fun y => decide (y.par = x.id)) c) ∧ Ext L' L'') := by
   intro c hc L' hE'
   obtain ⟨q, hq, rfl⟩ := List.mem_map.1 hc
   have e : S.testB (fun y => decide (y.par = x.id)) q.1 = decide (q.2.par = x.id) := by simp [St.testB, get_of hR.pn (b := q.1) (x := q.2) hq]
   rw [e]
   refine callsL_post (g0 L' b q.1 x q.2 (hE'.s _ (hR.p _ hb)) (hE'.s _ (hR.p _ hq))) fun s' v L'' ⟨h1, h2, h3⟩ => ⟨h1, h3, ?_⟩
   subst h2
   exact ⟨hE'.f, fun _ h => h⟩
 co_applyP callsE 21 Tryz.func132 Tryz.ntmps132
 co_applyP c_seq
 co_applyP c_region
 co_applyP oy rfl E_as
 co_applyP o_nil
 change wpE ..
 co_applyP c_seq
 co_applyP c_seq
 co_applyP c_region
 co_applyP oy rfl E_mv
 co_applyP oy rfl E_nc
 co_applyP oy rfl (E_fa (hf := fo_115_2))
 co_applyP oy rfl (E_ld (ht := ag_91))
 co_applyP oy rfl E_mv
 co_applyP oy rfl E_mkm1
 co_applyP oc rfl rfl rfl (g1 L 128 _ [ptr b] [] (S.ps.map (·.1)) (S.testB fun y => decide (y.par = x.id)) base cap (fun i v hv => by obtain ⟨b, _, h2, h3⟩ := hat0 i v (by simpa using hv); exact ⟨b, h2, h3⟩) (by simpa using hR.p8) Tryz.func128 rfl rfl hcl)
 rintro _ _ _ ⟨rfl, rfl, hE1⟩
 co_applyP oy rfl E_not
 co_applyP o_nil
 change wpE ..
 rename_i L1
 have e1 : (S.ps.map (·.1)).any (S.testB fun y => decide (y.par = x.id)) = true := by rw [any_testB hR.pn]; exact hch
 have hR1 := hR.ext hE1
 rw [e1]
 co_applyP c_false rfl
 co_applyP c_skip
 change wpE ..
 co_applyP c_seq
 co_applyP c_seq
 co_applyP c_region
 co_applyP oy rfl E_mv
 co_applyP oy rfl E_mv
 co_applyP oc rfl rfl rfl (g2 K A S Fr L1 b x hN hR1 hb hx6)
 rintro _ _ _ ⟨rfl, hpost⟩
 rename_i v2 L2
 rw [hca] at hpost
 obtain ⟨rfl, c, y, a', hcy, hR2⟩ := hpost
 co_applyP oy rfl E_not
 co_applyP o_nil
 change wpE ..
 co_applyP c_false rfl
 co_applyP c_skip
 change wpE ..
 co_applyP c_seq
 co_applyP c_region
 co_applyP oy rfl E_as
 co_applyP o_nil
 change wpE ..
 co_applyP c_ret
 change ∃ v, resE .. = some v ∧ _
 refine ⟨_, rfl, rfl, rfl, A.setA 0 a', ?_⟩
 unfold St.take
 rw [hcy]
 exact hR2.less fun t ht => List.mem_cons_of_mem _ ht
theorem wait_s : ∃ n, ∀ {σ : Type} {F : Fam σ} {Δ : ∀ s, Dom (F.R s) (F.D s)} {main : Bool} {s : σ} (K : Nat) (A : Lay) (S : St) (Fr L : Frag) (eb : Nat → Nat × Nat) (b : Nat) (x : PS), (∀ cs, (Δ s).New (.cells cs 93)) → Rep K A S Fr L → Ers eb Fr → Inv S → (b, x) ∈ S.ps → x.st ≠ 6 →
   CallsL Δ Tryz.prog main 132 [ptr K, ptr b].toArray n s L (fun s' v L' => s = s' ∧ v = erV eb (S.waitR b x).1 ∧ ∃ A', Rep K A' (S.waitR b x).2 Fr L') := by
 obtain ⟨n0, g0⟩ := wait_0
 obtain ⟨n1, g1⟩ := wait_1
 obtain ⟨n2, g2⟩ := wait_2
 refine ⟨n0 + (n1 + n2), fun {σ F Δ main s} K A S Fr L eb b x hN hR hE hI hb h6 => callsL_split (S.hasChild x = false) (fun h => ?_) fun h => callsL_split (S.childAt x = none) (fun hc => ?_) fun hc => ?_⟩
 · have e : S.waitR b x = (some 5, S) := by unfold St.waitR; rw [if_neg (by rw [h]; simp)]
   rw [e]
   exact callsL_post (g0 K A S Fr L eb b x hR hE hb h) fun s' v L' ⟨h1, h2, h3⟩ => ⟨h1, h2, A, h3⟩
 · have h' : S.hasChild x = true := by simpa using h
   have e : S.waitR b x = (none, S.stop1 b x 2) := by unfold St.waitR; rw [if_pos h', hc]
   rw [e]
   exact g1 K A S Fr L b x hN hR hI hb h6 h' hc
 · have h' : S.hasChild x = true := by simpa using h
   obtain ⟨i, hi⟩ : ∃ i, S.childAt x = some i := by
     cases hh : S.childAt x with
     | none => exact absurd hh hc
     | some i => exact ⟨i, rfl⟩
   have e : S.waitR b x = (none, S.take b x i) := by unfold St.waitR; rw [if_pos h', hi]
   rw [e]
   exact g2 K A S Fr L b x i hN hR hI hb h6 h' hi
section
variable {K : Nat} {A : Lay} {S : St} {F G L L' : Frag}
theorem Rep.off (h : Rep K A S F L) {b : Nat} {o : Obj} (hk : K ≠ b) (hp : ∀ q ∈ S.ps, q.1 ≠ b) (ha : ∀ i, (A.a i).b ≠ some b) (hy : ∀ i, (A.y i).b ≠ some b) (hw : A.wt ≠ b) (hg : A.g ≠ b) (hF : ∀ t ∈ F, t.1 ≠ b) (u : Upd L b o L') : Rep K A S F L' := by
 have arr : ∀ (a : Sl) (xs : List Value) (e : TypeId), a.b ≠ some b → slOk a xs e L → slOk a xs e L' := fun a xs e hn ha => by
   refine ha.mono fun c hc o ho => u.ne _ ho ?_
   show c ≠ b
   rintro rfl
   exact hn hc
 exact { h with
   fn := u.fn
   k := u.ne _ h.k hk
   g := u.ne _ h.g hg
   p := fun q hq => u.ne _ (h.p q hq) (hp q hq)
   pa := arr _ _ _ (ha 0) h.pa
   rw := fun l hl => arr _ _ _ (ha _) (h.rw l hl)
   ya := fun i hi => arr _ _ _ (hy i) (h.ya i hi)
   w := u.ne _ h.w hw
   wa := fun e he => arr _ _ _ (ha _) (h.wa e he)
   al := fun i c hc => by obtain ⟨xs, hx⟩ := h.al i c hc; exact ⟨xs, u.ne _ hx (by rintro rfl; exact ha i hc)⟩
   yl := fun i c hc => by obtain ⟨xs, hx⟩ := h.yl i c hc; exact ⟨xs, u.ne _ hx (by rintro rfl; exact hy i hc)⟩
   fr := fun t ht => u.ne _ (h.fr t ht) (hF t ht) }
theorem Rep.aside (h : Rep K A S (G ++ F) L) {b : Nat} {z z' : PS} (hm : pb b z ∈ G) (hF : ∀ t ∈ F, t.1 ≠ b) (u : Upd L b (.cells (pcells z') 99) L') : Rep K A S ((pb b z' :: G.filter fun t => !decide (t.1 = b)) ++ F) L' := by
 have hd := h.fd (pb b z) (List.mem_append_left _ hm)
 have hbL := h.fr (pb b z) (List.mem_append_left _ hm)
 have h1 : Rep K A S ((G.filter fun t => !decide (t.1 = b)) ++ F) L := h.less fun t ht => by
   rcases List.mem_append.1 ht with h | h
   · exact List.mem_append_left _ (List.mem_filter.1 h).1
   · exact List.mem_append_right _ h
 have h2 := h1.off (b := b) (Ne.symm hd.1) (fun q hq => Ne.symm (hd.2.1 q hq)) hd.2.2.1 hd.2.2.2.1 (Ne.symm hd.2.2.2.2) (h.fn.ne h.g hbL (cells_ne (by decide))) (fun t ht => by
   rcases List.mem_append.1 ht with h | h
   · have := (List.mem_filter.1 h).2
     simpa using this
   · exact hF t h) u
 exact h2.beside u.self hd.2.1
end
def St.r0 (S : St) (b : Nat) (v : Int) : St := match S.get b with
 | some z => S.setP b (z.r0 v)
 | none => S
theorem find_mem {S : St} {id : Int} {q : Nat × PS} (h : S.find id = some q) : q ∈ S.ps ∧ (q.2.id : Int) = id := by
 unfold St.find at h
 exact ⟨List.mem_of_find?_eq_some h, by simpa using List.find?_some h⟩
theorem Rep.r0 {K : Nat} {A : Lay} {S : St} {F G L L' : Frag} (h : Rep K A S (G ++ F) L) {b : Nat} {z : PS} {v : Int} (hz : (b, z) ∈ S.ps ∨ (pb b z ∈ G ∧ z.st = 6)) (hF : ∀ t ∈ F, t.1 ≠ b) (u : Upd L b (.cells (pcells (z.r0 v)) 99) L') : ∃ G', Stays b (S.r0 b v) G' ∧ Rep K A (S.r0 b v) (G' ++ F) L' := by
 rcases hz with hz | ⟨hz, h6⟩
 · have e : S.r0 b v = S.setP b (z.r0 v) := by unfold St.r0; rw [get_of h.pn hz]
   rw [e]
   exact ⟨G, .inl ⟨_, mem_setP_self hz⟩, h.setP hz u⟩
 · have hd := h.fd (pb b z) (List.mem_append_left _ hz)
   have e : S.r0 b v = S := by unfold St.r0; rw [get_none fun r hr => Ne.symm (hd.2.1 r hr)]
   rw [e]
   exact ⟨_, .inr ⟨z.r0 v, List.mem_cons_self, h6⟩, h.aside hz hF u⟩
theorem Stays.at {K : Nat} {A : Lay} {S : St} {F G L : Frag} (h : Rep K A S (G ++ F) L) {b : Nat} (hs : Stays b S G) : ∃ z, pb b z ∈ L ∧ ((b, z) ∈ S.ps ∨ (pb b z ∈ G ∧ z.st = 6)) := by
 rcases hs with ⟨z, hz⟩ | ⟨z, hz, h6⟩
 · exact ⟨z, h.p _ hz, .inl hz⟩
 · exact ⟨z, h.fr _ (List.mem_append_left _ hz), .inr ⟨hz, h6⟩⟩
theorem kill_0 : ∃ n, ∀ {σ : Type} {F : Fam σ} {Δ : ∀ s, Dom (F.R s) (F.D s)} {main : Bool} {s : σ} (K : Nat) (A : Lay) (S : St) (Fr L : Frag) (eb : Nat → Nat × Nat) (b : Nat) (x : PS) (ch : Value), Rep K A S Fr L → Ers eb Fr → Inv S → (b, x) ∈ S.ps → S.find (x.r 0) = none →
   CallsL Δ Tryz.prog main 133 [ptr K, ptr b, ch].toArray n s L (fun s' v L' => s = s' ∧ L = L' ∧ v = erv eb 6) := by
 obtain ⟨n1, g1⟩ := find_s
 apply Exists.intro
 intro σ F Δ main s K A S Fr L eb b x ch hR hE hI hb hf
 have wx0 : 0 ≤ x.r 0 ∧ x.r 0 < 65536 := (hI.wf _ hb).r 0 (by omega)
 have w0 : IntKind.i64.wrap (x.r 0) = x.r 0 := by simp [IntKind.wrap_i64]; omega
 have hx0 : At L b 7 (.int .u16 (x.r 0)) := hR.pat hb (pget_r x (i := 0) (by omega))
 have hg := (hE.mono hR.fr).g 6 (by decide) (by decide)
 co_applyP callsE 37 Tryz.func133 Tryz.ntmps133
 co_applyP c_seq
 co_applyP c_region
 co_applyP oy rfl E_as
 co_applyP o_nil
 change wpE ..
 co_applyP c_seq
 co_applyP c_region
 co_applyP oy rfl E_mv
 co_applyP oy rfl E_mv
 co_applyP oy rfl E_nc
 co_applyP oy rfl (E_fa (hf := fo_99_0))
 co_applyP oy rfl (E_fa (hf := fo_49_7))
 co_applyP oy rfl (E_ixa Tryz.underlying47 sz_32)
 co_applyP oy rfl (E_ld (ht := ag_32))
 co_applyP oy rfl (E_cv (hs := Tryz.underlying32) (ht := Tryz.underlying3))
 simp only [w0]
 co_applyP oc rfl rfl rfl (g1 K A S Fr L (x.r 0) hR)
 rintro _ _ _ ⟨rfl, rfl, rfl⟩
 rw [hf]
 co_applyP oy rfl E_as
 co_applyP o_nil
 change wpE ..
 co_applyP c_seq (n₂ := 0)
 co_applyP c_seq
 co_applyP c_region
 co_applyP oy rfl E_mv
 co_applyP oy rfl (E_eqn (hu := Tryz.underlying93))
 co_applyP oy rfl E_mv
 co_applyP ou rfl
 co_applyP ou rfl
 co_applyP ou rfl
 co_applyP ou rfl
 co_applyP ou rfl
 co_applyP ou rfl
 co_applyP oy rfl E_pick
 co_applyP o_nil
 change wpE ..
 co_applyP c_true rfl
 co_applyP c_seq
 co_applyP c_region
 co_applyP oy rfl (E_ld (ht := ag_168))
 co_applyP oy rfl E_as
 co_applyP o_nil
 change wpE ..
 co_applyP c_ret
 change ∃ v, resE .. = some v ∧ _
 exact ⟨_, rfl, rfl, rfl, rfl⟩
theorem kill_1 : ∃ n, ∀ {σ : Type} {F : Fam σ} {Δ : ∀ s, Dom (F.R s) (F.D s)} {main : Bool} {s : σ} (K : Nat) (A : Lay) (S : St) (Fr L : Frag) (eb : Nat → Nat × Nat) (b : Nat) (x : PS) (ch : Value) (c : Nat) (y : PS), Rep K A S Fr L → Ers eb Fr → Inv S → (b, x) ∈ S.ps → S.find (x.r 0) = some (c, y) → y.st = 6 →
   CallsL Δ Tryz.prog main 133 [ptr K, ptr b, ch].toArray n s L (fun s' v L' => s = s' ∧ L = L' ∧ v = erv eb 6) := by
 obtain ⟨n1, g1⟩ := find_s
 apply Exists.intro
 intro σ F Δ main s K A S Fr L eb b x ch c y hR hE hI hb hf h6
 have wx0 : 0 ≤ x.r 0 ∧ x.r 0 < 65536 := (hI.wf _ hb).r 0 (by omega)
 have w0 : IntKind.i64.wrap (x.r 0) = x.r 0 := by simp [IntKind.wrap_i64]; omega
 have hx0 : At L b 7 (.int .u16 (x.r 0)) := hR.pat hb (pget_r x (i := 0) (by omega))
 have hg := (hE.mono hR.fr).g 6 (by decide) (by decide)
 have hc := (find_mem hf).1
 have hy2 : At L c 2 (.int .i64 (y.st : Nat)) := hR.pat hc (i := 2) rfl
 co_applyP callsE 37 Tryz.func133 Tryz.ntmps133
 co_applyP c_seq
 co_applyP c_region
 co_applyP oy rfl E_as
 co_applyP o_nil
 change wpE ..
 co_applyP c_seq
 co_applyP c_region
 co_applyP oy rfl E_mv
 co_applyP oy rfl E_mv
 co_applyP oy rfl E_nc
 co_applyP oy rfl (E_fa (hf := fo_99_0))
 co_applyP oy rfl (E_fa (hf := fo_49_7))
 co_applyP oy rfl (E_ixa Tryz.underlying47 sz_32)
 co_applyP oy rfl (E_ld (ht := ag_32))
 co_applyP oy rfl (E_cv (hs := Tryz.underlying32) (ht := Tryz.underlying3))
 simp only [w0]
 co_applyP oc rfl rfl rfl (g1 K A S Fr L (x.r 0) hR)
 rintro _ _ _ ⟨rfl, rfl, rfl⟩
 rw [hf]
 co_applyP oy rfl E_as
 co_applyP o_nil
 change wpE ..
 co_applyP c_seq (n₂ := 0)
 co_applyP c_seq
 co_applyP c_region
 co_applyP oy rfl E_mv
 co_applyP oy rfl (E_eqn (hu := Tryz.underlying93))
 co_applyP oy rfl E_mv
 co_applyP oy rfl (E_mv)
 co_applyP oy rfl (E_nc)
 co_applyP oy rfl ((E_fa (hf := fo_99_0)))
 co_applyP oy rfl ((E_fa (hf := fo_49_2)))
 co_applyP oy rfl ((E_ld (ht := ag_3)))
 co_applyP oy rfl (E_eql)
 co_applyP oy rfl E_pick
 co_applyP o_nil
 change wpE ..
 rw [h6]
 co_applyP c_true rfl
 co_applyP c_seq
 co_applyP c_region
 co_applyP oy rfl (E_ld (ht := ag_168))
 co_applyP oy rfl E_as
 co_applyP o_nil
 change wpE ..
 co_applyP c_ret
 change ∃ v, resE .. = some v ∧ _
 exact ⟨_, rfl, rfl, rfl, rfl⟩
theorem kill_2 : ∃ n, ∀ {p : Par} {Sh : Loc → Prop} {E Dn : Nat} {PostB : World → Prop} {Aft : Goroutine → World → Prop} {W : World} {O : Nat} {G0 : List (Nat × Obj)} {vs : List Value} (K : Nat) (A : Lay) (S : St) (Fr L : Frag) (eb : Nat → Nat × Nat) (b : Nat) (x : PS) (c : Nat) (y : PS), (∀ s, NewK (domT Tryz.prog p Sh E Dn PostB Aft W O G0 s)) → Rep K A S Fr L → Ers eb Fr → Inv S → (b, x) ∈ S.ps → S.find (x.r 0) = some (c, y) → y.st ≠ 6 →
   CallsL (domT Tryz.prog p Sh E Dn PostB Aft W O G0) Tryz.prog false 133 [ptr K, ptr b, .chan (some E)].toArray n (evt S.now 4 y.id 65280 :: vs) L (fun s' v L' => vs = s' ∧ v = .nilIface ∧ ∃ A' G, Stays b ((S.fin c y 65280).r0 b 0) G ∧ Rep K A' ((S.fin c y 65280).r0 b 0) (G ++ Fr) L') := by
 obtain ⟨n1, g1⟩ := find_s
 obtain ⟨n2, g2⟩ := end_s
 apply Exists.intro
 intro p Sh E Dn PostB Aft W O G0 vs K A S Fr L eb b x c y hN hR hE hI hb hf h6
 have wx0 : 0 ≤ x.r 0 ∧ x.r 0 < 65536 := (hI.wf _ hb).r 0 (by omega)
 have w0 : IntKind.i64.wrap (x.r 0) = x.r 0 := by simp [IntKind.wrap_i64]; omega
 have hx0 : At L b 7 (.int .u16 (x.r 0)) := hR.pat hb (pget_r x (i := 0) (by omega))
 have hc := (find_mem hf).1
 have hy2 : At L c 2 (.int .i64 (y.st : Nat)) := hR.pat hc (i := 2) rfl
 have e6 : ((y.st : Int) == 6) = false := by simp; omega
 have hFb : ∀ t ∈ Fr, t.1 ≠ b := fun t ht => (hR.fd t ht).2.1 _ hb
 co_applyP callsE 37 Tryz.func133 Tryz.ntmps133
 co_applyP c_seq
 co_applyP c_region
 co_applyP oy rfl E_as
 co_applyP o_nil
 change wpE ..
 co_applyP c_seq
 co_applyP c_region
 co_applyP oy rfl E_mv
 co_applyP oy rfl E_mv
 co_applyP oy rfl E_nc
 co_applyP oy rfl (E_fa (hf := fo_99_0))
 co_applyP oy rfl (E_fa (hf := fo_49_7))
 co_applyP oy rfl (E_ixa Tryz.underlying47 sz_32)
 co_applyP oy rfl (E_ld (ht := ag_32))
 co_applyP oy rfl (E_cv (hs := Tryz.underlying32) (ht := Tryz.underlying3))
 simp only [w0]
 co_applyP oc rfl rfl rfl (g1 K A S Fr L (x.r 0) hR)
 rintro _ _ _ ⟨rfl, rfl, rfl⟩
 rw [hf]
 co_applyP oy rfl E_as
 co_applyP o_nil
 change wpE ..
 co_applyP c_seq
 co_applyP c_seq
 co_applyP c_region
 co_applyP oy rfl E_mv
 co_applyP oy rfl (E_eqn (hu := Tryz.underlying93))
 co_applyP oy rfl E_mv
 co_applyP oy rfl (E_mv)
 co_applyP oy rfl (E_nc)
 co_applyP oy rfl ((E_fa (hf := fo_99_0)))
 co_applyP oy rfl ((E_fa (hf := fo_49_2)))
 co_applyP oy rfl ((E_ld (ht := ag_3)))
 co_applyP oy rfl (E_eql)
 co_applyP oy rfl E_pick
 co_applyP o_nil
 change wpE ..
 rw [e6]
 co_applyP c_false rfl
 co_applyP c_skip
 change wpE ..
 co_applyP c_seq
 co_applyP c_region
 co_applyP oy rfl E_mv
 co_applyP oy rfl E_mv
 co_applyP oy rfl E_mv
 co_applyP oc rfl rfl rfl (g2 K A S Fr L eb c y 65280 hN hR hE hI hc)
 rintro _ _ _ ⟨rfl, rfl, A2, G, hall, hR2⟩
 co_applyP o_nil
 change wpE ..
 co_applyP c_seq
 co_applyP c_region
 co_applyP oy rfl E_mv
 co_applyP oy rfl E_nc
 co_applyP oy rfl (E_fa (hf := fo_99_0))
 co_applyP oy rfl (E_fa (hf := fo_49_7))
 co_applyP oy rfl (E_ixa Tryz.underlying47 sz_32)
 rename_i L2
 obtain ⟨z, hzL, hz⟩ := Stays.at hR2 (hall _ hb)
 co_applyP osm rfl (hs := sz_32) (hm := hzL) (hi := by first | decide | (rw [psize]; omega) | (rw [ksize]; omega))
 intro L3 hU3
 rw [pset_r0] at hU3
 obtain ⟨G', hst, hR3⟩ := hR2.r0 hz hFb hU3
 co_applyP o_nil
 change wpE ..
 co_applyP c_seq
 co_applyP c_region
 co_applyP oy rfl E_as
 co_applyP o_nil
 change wpE ..
 co_applyP c_ret
 change ∃ v, resE .. = some v ∧ _
 exact ⟨_, rfl, rfl, rfl, A2, G', hst, hR3⟩
end Go.Proofs.YtejkelcaljmnoaaGreatDoor
