/-
  Part 44 of the proof.
  No condition but those that each statement names.
-/
import Derived.Test.YtejkelcaljmnoaaGreatDoorHy43
import Derived.Test.YtejkelcaljmnoaaGreatDoorHy09
import Derived.Test.YtejkelcaljmnoaaGreatDoorHy07
import Derived.Conc.FxGenDone
set_option maxRecDepth 100000
set_option linter.unusedVariables false
set_option linter.unusedSimpArgs false
set_option linter.unusedSectionVars false
namespace Go.Proofs.YtejkelcaljmnoaaGreatDoor
open Go.Conc Go.Hx Go.Lo
def St.tickE (S : St) : List Value := match S.lead.first with
 | none => [evt S.lead.now 2 0 0]
 | some b => match S.lead.get b with
   | some x => evt S.lead.now 1 x.id x.at_ :: S.lead.runE b x
   | none => []
def St.tickU (S : St) (c : Nat) : St := match S.lead.first with
 | none => S.lead
 | some b => match S.lead.get b with
   | some x => (S.lead.runS b x c).after b
   | none => S.lead
def St.next (T : St) : St := (T.tickU (T.last + 1)).later
def St.isOver (T : St) : Bool := match T.find 1 with
 | some q => decide (q.2.st = 6)
 | none => true
def St.evs : Nat → St → List Value
 | 0, _ => []
 | n + 1, T => if T.isOver then [] else T.tickE ++ St.evs n T.next
def St.runs : Nat → St → St
 | 0, T => T
 | n + 1, T => if T.isOver then T else St.runs n T.next
section
variable {ρ ρ' N : Nat → Nat} {S T : St} {b c : Nat} {x : PS}
theorem map_congr (hI : Inv S) (r3 : ∀ l, 3 ≤ l → S.rows l = []) (e : ∀ q ∈ S.ps, ρ q.1 = ρ' q.1) : S.map ρ = S.map ρ' := by
 unfold St.map
 have e1 : (S.ps.map fun q => (ρ q.1, q.2)) = S.ps.map fun q => (ρ' q.1, q.2) := by
   apply List.map_congr_left
   intro q hq
   rw [e q hq]
 have e2 : (fun l => (S.rows l).map ρ) = fun l => (S.rows l).map ρ' := by
   funext l
   by_cases hl : l < 3
   · apply List.map_congr_left
     intro c hc
     obtain ⟨y, hy, _⟩ := hI.g.rm l hl c hc
     exact e _ hy
   · rw [r3 l (by omega)]; rfl
 have e3 : mapW ρ S.wt = mapW ρ' S.wt := by
   unfold mapW
   apply List.map_congr_left
   intro w hw
   congr 1
   apply List.map_congr_left
   intro c hc
   obtain ⟨y, hy, _⟩ := hI.rm w hw c hc
   exact e _ hy
 rw [e1, e2, e3]
def St.nm (S : St) (c : Nat) (b : Nat) : Nat := match S.get b with
 | some x => x.id
 | none => if b = c then S.last + 1 else b + (S.last + 2)
theorem nm_id (hn : (S.ps.map (·.1)).Nodup) : ∀ q ∈ S.ps, S.nm c q.1 = q.2.id := fun q hq => by
 unfold St.nm
 rw [get_of (b := q.1) (x := q.2) hn hq]
theorem nm_new (hc : ∀ q ∈ S.ps, c ≠ q.1) : S.nm c c = S.last + 1 := by
 unfold St.nm
 rw [get_none fun q hq => Ne.symm (hc q hq)]
 simp
theorem nm_inj (h : XI N S) : Inj (S.nm c) := by
 intro a d e
 unfold St.nm at e
 cases ha : S.get a with
 | some x =>
   rw [ha] at e
   have hx := mem_of_get ha
   have h1 := (h.idr _ hx).2
   simp only at h1 e
   cases hd : S.get d with
   | some y =>
     rw [hd] at e
     have hy := mem_of_get hd
     have := h.idn _ hx _ hy e
     exact congrArg Prod.fst this
   | none =>
     rw [hd] at e
     simp only at e
     split at e <;> omega
 | none =>
   rw [ha] at e
   simp only at e
   cases hd : S.get d with
   | some y =>
     rw [hd] at e
     have hy := mem_of_get hd
     have h1 := (h.idr _ hy).2
     simp only at h1 e
     split at e <;> omega
   | none =>
     rw [hd] at e
     simp only at e
     split at e
     · split at e
       · omega
       · omega
     · split at e
       · omega
       · omega
theorem XI.rename (h : XI N S) (hρ : ∀ q ∈ S.ps, ρ q.1 = q.2.id) : XI ρ S := ⟨h.un, h.idn, h.idr, h.p1, h.p0, h.r3, hρ⟩
theorem TI.rename (h : TI N S) (hρ : ∀ q ∈ S.ps, ρ q.1 = q.2.id) : TI ρ S := ⟨⟨h.m.i, h.m.c, h.m.x.rename hρ⟩, h.p, h.bo, h.ls⟩
theorem tickE_map (h : Inj ρ) (S : St) : (S.map ρ).tickE = S.tickE := by
 unfold St.tickE
 rw [lead_map h, first_map]
 cases S.lead.first with
 | none => rfl
 | some b =>
   simp only [Option.map_some, get_map h]
   cases S.lead.get b with
   | none => rfl
   | some x => simp only; rw [runE_map h]; rfl
theorem tickU_map (h : Inj ρ) (S : St) (c : Nat) : (S.map ρ).tickU (ρ c) = (S.tickU c).map ρ := by
 unfold St.tickU
 rw [lead_map h, first_map]
 cases S.lead.first with
 | none => rfl
 | some b =>
   simp only [Option.map_some, get_map h]
   cases S.lead.get b with
   | none => rfl
   | some x => simp only; rw [runS_map h, after_map h]
theorem isOver_map (S : St) : (S.map ρ).isOver = S.isOver := by
 unfold St.isOver
 rw [find_map]
 cases S.find 1 <;> rfl
theorem lead_fst (S : St) : S.lead.ps.map (·.1) = S.ps.map (·.1) := by
 have h1 : ∀ (bs : List Nat) (S : St), (S.wakes bs).ps.map (·.1) = S.ps.map (·.1) := by
   intro bs
   induction bs with
   | nil => intro S; rfl
   | cons b bs ih =>
     intro S
     unfold St.wakes
     rw [ih]
     split
     · split
       · exact setP_fst S b _
       · rfl
     · rfl
 have h2 : ∀ (bs : List Nat) (S : St), (S.lifts bs).ps.map (·.1) = S.ps.map (·.1) := by
   intro bs
   induction bs with
   | nil => intro S; rfl
   | cons b bs ih =>
     intro S
     unfold St.lifts
     rw [ih]
     split
     · split
       · exact setP_fst S b _
       · rfl
     · rfl
 unfold St.lead St.boost
 split
 · rw [(raises_ps _ 2).1, h2]; exact h1 _ S
 · exact h1 _ S
theorem TI.tick (h : TI N S) (hc : ∀ q ∈ S.lead.ps, c ≠ q.1) (hN : N c = S.last + 1) : TI N (S.tickU c).later := by
 unfold St.tickU
 cases hf : S.lead.first with
 | none => exact h.idle
 | some b =>
   simp only
   obtain ⟨x, hx, _⟩ := first_mem h.m.lead.i.g hf
   rw [get_of h.m.lead.i.g.pn hx]
   exact h.ran hf hx hc hN
structure Ab (S T : St) : Prop where
 ex : ∃ N, TI N S ∧ T = S.map N
theorem Ab.tick (h : Ab S T) (hc : ∀ q ∈ S.lead.ps, c ≠ q.1) : T.tickE = S.tickE ∧ T.isOver = S.isOver ∧ Ab (S.tickU c).later T.next := by
 obtain ⟨N, hN, rfl⟩ := h.ex
 have hcs : ∀ q ∈ S.ps, c ≠ q.1 := fun q hq e => by
   have : q.1 ∈ S.lead.ps.map (·.1) := by rw [lead_fst]; exact List.mem_map.2 ⟨q, hq, rfl⟩
   obtain ⟨r, hr, e2⟩ := List.mem_map.1 this
   exact hc r hr (by rw [e, ← e2])
 have hid := nm_id (c := c) hN.m.i.g.pn
 have hT := hN.rename hid
 have hinj := nm_inj (c := c) hN.m.x
 have hnew := nm_new hcs
 have e : S.map N = S.map (S.nm c) := map_congr hN.m.i hN.m.x.r3 fun q hq => by rw [hid q hq, hN.m.x.nm q hq]
 rw [e]
 refine ⟨tickE_map hinj S, isOver_map S, ⟨S.nm c, hT.tick hc hnew, ?_⟩⟩
 unfold St.next
 show ((S.map (S.nm c)).tickU (S.last + 1)).later = _
 rw [← hnew, tickU_map hinj]; rfl
theorem Ab.self (h : TI N S) : Ab S (S.map N) := ⟨N, h, rfl⟩
theorem Ab.find1 (h : Ab S T) : ∃ b x, S.find 1 = some (b, x) ∧ (T.isOver = true ↔ x.st = 6) := by
 obtain ⟨N, hN, rfl⟩ := h.ex
 obtain ⟨q, hq, h1⟩ := hN.m.x.p1
 cases hf : S.find 1 with
 | none =>
   unfold St.find at hf
   have := List.find?_eq_none.1 hf q hq
   simp at this
   omega
 | some r =>
   refine ⟨r.1, r.2, rfl, ?_⟩
   rw [isOver_map]
   unfold St.isOver
   rw [hf]
   simp
end
theorem tick_s : ∃ n, ∀ {p : Par} {Sh : Loc → Prop} {E Dn : Nat} {PostB : World → Prop} {Aft : Goroutine → World → Prop} {W : World} {O : Nat} {G0 : List (Nat × Obj)} {vs : List Value} (K : Nat) (A : Lay) (S : St) (N : Nat → Nat) (Fr L : Frag) (eb : Nat → Nat × Nat), (∀ s, NewT (domT Tryz.prog p Sh E Dn PostB Aft W O G0 s)) → Rep K A S Fr L → Ers eb Fr → TI N S → S.now < 2305843009213693952 →
   CallsL (domT Tryz.prog p Sh E Dn PostB Aft W O G0) Tryz.prog false 63 [ptr K, .chan (some E)].toArray n (S.tickE ++ vs) L (fun s' v L' => vs = s' ∧ v = .tuple #[] ∧ ∃ A' c, (∀ q ∈ S.lead.ps, c ≠ q.1) ∧ Rep K A' (S.tickU c) Fr L') := by
 obtain ⟨n0, g0⟩ := tick_0
 obtain ⟨n1, g1⟩ := tick_1
 refine ⟨n0 + n1, fun {p Sh E Dn PostB Aft W O G0 vs} K A S N Fr L eb hN hR hE hT hn => callsL_split (S.lead.first = none) (fun hf => ?_) fun hf => ?_⟩
 · have e1 : S.tickE = [evt S.lead.now 2 0 0] := by unfold St.tickE; rw [hf]
   have e2 : ∀ c, S.tickU c = S.lead := fun c => by unfold St.tickU; rw [hf]
   rw [e1]
   refine callsL_post (g0 K A S Fr L eb hN hR hE hT.m.i hT.bo hf) fun s' v L' ⟨h1, h2, A', h3⟩ => ⟨h1, h2, A', K, fun q hq => ?_, by rw [e2]; exact h3⟩
   exact h3.fn.ne h3.k (h3.p q hq) (cells_ne (by decide))
 · obtain ⟨b, hb⟩ : ∃ b, S.lead.first = some b := by
     cases h : S.lead.first with
     | none => exact absurd h hf
     | some b => exact ⟨b, rfl⟩
   obtain ⟨x, hx, hs⟩ := first_mem hT.m.lead.i.g hb
   have e1 : S.tickE = evt S.lead.now 1 x.id x.at_ :: S.lead.runE b x := by unfold St.tickE; rw [hb]; simp only [get_of hT.m.lead.i.g.pn hx]
   have e2 : ∀ c, S.tickU c = (S.lead.runS b x c).after b := fun c => by unfold St.tickU; rw [hb]; simp only [get_of hT.m.lead.i.g.pn hx]
   rw [e1]
   have hres : ∀ c, (∀ q ∈ S.lead.ps, c ≠ q.1) → Inv (S.lead.runS b x c) ∧ ∀ z, (b, z) ∈ (S.lead.runS b x c).ps → z.used < 4611686018427387904 := fun c hc => by
     have hcs : ∀ q ∈ S.ps, c ≠ q.1 := fun q hq e => by
       have : q.1 ∈ S.lead.ps.map (·.1) := by rw [lead_fst]; exact List.mem_map.2 ⟨q, hq, rfl⟩
       obtain ⟨r, hr, e2⟩ := List.mem_map.1 this
       exact hc r hr (by rw [e, ← e2])
     have hT2 := hT.rename (nm_id (c := c) hT.m.i.g.pn)
     have hm := hT2.m.lead.runS hT2.coded_lead hx hs hc (by rw [lead_last]; exact nm_new hcs)
     refine ⟨hm.i, fun z hz => ?_⟩
     have := hm.x.un _ hz
     rw [(fix_run S.lead b x c).1.now, (fix_lead S).now] at this
     simp only at this
     omega
   exact callsL_post (g1 K A S Fr L eb b x hN hR hE hT.m.i hT.bo hb (hT.running hn hb hx) hT.p.1 hT.p.2 hres) fun s' v L' ⟨h1, h2, A', c, h3, h4⟩ => ⟨h1, h2, A', c, h3, by rw [e2]; exact h4⟩
theorem kset_now (k : KS) (v : Nat) : (kcells k).setIfInBounds 16 (.int .i64 (v : Nat)) = kcells { k with now := (v : Nat) } := rfl
theorem pass_s : ∃ n, ∀ {p : Par} {Sh : Loc → Prop} {E Dn : Nat} {PostB : World → Prop} {Aft : Goroutine → World → Prop} {W : World} {O : Nat} {G0 : List (Nat × Obj)} {vs : List Value} (K : Nat) (A : Lay) (S T : St) (Fr L : Frag) (eb : Nat → Nat × Nat) (m : Nat), (∀ s, NewT (domT Tryz.prog p Sh E Dn PostB Aft W O G0 s)) → Rep K A S Fr L → Ers eb Fr → Ab S T → m ≤ 2000 → S.now < 1152921504606846976 →
   CallsL (domT Tryz.prog p Sh E Dn PostB Aft W O G0) Tryz.prog false 33 [ptr K, .int .i64 (m : Nat), .chan (some E)].toArray n (St.evs m T ++ vs) L (fun s' v L' => vs = s' ∧ v = .tuple #[] ∧ ∃ A' S', Ab S' (St.runs m T) ∧ Rep K A' S' Fr L') := by
 obtain ⟨n0, g0⟩ := over_s
 obtain ⟨n1, g1⟩ := tick_s
 apply Exists.intro
 intro p Sh E Dn PostB Aft W O G0 vs K A S T Fr L eb m hN hR hE hA hm hnow
 co_applyP callsE 22 Tryz.func33 Tryz.ntmps33
 co_applyP c_seq
 co_applyP c_region
 co_applyP oy rfl E_mv
 co_applyP oy rfl E_mv
 co_applyP o_nil
 change wpE ..
 co_applyP c_block
 co_applyP c_loop (fun c s' ε' L' => ∃ (i : Nat) (A' : Lay) (S' T' : St), i ≤ m ∧ c + i = 2000 ∧ s' = St.evs (m - i) T' ++ vs ∧ Ab S' T' ∧ St.runs (m - i) T' = St.runs m T ∧ S'.now ≤ S.now + i ∧ Rep K A' S' Fr L' ∧ kn ε' [(0, ptr K), (2, .chan (some E)), (6, .int .i64 (m : Nat)), (7, .int .i64 (i : Nat))]) 2000
 · exact ⟨0, A, S, T, by omega, rfl, rfl, hA, rfl, Nat.le_refl _, hR, rfl⟩
 rintro c s' ε' L' ⟨i, A', S', T', hi, hc, rfl, hA', hruns, hnw, hR', he⟩
 co_applyP wpE_kn he
 have ei : IntKind.i64.wrap ((i : Int) + 1) = ((i + 1 : Nat) : Int) := by simp [IntKind.wrap_i64]; omega
 obtain ⟨b1, x1, hf1, hov⟩ := hA'.find1
 co_applyP c_split (T'.isOver = true)
 intro ho
 · skip
   co_applyP c_seq
   co_applyP c_region
   co_applyP oy rfl E_lss
   co_applyP o_nil
   change wpE ..
   co_applyP c_seq
   co_applyP c_if rfl
   intro hlt
   · have hlt' : i < m := by simp at hlt; omega
     obtain ⟨j, hj⟩ : ∃ j, m - i = j + 1 := ⟨m - i - 1, by omega⟩
     have e6 : ((x1.st : Int) == 6) = true := by simp; have := hov.1 ho; omega
     have ev0 : St.evs (m - i) T' = [] := by rw [hj]; unfold St.evs; rw [if_pos ho]
     have er0 : St.runs (m - i) T' = T' := by rw [hj]; unfold St.runs; rw [if_pos ho]
     rw [ev0]
     co_applyP c_skip
     change wpE ..
     co_applyP c_seq (n₂ := 0)
     co_applyP c_block
     co_applyP c_seq (n₂ := 0)
     co_applyP c_seq
     co_applyP c_region
     co_applyP oy rfl E_mv
     co_applyP oc rfl rfl rfl (g0 K A' S' Fr L' b1 x1 hR' hf1)
     rintro _ _ _ ⟨rfl, rfl, rfl⟩
     co_applyP o_nil
     change wpE ..
     rw [e6]
     co_applyP c_true rfl
     co_applyP c_ret
     change ∃ v, resE .. = some v ∧ _
     exact ⟨_, rfl, rfl, rfl, A', S', by rw [← hruns, er0]; exact hA', hR'⟩
   intro hlt
   co_applyP c_exit
   change ∃ v, resE .. = some v ∧ _
   have him : i = m := by simp at hlt; omega
   subst him
   simp only [Nat.sub_self] at hruns ⊢
   exact ⟨_, rfl, rfl, rfl, A', S', by rw [← hruns]; exact hA', hR'⟩
 intro ho
 co_applyP c_seq
 co_applyP c_region
 co_applyP oy rfl E_lss
 co_applyP o_nil
 change wpE ..
 co_applyP c_seq
 co_applyP c_if rfl
 intro hlt
 · have hlt' : i < m := by simp at hlt; omega
   obtain ⟨j, hj⟩ : ∃ j, m - i = j + 1 := ⟨m - i - 1, by omega⟩
   have e6 : ((x1.st : Int) == 6) = false := by simp; intro h; exact ho (hov.2 (by omega))
   obtain ⟨N, hTI, hTm⟩ := hA'.ex
   have etE : T'.tickE = S'.tickE := (hA'.tick (c := K) (fun q hq => by
     have h1 : q.1 ∈ S'.ps.map (·.1) := by rw [← lead_fst]; exact List.mem_map.2 ⟨q, hq, rfl⟩
     obtain ⟨r, hr, e2⟩ := List.mem_map.1 h1
     rw [← e2]
     exact hR'.fn.ne hR'.k (hR'.p r hr) (cells_ne (by decide)))).1
   have ev1 : St.evs (m - i) T' = S'.tickE ++ St.evs (m - (i + 1)) T'.next := by
     rw [hj]
     show (if T'.isOver then [] else T'.tickE ++ St.evs j T'.next) = _
     rw [if_neg ho, etE, show m - (i + 1) = j by omega]
   have er1 : St.runs (m - i) T' = St.runs (m - (i + 1)) T'.next := by
     rw [hj]
     show (if T'.isOver then T' else St.runs j T'.next) = _
     rw [if_neg ho, show m - (i + 1) = j by omega]
   rw [ev1, List.append_assoc]
   co_applyP c_skip
   change wpE ..
   co_applyP c_seq
   co_applyP c_block
   co_applyP c_seq
   co_applyP c_seq
   co_applyP c_region
   co_applyP oy rfl E_mv
   co_applyP oc rfl rfl rfl (g0 K A' S' Fr L' b1 x1 hR' hf1)
   rintro _ _ _ ⟨rfl, rfl, rfl⟩
   co_applyP o_nil
   change wpE ..
   rw [e6]
   co_applyP c_false rfl
   co_applyP c_skip
   change wpE ..
   co_applyP c_seq
   co_applyP c_region
   co_applyP oy rfl E_mv
   co_applyP oy rfl E_mv
   co_applyP oc rfl rfl rfl (g1 K A' S' N Fr L' eb hN hR' hE hTI (by omega))
   rintro _ _ _ ⟨rfl, rfl, A2, cc, hcc, hR2⟩
   rename_i L2
   have hnx := (hA'.tick hcc).2.2
   have hnow2 : (S'.tickU cc).now = S'.now := by
     unfold St.tickU
     split
     · exact (fix_lead S').now
     · split
       · rename_i bb _ xx _
         rw [(fl_after _ _).now, (fix_run _ _ _ _).1.now]; exact (fix_lead S').now
       · exact (fix_lead S').now
   have hn2 : At L2 K 16 (.int .i64 ((S'.tickU cc).now : Nat)) := hR2.kat rfl
   have wn : IntKind.i64.wrap (((S'.tickU cc).now : Int) + 1) = (((S'.tickU cc).now + 1 : Nat) : Int) := by rw [hnow2]; simp [IntKind.wrap_i64]; omega
   co_applyP o_nil
   change wpE ..
   co_applyP c_region
   co_applyP oy rfl E_mv
   co_applyP oy rfl E_nc
   co_applyP oy rfl (E_fa (hf := fo_115_7))
   co_applyP oy rfl (E_ld (ht := ag_3))
   co_applyP oy rfl E_add
   co_applyP oy rfl E_nc
   co_applyP oy rfl (E_fa (hf := fo_115_7))
   rw [wn]
   co_applyP osm rfl (hs := sz_3) (hm := hR2.k) (hi := by first | decide | (rw [psize]; omega) | (rw [ksize]; omega))
   intro L3 hU3
   rw [kset_now] at hU3
   have hR3 : Rep K A2 (S'.tickU cc).later Fr L3 := hR2.setK rfl rfl rfl rfl rfl rfl hU3
   co_applyP o_nil
   change wpE ..
   co_applyP c_region
   co_applyP oy rfl E_add
   co_applyP oy rfl E_mv
   co_applyP o_nil
   change ∃ k', k' < _ ∧ _
   refine ⟨c - 1, by omega, i + 1, A2, _, T'.next, by omega, by omega, rfl, hnx, by rw [← er1]; exact hruns, ?_, hR3, by rw [← ei]; rfl⟩
   show (S'.tickU cc).now + 1 ≤ _
   rw [hnow2]
   omega
 intro hlt
 co_applyP c_exit
 change ∃ v, resE .. = some v ∧ _
 have him : i = m := by simp at hlt; omega
 subst him
 simp only [Nat.sub_self] at hruns ⊢
 exact ⟨_, rfl, rfl, rfl, A', S', by rw [← hruns]; exact hA', hR'⟩
end Go.Proofs.YtejkelcaljmnoaaGreatDoor
namespace Go.Proofs.YtejkelcaljmnoaaGreatDoor
open Go.Conc Go.RowKit Go.Hx Go.Lo Go.ConcX Go.Conc.Lib Go.ConcX.Gen
def call31 (Wg db kb tb eb : Nat) : Deferred := { target := .fn (.func 31) #[.pointer (some ⟨Wg, 0, none⟩), .pointer (some ⟨db, 0, none⟩), .pointer (some ⟨kb, 0, none⟩), .pointer (some ⟨tb, 0, none⟩), .pointer (some ⟨eb, 0, none⟩)], args := #[] }
noncomputable def bot : Frame := { (default : Frame) with fn := Tryz.prog.funcs.size, defers := [], mode := .panicking [goexitEntry] }
theorem born_step (Wg db kb tb eb : Nat) (w : World) : ∃ c, Tryz.f31.body = some c ∧ stepG Tryz.prog false (born Tryz.prog (call31 Wg db kb tb eb)) w =
   .go (G ((baseD 31).at ⟨#[.pointer (some ⟨Wg, 0, none⟩), .pointer (some ⟨db, 0, none⟩), .pointer (some ⟨kb, 0, none⟩), .pointer (some ⟨tb, 0, none⟩), .pointer (some ⟨eb, 0, none⟩), undef, undef, undef, undef, undef], []⟩ [.code c]) [bot]) w #[] := by
 refine ⟨_, rfl, ?_⟩
 simp [born, call31, stepG, unwind, callDeferred, invoke, callFunc, Tryz.func31, Tryz.f31, seen, GStep.after, G, Frame.enter, Frame.at, baseD, bot]
theorem quitsTail (T : Array Value) : QuitsD Tryz.prog 2 0 (G { (baseD 31).at ⟨T, []⟩ [] with mode := .returning } [bot]) := by
 refine QuitsD.ctl (g' := G bot []) rfl (fun w => ?_) ?_
 · simp [G, stepG, unwind, doReturn, results, Frame.at, baseD, bot, Tryz.func31, Tryz.f31, seen, GStep.after, goexitEntry]
 refine QuitsD.ctl (g' := { G bot [] with status := .finished }) rfl (fun w => ?_) ⟨rfl, rfl⟩
 simp [G, stepG, unwind, bot, goexitEntry, Frame.catches]
 rfl
section
variable {p : Par} {Sh : Loc → Prop} {E Dn : Nat} {Wg C Low kb db eb K O : Nat} {W : World} {ticks : Int} {Mine : Loc → Prop} [Shy Wg C] {L : Frag} {QL : Frag → Prop}
abbrev GW (Wg : Nat) : List (Nat × Obj) := [(Wg, .cells #[.int .u64 KK, .int .u32 0] 87)]
def PostW (p : Par) (Sh : Loc → Prop) (E Dn : Nat) (W : World) (O : Nat) (Wg C : Nat) (QL : Frag → Prop) (w : World) : Prop :=
 ∃ L, OwnW p Sh E Dn W O L w ∧ (∀ t ∈ L, t.1 ≠ C ∧ t.1 ≠ Wg) ∧ QL L
set_option maxHeartbeats 4000000 in
theorem afterD (hW : Wg < Low) (hC : C < Low) (hCW : C ≠ Wg) (T : Array Value) (w : World) (h1 : WgAt 87 Wg w KK 0) (h2 : Full C [.int .i64 ticks] w) :
   AfterD Tryz.prog 87 Wg C Low [.int .i64 ticks] Mine (G { (baseD 31).at ⟨T, [dcall 32 #[.pointer (some ⟨Wg, 0, none⟩)]]⟩ [] with mode := .returning } [bot]) w := by
 refine ⟨h1, 24, Goes.step rfl fun w₁ h₁ => ?_⟩
 rw [stepG_unwind_enter rfl Tryz.func32 (nm_done Tryz.link) rfl]
 refine ⟨dcs_none (by simp), ?_⟩
 walk_nrmf Tryz.f32
 have hA := @doneD _ Tryz.link Tryz.prog Tryz.wgLib Mine Wg C Low _ [.int .i64 ticks] hW hC hCW
 simp only [body_done, doneFn, Option.getD_some] at hA
 exact hA rfl (quitsTail _) _ ⟨h₁.k (.inl h1), h2.of_block (h₁.low C hC hCW)⟩
omit [Shy Wg C] in
theorem own_read {G : List (Nat × Obj)} {w : World} (hO : (domV p Sh E Dn W O G).Own L w) {t : Nat} {fl : Bool} {cs : Array Value} {ty : TypeId} (hm : (t, fl, Obj.cells cs ty) ∈ L) : (∀ {i : Nat} {v : Value}, cs[i]? = some v → w.cell? ⟨t, i, none⟩ = some v) ∧ ∀ i, EvB p Sh w ⟨.cell ⟨t, i, none⟩, false, false⟩ := by
 have h := (domV p Sh E Dn W O G).has hO hm
 exact ⟨fun hv => by simp [World.cell?, h, hv], (domV p Sh E Dn W O G).evc hO hm⟩
set_option maxHeartbeats 4000000 in
theorem run1_tells (hW : Wg < Low) (hC' : C < Low) (hCW : C ≠ Wg) (hWD : Wg ≠ Dn) (hCD : C ≠ Dn) (h0 : (kb, false, Obj.cells #[.pointer (some ⟨K, 0, none⟩)] 35) ∈ L) (h1 : (C, false, Obj.cells #[.int .i64 ticks] 3) ∈ L) (h2 : (eb, false, Obj.cells #[.chan (some E)] 76) ∈ L) (h3 : (db, false, Obj.cells #[.chan (some Dn)] 77) ∈ L)
   (k : Nat) (es : List Value) (hpass : ∀ w, (domV p Sh E Dn W O (GW Wg)).Own L w → CallsX (tellF Tryz.prog p Sh E Dn (PostW p Sh E Dn W O Wg C QL) (AfterD Tryz.prog 87 Wg C Low [.int .i64 ticks] Mine)) Tryz.prog false 33 #[.pointer (some ⟨K, 0, none⟩), .int .i64 ticks, .chan (some E)] k es w fun s' _ w' => s' = [] ∧ ∃ L', (domV p Sh E Dn W O (GW Wg)).Own L' w' ∧ (C, false, Obj.cells #[.int .i64 ticks] 3) ∈ L' ∧ QL (L'.filter fun t => !decide (t.1 = C)))
   (w : World) (hS : (domV p Sh E Dn W O (GW Wg)).Own L w) : Tells Tryz.prog p Sh E Dn (PostW p Sh E Dn W O Wg C QL) (AfterD Tryz.prog 87 Wg C Low [.int .i64 ticks] Mine) es (born Tryz.prog (call31 Wg db kb C eb)) w := by
 rw [tells_iff]
 co_apply Exists.intro
 co_apply Goes.step rfl
 intro w₁ h₁
 replace hS := (domV p Sh E Dn W O (GW Wg)).rely hS h₁
 clear h₁
 obtain ⟨c, hc, hb⟩ := born_step Wg db kb C eb w₁
 rw [hb]
 refine ⟨(termsT p Sh E Dn).idle _, ?_⟩
 simp only [Tryz.f31, Option.some.injEq] at hc
 subst hc
 clear hb
 co_apply goes_ctl (termsT p Sh E Dn) rfl (fun _ => stepG_seq)
 co_apply goes_ctl (termsT p Sh E Dn) rfl (fun _ => stepG_region)
 simp only [List.size_toArray, List.length_cons, List.length_nil, Nat.reduceAdd, Nat.zero_add, List.range, List.range.loop]
 co_apply goes_ctl (termsT p Sh E Dn) rfl (fun _ => stepG_defer rfl rfl (by decide) rfl)
 walk_nrm
 co_apply goes_ctl (termsT p Sh E Dn) rfl (fun _ => stepG_region_end)
 co_apply goes_ctl (termsT p Sh E Dn) rfl (fun _ => stepG_seq)
 co_apply goes_ctl (termsT p Sh E Dn) rfl (fun _ => stepG_region)
 simp only [List.size_toArray, List.length_cons, List.length_nil, Nat.reduceAdd, Nat.zero_add, List.range, List.range.loop]
 co_apply Goes.step rfl
 intro w₁ h₁
 replace hS := (domV p Sh E Dn W O (GW Wg)).rely hS h₁
 clear h₁
 refine goes_oper_k rfl rfl (by decide) (fun K hK => ?_)
 have hr := own_read hS h3
 have hc := hr.1 (i := 0) rfl
 go_simp
 refine hK _ _ ⟨?_, ?_⟩
 · refine dt_read ?_
   co_evs (exact hr.2 _)
 clear hK K hc hr
 try walk_nrm
 co_apply goes_ctl (termsT p Sh E Dn) rfl (fun _ => stepG_deferClose rfl rfl (by decide) rfl rfl)
 try walk_nrm
 co_apply goes_ctl (termsT p Sh E Dn) rfl (fun _ => stepG_region_end)
 co_apply wpX_goes (F := tellF Tryz.prog p Sh E Dn (PostW p Sh E Dn W O Wg C QL) (AfterD Tryz.prog 87 Wg C Low [.int .i64 ticks] Mine)) (s := es) (Q := fun s' e a' w' => e = .normal ∧ s' = [] ∧ (∃ T, a' = ⟨T, [dclose #[77] 0 Dn, dcall 32 #[.pointer (some ⟨Wg, 0, none⟩)]]⟩) ∧ ∃ L', (domV p Sh E Dn W O (GW Wg)).Own L' w' ∧ (C, false, Obj.cells #[.int .i64 ticks] 3) ∈ L' ∧ QL (L'.filter fun t => !decide (t.1 = C))) (b := baseD 31) (k := []) (cs := [bot]) (fn := 31) ?_ rfl (by decide) ?_
 · have hF := hS
   clear hS
   co_apply wpX_region
   simp only [List.size_toArray, List.length_cons, List.length_nil, Nat.reduceAdd, Nat.zero_add, List.range, List.range.loop]
   co_apply opsX_cons_k rfl (by rfl)
   intro _ hR K hK
   replace hF := (domV p Sh E Dn W O (GW Wg)).rely hF hR
   clear hR
   (have hr := own_read hF h0; have hc := hr.1 (i := 0) rfl)
   go_simp
   try (unfold stored; go_simp)
   refine hK _ _ ⟨?_, ?_⟩
   · (refine dt_read ?_; co_evs (exact hr.2 _))
   clear hK K
   try walk_nrm
   clear hc hr
   co_apply opsX_cons_k rfl (by rfl)
   intro _ hR K hK
   replace hF := (domV p Sh E Dn W O (GW Wg)).rely hF hR
   clear hR
   (have hr := own_read hF h1; have hc := hr.1 (i := 0) rfl)
   go_simp
   try (unfold stored; go_simp)
   refine hK _ _ ⟨?_, ?_⟩
   · (refine dt_read ?_; co_evs (exact hr.2 _))
   clear hK K
   try walk_nrm
   clear hc hr
   co_apply opsX_cons_k rfl (by rfl)
   intro _ hR K hK
   replace hF := (domV p Sh E Dn W O (GW Wg)).rely hF hR
   clear hR
   (have hr := own_read hF h2; have hc := hr.1 (i := 0) rfl)
   go_simp
   try (unfold stored; go_simp)
   refine hK _ _ ⟨?_, ?_⟩
   · (refine dt_read ?_; co_evs (exact hr.2 _))
   clear hK K
   try walk_nrm
   clear hc hr
   co_apply opsX_call rfl (by rfl) rfl
   · walk_nrm
     exact hpass _ hF
   intro s' v w' hv
   obtain ⟨rfl, hS⟩ := hv
   walk_nrm
   co_apply opsX_nil
   exact ⟨rfl, rfl, ⟨_, rfl⟩, hS⟩
 · rintro s' e a' w' ⟨rfl, rfl, ⟨T, rfl⟩, L', hS, hC3, hQ⟩
   show Goes Tryz.prog false (RB p E Dn) (DT p Sh E Dn) (AtOver Tryz.prog Dn (PostW p Sh E Dn W O Wg C QL) (AfterD Tryz.prog 87 Wg C Low [.int .i64 ticks] Mine)) _ (G ((baseD 31).at ⟨T, [dclose #[77] 0 Dn, dcall 32 #[.pointer (some ⟨Wg, 0, none⟩)]]⟩ []) [bot]) w'
   co_apply goes_ctl (n := 0) (termsT p Sh E Dn) rfl (fun _ => stepG_end)
   refine Goes.stop fun w₁ h₁ => ?_
   replace hS := (domV p Sh E Dn W O (GW Wg)).rely hS h₁
   have hwg := hS.2.h (Wg, _) (List.mem_cons_self)
   have hcc := (domV p Sh E Dn W O (GW Wg)).has hS hC3
   refine ⟨rfl, rfl, ⟨L'.filter fun t => !decide (t.1 = C), (domW p Sh E Dn W O).sub hS.1 (fun t ht => (List.mem_filter.1 ht).1) ?_, fun t ht => ⟨by simpa using (List.mem_filter.1 ht).2, hS.2.l (Wg, _) (List.mem_cons_self) t (List.mem_filter.1 ht).1⟩, hQ⟩, _, rfl, fun hD => stepG_unwindClose rfl hD (by kernel_rfl), ?_⟩
   · exact ((domW p Sh E Dn W O).nd hS.1).sublist (List.Sublist.map _ List.filter_sublist)
   refine afterD hW hC' hCW T _ ?_ ?_
   · unfold WgAt
     rw [setChan_ne hWD]
     exact hwg
   · intro _
     rw [setChan_ne hCD]
     exact hcc
end
end Go.Proofs.YtejkelcaljmnoaaGreatDoor
