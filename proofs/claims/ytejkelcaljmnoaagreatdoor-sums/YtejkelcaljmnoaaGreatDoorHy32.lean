/-
  Part 32 of the proof.
  No condition but those that each statement names.
-/
import Derived.Test.YtejkelcaljmnoaaGreatDoorHy31
set_option maxRecDepth 100000
set_option linter.unusedVariables false
set_option linter.unusedSimpArgs false
set_option linter.unusedSectionVars false
namespace Go.Proofs.YtejkelcaljmnoaaGreatDoor
open Go.Conc Go.Hx Go.Lo
def St.stop1 (S : St) (b : Nat) (x : PS) (s : Nat) : St := (S.setP b { x with st := s }).setRow x.lv ((S.rows x.lv).erase b)
section
variable {S S' : St} {b : Nat} {x x' : PS} {k : Nat × Nat}
theorem mem_setP_of {c : Nat} {y : PS} (h : (c, y) ∈ S.ps) (hne : c ≠ b) : (c, y) ∈ (S.setP b x').ps := by
 simp only [St.setP, List.mem_map]
 exact ⟨(c, y), h, by rw [if_neg hne]⟩
theorem Good.stop1 (h : Good S) (hb : (b, x) ∈ S.ps) {s : Nat} (hs : s ≠ 1) : Good (S.stop1 b x s) := by
 have hlv := h.lv _ hb
 have rows : ∀ l, (S.stop1 b x s).rows l = if l = x.lv then (S.rows x.lv).erase b else S.rows l := fun l => rfl
 refine ⟨by unfold St.stop1 St.setRow; rw [setP_fst]; exact h.pn, by unfold St.stop1 St.setRow; rw [setP_len]; exact h.p8, fun q hq => ?_, fun l hl => ?_, fun l hl c hc => ?_, fun q hq h1 => ?_⟩
 · rcases mem_setP hq with rfl | ⟨h1, _⟩
   · exact hlv
   · exact h.lv q h1
 · rw [rows]
   split
   · exact (h.rn _ hlv).sublist List.erase_sublist
   · exact h.rn l hl
 · rw [rows] at hc
   have old : c ≠ b → c ∈ S.rows l → ∃ y, (c, y) ∈ (S.stop1 b x s).ps ∧ y.lv = l ∧ y.st = 1 := fun hne hc' => by
     obtain ⟨y, hy, h1, h2⟩ := h.rm l hl c hc'
     exact ⟨y, mem_setP_of hy hne, h1, h2⟩
   split at hc
   · rename_i e
     subst e
     refine old (fun e => ?_) (List.mem_of_mem_erase hc)
     rw [e] at hc
     exact (List.Nodup.not_mem_erase (h.rn _ hlv)) hc
   · rename_i e
     refine old (fun e' => ?_) hc
     obtain ⟨y, hy, h1, h2⟩ := h.rm l hl c hc
     rw [e'] at hy
     rw [nodup_val h.pn hb hy] at e
     exact e h1.symm
 · rw [rows]
   rcases mem_setP hq with rfl | ⟨h2, h3⟩
   · exact absurd h1 hs
   · have := h.rr q h2 h1
     split
     · rename_i e; rw [e] at this; exact (List.mem_erase_of_ne h3).2 this
     · exact this
theorem Inv.stop1 (h : Inv S) (hb : (b, x) ∈ S.ps) (ho : S.out b) {s : Nat} (hs : s ≠ 1) : Inv (S.stop1 b x s) where
 g := h.g.stop1 hb hs
 wf := fun q hq => by
   rcases mem_setP hq with rfl | ⟨h1, _⟩
   · exact ⟨(h.wf _ hb).r, (h.wf _ hb).m⟩
   · exact h.wf q h1
 fl := fun q hq => by
   rcases mem_setP hq with rfl | ⟨h1, _⟩
   · exact h.fl (b, x) hb
   · exact h.fl q h1
 y8 := h.y8
 yb := h.yb
 kn := h.kn
 ne := h.ne
 nd := h.nd
 ke := h.ke
 rm := fun e he c hc => by
   obtain ⟨y, hy, ha⟩ := h.rm e he c hc
   exact ⟨y, mem_setP_of hy (by rintro rfl; exact ho e he hc), ha⟩
theorem Inv.alike (h : Inv S) (hb : (b, x) ∈ S.ps) (hs : x'.st = x.st) (hl : x'.lv = x.lv) (hr : x'.r = x.r) (hf : x'.f = x.f) (hm : x'.m = x.m) : Inv (S.setP b x') where
 g := h.g.like hb hs hl
 wf := fun q hq => by
   rcases mem_setP hq with rfl | ⟨h1, _⟩
   · exact ⟨by rw [hr]; exact (h.wf _ hb).r, by rw [hm]; exact (h.wf _ hb).m⟩
   · exact h.wf q h1
 fl := fun q hq => by
   rcases mem_setP hq with rfl | ⟨h1, _⟩
   · rw [hf]; exact h.fl (b, x) hb
   · exact h.fl q h1
 y8 := h.y8
 yb := h.yb
 kn := h.kn
 ne := h.ne
 nd := h.nd
 ke := h.ke
 rm := fun e he c hc => by
   obtain ⟨y, hy, ha⟩ := h.rm e he c hc
   by_cases ecb : c = b
   · subst ecb
     obtain rfl := nodup_val h.g.pn hb hy
     refine ⟨x', mem_setP_self hb, ?_, by rw [hr]; exact ha.a, by rw [hr]; exact ha.w, by rw [hs]; exact ha.s⟩
     have := ha.f
     unfold PS.file at *
     rw [hr, hf]; exact this
   · exact ⟨y, mem_setP_of hy ecb, ha⟩
theorem Inv.orphs (id : Nat) : ∀ (bs : List Nat) {S : St}, Inv S → Inv (S.orphs id bs) ∧ (S.orphs id bs).ps.map (·.1) = S.ps.map (·.1)
 | [], S, h => ⟨h, rfl⟩
 | b :: bs, S, h => by
   unfold St.orphs
   cases hg : S.get b with
   | none => exact Inv.orphs id bs h
   | some y =>
     simp only
     split
     · have hb := mem_of_get hg
       have := Inv.orphs id bs (h.alike (x' := { y with par := 1 }) hb rfl rfl rfl rfl rfl)
       exact ⟨this.1, by rw [this.2, setP_fst]⟩
     · exact Inv.orphs id bs h
theorem Inv.erase (h : Inv S) {i c : Nat} {y : PS} (hi : S.ps[i]? = some (c, y)) (hy : y.st = 6) {ls : Nat} : Inv { S.setPs (S.ps.eraseIdx i) with last := ls } where
 g := h.g.erase hi (by omega)
 wf := fun q hq => h.wf q (List.mem_of_mem_eraseIdx hq)
 fl := fun q hq => h.fl q (List.mem_of_mem_eraseIdx hq)
 y8 := h.y8
 yb := h.yb
 kn := h.kn
 ne := h.ne
 nd := h.nd
 ke := h.ke
 rm := fun e he c' hc => by
   obtain ⟨z, hz, ha⟩ := h.rm e he c' hc
   refine ⟨z, ?_, ha⟩
   show (c', z) ∈ S.ps.eraseIdx i
   obtain ⟨j, hj⟩ := List.getElem?_of_mem hz
   have hji : j ≠ i := fun e' => by
     subst e'
     rw [hj] at hi
     simp at hi
     have h1 := ha.s
     rw [hi.2] at h1
     rcases (h.ke e he).2 with h2 | h2 <;> omega
   rw [List.mem_eraseIdx_iff_getElem?]
   exact ⟨j, hji, hj⟩
theorem told_wf (h : WF x) (y : PS) : WF (told x y) := ⟨fun i hi => by
 show 0 ≤ put (put x.r 0 ((y.id : Int) % 65536)) 1 (y.stat % 65536) i ∧ put (put x.r 0 ((y.id : Int) % 65536)) 1 (y.stat % 65536) i < 65536
 unfold put
 have := h.r i hi
 split
 · omega
 · split
   · omega
   · exact this, h.m⟩
end
def St.fin (S : St) (b : Nat) (x : PS) (status : Int) : St :=
 let S2 := ((S.depart b (x.file (x.r 0))).stop1 b x 6).setP b { x with st := 6, stat := status }
 let S3 := S2.shuts b x.f (List.range' 0 6)
 let S4 := S3.orphs x.id (S3.ps.map (·.1))
 S4.parents (S4.ps.map (·.1))
theorem end_s : ∃ n, ∀ {p : Par} {Sh : Loc → Prop} {E Dn : Nat} {PostB : World → Prop} {Aft : Goroutine → World → Prop} {W : World} {O : Nat} {G0 : List (Nat × Obj)} {vs : List Value} (K : Nat) (A : Lay) (S : St) (Fr L : Frag) (eb : Nat → Nat × Nat) (b : Nat) (x : PS) (status : Int), (∀ s, NewK (domT Tryz.prog p Sh E Dn PostB Aft W O G0 s)) → Rep K A S Fr L → Ers eb Fr → Inv S → (b, x) ∈ S.ps →
   CallsL (domT Tryz.prog p Sh E Dn PostB Aft W O G0) Tryz.prog false 94 [ptr K, ptr b, .int .i64 status, .chan (some E)].toArray n (evt S.now 4 x.id status :: vs) L (fun s' v L' => vs = s' ∧ v = .tuple #[] ∧ ∃ A' G, (∀ q ∈ S.ps, (∃ z, (q.1, z) ∈ (S.fin b x status).ps) ∨ ∃ z, pb q.1 z ∈ G ∧ z.st = 6) ∧ Rep K A' (S.fin b x status) (G ++ Fr) L') := by
 obtain ⟨n1, g1⟩ := file_s
 obtain ⟨n2, g2⟩ := depart_s
 obtain ⟨n3, g3⟩ := stop_s
 obtain ⟨n4, g4⟩ := tell_s
 obtain ⟨n5, g5⟩ := shutAll_s
 obtain ⟨n6, g6⟩ := orphan_s
 obtain ⟨n7, g7⟩ := lookAtParents_s
 apply Exists.intro
 intro p Sh E Dn PostB Aft W O G0 vs K A S Fr L eb b x status hN hR hE hI hb
 have hx0 : At L b 7 (.int .u16 (x.r 0)) := hR.pat hb (pget_r x (i := 0) (by omega))
 have ho := hI.out_depart hb
 have hI1 : Inv (S.depart b (x.file (x.r 0))) := hI.depart
 have hb1 : (b, x) ∈ (S.depart b (x.file (x.r 0))).ps := hb
 have hlv := hI.g.lv _ hb
 have hI2 := hI1.stop1 hb1 ho (s := 6) (by decide)
 have hb2 : (b, { x with st := 6 }) ∈ ((S.depart b (x.file (x.r 0))).stop1 b x 6).ps := mem_setP_self hb1
 have hI3 := hI2.alike (x' := { x with st := 6, stat := status }) hb2 rfl rfl rfl rfl rfl
 have hb3 : (b, { x with st := 6, stat := status }) ∈ (((S.depart b (x.file (x.r 0))).stop1 b x 6).setP b { x with st := 6, stat := status }).ps := mem_setP_self hb2
 have h4 := Shutting.all (b := b) (x := { x with st := 6, stat := status }) x.f (List.range' 0 6) ⟨hI3, rfl, ho, x.f, hb3⟩
 obtain ⟨f', hb4⟩ := h4.m
 have h5 := Inv.orphs x.id ((St.shuts (((S.depart b (x.file (x.r 0))).stop1 b x 6).setP b { x with st := 6, stat := status }) b x.f (List.range' 0 6)).ps.map (·.1)) h4.i
 have hfst : (St.orphs (St.shuts (((S.depart b (x.file (x.r 0))).stop1 b x 6).setP b { x with st := 6, stat := status }) b x.f (List.range' 0 6)) x.id ((St.shuts (((S.depart b (x.file (x.r 0))).stop1 b x 6).setP b { x with st := 6, stat := status }) b x.f (List.range' 0 6)).ps.map (·.1))).ps.map (·.1) = S.ps.map (·.1) := by
   rw [h5.2, h4.f, setP_fst]
   show ((S.depart b (x.file (x.r 0))).setP b _).ps.map (·.1) = _
   rw [setP_fst]; rfl
 have hne : (St.orphs (St.shuts (((S.depart b (x.file (x.r 0))).stop1 b x 6).setP b { x with st := 6, stat := status }) b x.f (List.range' 0 6)) x.id ((St.shuts (((S.depart b (x.file (x.r 0))).stop1 b x 6).setP b { x with st := 6, stat := status }) b x.f (List.range' 0 6)).ps.map (·.1))).ps ≠ [] := by
   intro e
   rw [e] at hfst
   have : b ∈ S.ps.map (·.1) := List.mem_map.2 ⟨(b, x), hb, rfl⟩
   rw [← hfst] at this
   simp at this
 co_applyP callsE 44 Tryz.func94 Tryz.ntmps94
 co_applyP c_seq
 co_applyP c_region
 co_applyP oy rfl E_mv
 co_applyP oy rfl E_mv
 co_applyP oy rfl E_mv
 co_applyP oy rfl E_mv
 co_applyP oy rfl E_nc
 co_applyP oy rfl (E_fa (hf := fo_99_0))
 co_applyP oy rfl (E_fa (hf := fo_49_7))
 co_applyP oy rfl (E_ixa Tryz.underlying47 sz_32)
 co_applyP oy rfl (E_ld (ht := ag_32))
 co_applyP ocm rfl rfl rfl (g1 K A S Fr L b x (x.r 0) (hN _).k hR hb ((hI.wf _ hb).r 0 (by omega)))
 rintro _ _ _ ⟨rfl, rfl, hF1, hs1⟩
 rename_i L1
 have hR1 := hR.of hF1 hs1
 co_applyP oc rfl rfl rfl (g2 K A S Fr L1 b x (x.file (x.r 0)) (hN _).r (hN _).k hR1 hI.w hb)
 rintro _ _ _ ⟨rfl, rfl, A2, hw2, hR2⟩
 co_applyP o_nil
 change wpE ..
 co_applyP c_seq
 co_applyP c_region
 co_applyP oy rfl E_mv
 co_applyP oy rfl E_mv
 rename_i L2
 co_applyP oc rfl rfl rfl (g3 K A2 _ Fr L2 b x 6 hR2 hb1 hlv (hI1.g.r8 hlv) (hI1.g.ex hlv) (fun e he => slot_ne e.1 hlv))
 rintro _ _ _ ⟨rfl, rfl, A3, hw3, hR3⟩
 co_applyP o_nil
 change wpE ..
 co_applyP c_seq
 co_applyP c_region
 co_applyP oy rfl E_mv
 co_applyP oy rfl E_mv
 co_applyP oy rfl E_nc
 co_applyP oy rfl (E_fa (hf := fo_99_0))
 co_applyP oy rfl (E_fa (hf := fo_49_3))
 rename_i L3
 have hb2' := hb2
 co_applyP osm rfl (hs := sz_3) (hm := hR3.p _ hb2) (hi := by first | decide | (rw [psize]; omega) | (rw [ksize]; omega))
 intro L4 hU4
 have hR4 := hR3.setP (x' := { x with st := 6, stat := status }) hb2 hU4
 have hid : At L4 b 0 (.int .i64 (x.id : Nat)) := hR4.pat hb3 (i := 0) rfl
 co_applyP o_nil
 change wpE ..
 co_applyP c_seq
 co_applyP c_region
 co_applyP oy rfl E_mv
 co_applyP oy rfl E_mv
 co_applyP oy rfl E_mv
 co_applyP oy rfl E_nc
 co_applyP oy rfl (E_fa (hf := fo_99_0))
 co_applyP oy rfl (E_fa (hf := fo_49_0))
 co_applyP oy rfl (E_ld (ht := ag_3))
 co_applyP oy rfl E_mv
 co_applyP oc rfl rfl rfl (g4 K A3 _ Fr L4 4 x.id status hR4)
 rintro _ _ _ ⟨rfl, rfl, rfl⟩
 co_applyP o_nil
 change wpE ..
 co_applyP c_seq
 co_applyP c_region
 co_applyP oy rfl E_mv
 co_applyP oy rfl E_mv
 co_applyP oc rfl rfl rfl (g5 K A3 _ Fr L4 eb b _ hN hR4 hE hI3 hb3 ho)
 rintro _ _ _ ⟨rfl, rfl, A5, hR5⟩
 co_applyP o_nil
 change wpE ..
 co_applyP c_seq
 co_applyP c_region
 co_applyP oy rfl E_mv
 co_applyP oy rfl E_mv
 rename_i L5
 co_applyP oc rfl rfl rfl (g6 K A5 _ Fr L5 b _ hR5 hb4)
 rintro _ _ _ ⟨rfl, rfl, hrel, hR6⟩
 co_applyP o_nil
 change wpE ..
 co_applyP c_region
 co_applyP oy rfl E_mv
 rename_i L6
 co_applyP oc rfl rfl rfl (g7 K A5 _ Fr L6 (hN _).r hR6 h5.1.g hne)
 rintro _ _ _ ⟨rfl, rfl, hG, A7, G, hall, hR7⟩
 co_applyP o_nil
 change ∃ v, resE .. = some v ∧ _
 refine ⟨_, rfl, rfl, rfl, A7, G, fun q hq => ?_, hR7⟩
 have hm : q.1 ∈ S.ps.map (·.1) := List.mem_map.2 ⟨q, hq, rfl⟩
 rw [← hfst] at hm
 obtain ⟨q', hq', e⟩ := List.mem_map.1 hm
 have := hall q' hq'
 rw [e] at this
 exact this
def PS.r0 (x : PS) (v : Int) : PS := { x with r := put x.r 0 v }
theorem pset_r0 (x : PS) (v : Int) : (pcells x).setIfInBounds (7 + 0) (.int .u16 v) = pcells (x.r0 v) := pset_r x (by omega) v
theorem pset_til (x : PS) (v : Int) : (pcells x).setIfInBounds 91 (.int .i64 v) = pcells { x with til := v } := by rfl
def St.sleep1 (S : St) (b : Nat) (x : PS) : St := if x.r 0 = 0 then S.setP b (x.r0 0) else (S.setP b { x.r0 0 with til := (S.now : Int) + x.r 0 }).stop1 b { x.r0 0 with til := (S.now : Int) + x.r 0 } 3
def St.yield1 (S : St) (b : Nat) (x : PS) : St :=
 let S2 := (S.setP b (x.r0 0)).setRow x.lv ((S.rows x.lv).erase b)
 S2.setRow x.lv (S2.rows x.lv ++ [b])
theorem sleep_0 : ∃ n, ∀ {σ : Type} {F : Fam σ} {Δ : ∀ s, Dom (F.R s) (F.D s)} {main : Bool} {s : σ} (K : Nat) (A : Lay) (S : St) (Fr L : Frag) (b : Nat) (x : PS), Rep K A S Fr L → Inv S → (b, x) ∈ S.ps → S.now < 4611686018427387904 → x.r 0 = 0 →
   CallsL Δ Tryz.prog main 134 [ptr K, ptr b].toArray n s L (fun s' v L' => s = s' ∧ v = .tuple #[] ∧ ∃ A', Rep K A' (S.sleep1 b x) Fr L') := by
 obtain ⟨n1, g1⟩ := stop_s
 apply Exists.intro
 intro σ F Δ main s K A S Fr L b x hR hI hb hnow h0
 have hlv := hI.g.lv _ hb
 have wx0 : 0 ≤ x.r 0 ∧ x.r 0 < 65536 := (hI.wf _ hb).r 0 (by omega)
 have w0 : IntKind.i64.wrap (x.r 0) = x.r 0 := by simp [IntKind.wrap_i64]; omega
 have w1 : IntKind.i64.wrap ((S.now : Int) + x.r 0) = (S.now : Int) + x.r 0 := by simp [IntKind.wrap_i64]; omega
 have hx0 : At L b 7 (.int .u16 (x.r 0)) := hR.pat hb (pget_r x (i := 0) (by omega))
 co_applyP callsE 31 Tryz.func134 Tryz.ntmps134
 co_applyP c_seq
 co_applyP c_region
 co_applyP oy rfl E_mv
 co_applyP oy rfl E_nc
 co_applyP oy rfl (E_fa (hf := fo_99_0))
 co_applyP oy rfl (E_fa (hf := fo_49_7))
 co_applyP oy rfl (E_ixa Tryz.underlying47 sz_32)
 co_applyP oy rfl (E_ld (ht := ag_32))
 co_applyP oy rfl (E_cv (hs := Tryz.underlying32) (ht := Tryz.underlying3))
 co_applyP oy rfl E_as
 co_applyP o_nil
 change wpE ..
 co_applyP c_seq
 co_applyP c_region
 co_applyP oy rfl E_mv
 co_applyP oy rfl E_nc
 co_applyP oy rfl (E_fa (hf := fo_99_0))
 co_applyP oy rfl (E_fa (hf := fo_49_7))
 co_applyP oy rfl (E_ixa Tryz.underlying47 sz_32)
 simp only [w0]
 co_applyP osm rfl (hs := sz_32) (hm := hR.p _ hb) (hi := by first | decide | (rw [psize]; omega) | (rw [ksize]; omega))
 intro L1 hU1
 have hR1 := hR.setP (x' := x.r0 0) hb (by rw [← pset_r0]; exact hU1)
 have hb1 : (b, x.r0 0) ∈ (S.setP b (x.r0 0)).ps := mem_setP_self hb
 have hn1 : At L1 K 16 (.int .i64 (S.now : Nat)) := hR1.kat rfl
 have e0 : (x.r 0 == 0) = true := by simp [h0]
 co_applyP o_nil
 change wpE ..
 co_applyP c_seq (n₂ := 0)
 co_applyP c_seq
 co_applyP c_region
 co_applyP oy rfl E_mv
 co_applyP oy rfl E_eql
 co_applyP o_nil
 change wpE ..
 rw [e0]
 co_applyP c_true rfl
 co_applyP c_ret
 change ∃ v, resE .. = some v ∧ _
 exact ⟨_, rfl, rfl, rfl, A, by unfold St.sleep1; rw [if_pos h0]; exact hR1⟩
theorem sleep_1 : ∃ n, ∀ {σ : Type} {F : Fam σ} {Δ : ∀ s, Dom (F.R s) (F.D s)} {main : Bool} {s : σ} (K : Nat) (A : Lay) (S : St) (Fr L : Frag) (b : Nat) (x : PS), Rep K A S Fr L → Inv S → (b, x) ∈ S.ps → S.now < 4611686018427387904 → x.r 0 ≠ 0 →
   CallsL Δ Tryz.prog main 134 [ptr K, ptr b].toArray n s L (fun s' v L' => s = s' ∧ v = .tuple #[] ∧ ∃ A', Rep K A' (S.sleep1 b x) Fr L') := by
 obtain ⟨n1, g1⟩ := stop_s
 apply Exists.intro
 intro σ F Δ main s K A S Fr L b x hR hI hb hnow h0
 have hlv := hI.g.lv _ hb
 have wx0 : 0 ≤ x.r 0 ∧ x.r 0 < 65536 := (hI.wf _ hb).r 0 (by omega)
 have w0 : IntKind.i64.wrap (x.r 0) = x.r 0 := by simp [IntKind.wrap_i64]; omega
 have w1 : IntKind.i64.wrap ((S.now : Int) + x.r 0) = (S.now : Int) + x.r 0 := by simp [IntKind.wrap_i64]; omega
 have hx0 : At L b 7 (.int .u16 (x.r 0)) := hR.pat hb (pget_r x (i := 0) (by omega))
 co_applyP callsE 31 Tryz.func134 Tryz.ntmps134
 co_applyP c_seq
 co_applyP c_region
 co_applyP oy rfl E_mv
 co_applyP oy rfl E_nc
 co_applyP oy rfl (E_fa (hf := fo_99_0))
 co_applyP oy rfl (E_fa (hf := fo_49_7))
 co_applyP oy rfl (E_ixa Tryz.underlying47 sz_32)
 co_applyP oy rfl (E_ld (ht := ag_32))
 co_applyP oy rfl (E_cv (hs := Tryz.underlying32) (ht := Tryz.underlying3))
 co_applyP oy rfl E_as
 co_applyP o_nil
 change wpE ..
 co_applyP c_seq
 co_applyP c_region
 co_applyP oy rfl E_mv
 co_applyP oy rfl E_nc
 co_applyP oy rfl (E_fa (hf := fo_99_0))
 co_applyP oy rfl (E_fa (hf := fo_49_7))
 co_applyP oy rfl (E_ixa Tryz.underlying47 sz_32)
 simp only [w0]
 co_applyP osm rfl (hs := sz_32) (hm := hR.p _ hb) (hi := by first | decide | (rw [psize]; omega) | (rw [ksize]; omega))
 intro L1 hU1
 have hR1 := hR.setP (x' := x.r0 0) hb (by rw [← pset_r0]; exact hU1)
 have hb1 : (b, x.r0 0) ∈ (S.setP b (x.r0 0)).ps := mem_setP_self hb
 have hn1 : At L1 K 16 (.int .i64 (S.now : Nat)) := hR1.kat rfl
 have e0 : (x.r 0 == 0) = false := by simp [h0]
 co_applyP o_nil
 change wpE ..
 co_applyP c_seq
 co_applyP c_seq
 co_applyP c_region
 co_applyP oy rfl E_mv
 co_applyP oy rfl E_eql
 co_applyP o_nil
 change wpE ..
 rw [e0]
 co_applyP c_false rfl
 co_applyP c_skip
 change wpE ..
 co_applyP c_seq
 co_applyP c_region
 co_applyP oy rfl E_mv
 co_applyP oy rfl E_mv
 co_applyP oy rfl E_nc
 co_applyP oy rfl (E_fa (hf := fo_115_7))
 co_applyP oy rfl (E_ld (ht := ag_3))
 co_applyP oy rfl E_mv
 co_applyP oy rfl E_add
 co_applyP oy rfl E_nc
 co_applyP oy rfl (E_fa (hf := fo_99_3))
 simp only [w1]
 co_applyP osm rfl (hs := sz_3) (hm := hR1.p _ hb1) (hi := by first | decide | (rw [psize]; omega) | (rw [ksize]; omega))
 intro L2 hU2
 have hR2 := hR1.setP (x' := { x.r0 0 with til := (S.now : Int) + x.r 0 }) hb1 (by rw [← pset_til]; exact hU2)
 rw [setP_setP] at hR2
 co_applyP o_nil
 change wpE ..
 co_applyP c_region
 co_applyP oy rfl E_mv
 co_applyP oy rfl E_mv
 co_applyP oc rfl rfl rfl (g1 K A _ Fr L2 b _ 3 hR2 (mem_setP_self hb) hlv (hI.g.r8 hlv) (fun c hc => mem_setP_ex (hI.g.ex hlv c hc)) (fun e he => slot_ne e.1 hlv))
 rintro _ _ _ ⟨rfl, rfl, A3, hw3, hR3⟩
 co_applyP o_nil
 change ∃ v, resE .. = some v ∧ _
 exact ⟨_, rfl, rfl, rfl, A3, by unfold St.sleep1; rw [if_neg h0]; exact hR3⟩
theorem sleep_s : ∃ n, ∀ {σ : Type} {F : Fam σ} {Δ : ∀ s, Dom (F.R s) (F.D s)} {main : Bool} {s : σ} (K : Nat) (A : Lay) (S : St) (Fr L : Frag) (b : Nat) (x : PS), Rep K A S Fr L → Inv S → (b, x) ∈ S.ps → S.now < 4611686018427387904 →
   CallsL Δ Tryz.prog main 134 [ptr K, ptr b].toArray n s L (fun s' v L' => s = s' ∧ v = .tuple #[] ∧ ∃ A', Rep K A' (S.sleep1 b x) Fr L') := by
 obtain ⟨n0, g0⟩ := sleep_0
 obtain ⟨n1, g1⟩ := sleep_1
 exact ⟨n0 + n1, fun {σ F Δ main s} K A S Fr L b x hR hI hb hnow => callsL_split (x.r 0 = 0) (fun h => g0 K A S Fr L b x hR hI hb hnow h) fun h => g1 K A S Fr L b x hR hI hb hnow h⟩
theorem yield_s : ∃ n, ∀ {σ : Type} {F : Fam σ} {Δ : ∀ s, Dom (F.R s) (F.D s)} {main : Bool} {s : σ} (K : Nat) (A : Lay) (S : St) (Fr L : Frag) (b : Nat) (x : PS), (∀ cs, (Δ s).New (.cells cs 93)) → Rep K A S Fr L → Inv S → (b, x) ∈ S.ps →
   CallsL Δ Tryz.prog main 135 [ptr K, ptr b].toArray n s L (fun s' v L' => s = s' ∧ v = .tuple #[] ∧ ∃ A', Rep K A' (S.yield1 b x) Fr L') := by
 obtain ⟨n1, g1⟩ := leave_s
 obtain ⟨n2, g2⟩ := join_s
 apply Exists.intro
 intro σ F Δ main s K A S Fr L b x hN hR hI hb
 have hlv := hI.g.lv _ hb
 co_applyP callsE 19 Tryz.func135 Tryz.ntmps135
 co_applyP c_seq
 co_applyP c_region
 co_applyP oy rfl E_mv
 co_applyP oy rfl E_nc
 co_applyP oy rfl (E_fa (hf := fo_99_0))
 co_applyP oy rfl (E_fa (hf := fo_49_7))
 co_applyP oy rfl (E_ixa Tryz.underlying47 sz_32)
 co_applyP osm rfl (hs := sz_32) (hm := hR.p _ hb) (hi := by first | decide | (rw [psize]; omega) | (rw [ksize]; omega))
 intro L1 hU1
 have hR1 := hR.setP (x' := x.r0 0) hb (by rw [← pset_r0]; exact hU1)
 have hb1 : (b, x.r0 0) ∈ (S.setP b (x.r0 0)).ps := mem_setP_self hb
 co_applyP o_nil
 change wpE ..
 co_applyP c_seq
 co_applyP c_region
 co_applyP oy rfl E_mv
 co_applyP oy rfl E_nc
 co_applyP oy rfl (E_fa (hf := fo_115_4))
 co_applyP oy rfl E_mv
 co_applyP oc rfl rfl rfl (g1 K A _ Fr L1 b _ hR1 hb1 hlv (hI.g.r8 hlv) (fun c hc => mem_setP_ex (hI.g.ex hlv c hc)) (fun e he => slot_ne e.1 hlv))
 rintro _ _ _ ⟨rfl, rfl, A2, hw2, hR2⟩
 co_applyP o_nil
 change wpE ..
 co_applyP c_region
 co_applyP oy rfl E_mv
 co_applyP oy rfl E_nc
 co_applyP oy rfl (E_fa (hf := fo_115_4))
 co_applyP oy rfl E_mv
 rename_i L2
 have h8 : (((S.setP b (x.r0 0)).setRow x.lv ((S.rows x.lv).erase b)).rows x.lv).length ≤ 8 := by
   have e : ((S.setP b (x.r0 0)).setRow x.lv ((S.rows x.lv).erase b)).rows x.lv = (S.rows x.lv).erase b := by simp [St.setRow, put]
   rw [e]
   exact Nat.le_trans List.length_erase_le (hI.g.r8 hlv)
 co_applyP oc rfl rfl rfl (g2 K A2 _ Fr L2 b (x.r0 0) hN hR2 hb1 hlv h8 (fun e he => slot_ne e.1 hlv))
 rintro _ _ _ ⟨rfl, rfl, A3, hw3, hR3⟩
 co_applyP o_nil
 change ∃ v, resE .. = some v ∧ _
 exact ⟨_, rfl, rfl, rfl, A3, hR3⟩
theorem settle_0 : ∃ n, ∀ {σ : Type} {F : Fam σ} {Δ : ∀ s, Dom (F.R s) (F.D s)} {main : Bool} {s : σ} (L : Frag) (K b : Nat) (ch : Value),
   CallsL Δ Tryz.prog main 84 [ptr K, ptr b, .nilIface, ch].toArray n s L (fun s' v L' => s = s' ∧ L = L' ∧ v = .tuple #[]) := by
 apply Exists.intro
 intro σ F Δ main s L K b ch
 co_applyP callsE 20 Tryz.func84 Tryz.ntmps84
 co_applyP c_seq
 co_applyP c_region
 co_applyP oy rfl E_mv
 co_applyP oy rfl (E_ifn (v := .nilIface) (c := true) (hv := .inl ⟨rfl, rfl⟩) (hu := Tryz.underlying168))
 co_applyP oy rfl E_mv
 co_applyP ou rfl
 co_applyP ou rfl
 co_applyP ou rfl
 co_applyP ou rfl
 co_applyP oy rfl E_pick
 co_applyP o_nil
 change wpE ..
 co_applyP c_false rfl
 co_applyP c_skip
 change ∃ v, resE .. = some v ∧ _
 exact ⟨_, rfl, rfl, rfl, rfl⟩
theorem settle_r : ∃ n, ∀ {σ : Type} {F : Fam σ} {Δ : ∀ s, Dom (F.R s) (F.D s)} {main : Bool} {s : σ} (K : Nat) (A : Lay) (S : St) (Fr L : Frag) (eb : Nat → Nat × Nat) (b : Nat) (x : PS) (r i : Nat) (ch : Value), NewK (Δ s) → Rep K A S Fr L → Ers eb Fr → (b, x) ∈ S.ps → At L r 1 (erv eb i) → i < 11 → i ≠ 2 →
   CallsL Δ Tryz.prog main 84 [ptr K, ptr b, .iface 180 (ptr r), ch].toArray n s L (fun s' v L' => s = s' ∧ v = .tuple #[] ∧ Rep K A (S.setP b (x.r0 (ansOf i))) Fr L') := by
 obtain ⟨n1, g1⟩ := answered_t
 apply Exists.intro
 intro σ F Δ main s K A S Fr L eb b x r i ch hN hR hE hb hr hi hi2
 co_applyP callsE 20 Tryz.func84 Tryz.ntmps84
 co_applyP c_seq
 co_applyP c_region
 co_applyP oy rfl E_mv
 co_applyP oy rfl (E_ifn (v := .iface 180 (ptr r)) (c := false) (hv := .inr ⟨_, _, rfl, rfl⟩) (hu := Tryz.underlying168))
 co_applyP oy rfl E_mv
 co_applyP oy rfl (E_mv)
 co_applyP oy rfl (E_mv)
 co_applyP oc rfl rfl rfl (g1 K A S Fr L eb b x r i hN.toNewE hR hE hb hr hi hi2)
 rintro _ _ _ ⟨rfl, rfl, hR1⟩
 co_applyP oy rfl (E_not)
 co_applyP oy rfl E_pick
 co_applyP o_nil
 change wpE ..
 co_applyP c_false rfl
 co_applyP c_skip
 change ∃ v, resE .. = some v ∧ _
 exact ⟨_, rfl, rfl, rfl, hR1⟩
theorem settle_f : ∃ n, ∀ {p : Par} {Sh : Loc → Prop} {E Dn : Nat} {PostB : World → Prop} {Aft : Goroutine → World → Prop} {W : World} {O : Nat} {G0 : List (Nat × Obj)} {vs : List Value} (K : Nat) (A : Lay) (S : St) (Fr L : Frag) (eb : Nat → Nat × Nat) (b : Nat) (x : PS) (e : Nat × Nat), (∀ s, NewK (domT Tryz.prog p Sh E Dn PostB Aft W O G0 s)) → Rep K A S Fr L → Ers eb Fr → Inv S → (b, x) ∈ S.ps →
   CallsL (domT Tryz.prog p Sh E Dn PostB Aft W O G0) Tryz.prog false 84 [ptr K, ptr b, .iface 255 (ptq e), .chan (some E)].toArray n (evt S.now 4 x.id 65281 :: vs) L (fun s' v L' => vs = s' ∧ v = .tuple #[] ∧ ∃ A' G, (∀ q ∈ S.ps, (∃ z, (q.1, z) ∈ (S.fin b x 65281).ps) ∨ ∃ z, pb q.1 z ∈ G ∧ z.st = 6) ∧ Rep K A' (S.fin b x 65281) (G ++ Fr) L') := by
 obtain ⟨n1, g1⟩ := answered_f
 obtain ⟨n2, g2⟩ := end_s
 apply Exists.intro
 intro p Sh E Dn PostB Aft W O G0 vs K A S Fr L eb b x e hN hR hE hI hb
 co_applyP callsE 20 Tryz.func84 Tryz.ntmps84
 co_applyP c_seq
 co_applyP c_region
 co_applyP oy rfl E_mv
 co_applyP oy rfl (E_ifn (v := .iface 255 (ptq e)) (c := false) (hv := .inr ⟨_, _, rfl, rfl⟩) (hu := Tryz.underlying168))
 co_applyP oy rfl E_mv
 co_applyP oy rfl (E_mv)
 co_applyP oy rfl (E_mv)
 co_applyP oc rfl rfl rfl (g1 L eb b e (hN _).toNewE (hE.mono hR.fr))
 rintro _ _ _ ⟨rfl, rfl, hF1, hs1⟩
 rename_i L1
 have hR1 := hR.of hF1 hs1
 co_applyP oy rfl (E_not)
 co_applyP oy rfl E_pick
 co_applyP o_nil
 change wpE ..
 co_applyP c_true rfl
 co_applyP c_region
 co_applyP oy rfl E_mv
 co_applyP oy rfl E_mv
 co_applyP oy rfl E_mv
 co_applyP oc rfl rfl rfl (g2 K A S Fr L1 eb b x 65281 hN hR1 hE hI hb)
 rintro _ _ _ ⟨rfl, rfl, A2, G, hall, hR2⟩
 co_applyP o_nil
 change ∃ v, resE .. = some v ∧ _
 exact ⟨_, rfl, rfl, rfl, A2, G, hall, hR2⟩
end Go.Proofs.YtejkelcaljmnoaaGreatDoor
