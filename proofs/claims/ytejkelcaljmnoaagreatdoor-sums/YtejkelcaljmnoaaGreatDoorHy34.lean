/-
  Part 34 of the proof.
  No condition but those that each statement names.
-/
import Derived.Test.YtejkelcaljmnoaaGreatDoorHy33
import Derived.Test.YtejkelcaljmnoaaGreatDoorHy21
set_option maxRecDepth 100000
set_option linter.unusedVariables false
set_option linter.unusedSimpArgs false
set_option linter.unusedSectionVars false
namespace Go.Proofs.YtejkelcaljmnoaaGreatDoor
open Go.Conc Go.Hx Go.Lo
def St.closeR (S : St) (b : Nat) (x : PS) : Option Nat × St := if x.file (x.r 0) = (0, 0) then (some 3, S) else (none, (S.shut b (x.r 0).toNat).r0 b 0)
theorem close_0 : ∃ n, ∀ {σ : Type} {F : Fam σ} {Δ : ∀ s, Dom (F.R s) (F.D s)} {main : Bool} {s : σ} (K : Nat) (A : Lay) (S : St) (Fr L : Frag) (eb : Nat → Nat × Nat) (b : Nat) (x : PS), (∀ cs, (Δ s).New (.cells cs 96)) → Rep K A S Fr L → Ers eb Fr → Inv S → (b, x) ∈ S.ps → x.file (x.r 0) = (0, 0) →
   CallsL Δ Tryz.prog main 137 [ptr K, ptr b].toArray n s L (fun s' v L' => s = s' ∧ v = erv eb 3 ∧ Rep K A S Fr L') := by
 obtain ⟨n0, g0⟩ := file_s
 obtain ⟨n1, g1⟩ := isNone_s
 apply Exists.intro
 intro σ F Δ main s K A S Fr L eb b x hN hR hE hI hb hf
 have wx0 : 0 ≤ x.r 0 ∧ x.r 0 < 65536 := (hI.wf _ hb).r 0 (by omega)
 have hx0 : At L b 7 (.int .u16 (x.r 0)) := hR.pat hb (pget_r x (i := 0) (by omega))
 co_applyP callsE 27 Tryz.func137 Tryz.ntmps137
 co_applyP c_seq
 co_applyP c_region
 co_applyP oy rfl E_as
 co_applyP o_nil
 change wpE ..
 co_applyP c_seq
 co_applyP c_region
 co_applyP oy rfl E_mv
 co_applyP oy rfl E_nc
 co_applyP oy rfl (E_fa (hf := fo_99_0))
 co_applyP oy rfl (E_fa (hf := fo_49_7))
 co_applyP oy rfl (E_ixa Tryz.underlying47 sz_32)
 co_applyP oy rfl (E_ld (ht := ag_32))
 co_applyP oy rfl E_as
 co_applyP o_nil
 change wpE ..
 co_applyP c_seq (n₂ := 0)
 co_applyP c_seq
 co_applyP c_region
 co_applyP oy rfl E_mv
 co_applyP oy rfl E_mv
 co_applyP ocm rfl rfl rfl (g0 K A S Fr L b x (x.r 0) hN hR hb wx0)
 rintro _ _ _ ⟨rfl, rfl, hF1, hs1⟩
 rename_i L1
 co_applyP oc rfl rfl rfl (g1 L1 (x.file (x.r 0)) hN)
 rintro _ _ _ ⟨rfl, rfl, hE2⟩
 co_applyP o_nil
 change wpE ..
 rename_i L2
 have hR2 := (hR.of hF1 hs1).ext hE2
 have hg := (hE.mono hR2.fr).g 3 (by decide) (by decide)
 rw [decide_eq_true hf]
 co_applyP c_true rfl
 co_applyP c_seq
 co_applyP c_region
 co_applyP oy rfl (E_ld (ht := ag_168))
 co_applyP oy rfl E_as
 co_applyP o_nil
 change wpE ..
 co_applyP c_ret
 change ∃ v, resE .. = some v ∧ _
 exact ⟨_, rfl, rfl, rfl, hR2⟩
theorem close_1 : ∃ n, ∀ {σ : Type} {F : Fam σ} {Δ : ∀ s, Dom (F.R s) (F.D s)} {main : Bool} {s : σ} (K : Nat) (A : Lay) (S : St) (Fr L : Frag) (eb : Nat → Nat × Nat) (b : Nat) (x : PS), (∀ s, NewK (Δ s)) → Rep K A S Fr L → Ers eb Fr → Inv S → (b, x) ∈ S.ps → S.out b → x.file (x.r 0) ≠ (0, 0) →
   CallsL Δ Tryz.prog main 137 [ptr K, ptr b].toArray n s L (fun s' v L' => s = s' ∧ v = .nilIface ∧ ∃ A', Rep K A' ((S.shut b (x.r 0).toNat).r0 b 0) Fr L') := by
 obtain ⟨n0, g0⟩ := file_s
 obtain ⟨n1, g1⟩ := isNone_s
 obtain ⟨n2, g2⟩ := shut_s
 apply Exists.intro
 intro σ F Δ main s K A S Fr L eb b x hN hR hE hI hb ho hf
 have wx0 : 0 ≤ x.r 0 ∧ x.r 0 < 65536 := (hI.wf _ hb).r 0 (by omega)
 have hx0 : At L b 7 (.int .u16 (x.r 0)) := hR.pat hb (pget_r x (i := 0) (by omega))
 have h6 : x.r 0 < 6 := by
   refine Decidable.byContradiction fun h => hf ?_
   unfold PS.file
   rw [if_neg h]
 have w0 : IntKind.i64.wrap (x.r 0) = ((x.r 0).toNat : Nat) := by simp [IntKind.wrap_i64]; omega
 co_applyP callsE 27 Tryz.func137 Tryz.ntmps137
 co_applyP c_seq
 co_applyP c_region
 co_applyP oy rfl E_as
 co_applyP o_nil
 change wpE ..
 co_applyP c_seq
 co_applyP c_region
 co_applyP oy rfl E_mv
 co_applyP oy rfl E_nc
 co_applyP oy rfl (E_fa (hf := fo_99_0))
 co_applyP oy rfl (E_fa (hf := fo_49_7))
 co_applyP oy rfl (E_ixa Tryz.underlying47 sz_32)
 co_applyP oy rfl (E_ld (ht := ag_32))
 co_applyP oy rfl E_as
 co_applyP o_nil
 change wpE ..
 co_applyP c_seq
 co_applyP c_seq
 co_applyP c_region
 co_applyP oy rfl E_mv
 co_applyP oy rfl E_mv
 co_applyP ocm rfl rfl rfl (g0 K A S Fr L b x (x.r 0) (hN _).k hR hb wx0)
 rintro _ _ _ ⟨rfl, rfl, hF1, hs1⟩
 rename_i L1
 co_applyP oc rfl rfl rfl (g1 L1 (x.file (x.r 0)) (hN _).k)
 rintro _ _ _ ⟨rfl, rfl, hE2⟩
 co_applyP o_nil
 change wpE ..
 rename_i L2
 have hR2 := (hR.of hF1 hs1).ext hE2
 rw [decide_eq_false hf]
 co_applyP c_false rfl
 co_applyP c_skip
 change wpE ..
 co_applyP c_seq
 co_applyP c_region
 co_applyP oy rfl E_mv
 co_applyP oy rfl E_mv
 co_applyP oy rfl E_mv
 co_applyP oy rfl (E_cv (hs := Tryz.underlying32) (ht := Tryz.underlying3))
 rw [w0]
 co_applyP oc rfl rfl rfl (g2 K A S Fr L2 eb b x (x.r 0).toNat hN hR2 hE hI hb ho (by omega))
 rintro _ _ _ ⟨rfl, rfl, A3, hR3⟩
 co_applyP o_nil
 change wpE ..
 co_applyP c_seq
 co_applyP c_region
 co_applyP oy rfl E_mv
 co_applyP oy rfl E_nc
 co_applyP oy rfl (E_fa (hf := fo_99_0))
 co_applyP oy rfl (E_fa (hf := fo_49_7))
 co_applyP oy rfl (E_ixa Tryz.underlying47 sz_32)
 rename_i L3
 have hl := hI.shut hb ho (x.r 0).toNat
 have hb3 := hl.m b _ ho (mem_setP_self hb)
 co_applyP osm rfl (hs := sz_32) (hm := hR3.p _ hb3) (hi := by first | decide | (rw [psize]; omega) | (rw [ksize]; omega))
 intro L4 hU4
 rw [pset_r0] at hU4
 have hR4 := hR3.setP hb3 hU4
 co_applyP o_nil
 change wpE ..
 co_applyP c_seq
 co_applyP c_region
 co_applyP oy rfl E_as
 co_applyP o_nil
 change wpE ..
 co_applyP c_ret
 change ∃ v, resE .. = some v ∧ _
 refine ⟨_, rfl, rfl, rfl, A3, ?_⟩
 unfold St.r0
 rw [get_of hl.i.g.pn hb3]
 exact hR4
theorem close_s : ∃ n, ∀ {σ : Type} {F : Fam σ} {Δ : ∀ s, Dom (F.R s) (F.D s)} {main : Bool} {s : σ} (K : Nat) (A : Lay) (S : St) (Fr L : Frag) (eb : Nat → Nat × Nat) (b : Nat) (x : PS), (∀ s, NewK (Δ s)) → Rep K A S Fr L → Ers eb Fr → Inv S → (b, x) ∈ S.ps → S.out b →
   CallsL Δ Tryz.prog main 137 [ptr K, ptr b].toArray n s L (fun s' v L' => s = s' ∧ v = erV eb (S.closeR b x).1 ∧ ∃ A', Rep K A' (S.closeR b x).2 Fr L') := by
 obtain ⟨n0, g0⟩ := close_0
 obtain ⟨n1, g1⟩ := close_1
 refine ⟨n0 + n1, fun {σ F Δ main s} K A S Fr L eb b x hN hR hE hI hb ho => callsL_split (x.file (x.r 0) = (0, 0)) (fun h => ?_) fun h => ?_⟩
 · have e : S.closeR b x = (some 3, S) := by unfold St.closeR; rw [if_pos h]
   rw [e]
   exact callsL_post (g0 K A S Fr L eb b x (hN _).k hR hE hI hb h) fun s' v L' ⟨h1, h2, h3⟩ => ⟨h1, h2, A, h3⟩
 · have e : S.closeR b x = (none, (S.shut b (x.r 0).toNat).r0 b 0) := by unfold St.closeR; rw [if_neg h]
   rw [e]
   exact g1 K A S Fr L eb b x hN hR hE hI hb ho h
theorem idx_mem (xs : List Nat) (b : Nat) : decide (0 ≤ idx xs b) = decide (b ∈ xs) := by
 unfold idx
 cases h : xs.findIdx? (· == b) with
 | none =>
   have := List.findIdx?_eq_none_iff.1 h
   have hn : b ∉ xs := fun hm => by simpa using this b hm
   simp [hn]
 | some i =>
   obtain ⟨h1, h2, _⟩ := List.findIdx?_eq_some_iff_getElem.1 h
   have hm : b ∈ xs := by
     have e : xs[i] = b := by simpa using h2
     rw [← e]; exact List.getElem_mem h1
   simp [hm]
theorem contains_s : ∃ n, ∀ {σ : Type} {F : Fam σ} {Δ : ∀ s, Dom (F.R s) (F.D s)} {main : Bool} {s : σ} (L : Frag) (a : Sl) (xs : List Nat) (b : Nat), xs.length ≤ 8 → slOk a (xs.map ptr) 93 L → (∀ c ∈ xs, ∃ x, pb c x ∈ L) → (∃ x, pb b x ∈ L) →
   CallsL Δ Tryz.prog main 153 [slv a xs.length, ptr b].toArray n s L (fun s' v L' => s = s' ∧ L = L' ∧ v = .bool (decide (b ∈ xs))) := by
 obtain ⟨n1, g1⟩ := index_s
 apply Exists.intro
 intro σ F Δ main s L a xs b h8 ha hc hb
 co_applyP callsE 9 Tryz.func153 Tryz.ntmps153
 co_applyP c_seq
 co_applyP c_region
 co_applyP oy rfl E_as
 co_applyP o_nil
 change wpE ..
 co_applyP c_seq
 co_applyP c_region
 co_applyP oy rfl E_mv
 co_applyP oy rfl E_mv
 co_applyP oc rfl rfl rfl (g1 L a xs b h8 ha hc hb)
 rintro _ _ _ ⟨rfl, rfl, rfl⟩
 co_applyP oy rfl E_geq
 co_applyP oy rfl E_as
 co_applyP o_nil
 change wpE ..
 co_applyP c_ret
 change ∃ v, resE .. = some v ∧ _
 exact ⟨_, rfl, rfl, rfl, by rw [← idx_mem]⟩
def PS.checkUse (x : PS) (use most : Nat) : Option Nat := if (x.file (x.r 0)).2 ≠ use then some 3 else if x.r 2 = 0 ∨ (most : Int) < x.r 2 then some 9 else if 64 < x.r 1 + x.r 2 then some 8 else none
theorem checkUse_s : ∃ n, ∀ {σ : Type} {F : Fam σ} {Δ : ∀ s, Dom (F.R s) (F.D s)} {main : Bool} {s : σ} (K : Nat) (A : Lay) (S : St) (Fr L : Frag) (eb : Nat → Nat × Nat) (b : Nat) (x : PS) (use most : Nat), (∀ cs, (Δ s).New (.cells cs 96)) → Rep K A S Fr L → Ers eb Fr → Inv S → (b, x) ∈ S.ps →
   CallsL Δ Tryz.prog main 152 [ptr b, .int .i64 (use : Nat), .int .i64 (most : Nat)].toArray n s L (fun s' v L' => s = s' ∧ v = erV eb (x.checkUse use most) ∧ Ext L L') := by
 obtain ⟨n0, g0⟩ := file_s
 apply Exists.intro
 intro σ F Δ main s K A S Fr L eb b x use most hN hR hE hI hb
 have wx0 : 0 ≤ x.r 0 ∧ x.r 0 < 65536 := (hI.wf _ hb).r 0 (by omega)
 have wx1 : 0 ≤ x.r 1 ∧ x.r 1 < 65536 := (hI.wf _ hb).r 1 (by omega)
 have wx2 : 0 ≤ x.r 2 ∧ x.r 2 < 65536 := (hI.wf _ hb).r 2 (by omega)
 have hx0 : At L b 7 (.int .u16 (x.r 0)) := hR.pat hb (pget_r x (i := 0) (by omega))
 have hx1 : At L b 8 (.int .u16 (x.r 1)) := hR.pat hb (pget_r x (i := 1) (by omega))
 have hx2 : At L b 9 (.int .u16 (x.r 2)) := hR.pat hb (pget_r x (i := 2) (by omega))
 have w1 : IntKind.i64.wrap (x.r 1) = x.r 1 := by simp [IntKind.wrap_i64]; omega
 have w2 : IntKind.i64.wrap (x.r 2) = x.r 2 := by simp [IntKind.wrap_i64]; omega
 have w3 : IntKind.i64.wrap (x.r 1 + x.r 2) = x.r 1 + x.r 2 := by simp [IntKind.wrap_i64]; omega
 co_applyP callsE 51 Tryz.func152 Tryz.ntmps152
 co_applyP c_seq
 co_applyP c_region
 co_applyP oy rfl E_as
 co_applyP o_nil
 change wpE ..
 co_applyP c_seq
 co_applyP c_drawq mixed
 co_applyP tr (i := 0) rfl E_mv pI
 co_applyP tr (i := 1) rfl E_nc pI
 co_applyP tr (i := 2) rfl (E_fa (hf := fo_99_0)) pI
 co_applyP tr (i := 3) rfl (E_fa (hf := fo_49_7)) pI
 co_applyP tr (i := 4) rfl (E_ixa Tryz.underlying47 sz_32) pI
 co_applyP tr (i := 5) rfl (E_ld (ht := ag_32)) pI
 co_applyP tr (i := 6) rfl (E_cv (hs := Tryz.underlying32) (ht := Tryz.underlying3)) pI
 co_applyP tr (i := 7) rfl E_mv pI
 co_applyP tr (i := 8) rfl E_nc pI
 co_applyP tr (i := 9) rfl (E_fa (hf := fo_99_0)) pI
 co_applyP tr (i := 10) rfl (E_fa (hf := fo_49_7)) pI
 co_applyP tr (i := 11) rfl (E_ixa Tryz.underlying47 sz_32) pI
 co_applyP tr (i := 12) rfl (E_ld (ht := ag_32)) pI
 co_applyP tr (i := 13) rfl (E_cv (hs := Tryz.underlying32) (ht := Tryz.underlying3)) pI
 co_applyP tr (i := 14) rfl E_as pI
 co_applyP tr (i := 15) rfl E_as pI
 co_applyP td (by kernel_rfl)
 change wpE ..
 co_applyP c_seq
 co_applyP c_block
 co_applyP c_seq
 co_applyP c_region
 co_applyP oy rfl E_mv
 co_applyP oy rfl E_mv
 co_applyP oy rfl E_nc
 co_applyP oy rfl (E_fa (hf := fo_99_0))
 co_applyP oy rfl (E_fa (hf := fo_49_7))
 co_applyP oy rfl (E_ixa Tryz.underlying47 sz_32)
 co_applyP oy rfl (E_ld (ht := ag_32))
 simp only [w1, w2]
 co_applyP ocm rfl rfl rfl (g0 K A S Fr L b x (x.r 0) hN hR hb wx0)
 rintro _ _ _ ⟨rfl, rfl, hF1, hs1⟩
 co_applyP oy rfl (E_fld (hf := fp_96_1))
 co_applyP oy rfl E_mv
 co_applyP oy rfl E_neq
 co_applyP oy rfl E_as
 co_applyP o_nil
 change wpE ..
 rename_i L1
 have hE1 : Ext L L1 := ⟨hF1, hs1⟩
 have hR1 := hR.ext hE1
 have hg3 := (hE.mono hR1.fr).g 3 (by decide) (by decide)
 have hg8 := (hE.mono hR1.fr).g 8 (by decide) (by decide)
 have hg9 := (hE.mono hR1.fr).g 9 (by decide) (by decide)
 co_applyP c_if rfl
 intro h1
 co_applyP c_seq
 co_applyP c_region
 co_applyP oy rfl (E_ld (ht := ag_168))
 co_applyP oy rfl E_as
 co_applyP o_nil
 change wpE ..
 co_applyP c_ret
 change ∃ v, resE .. = some v ∧ _
 · have h1' : (x.file (x.r 0)).2 ≠ use := by simp at h1; omega
   exact ⟨_, rfl, rfl, by unfold PS.checkUse; rw [if_pos h1']; rfl, hE1⟩
 intro h1
 have h1' : ¬ (x.file (x.r 0)).2 ≠ use := by simp at h1; omega
 co_applyP c_split (x.r 2 = 0)
 intro h0
 · have e0 : (x.r 2 == 0) = true := by simp [h0]
   co_applyP c_seq
   co_applyP c_region
   co_applyP oy rfl E_mv
   co_applyP oy rfl E_eql
   co_applyP oy rfl E_mv
   rw [e0]
   co_applyP ou rfl
   co_applyP ou rfl
   co_applyP ou rfl
   co_applyP oy rfl E_pick
   co_applyP oy rfl E_as
   co_applyP o_nil
   change wpE ..
   co_applyP c_true rfl
   co_applyP c_seq
   co_applyP c_region
   co_applyP oy rfl (E_ld (ht := ag_168))
   co_applyP oy rfl E_as
   co_applyP o_nil
   change wpE ..
   co_applyP c_ret
   change ∃ v, resE .. = some v ∧ _
   exact ⟨_, rfl, rfl, by unfold PS.checkUse; rw [if_neg h1', if_pos (.inl h0)]; rfl, hE1⟩
 intro h0
 have e0 : (x.r 2 == 0) = false := by simp [h0]
 co_applyP c_seq
 co_applyP c_region
 co_applyP oy rfl E_mv
 co_applyP oy rfl E_eql
 co_applyP oy rfl E_mv
 rw [e0]
 co_applyP oy rfl (E_mv)
 co_applyP oy rfl (E_mv)
 co_applyP oy rfl (E_gtr)
 co_applyP oy rfl E_pick
 co_applyP oy rfl E_as
 co_applyP o_nil
 change wpE ..
 co_applyP c_if rfl
 intro h2
 co_applyP c_seq
 co_applyP c_region
 co_applyP oy rfl (E_ld (ht := ag_168))
 co_applyP oy rfl E_as
 co_applyP o_nil
 change wpE ..
 co_applyP c_ret
 change ∃ v, resE .. = some v ∧ _
 · have h2' : (most : Int) < x.r 2 := by simpa using h2
   exact ⟨_, rfl, rfl, by unfold PS.checkUse; rw [if_neg h1', if_pos (.inr h2')]; rfl, hE1⟩
 intro h2
 co_applyP c_seq
 co_applyP c_region
 co_applyP oy rfl E_mv
 co_applyP oy rfl E_mv
 co_applyP oy rfl E_add
 co_applyP oy rfl E_gtr
 co_applyP oy rfl E_as
 co_applyP o_nil
 change wpE ..
 have h2' : ¬ (x.r 2 = 0 ∨ (most : Int) < x.r 2) := fun h => h.elim h0 fun h => by simp at h2; omega
 simp only [w3]
 co_applyP c_if rfl
 intro h3
 co_applyP c_seq
 co_applyP c_region
 co_applyP oy rfl (E_ld (ht := ag_168))
 co_applyP oy rfl E_as
 co_applyP o_nil
 change wpE ..
 co_applyP c_ret
 change ∃ v, resE .. = some v ∧ _
 · have h3' : 64 < x.r 1 + x.r 2 := by simpa using h3
   exact ⟨_, rfl, rfl, by unfold PS.checkUse; rw [if_neg h1', if_neg h2', if_pos h3']; rfl, hE1⟩
 intro h3
 co_applyP c_skip
 change wpE ..
 co_applyP c_seq
 co_applyP c_region
 co_applyP oy rfl E_as
 co_applyP o_nil
 change wpE ..
 co_applyP c_ret
 change ∃ v, resE .. = some v ∧ _
 have h3' : ¬ 64 < x.r 1 + x.r 2 := by simpa using h3
 exact ⟨_, rfl, rfl, by unfold PS.checkUse; rw [if_neg h1', if_neg h2', if_neg h3']; rfl, hE1⟩
end Go.Proofs.YtejkelcaljmnoaaGreatDoor
namespace Go.Lo
open Go.Conc Go.Hx
section
variable {P : Program} {New : Obj → Prop} {N : Nat} {ε : Env} {L : Frag} {d : Option Tmp} {ty : TypeId} {ps : String} {af : Array Edge} {g : Option (Nat × Bool)}
theorem O_me1 {x ix : Operand} {t kt et : TypeId} {r clock i c : Nat} {k : Nat × Nat} {v : Value} {l : Ents} (hnd : (L.map (·.1)).Nodup) (H : Key2 P kt) (hu : P.underlying t = some (.map kt et)) (hm : (r, true, mapO l clock) ∈ L) (hl : lk k l 0 = some (i, v)) (hc : l[i]? = some (k, v, c)) (hx : ev ε x = some (.map (some r)) := by rfl) (hi : ev ε ix = some (kv k) := by rfl) :
   EO P New N ε L ⟨d, .mapEntry t x ix, ty, ps, af, g⟩ (fun r' L'' => r' = .tuple #[v, .int .i64 (c : Nat)] ∧ Upd L r (mapO l clock) L'') := by
 intro a ha
 obtain ⟨n, hn⟩ := List.getElem?_of_mem hm
 show wpS P New (Instr.mapEntry t (a.eval x) (a.eval ix) >>= fun v => pure (Next.value v)) _ L
 rw [ha.ev hx, ha.ev hi, wpS_bind]
 unfold Instr.mapEntry
 rw [wpS_bind, wpS_underlying hu]
 simp only [wpS_bind]
 refine wpS_getObj hm rfl ?_
 simp only [mapO, wpS_bind]
 refine wpS_of_wpQ (K := (· = ())) (fun _ _ => ?_) _ (wpQ_ev0 (H.ck _ _ _) rfl)
 refine wpS_of_wpQ (K := (· = lk k l 0)) (fun _ e => ?_) _ (wpQ_findKey H l rfl)
 subst e
 rw [hl]
 have hkey : ((((l.map ent).toArray[i]?).map (·.key)).getD (kv k)) = kv k := by simp [hc, ent]
 have hborn : ((((l.map ent).toArray[i]?).map (·.born)).getD 0) = c := by simp [hc, ent]
 simp only [wpS_bind, hkey, hborn]
 have hs : Instr.keyThatStays (kv k) (kv k) = pure (kv k) := by
   unfold Instr.keyThatStays
   have : Instr.sameBits 10000 (kv k) (kv k) = true := by simp [Instr.sameBits]
   rw [this]; rfl
 rw [hs, wpS_pure]
 have he : (l.map ent).toArray.modify i (fun e => { e with key := kv k }) = (l.map ent).toArray := by
   apply Array.ext'
   simp only [Array.toList_modify]
   apply List.ext_getElem?
   intro j
   simp only [List.getElem?_modify, List.getElem?_map]
   by_cases e : i = j
   · subst e; simp [hc, ent]
   · cases l[j]? with
     | none => rfl
     | some e' => simp [e]
 rw [he]
 refine wpS_setObj hn rfl rfl ?_
 rw [wpS_pure, wpS_pure]
 have hborn2 : ((((l.map ent).toArray[i]?).map (fun x => ((x.born : Nat) : Int))).getD 0) = (c : Nat) := by simp [hc, ent]
 refine ⟨?_, upd_set hnd hn⟩
 rw [hborn2]; rfl
theorem O_me0 {x ix : Operand} {t kt et : TypeId} {r clock : Nat} {k : Nat × Nat} {z : Value} {l : Ents} (hnd : (L.map (·.1)).Nodup) (H : Key2 P kt) (hu : P.underlying t = some (.map kt et)) (hz : zeroAt P et = some z) (hm : (r, true, mapO l clock) ∈ L) (hl : lk k l 0 = none) (hx : ev ε x = some (.map (some r)) := by rfl) (hi : ev ε ix = some (kv k) := by rfl) :
   EO P New N ε L ⟨d, .mapEntry t x ix, ty, ps, af, g⟩ (fun r' L'' => r' = .tuple #[z, .int .i64 (clock : Nat)] ∧ Upd L r (mapO (l ++ [(k, z, clock)]) (clock + 1)) L'') := by
 intro a ha
 obtain ⟨n, hn⟩ := List.getElem?_of_mem hm
 show wpS P New (Instr.mapEntry t (a.eval x) (a.eval ix) >>= fun v => pure (Next.value v)) _ L
 rw [ha.ev hx, ha.ev hi, wpS_bind]
 unfold Instr.mapEntry
 rw [wpS_bind, wpS_underlying hu]
 simp only [wpS_bind]
 refine wpS_getObj hm rfl ?_
 simp only [mapO, wpS_bind]
 refine wpS_of_wpQ (K := (· = ())) (fun _ _ => ?_) _ (wpQ_ev0 (H.ck _ _ _) rfl)
 refine wpS_of_wpQ (K := (· = lk k l 0)) (fun _ e => ?_) _ (wpQ_findKey H l rfl)
 subst e
 rw [hl]
 simp only [wpS_bind]
 refine wpS_of_wpQ (K := (· = z)) (fun z' e => ?_) _ (by rw [wpQ_zeroValue hz])
 obtain rfl : z' = z := e
 refine wpS_setObj hn rfl rfl ?_
 rw [wpS_pure, wpS_pure]
 refine ⟨rfl, ?_⟩
 have he : (l.map ent).toArray.push ⟨kv k, z', clock⟩ = ((l ++ [(k, z', clock)]).map ent).toArray := by apply Array.ext'; simp [ent]
 rw [he]
 exact upd_set hnd hn
theorem O_es {x ix y : Operand} {t : TypeId} {r clock c : Nat} {k : Nat × Nat} {v v0 : Value} {l1 l2 : Ents} (hnd : (L.map (·.1)).Nodup) (hm : (r, true, mapO (l1 ++ (k, v0, c) :: l2) clock) ∈ L) (hc : ∀ e ∈ l1, e.2.2 ≠ c) (hx : ev ε x = some (.map (some r)) := by rfl) (hi : ev ε ix = some (.int .i64 (c : Nat)) := by rfl) (hy : ev ε y = some v := by rfl) :
   EO P New N ε L ⟨d, .entryStore t x ix y, ty, ps, af, g⟩ (fun r' L'' => r' = undef ∧ Upd L r (mapO (l1 ++ (k, v, c) :: l2) clock) L'') := by
 intro a ha
 obtain ⟨n, hn⟩ := List.getElem?_of_mem hm
 show wpS P New (Instr.entryStore t (a.eval x) (a.eval ix) (a.eval y) >>= fun _ => pure Next.skip) _ L
 rw [ha.ev hx, ha.ev hi, ha.ev hy, wpS_bind]
 unfold Instr.entryStore
 simp only [wpS_bind]
 refine wpS_getObj hm rfl ?_
 simp only [mapO, wpS_bind]
 have hf : ((l1 ++ (k, v0, c) :: l2).map ent).toArray.findIdx? (fun e => (e.born : Int) == (c : Int)) = some l1.length := by
   rw [List.findIdx?_toArray, List.map_append, List.findIdx?_append, List.findIdx?_eq_none_iff.2 (by
     intro e he
     obtain ⟨e', he', rfl⟩ := List.mem_map.1 he
     have := hc e' he'
     simp [ent]
     omega)]
   simp [List.findIdx?_cons, ent]
 refine wpS_of_wpQ (K := (· = (c : Int))) (fun _ e => ?_) _ (by exact rfl)
 subst e
 rw [hf]
 refine wpS_setObj hn rfl rfl ?_
 refine ⟨trivial, ?_⟩
 have he : ((l1 ++ (k, v0, c) :: l2).map ent).toArray.modify l1.length (fun e => { e with val := v }) = ((l1 ++ (k, v, c) :: l2).map ent).toArray := by
   apply Array.ext'
   simp only [Array.toList_modify]
   apply List.ext_getElem?
   intro j
   simp only [List.getElem?_modify, List.getElem?_map]
   by_cases e : l1.length = j
   · subst e; simp [ent]
   · simp only [if_neg e]
     rcases Nat.lt_or_gt_of_ne (Ne.symm e) with h | h
     · rw [List.getElem?_append_left h, List.getElem?_append_left h]; simp
     · rw [List.getElem?_append_right (by omega), List.getElem?_append_right (by omega)]
       obtain ⟨m, hm⟩ : ∃ m, j - l1.length = m + 1 := ⟨j - l1.length - 1, by omega⟩
       rw [hm]; simp
 rw [he]
 exact upd_set hnd hn
end
end Go.Lo
namespace Go.Proofs.YtejkelcaljmnoaaGreatDoor
open Go.Conc Go.Hx Go.Lo
def rowJoin (b : Nat) (k : Nat × Nat) (l : Wt) : Wt := if ∀ e ∈ l, e.1 ≠ k then l ++ [(k, [b])] else l.map fun e => if e.1 = k then (k, e.2 ++ [b]) else e
def St.joinW (S : St) (b : Nat) (k : Nat × Nat) : St := S.setW (rowJoin b k S.wt)
def St.askR (S : St) (b : Nat) (x : PS) (use most : Nat) : Option Nat × St := match x.checkUse use most with
 | some i => (some i, S)
 | none =>
   let S2 := (S.joinW b (x.file (x.r 0))).look (x.file (x.r 0)).1
   (none, if b ∈ S2.rowAt (x.file (x.r 0)) then (match S2.get b with
     | some z => S2.stop1 b z use
     | none => S2) else S2)
theorem joinW_at {b : Nat} {k : Nat × Nat} {l1 l2 : Wt} {xs : List Nat} (h1 : ∀ e ∈ l1, e.1 ≠ k) (h2 : ∀ e ∈ l2, e.1 ≠ k) : rowJoin b k (l1 ++ (k, xs) :: l2) = l1 ++ (k, xs ++ [b]) :: l2 := by
 unfold rowJoin
 rw [if_neg (fun h => h (k, xs) (by simp) rfl)]
 rw [List.map_append, List.map_cons, if_pos rfl]
 have e : ∀ l : Wt, (∀ e ∈ l, e.1 ≠ k) → l.map (fun e => if e.1 = k then (k, e.2 ++ [b]) else e) = l := fun l h => by
   conv => rhs; rw [← List.map_id l]
   apply List.map_congr_left
   intro e he
   rw [if_neg (h e he)]; rfl
 rw [e l1 h1, e l2 h2]
theorem joinW_none {b : Nat} {k : Nat × Nat} {l : Wt} (h : ∀ e ∈ l, e.1 ≠ k) : rowJoin b k l = l ++ [(k, [b])] := by unfold rowJoin; rw [if_pos h]
theorem Inv.joinW {S : St} {b : Nat} {x : PS} {k : Nat × Nat} (h : Inv S) (hb : (b, x) ∈ S.ps) (ho : S.out b) (ha : Asks x k) (hk : okEnd k) : Inv (S.joinW b k) := by
 by_cases hn : ∀ e ∈ S.wt, e.1 ≠ k
 · have e : (S.joinW b k).wt = S.wt ++ [(k, [b])] := joinW_none hn
   have cs : ∀ e' ∈ (S.joinW b k).wt, e' ∈ S.wt ∨ e' = (k, [b]) := fun e' he => by rw [e] at he; simpa using he
   exact {
     g := ⟨h.g.pn, h.g.p8, h.g.lv, h.g.rn, h.g.rm, h.g.rr⟩
     wf := h.wf, fl := h.fl, y8 := h.y8, yb := h.yb
     kn := by
       rw [e, List.map_append]
       refine List.nodup_append.2 ⟨h.kn, by simp, fun a ha' c hc => ?_⟩
       simp at hc
       subst hc
       rintro rfl
       obtain ⟨e', he', e2⟩ := List.mem_map.1 ha'
       exact hn e' he' e2
     ne := fun e' he => (cs e' he).elim (h.ne e') fun e => by subst e; simp
     nd := fun e' he => (cs e' he).elim (h.nd e') fun e => by subst e; simp
     ke := fun e' he => (cs e' he).elim (h.ke e') fun e => by subst e; exact hk
     rm := fun e' he c hc => (cs e' he).elim (fun h' => h.rm e' h' c hc) fun e => by subst e; simp at hc; subst hc; exact ⟨x, hb, ha⟩ }
 · have hk' : k ∈ S.wt.map (·.1) := Decidable.byContradiction fun hn' => hn fun e he e1 => hn' (List.mem_map.2 ⟨e, he, e1⟩)
   obtain ⟨l1, ys, l2, hl, h1, h2⟩ := split_key h.kn hk'
   have e : (S.joinW b k).wt = l1 ++ (k, ys ++ [b]) :: l2 := by show rowJoin b k S.wt = _; rw [hl, joinW_at h1 h2]
   have hin : (k, ys) ∈ S.wt := by rw [hl]; simp
   have cs : ∀ e' ∈ (S.joinW b k).wt, e' ∈ S.wt ∨ e' = (k, ys ++ [b]) := fun e' he => by
     rw [e] at he
     rcases List.mem_append.1 he with h' | h'
     · exact .inl (by rw [hl]; simp [h'])
     · rcases List.mem_cons.1 h' with h' | h'
       · exact .inr h'
       · exact .inl (by rw [hl]; simp [h'])
   exact {
     g := ⟨h.g.pn, h.g.p8, h.g.lv, h.g.rn, h.g.rm, h.g.rr⟩
     wf := h.wf, fl := h.fl, y8 := h.y8, yb := h.yb
     kn := by
       have := h.kn
       rw [hl] at this
       rw [e]
       simpa using this
     ne := fun e' he => (cs e' he).elim (h.ne e') fun e => by subst e; simp
     nd := fun e' he => (cs e' he).elim (h.nd e') fun e => by
       subst e
       refine List.nodup_append.2 ⟨h.nd _ hin, by simp, fun a ha' c hc => ?_⟩
       simp at hc
       subst hc
       rintro rfl
       exact ho _ hin ha'
     ke := fun e' he => (cs e' he).elim (h.ke e') fun e => by subst e; exact hk
     rm := fun e' he c hc => (cs e' he).elim (fun h' => h.rm e' h' c hc) fun e => by
       subst e
       rcases List.mem_append.1 hc with h' | h'
       · exact h.rm _ hin c h'
       · simp at h'; subst h'; exact ⟨x, hb, ha⟩ }
theorem ask_0 : ∃ n, ∀ {σ : Type} {F : Fam σ} {Δ : ∀ s, Dom (F.R s) (F.D s)} {main : Bool} {s : σ} (K : Nat) (A : Lay) (S : St) (Fr L : Frag) (eb : Nat → Nat × Nat) (b : Nat) (x : PS) (use most i : Nat), (∀ cs, (Δ s).New (.cells cs 96)) → Rep K A S Fr L → Ers eb Fr → Inv S → (b, x) ∈ S.ps → x.checkUse use most = some i →
   CallsL Δ Tryz.prog main 138 [ptr K, ptr b, .int .i64 (use : Nat), .int .i64 (most : Nat)].toArray n s L (fun s' v L' => s = s' ∧ v = erv eb i ∧ Rep K A S Fr L') := by
 obtain ⟨n0, g0⟩ := checkUse_s
 apply Exists.intro
 intro σ F Δ main s K A S Fr L eb b x use most i hN hR hE hI hb hc
 co_applyP callsE 53 Tryz.func138 Tryz.ntmps138
 co_applyP c_seq
 co_applyP c_region
 co_applyP oy rfl E_as
 co_applyP o_nil
 change wpE ..
 co_applyP c_seq (n₂ := 0)
 co_applyP c_seq
 co_applyP c_region
 co_applyP oy rfl E_mv
 co_applyP oy rfl E_mv
 co_applyP oy rfl E_mv
 co_applyP oc rfl rfl rfl (g0 K A S Fr L eb b x use most hN hR hE hI hb)
 rintro _ _ _ ⟨rfl, rfl, hE1⟩
 rw [hc]
 co_applyP oy rfl E_as
 co_applyP o_nil
 change wpE ..
 co_applyP c_seq
 co_applyP c_region
 co_applyP oy rfl E_mv
 co_applyP oy rfl (E_ifn (v := erv eb i) (c := false) (hv := .inr ⟨_, _, rfl, rfl⟩) (hu := Tryz.underlying168))
 co_applyP o_nil
 change wpE ..
 co_applyP c_true rfl
 co_applyP c_seq
 co_applyP c_region
 co_applyP oy rfl E_mv
 co_applyP oy rfl E_as
 co_applyP o_nil
 change wpE ..
 co_applyP c_ret
 change ∃ v, resE .. = some v ∧ _
 exact ⟨_, rfl, rfl, rfl, hR.ext hE1⟩
theorem Rep.joinW1 {K : Nat} {A : Lay} {S : St} {F L L1 L' : Frag} (hR : Rep K A S F L) (hI : Inv S) {b : Nat} {k : Nat × Nat} {l1 l2 : Wt} {xs b1 b2 : List Nat} {c0 : Nat} {a' : Sl} (hwt : S.wt = l1 ++ (k, xs) :: l2) (h1 : ∀ e ∈ l1, e.1 ≠ k) (h2 : ∀ e ∈ l2, e.1 ≠ k) (hborn : A.born = b1 ++ c0 :: b2) (hbl : l1.length = b1.length) (hp : Ap1 L (A.a (slot k)) xs b a' L1) (hU : Upd L1 A.wt (mapO (entsOf A l1 b1 ++ (k, slv a' (xs.length + 1), c0) :: entsOf A l2 b2) A.clock) L') : Rep K (A.setW k a' A.born A.clock) (S.joinW b k) F L' := by
 have hin : (k, xs) ∈ S.wt := by rw [hwt]; simp
 have hkk : okKey k := (hI.ke _ hin).key
 have hslot : ∀ e ∈ S.wt, e.1 ≠ k → slot e.1 ≠ slot k := fun e he hne h => hne (slot_inj (hI.ke e he).key hkk h)
 have hAs : ∀ (l : Wt) (bs : List Nat), (∀ e ∈ l, e ∈ S.wt ∧ e.1 ≠ k) → entsOf (A.setW k a' A.born A.clock) l bs = entsOf A l bs := fun l bs h => entsOf_congr fun e he => by
   have := hslot e (h e he).1 (h e he).2
   simp [Lay.setW, put, this]
 have hi1 : ∀ e ∈ l1, e ∈ S.wt ∧ e.1 ≠ k := fun e he => ⟨by rw [hwt]; simp [he], h1 e he⟩
 have hi2 : ∀ e ∈ l2, e ∈ S.wt ∧ e.1 ≠ k := fun e he => ⟨by rw [hwt]; simp [he], h2 e he⟩
 have e0 : S.joinW b k = S.setW (l1 ++ (k, xs ++ [b]) :: l2) := by unfold St.joinW; rw [hwt, joinW_at h1 h2]
 have hwa : ∀ c, (A.a (slot k)).b = some c → c ≠ A.wt := fun c hc e => by
   obtain ⟨ys, hy⟩ := hR.al _ _ hc
   rw [e] at hy
   exact absurd (hR.fn _ _ _ _ _ hy hR.w).2 (by simp [wobj])
 have hwL1 : (A.a (slot k)).b ≠ some A.wt := fun e => hwa _ e rfl
 have hne : ∀ c, a'.b = some c → c ≠ A.wt := fun c hc e => by
   rcases hp.d c hc with h | h
   · exact hwa c h e
   · exact h _ hR.w e.symm
 rw [e0]
 refine hR.setWait hU.fn (fun t ht g1 g2 => hU.ne _ (hp.sub _ ht g2) g1) ?_ (by rw [hR.wl, hwt]; simp) hR.bn hR.bc ?_ (fun c hc => ⟨_, hU.ne _ (hp.ok.mem hc) (hne c hc)⟩) (fun c hc => ?_)
 · have := hU.self
   have e1 : entsOf (A.setW k a' A.born A.clock) (l1 ++ (k, xs ++ [b]) :: l2) A.born = entsOf A l1 b1 ++ (k, slv a' (xs.length + 1), c0) :: entsOf A l2 b2 := by
     conv => lhs; rw [hborn]
     rw [← hborn, hborn, entsOf_append _ hbl]
     show entsOf (A.setW k a' (b1 ++ c0 :: b2) A.clock) l1 b1 ++ (k, slv ((A.setW k a' (b1 ++ c0 :: b2) A.clock).a (slot k)) (xs ++ [b]).length, c0) :: entsOf (A.setW k a' (b1 ++ c0 :: b2) A.clock) l2 b2 = _
     rw [← hborn, hAs _ _ hi1, hAs _ _ hi2]
     have e2 : (A.setW k a' A.born A.clock).a (slot k) = a' := by simp [Lay.setW, put]
     rw [e2]; simp
   rw [e1]; exact this
 · intro e he
   rcases List.mem_append.1 he with h | h
   · exact .inr ⟨(hi1 e h).1, hslot e (hi1 e h).1 (hi1 e h).2⟩
   · rcases List.mem_cons.1 h with rfl | h
     · exact .inl ⟨rfl, hp.ok.mono fun c hc o ho => hU.ne _ ho (hne c hc)⟩
     · exact .inr ⟨(hi2 e h).1, hslot e (hi2 e h).1 (hi2 e h).2⟩
 · rcases hp.d c hc with h | h
   · exact .inl h
   · refine .inr ⟨fun i hi => ?_, fun t ht => h t (hR.fr t ht)⟩
     obtain ⟨ys, hy⟩ := hR.al i c hi
     exact h _ hy rfl
theorem Rep.joinW0 {K : Nat} {A : Lay} {S : St} {F L L0 L1 L' : Frag} (hR : Rep K A S F L) (hI : Inv S) {b : Nat} {k : Nat × Nat} {a' : Sl} {z : Value} (hk : okEnd k) (hn : ∀ e ∈ S.wt, e.1 ≠ k) (hU0 : Upd L A.wt (mapO (entsOf A S.wt A.born ++ [(k, z, A.clock)]) (A.clock + 1)) L0) (hp : Ap1 L0 ⟨none, []⟩ [] b a' L1) (hU : Upd L1 A.wt (mapO (entsOf A S.wt A.born ++ [(k, slv a' 1, A.clock)]) (A.clock + 1)) L') : Rep K (A.setW k a' (A.born ++ [A.clock]) (A.clock + 1)) (S.joinW b k) F L' := by
 have hslot : ∀ e ∈ S.wt, slot e.1 ≠ slot k := fun e he h => hn e he (slot_inj (hI.ke e he).key hk.key h)
 have e0 : S.joinW b k = S.setW (S.wt ++ [(k, [b])]) := by unfold St.joinW; rw [joinW_none hn]
 have hnew : ∀ c, a'.b = some c → ∀ t ∈ L, t.1 ≠ c := fun c hc t ht e => by
   rcases hp.d c hc with h | h
   · cases h
   · by_cases ew : t.1 = A.wt
     · exact h _ hU0.self (by rw [← ew]; exact e)
     · exact h _ (hU0.ne _ ht ew) e
 have hne : ∀ c, a'.b = some c → c ≠ A.wt := fun c hc e => hnew c hc _ hR.w e.symm
 rw [e0]
 refine hR.setWait hU.fn (fun t ht g1 g2 => hU.ne _ (hp.sub _ (hU0.ne _ ht g1) (by simp)) g1) ?_ (by simp [hR.wl]) ?_ ?_ ?_ (fun c hc => ⟨_, hU.ne _ (hp.ok.mem hc) (hne c hc)⟩) (fun c hc => ?_)
 · have e1 : entsOf (A.setW k a' (A.born ++ [A.clock]) (A.clock + 1)) (S.wt ++ [(k, [b])]) (A.born ++ [A.clock]) = entsOf A S.wt A.born ++ [(k, slv a' 1, A.clock)] := by
     rw [entsOf_append _ hR.wl.symm]
     have e2 : entsOf (A.setW k a' (A.born ++ [A.clock]) (A.clock + 1)) S.wt A.born = entsOf A S.wt A.born := entsOf_congr fun e he => by
       have := hslot e he
       simp [Lay.setW, put, this]
     rw [e2]
     congr 1
     show [(k, slv ((A.setW k a' (A.born ++ [A.clock]) (A.clock + 1)).a (slot k)) 1, A.clock)] = _
     have e3 : (A.setW k a' (A.born ++ [A.clock]) (A.clock + 1)).a (slot k) = a' := by simp [Lay.setW, put]
     rw [e3]
   rw [e1]; exact hU.self
 · refine List.nodup_append.2 ⟨hR.bn, by simp, fun x hx y hy => ?_⟩
   have := hR.bc x hx
   simp at hy
   omega
 · intro x hx
   rcases List.mem_append.1 hx with h | h
   · have := hR.bc x h; omega
   · simp at h; omega
 · intro e he
   rcases List.mem_append.1 he with h | h
   · exact .inr ⟨h, hslot e h⟩
   · simp at h
     subst h
     exact .inl ⟨rfl, hp.ok.mono fun c hc o ho => hU.ne _ ho (hne c hc)⟩
 · refine .inr ⟨fun i hi => ?_, fun t ht => hnew c hc t (hR.fr t ht)⟩
   obtain ⟨ys, hy⟩ := hR.al i c hi
   exact hnew c hc _ hy rfl
end Go.Proofs.YtejkelcaljmnoaaGreatDoor
