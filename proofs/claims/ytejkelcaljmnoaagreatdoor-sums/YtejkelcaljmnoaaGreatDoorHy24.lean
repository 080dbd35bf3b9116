/-
  Part 24 of the proof.
  No condition but those that each statement names.
-/
import Derived.Test.YtejkelcaljmnoaaGreatDoorHy23
set_option maxRecDepth 100000
set_option linter.unusedVariables false
set_option linter.unusedSimpArgs false
set_option linter.unusedSectionVars false
namespace Go.Proofs.YtejkelcaljmnoaaGreatDoor
open Go.Conc Go.Hx Go.Lo
theorem depart_s : ∃ n, ∀ {σ : Type} {F : Fam σ} {Δ : ∀ s, Dom (F.R s) (F.D s)} {main : Bool} {s : σ} (K : Nat) (A : Lay) (S : St) (Fr L : Frag) (b : Nat) (x : PS) (k : Nat × Nat), (∀ cs, (Δ s).New (.cells cs 93)) → (∀ cs, (Δ s).New (.cells cs 96)) → Rep K A S Fr L → WGood S → (b, x) ∈ S.ps →
   CallsL Δ Tryz.prog main 105 [ptr K, ptr b, keyv k].toArray n s L (fun s' v L' => s = s' ∧ v = .tuple #[] ∧ ∃ A', WLay A A' ∧ Rep K A' (S.depart b k) Fr L') := by
 obtain ⟨n0, g0⟩ := depart_0
 obtain ⟨n1, g1⟩ := depart_1
 refine ⟨n0 + n1, fun {σ F Δ main s} K A S Fr L b x k hN hN2 hR hW hb => callsL_split (∀ e ∈ S.wt, e.1 ≠ k) (fun h => ?_) fun h => ?_⟩
 · refine callsL_post (g0 K A S Fr L b k hN hN2 hR h) fun s' v L' ⟨h1, h2, h3⟩ => ⟨h1, h2, A, WLay.refl A, ?_⟩
   have e : S.depart b k = S := by unfold St.depart; rw [departW_skip h]; rfl
   rw [e]; exact h3
 · have hk : k ∈ S.wt.map (·.1) := by
     refine Decidable.byContradiction fun hn => h fun e he e1 => hn (List.mem_map.2 ⟨e, he, e1⟩)
   obtain ⟨l1, xs, l2, h1, h2, h3⟩ := split_key hW.kn hk
   exact g1 K A S Fr L b x k l1 l2 xs hN hN2 hR hW hb h1 h2 h3
theorem bld96b (a b : Int) : evR Tryz.prog (Instr.build 96 [(0, .int .i64 a), (1, .int .i64 b)].toArray) [] = some (.agg #[.int .i64 a, .int .i64 b], []) := by kernel_rfl
def otherE (k : Nat × Nat) : Nat × Nat := if k.2 = 4 then (k.1, 5) else (k.1, 4)
theorem other_s : ∃ n, ∀ {σ : Type} {F : Fam σ} {Δ : ∀ s, Dom (F.R s) (F.D s)} {main : Bool} {s : σ} (L : Frag) (k : Nat × Nat), (∀ cs, (Δ s).New (.cells cs 96)) →
   CallsM Δ Tryz.prog main 171 [keyv k].toArray n s L (fun s' v L' => s = s' ∧ v = keyv (otherE k) ∧ Ext L L') := by
 apply Exists.intro
 intro σ F Δ main s L k hN
 co_applyP callsME 12 Tryz.func171 Tryz.ntmps171
 co_applyP c_seq
 co_applyP c_region
 co_applyP oadd rfl (O_box (hN _))
 intro xk L1 hA1
 co_applyP oadd rfl (O_new (z := keyv (0, 0)) (hN _))
 intro xr L2 hA2
 have hk2 := hA2.sub _ hA1.self
 have h0 : At L2 xk 0 (.int .i64 (k.1 : Nat)) := ⟨true, _, _, _, hk2, rfl⟩
 have h1 : At L2 xk 1 (.int .i64 (k.2 : Nat)) := ⟨true, _, _, _, hk2, rfl⟩
 co_applyP o_nil
 change wpE ..
 co_applyP c_seq
 co_applyP c_seq
 co_applyP c_region
 co_applyP oy rfl (E_fa (hf := fo_96_1))
 co_applyP oy rfl (E_ld (ht := ag_3))
 co_applyP oy rfl E_eql
 co_applyP o_nil
 change wpE ..
 co_applyP c_if rfl
 intro hc
 co_applyP c_seq
 co_applyP c_region
 co_applyP oy rfl (E_fa (hf := fo_96_0))
 co_applyP oy rfl (E_ld (ht := ag_3))
 · have h4 : k.2 = 4 := by have : (k.2 : Int) = 4 := by simpa using hc
                           omega
   co_applyP oy rfl (E_build (bld96b _ _))
   co_applyP oeN rfl (fun hnd => O_sa (hs := sz_96) (vs := [.int .i64 (k.1 : Nat), .int .i64 5]) (hnd := hnd) (hm := hA2.self) (hi := Nat.le_refl _))
   rintro _ L3 ⟨rfl, hU⟩
   co_applyP o_nil
   change wpE ..
   co_applyP c_ret
   change ∃ v, resM _ _ _ _ v ∧ _
   refine ⟨_, ⟨_, _, xr, 0, 2, true, _, _, rfl, rfl, ag_96, sz_96, hU.self, Nat.le_refl _, rfl⟩, rfl, by simp [otherE, h4]; rfl, hU.fn, fun t ht => hU.ne _ (hA2.sub _ (hA1.sub _ ht)) (hA2.new _ (hA1.sub _ ht))⟩
 intro hc
 co_applyP c_skip
 change wpE ..
 co_applyP c_seq
 co_applyP c_region
 co_applyP oy rfl (E_fa (hf := fo_96_0))
 co_applyP oy rfl (E_ld (ht := ag_3))
 have h4 : ¬ k.2 = 4 := by have : ¬ (k.2 : Int) = 4 := by simpa using hc
                           omega
 co_applyP oy rfl (E_build (bld96b _ _))
 co_applyP oeN rfl (fun hnd => O_sa (hs := sz_96) (vs := [.int .i64 (k.1 : Nat), .int .i64 4]) (hnd := hnd) (hm := hA2.self) (hi := Nat.le_refl _))
 rintro _ L3 ⟨rfl, hU⟩
 co_applyP o_nil
 change wpE ..
 co_applyP c_ret
 change ∃ v, resM _ _ _ _ v ∧ _
 refine ⟨_, ⟨_, _, xr, 0, 2, true, _, _, rfl, rfl, ag_96, sz_96, hU.self, Nat.le_refl _, rfl⟩, rfl, by simp [otherE, h4]; rfl, hU.fn, fun t ht => hU.ne _ (hA2.sub _ (hA1.sub _ ht)) (hA2.new _ (hA1.sub _ ht))⟩
def St.canBeDone (S : St) (x : PS) (k : Nat × Nat) : Bool := if S.isOpen (otherE k) then (if k.2 = 4 then decide (0 < (S.by_ k.1).length) else decide (((S.by_ k.1).length : Int) + x.r 2 ≤ 8)) else true
theorem kc_by (k : KS) {i : Nat} (hi : i < 5) : (kcells k)[10 + i]? = some (k.by_ i) := by
 rcases i with _ | _ | _ | _ | _ | i
 · rfl
 · rfl
 · rfl
 · rfl
 · rfl
 · omega
theorem canBeDone_s : ∃ n, ∀ {σ : Type} {F : Fam σ} {Δ : ∀ s, Dom (F.R s) (F.D s)} {main : Bool} {s : σ} (K : Nat) (A : Lay) (S : St) (Fr L : Frag) (b : Nat) (x : PS) (k : Nat × Nat), (∀ cs, (Δ s).New (.cells cs 96)) → Rep K A S Fr L → (b, x) ∈ S.ps → WF x → k.1 < 5 → (S.by_ k.1).length ≤ 8 →
   CallsL Δ Tryz.prog main 165 [ptr K, ptr b, keyv k].toArray n s L (fun s' v L' => s = s' ∧ v = .bool (S.canBeDone x k) ∧ Ext L L') := by
 obtain ⟨n0, g0⟩ := other_s
 obtain ⟨n1, g1⟩ := isOpen_s
 apply Exists.intro
 intro σ F Δ main s K A S Fr L b x k hN hR hb hx hk5 h8
 obtain ⟨base, cap, hv, _⟩ : ∃ base cap, slv (A.y k.1) (S.by_ k.1).length = .slice base (S.by_ k.1).length cap ∧ True := by
   obtain ⟨base, cap, h, _⟩ := slv_view (hR.ya k.1 hk5)
   simp only [List.length_map] at h
   exact ⟨base, cap, h, trivial⟩
 have wx := hx.r 2 (by omega)
 co_applyP callsE 38 Tryz.func165 Tryz.ntmps165
 co_applyP c_seq
 co_applyP c_region
 co_applyP oadd rfl (O_box (hN _))
 intro xk L1 hA1
 have hR1 := hR.add hA1
 have h0 : At L1 xk 0 (.int .i64 (k.1 : Nat)) := ⟨true, _, _, _, hA1.self, rfl⟩
 have hky : At L1 K (10 + k.1) (.slice base (S.by_ k.1).length cap) := by rw [← hv]; exact hR1.kat (kc_by _ hk5)
 have hE1 : Ext L L1 := ⟨hA1.fn, hA1.sub⟩
 co_applyP oy rfl E_as
 co_applyP o_nil
 change wpE ..
 co_applyP c_seq
 co_applyP c_drawq mixed
 co_applyP tr (i := 0) rfl E_mv pI
 co_applyP tr (i := 1) rfl (E_fa (hf := fo_96_0)) pI
 co_applyP tr (i := 2) rfl (E_ld (ht := ag_3)) pI
 co_applyP tr (i := 3) rfl E_nc pI
 co_applyP tr (i := 4) rfl (E_fa (hf := fo_115_5)) pI
 co_applyP tr (i := 5) rfl (E_ixa Tryz.underlying113 sz_44) pI
 co_applyP tr (i := 6) rfl (E_ld (ht := ag_44)) pI
 co_applyP tr (i := 7) rfl (E_len (hu := Tryz.underlying44)) pI
 co_applyP tr (i := 8) rfl E_as pI
 co_applyP td (by kernel_rfl)
 change wpE ..
 co_applyP c_block
 co_applyP c_seq
 co_applyP c_region
 co_applyP oy rfl E_mv
 co_applyP oy rfl (E_lda (ht := ag_96) (hs := sz_96) (hm := hA1.self) (hi := Nat.le_refl _))
 co_applyP ocm rfl rfl rfl (g0 L1 k hN)
 rintro _ _ _ ⟨rfl, rfl, hE2⟩
 rename_i L2
 co_applyP oc rfl rfl rfl (g1 K A S Fr L2 (otherE k) hN (hR1.ext hE2))
 rintro _ _ _ ⟨rfl, rfl, hE3⟩
 co_applyP oy rfl E_not
 co_applyP oy rfl E_as
 co_applyP o_nil
 change wpE ..
 rename_i L3
 have hR3 := (hR1.ext hE2).ext hE3
 have h1 : At L3 xk 1 (.int .i64 (k.2 : Nat)) := ⟨true, _, _, _, hE3.s _ (hE2.s _ hA1.self), rfl⟩
 have h2 : At L3 b 9 (.int .u16 (x.r 2)) := hR3.pat hb (pget_r x (i := 2) (by omega))
 have w2 : IntKind.i64.wrap (x.r 2) = x.r 2 := by simp [IntKind.wrap_i64]; omega
 have w3 : IntKind.i64.wrap (((S.by_ k.1).length : Int) + x.r 2) = ((S.by_ k.1).length : Int) + x.r 2 := by simp [IntKind.wrap_i64]; omega
 co_applyP c_if rfl
 intro ho
 co_applyP c_seq
 co_applyP c_region
 co_applyP oy rfl E_as
 co_applyP o_nil
 change wpE ..
 co_applyP c_ret
 change ∃ v, resE .. = some v ∧ _
 · have ho' : S.isOpen (otherE k) = false := by simpa using ho
   exact ⟨_, rfl, rfl, by simp [St.canBeDone, ho'], hE1.trans (hE2.trans hE3)⟩
 intro ho
 co_applyP c_seq
 co_applyP c_region
 co_applyP oy rfl (E_fa (hf := fo_96_1))
 co_applyP oy rfl (E_ld (ht := ag_3))
 co_applyP oy rfl E_eql
 co_applyP oy rfl E_as
 co_applyP o_nil
 change wpE ..
 have ho' : S.isOpen (otherE k) = true := by simpa using ho
 co_applyP c_if rfl
 intro hc
 co_applyP c_seq
 co_applyP c_region
 co_applyP oy rfl E_mv
 co_applyP oy rfl E_gtr
 co_applyP oy rfl E_as
 co_applyP o_nil
 change wpE ..
 co_applyP c_ret
 change ∃ v, resE .. = some v ∧ _
 · have h4 : k.2 = 4 := by have : (k.2 : Int) = 4 := by simpa using hc
                           omega
   exact ⟨_, rfl, rfl, by simp [St.canBeDone, ho', h4], hE1.trans (hE2.trans hE3)⟩
 intro hc
 co_applyP c_seq
 co_applyP c_region
 co_applyP oy rfl E_mv
 co_applyP oy rfl E_mv
 co_applyP oy rfl E_nc
 co_applyP oy rfl (E_fa (hf := fo_99_0))
 co_applyP oy rfl (E_fa (hf := fo_49_7))
 co_applyP oy rfl (E_ixa Tryz.underlying47 sz_32)
 co_applyP oy rfl (E_ld (ht := ag_32))
 co_applyP oy rfl (E_cv (hs := Tryz.underlying32) (ht := Tryz.underlying3))
 co_applyP oy rfl E_add
 co_applyP oy rfl E_leq
 co_applyP oy rfl E_as
 co_applyP o_nil
 change wpE ..
 co_applyP c_ret
 change ∃ v, resE .. = some v ∧ _
 have h4 : ¬ k.2 = 4 := by have : ¬ (k.2 : Int) = 4 := by simpa using hc
                           omega
 exact ⟨_, rfl, rfl, by rw [w2, w3]; simp [St.canBeDone, ho', h4], hE1.trans (hE2.trans hE3)⟩
theorem natBeq (a b : Nat) : ((a : Int) == (b : Int)) = decide (a = b) := by rw [Bool.eq_iff_iff]; simp; omega
theorem isParentOf_s : ∃ n, ∀ {σ : Type} {F : Fam σ} {Δ : ∀ s, Dom (F.R s) (F.D s)} {main : Bool} {s : σ} (L : Frag) (p c : Nat) (x y : PS), pb p x ∈ L → pb c y ∈ L →
   CallsL Δ Tryz.prog main 128 [ptr p, ptr c].toArray n s L (fun s' v L' => s = s' ∧ L = L' ∧ v = .bool (decide (y.par = x.id))) := by
 apply Exists.intro
 intro σ F Δ main s L p c x y hp hc
 have h1 : At L c 1 (.int .i64 y.par) := ⟨true, _, _, _, hc, rfl⟩
 have h2 : At L p 0 (.int .i64 x.id) := ⟨true, _, _, _, hp, rfl⟩
 co_applyP callsE 16 Tryz.func128 Tryz.ntmps128
 co_applyP c_seq
 co_applyP c_region
 co_applyP oy rfl E_as
 co_applyP o_nil
 change wpE ..
 co_applyP c_seq
 co_applyP c_drawq mixed
 co_applyP tr (i := 0) rfl E_mv pI
 co_applyP tr (i := 1) rfl E_nc pI
 co_applyP tr (i := 2) rfl (E_fa (hf := fo_99_0)) pI
 co_applyP tr (i := 3) rfl (E_fa (hf := fo_49_1)) pI
 co_applyP tr (i := 4) rfl (E_ld (ht := ag_3)) pI
 co_applyP tr (i := 5) rfl E_mv pI
 co_applyP tr (i := 6) rfl E_nc pI
 co_applyP tr (i := 7) rfl (E_fa (hf := fo_99_0)) pI
 co_applyP tr (i := 8) rfl (E_fa (hf := fo_49_0)) pI
 co_applyP tr (i := 9) rfl (E_ld (ht := ag_3)) pI
 co_applyP tr (i := 10) rfl E_eql pI
 co_applyP tr (i := 11) rfl E_as pI
 co_applyP td (by kernel_rfl)
 change wpE ..
 co_applyP c_ret
 change ∃ v, resE .. = some v ∧ _
 exact ⟨_, rfl, rfl, rfl, by rw [natBeq]⟩
theorem collectClosure_s : ∃ n, ∀ {σ : Type} {F : Fam σ} {Δ : ∀ s, Dom (F.R s) (F.D s)} {main : Bool} {s : σ} (L : Frag) (p c xb : Nat) (x y : PS), pb p x ∈ L → pb c y ∈ L → At L xb 0 (ptr p) →
   CallsL Δ Tryz.prog main 148 [ptr c, ptr xb].toArray n s L (fun s' v L' => s = s' ∧ v = .bool (decide (y.par = x.id ∧ y.st = 6)) ∧ Ext L L') := by
 obtain ⟨n1, g1⟩ := isParentOf_s
 apply Exists.intro
 intro σ F Δ main s L p c xb x y hp hc hb
 have h1 : At L c 2 (.int .i64 y.st) := ⟨true, _, _, _, hc, rfl⟩
 co_applyP callsE 15 Tryz.func148 Tryz.ntmps148
 co_applyP wpE_fun
 intro hF
 co_applyP c_seq
 co_applyP c_region
 co_applyP oy rfl E_as
 co_applyP o_nil
 change wpE ..
 co_applyP c_seq
 co_applyP c_region
 co_applyP oy rfl (E_ld (ht := ag_93))
 co_applyP oy rfl E_mv
 co_applyP oc rfl rfl rfl (g1 L p c x y hp hc)
 rintro _ _ _ ⟨rfl, rfl, rfl⟩
 co_applyP oy rfl E_mv
 co_applyP o_split (y.par = x.id)
 intro hpar
 · rw [decide_eq_true hpar]
   co_applyP oy rfl (E_mv)
   co_applyP oy rfl (E_nc)
   co_applyP oy rfl ((E_fa (hf := fo_99_0)))
   co_applyP oy rfl ((E_fa (hf := fo_49_2)))
   co_applyP oy rfl ((E_ld (ht := ag_3)))
   co_applyP oy rfl (E_eql)
   co_applyP oy rfl E_pick
   co_applyP oy rfl E_as
   co_applyP o_nil
   change wpE ..
   co_applyP c_ret
   change ∃ v, resE .. = some v ∧ _
   refine ⟨_, rfl, rfl, ?_, hF, fun _ h => h⟩
   have e : ((y.st : Int) == 6) = decide (y.par = x.id ∧ y.st = 6) := by rw [Bool.eq_iff_iff]; simp [hpar]; omega
   rw [← e]; rfl
 intro hpar
 rw [decide_eq_false hpar]
 co_applyP ou rfl
 co_applyP ou rfl
 co_applyP ou rfl
 co_applyP ou rfl
 co_applyP ou rfl
 co_applyP ou rfl
 co_applyP oy rfl E_pick
 co_applyP oy rfl E_as
 co_applyP o_nil
 change wpE ..
 co_applyP c_ret
 change ∃ v, resE .. = some v ∧ _
 refine ⟨_, rfl, rfl, ?_, hF, fun _ h => h⟩
 have e : false = decide (y.par = x.id ∧ y.st = 6) := by simp [hpar]
 rw [← e]; rfl
def St.orphs (S : St) (id : Nat) : List Nat → St
 | [] => S
 | b :: bs => St.orphs (match S.get b with
   | some y => if y.par = id then S.setP b { y with par := 1 } else S
   | none => S) id bs
theorem orphs_append (S : St) (id : Nat) (l m : List Nat) : S.orphs id (l ++ m) = (S.orphs id l).orphs id m := by
 induction l generalizing S with
 | nil => rfl
 | cons b l ih => simp only [List.cons_append, St.orphs]; exact ih _
structure ORel (S S' : St) : Prop where
 f : S'.ps.map (·.1) = S.ps.map (·.1)
 v : ∀ b y, (b, y) ∈ S.ps → ∃ z, (b, z) ∈ S'.ps ∧ { z with par := y.par } = y
 r : S'.rows = S.rows ∧ S'.by_ = S.by_ ∧ S'.wt = S.wt ∧ S'.now = S.now ∧ S'.last = S.last
theorem ORel.refl (S : St) : ORel S S := ⟨rfl, fun b y h => ⟨y, h, rfl⟩, rfl, rfl, rfl, rfl, rfl⟩
theorem ORel.step {S S' : St} (h : ORel S S') (hn : (S'.ps.map (·.1)).Nodup) {b : Nat} {y : PS} (hb : (b, y) ∈ S'.ps) : ORel S (S'.setP b { y with par := 1 }) := by
 refine ⟨by rw [setP_fst]; exact h.f, fun c w hc => ?_, h.r⟩
 obtain ⟨z, hz, he⟩ := h.v c w hc
 by_cases e : c = b
 · subst e
   obtain rfl := nodup_val hn hb hz
   exact ⟨_, mem_setP_self hz, by simpa using he⟩
 · exact ⟨z, by simp only [St.setP, List.mem_map]; exact ⟨(c, z), hz, by simp [e]⟩, he⟩
theorem orphan_s : ∃ n, ∀ {σ : Type} {F : Fam σ} {Δ : ∀ s, Dom (F.R s) (F.D s)} {main : Bool} {s : σ} (K : Nat) (A : Lay) (S : St) (Fr L : Frag) (b : Nat) (x : PS), Rep K A S Fr L → (b, x) ∈ S.ps →
   CallsL Δ Tryz.prog main 109 [ptr K, ptr b].toArray n s L (fun s' v L' => s = s' ∧ v = .tuple #[] ∧ ORel S (S.orphs x.id (S.ps.map (·.1))) ∧ Rep K A (S.orphs x.id (S.ps.map (·.1))) Fr L') := by
 obtain ⟨n1, g1⟩ := isParentOf_s
 apply Exists.intro
 intro σ F Δ main s K A S Fr L b x hR hb
 obtain ⟨base, cap, hv, hat0⟩ := slv_view hR.pa
 simp only [List.length_map] at hv
 have h5 : At L K 5 (.slice base S.ps.length cap) := by rw [← hv]; exact hR.kat rfl
 co_applyP callsE 23 Tryz.func109 Tryz.ntmps109
 co_applyP c_seq
 co_applyP c_region
 co_applyP oy rfl E_mv
 co_applyP oy rfl E_nc
 co_applyP oy rfl (E_fa (hf := fo_115_2))
 co_applyP oy rfl (E_ld (ht := ag_91))
 co_applyP oy rfl (E_len (hu := Tryz.underlying91))
 co_applyP oy rfl E_mv
 co_applyP o_nil
 change wpE ..
 co_applyP c_block
 co_applyP c_loop (fun k s' ε' L' => s' = s ∧ ∃ l1 l2, S.ps = l1 ++ l2 ∧ Rep K A (S.orphs x.id (l1.map (·.1))) Fr L' ∧ ORel S (S.orphs x.id (l1.map (·.1))) ∧ k + l1.length = 8 ∧ kn ε' [(11, .int .i64 l1.length), (10, .int .i64 S.ps.length), (9, .slice base S.ps.length cap), (1, ptr b), (0, ptr K)]) 8
 · exact ⟨rfl, [], S.ps, rfl, hR, ORel.refl S, rfl, rfl⟩
 rintro k s' ε' L' ⟨rfl, l1, l2, hl, hR', hO, hk, he⟩
 co_applyP wpE_kn he
 have hlen := congrArg List.length hl
 simp only [List.length_append] at hlen
 have h8 := hR.p8
 co_applyP c_seq
 co_applyP c_region
 co_applyP oy rfl E_lss
 co_applyP o_nil
 change wpE ..
 co_applyP c_seq
 co_applyP c_if rfl
 intro hlt
 · cases l2 with
   | nil => simp at hlt hlen; omega
   | cons q l2 =>
     have hat : ∃ ab, base = some ⟨ab, 0, none⟩ ∧ At L' ab l1.length (ptr q.1) := by
       obtain ⟨ab, hb1, hb2, _⟩ := hat0 l1.length (ptr q.1) (by rw [hl]; simp)
       obtain ⟨base', cap', _, hat'⟩ := slv_view hR'.pa
       have e1 : (S.orphs x.id (l1.map (·.1))).ps.map (fun q => ptr q.1) = S.ps.map fun q => ptr q.1 := by
         have := congrArg (List.map ptr) hO.f
         rw [List.map_map, List.map_map] at this
         exact this
       obtain ⟨b', hb1', _, hv'⟩ := hat' l1.length (ptr q.1) (by rw [e1, hl]; simp)
       rw [hb1] at hb1'
       obtain rfl : ab = b' := by simpa using hb1'
       exact ⟨ab, hb2, hv'⟩
     obtain ⟨ab, rfl, hav⟩ := hat
     simp at hlen
     obtain ⟨z, hz, hze⟩ := hO.v q.1 q.2 (by rw [hl]; simp)
     obtain ⟨w, hw, hwe⟩ := hO.v b x hb
     have hwid : w.id = x.id := by have := congrArg PS.id hwe; exact this
     have hget := get_of hR'.pn hz
     have elen : IntKind.i64.wrap ((l1.length : Int) + 1) = ((l1 ++ [q]).length : Int) := by simp [IntKind.wrap_i64]; omega
     have hnext : S.orphs x.id ((l1 ++ [q]).map (·.1)) = if z.par = x.id then (S.orphs x.id (l1.map (·.1))).setP q.1 { z with par := 1 } else S.orphs x.id (l1.map (·.1)) := by
       rw [List.map_append, orphs_append]
       show St.orphs (match (S.orphs x.id (l1.map (·.1))).get q.1 with | some y => _ | none => _) x.id [] = _
       rw [hget]; rfl
     co_applyP c_skip
     change wpE ..
     co_applyP c_seq
     co_applyP c_block
     co_applyP c_seq
     co_applyP c_region
     co_applyP oy rfl (E_ixs Tryz.underlying91 sz_93)
     co_applyP oy rfl (E_ld (ht := ag_93))
     co_applyP oy rfl E_as
     co_applyP o_nil
     change wpE ..
     co_applyP c_seq
     co_applyP c_region
     co_applyP oy rfl E_mv
     co_applyP oy rfl E_mv
     co_applyP oc rfl rfl rfl (g1 L' b q.1 w z (hR'.p _ hw) (hR'.p _ hz))
     rintro _ _ _ ⟨rfl, rfl, rfl⟩
     co_applyP o_nil
     change wpE ..
     co_applyP c_if rfl
     intro hc
     co_applyP c_region
     co_applyP oy rfl E_mv
     co_applyP oy rfl E_nc
     co_applyP oy rfl (E_fa (hf := fo_99_0))
     co_applyP oy rfl (E_fa (hf := fo_49_1))
     · have hp : z.par = x.id := by rw [← hwid]; simpa using hc
       co_applyP osm rfl (hs := sz_3) (hm := hR'.p _ hz) (hi := by first | decide | (rw [psize]; omega) | (rw [ksize]; omega))
       intro L2 hU
       have hR2 := hR'.setP hz (x' := { z with par := 1 }) hU
       co_applyP o_nil
       change wpE ..
       co_applyP c_region
       co_applyP oy rfl E_add
       co_applyP oy rfl E_mv
       co_applyP o_nil
       change ∃ k', k' < _ ∧ _
       rw [if_pos hp] at hnext
       exact ⟨k - 1, by omega, rfl, l1 ++ [q], l2, by simp [hl], by rw [hnext]; exact hR2, by rw [hnext]; exact hO.step hR'.pn hz, by simp; omega, by rw [← elen]; rfl⟩
     intro hc
     co_applyP c_skip
     change wpE ..
     co_applyP c_region
     co_applyP oy rfl E_add
     co_applyP oy rfl E_mv
     co_applyP o_nil
     change ∃ k', k' < _ ∧ _
     have hp : ¬ z.par = x.id := by rw [← hwid]; simpa using hc
     rw [if_neg hp] at hnext
     exact ⟨k - 1, by omega, rfl, l1 ++ [q], l2, by simp [hl], by rw [hnext]; exact hR', by rw [hnext]; exact hO, by simp; omega, by rw [← elen]; rfl⟩
 intro hlt
 co_applyP c_exit
 change ∃ v, resE .. = some v ∧ _
 cases l2 with
 | nil =>
   have e : l1 = S.ps := by rw [hl]; simp
   subst e
   exact ⟨_, rfl, rfl, rfl, hO, hR'⟩
 | cons q l2 => simp at hlt hlen; omega
def St.setPs (S : St) (ps : List (Nat × PS)) : St := { S with ps := ps }
section
variable {K : Nat} {A : Lay} {S : St} {F L L' : Frag}
theorem Rep.setPs (h : Rep K A S F L) {a' : Sl} {ps' : List (Nat × PS)} {ls : Nat} (hf : Fun L') (hk : kb K (kst (A.setA 0 a') { S.setPs ps' with last := ls }) ∈ L') (hs : ∀ t ∈ L, t.1 ≠ K → (A.a 0).b ≠ some t.1 → t ∈ L') (ha : slOk a' (ps'.map fun q => ptr q.1) 93 L')
   (hp : ∀ q ∈ ps', pb q.1 q.2 ∈ L') (hpn : (ps'.map (·.1)).Nodup) (hp8 : ps'.length ≤ 8) (hpF : ∀ t ∈ F, ∀ q ∈ ps', t.1 ≠ q.1)
   (hd : ∀ b, a'.b = some b → (A.a 0).b = some b ∨ ((∀ i, (A.a i).b ≠ some b) ∧ ∀ t ∈ F, t.1 ≠ b)) : Rep K (A.setA 0 a') { S.setPs ps' with last := ls } F L' := by
 have hal : ∀ b, (A.a 0).b = some b → (b, true, Obj.cells ((S.ps.map fun q => ptr q.1) ++ (A.a 0).junk).toArray 93) ∈ L := fun b hb => h.pa.mem hb
 have ty : ∀ {b : Nat} {fl : Bool} {o : Obj}, (b, fl, o) ∈ L → (∀ c, o ≠ Obj.cells c 93) → (A.a 0).b ≠ some b := fun hm ho hb => ho _ (h.fn _ _ _ _ _ hm (hal _ hb)).2
 have arr : ∀ (a : Sl) (xs : List Value) (e : TypeId), e ≠ 115 → (∀ b, a.b = some b → (A.a 0).b ≠ some b) → slOk a xs e L → slOk a xs e L' := fun a xs e he hne ha => by
   refine ha.mono fun c hc o ho => hs _ ho ?_ (hne c hc)
   exact h.fn.ne (ha.mem hc) h.k (cells_ne he)
 have hdn : ∀ i, i ≠ 0 → ∀ b, (A.a i).b = some b → (A.a 0).b ≠ some b := fun i hi b hb e => h.d i 0 hi (by rw [hb]; simp) (by rw [hb, e])
 have pA : ∀ i, i ≠ 0 → (A.setA 0 a').a i = A.a i := fun i hi => by simp [Lay.setA, put, hi]
 have p0 : (A.setA 0 a').a 0 = a' := by simp [Lay.setA, put]
 exact { h with
   fn := hf
   k := hk
   g := hs _ h.g (h.fn.ne h.g h.k (cells_ne (by decide))) (ty h.g fun c => cells_ne (by decide))
   p := hp
   pn := hpn
   p8 := hp8
   pa := by rw [p0]; exact ha
   rw := fun l hl => by rw [pA _ (by omega)]; exact arr _ _ _ (by decide) (hdn _ (by omega)) (h.rw l hl)
   ya := fun i hi => arr _ _ _ (by decide) (fun b hb => ty ((h.ya i hi).mem hb) fun c => cells_ne (by decide)) (h.ya i hi)
   w := by
     have : wobj (A.setA 0 a') { S.setPs ps' with last := ls } = wobj A S := by
       rw [wobj_ents, wobj_ents]
       show mapO (entsOf (A.setA 0 a') S.wt A.born) A.clock = _
       rw [entsOf_congr fun e _ => pA _ (by unfold slot; omega)]
     rw [this]
     exact hs _ h.w (h.fn.ne h.w h.k (by simp [wobj])) (ty h.w fun c => by simp [wobj])
   wa := fun e he => by rw [pA _ (by unfold slot; omega)]; exact arr _ _ _ (by decide) (hdn _ (by unfold slot; omega)) (h.wa e he)
   al := fun i c hc => by
     by_cases ei : i = 0
     · subst ei
       rw [p0] at hc
       exact ⟨_, ha.mem hc⟩
     · rw [pA i ei] at hc
       obtain ⟨xs, hx⟩ := h.al i c hc
       exact ⟨xs, hs _ hx (h.fn.ne hx h.k (cells_ne (by decide))) (hdn i ei c hc)⟩
   yl := fun i c hc => by
     obtain ⟨xs, hx⟩ := h.yl i c hc
     exact ⟨xs, hs _ hx (h.fn.ne hx h.k (cells_ne (by decide))) (ty hx fun c => cells_ne (by decide))⟩
   d := fun i j hij hi => by
     by_cases ei : i = 0
     · subst ei
       rw [pA j (Ne.symm hij), p0]
       rw [p0] at hi
       intro e
       cases hb : a'.b with
       | none => exact hi hb
       | some b =>
         rcases hd b hb with h1 | h1
         · exact h.d 0 j hij (by rw [h1]; simp) (by rw [h1, ← e, hb])
         · exact h1.1 j (by rw [← e, hb])
     · rw [pA i ei]
       rw [pA i ei] at hi
       by_cases ej : j = 0
       · subst ej
         rw [p0]
         intro e
         cases hb : a'.b with
         | none => rw [hb] at e; exact hi e
         | some b =>
           rcases hd b hb with h1 | h1
           · exact h.d i 0 ei hi (by rw [h1, e, hb])
           · exact h1.1 i (by rw [e, hb])
       · rw [pA j ej]; exact h.d i j hij hi
   fr := fun t ht => hs _ (h.fr t ht) (h.fd t ht).1 ((h.fd t ht).2.2.1 _)
   fd := fun t ht => by
     refine ⟨(h.fd t ht).1, hpF t ht, fun i => ?_, (h.fd t ht).2.2.2⟩
     by_cases ei : i = 0
     · subst ei
       rw [p0]
       intro e
       rcases hd _ e with h1 | h1
       · exact (h.fd t ht).2.2.1 _ h1
       · exact h1.2 t ht rfl
     · rw [pA i ei]; exact (h.fd t ht).2.2.1 i }
theorem Rep.beside (h : Rep K A S F L) {c : Nat} {y : PS} (hm : pb c y ∈ L) (hp : ∀ q ∈ S.ps, c ≠ q.1) : Rep K A S (pb c y :: F) L :=
 { h with
   fr := fun t ht => by
     rcases List.mem_cons.1 ht with rfl | ht
     · exact hm
     · exact h.fr t ht
   fd := fun t ht => by
     rcases List.mem_cons.1 ht with rfl | ht
     · refine ⟨h.fn.ne hm h.k (cells_ne (by decide)), hp, fun i e => ?_, fun i e => ?_, h.fn.ne hm h.w (by simp [wobj])⟩
       · obtain ⟨xs, hx⟩ := h.al i _ e
         exact cells_ne (by decide) (h.fn _ _ _ _ _ hm hx).2
       · obtain ⟨xs, hx⟩ := h.yl i _ e
         exact cells_ne (by decide) (h.fn _ _ _ _ _ hm hx).2
     · exact h.fd t ht }
theorem kset_procs (k : KS) (v : Value) : (kcells k).setIfInBounds 5 v = kcells { k with procs := v } := rfl
theorem kst_procs (A : Lay) (S : St) (a' : Sl) (ps' : List (Nat × PS)) : kcells (kst (A.setA 0 a') { S.setPs ps' with last := S.last }) = kcells { kst A S with procs := slv a' ps'.length } := by
 unfold kcells kst Lay.setA put St.setPs
 simp
end
end Go.Proofs.YtejkelcaljmnoaaGreatDoor
