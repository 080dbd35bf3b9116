/-
  Part 8 of the proof.
  No condition but those that each statement names.
-/
import Derived.Test.YtejkelcaljmnoaaGreatDoorChecked
import Derived.Test.YtejkelcaljmnoaaGreatDoorHy07
import Derived.Test.YtejkelcaljmnoaaGreatDoorHy06
set_option maxRecDepth 100000
set_option linter.unusedVariables false
set_option linter.unusedSimpArgs false
set_option linter.unusedSectionVars false
namespace Go.Proofs.YtejkelcaljmnoaaGreatDoor
open Go.Conc Go.RowKit Go.Hx Go.ConcX Go.Conc.Lib Go.ConcX.Gen
def GI (p : Par) (told : Value) (n : Nat) (xs : List Value) (w : World) : Prop := Hx.Told p told n xs w ∧ p.N0 ≤ w.heap.size
theorem GI.rely {p : Par} {told : Value} {n : Nat} {xs : List Value} {w w₁ : World} (h : GI p told n xs w) (r : RA p w w₁) : GI p told n xs w₁ := ⟨h.1.rely r, Nat.le_trans h.2 r.kept.size⟩
def Off (told : Value) (nb : Nat) : Prop := ∀ g l cap, told = .slice (some ⟨g, 0, none⟩) l cap → g ≠ nb
theorem Told.off {p : Par} {told : Value} {n : Nat} {xs : List Value} {w : World} (h : Hx.Told p told n xs w) : Off told w.heap.size := by
 intro g l cap e
 rcases h.2 with ⟨e', _⟩ | ⟨g', cap', cur, e', _, h3, _⟩
 · rw [e'] at e; cases e
 · rw [e'] at e
   cases e
   exact Nat.ne_of_lt (Array.getElem?_eq_some_iff.1 h3).1
theorem Told.setOther {p : Par} {told : Value} {n : Nat} {xs : List Value} {w : World} {nb : Nat} (h : Hx.Told p told n xs w) (ho : Off told nb) (i : Nat) (v : Value) : Hx.Told p told n xs (w.setCell ⟨nb, i, none⟩ v) := by
 refine ⟨h.1, h.2.imp id ?_⟩
 rintro ⟨g, cap, cur, h1, h2, h3, h4⟩
 exact ⟨g, cap, cur, h1, h2, by rw [setCell_get w _ v (ho g _ _ h1)]; exact h3, h4⟩
def GB (p : Par) (told : Value) (n : Nat) (xs : List Value) (nb : Nat) (cs : Array Value) (w : World) : Prop := GI p told n xs w ∧ Fb p nb cs w ∧ Off told nb
theorem GB.rely {p : Par} {told : Value} {n : Nat} {xs : List Value} {nb : Nat} {cs : Array Value} {w w₁ : World} (h : GB p told n xs nb cs w) (r : RA p w w₁) : GB p told n xs nb cs w₁ := ⟨h.1.rely r, h.2.1.rely r, h.2.2⟩
theorem GB.set {p : Par} {told : Value} {n : Nat} {xs : List Value} {nb : Nat} {cs : Array Value} {w : World} (h : GB p told n xs nb cs w) (i : Nat) (v : Value) : GB p told n xs nb (cs.setIfInBounds i v) (w.setCell ⟨nb, i, none⟩ v) :=
 ⟨⟨Told.setOther h.1.1 h.2.2 i v, by simpa [World.setCell] using h.1.2⟩, h.2.1.set i v, h.2.2⟩
theorem dg_alloc44 {p : Par} {E Dn : Nat} {w : World} {cs : Array Value} (hty : p.ety = 51) (hN : p.N0 ≤ w.heap.size) (hE : E < p.N0) (hD : Dn < p.N0) {es : Array Event} (hes : ∀ e ∈ es, False) : DG p E Dn w (w.alloc (.cells cs 51)) es := by
 have := dg_alloc (E := E) (Dn := Dn) (cs := cs) hN hE hD hes
 rwa [hty] at this
theorem Fb.new44 {p : Par} {w : World} {cs : Array Value} (hty : p.ety = 51) (hN : p.N0 ≤ w.heap.size) : Fb p w.heap.size cs (w.alloc (.cells cs 51)) := by
 have := Fb.new (cs := cs) hN
 rwa [hty] at this
abbrev zE44 : Value := .agg #[.int .i64 0, .int .i64 0, .int .i64 0, .int .i64 0]
abbrev zD57 : Value := .agg #[]
def gAt (E Dn : Nat) (told t6 t7 t8 t9 t10 t11 t12 t13 t14 t15 t16 t17 t18 : Value) : Act :=
 { tmps := #[.chan (some E), .chan (some Dn), undef, undef, .slice none 0 0, told, t6, t7, t8, t9, t10, t11, t12, t13, t14, t15, t16, t17, t18], defers := [] }
variable {p : Par} {E Dn Wg C Low : Nat} [Shy Wg C] {vals : List Value} {Mine : Loc → Prop} {AnchW : Goroutine → World → Prop} {PostB : World → Prop}
theorem info44 : ∃ i z, Tryz.prog.info? 51 = some i ∧ i.zero = some z ∧ i.size = 4 ∧ i.bytes = 32 ∧ z.cells.size = 4 := by
 have h : (Tryz.prog.info? 51).map (fun i => (i.zero.map (·.cells.size), i.size, i.bytes)) = some (some 4, 4, 32) := by kernel_rfl
 obtain ⟨i, hi, h2⟩ := Option.map_eq_some_iff.1 h
 simp only [Prod.mk.injEq] at h2
 obtain ⟨z, hz, h3⟩ := Option.map_eq_some_iff.1 h2.1
 exact ⟨i, z, hi, hz, h2.2.1, h2.2.2, h3⟩
def cells4 (now kind id x : Int) : List Value := [.int .i64 now, .int .i64 kind, .int .i64 id, .int .i64 x]
abbrev wd (now kind id x : Int) : Value := .agg #[.int .i64 now, .int .i64 kind, .int .i64 id, .int .i64 x]
set_option maxHeartbeats 8000000 in
theorem gather_round (hty : p.ety = 51) (hE : E < p.N0) (hD : Dn < p.N0) : ∃ k, ∀ (c R0 R1 : Code) (hc : Tryz.f34.body = some (.seq R0 (.seq R1 (.block 0 (.loop c))))) (told : Value) (n : Nat) (xs : List Value) (hn : n < 10000) (now kind id x : Int) (vs : List Value) (Qx : Option (List Value) → Exit → Act → World → Prop) (k2 : Nat)
   (H : ∀ told' t6 t7 t8 t9 t10 t11 t12 t13 t14 t15 t16 t17 t18 w', GI p told' (n + 1) (xs ++ cells4 now kind id x) w' → LoopX (gF Tryz.prog 87 Wg C Low vals Mine AnchW p E Dn zE44 zD57 PostB) Tryz.prog true 34 c k2 (some vs) Qx (gAt E Dn told' t6 t7 t8 t9 t10 t11 t12 t13 t14 t15 t16 t17 t18) w')
   (t6 t7 t8 t9 t10 t11 t12 t13 t14 t15 t16 t17 t18 : Value) (w : World), GI p told n xs w →
   wpX (gF Tryz.prog 87 Wg C Low vals Mine AnchW p E Dn zE44 zD57 PostB) Tryz.prog true 34 c k (some (wd now kind id x :: vs)) (ThenX (fun s' a' w' => LoopX (gF Tryz.prog 87 Wg C Low vals Mine AnchW p E Dn zE44 zD57 PostB) Tryz.prog true 34 c k2 s' Qx a' w') Qx) (gAt E Dn told t6 t7 t8 t9 t10 t11 t12 t13 t14 t15 t16 t17 t18) w := by
 co_apply Exists.intro
 intro c R0 R1 hc told n xs hn now kind id x vs Qx k2 H t6 t7 t8 t9 t10 t11 t12 t13 t14 t15 t16 t17 t18 w hF
 simp only [Tryz.f34, Option.some.injEq, Code.seq.injEq, Code.block.injEq, Code.loop.injEq, true_and] at hc
 obtain ⟨_, _, rfl⟩ := hc
 unfold gAt
 have z1 : ∀ w, (zeroValue 51).run Tryz.prog w = .ok zE44 w := fun w => by kernel_rfl
 have z2 : ∀ w, (zeroValue 78).run Tryz.prog w = .ok zD57 w := fun w => by kernel_rfl
 co_apply wpX_block
 co_apply wpX_seq
 co_apply wpX_seq
 co_apply wpX_region
 simp only [List.size_toArray, List.length_cons, List.length_nil, Nat.reduceAdd, Nat.zero_add, List.range, List.range.loop]
 co_apply opsX_cons_k rfl (by rfl)
 intro _ hR K hK
 replace hF := (GI.rely) hF hR
 clear hR
 skip
 go_simp
 try (unfold stored; go_simp)
 refine hK _ _ ⟨?_, ?_⟩
 · co_still (termsG p E Dn)
 clear hK K
 try walk_nrm
 co_apply opsX_nil
 try simp only [ThenX]
 try co_then
 co_apply wpX_region
 simp only [List.size_toArray, List.length_cons, List.length_nil, Nat.reduceAdd, Nat.zero_add, List.range, List.range.loop]
 co_apply opsX_cons_k rfl (by rfl)
 intro _ hR K hK
 replace hF := (GI.rely) hF hR
 clear hR
 skip
 go_simp
 try (unfold stored; go_simp)
 refine hK _ _ ⟨?_, ?_⟩
 · co_still (termsG p E Dn)
 clear hK K
 try walk_nrm
 co_apply opsX_nil
 try simp only [ThenX]
 try co_then
 co_apply wpX_seq
 co_apply wpX_region
 simp only [List.size_toArray, List.length_cons, List.length_nil, Nat.reduceAdd, Nat.zero_add, List.range, List.range.loop]
 co_apply opsX_sel rfl (by rfl)
 · intro w₁ h₁
   refine ⟨?_, ?_⟩
   · simp [execOp, go_sem, z1, z2, selCases, rcase, Act.eval]
   · intro e he
     have hm := mem_listed he
     simp [go_sem, *] at hm
 intro w₂ h₂
 replace hF := GI.rely hF h₂
 clear h₂
 rw [show commResult (selCases E Dn zE44 zD57) .select 0 (wd now kind id x) true = .tuple #[.int .i64 0, .bool true, wd now kind id x, zD57] from by simp [commResult, selCases, rcase, goInt]]
 walk_nrm
 co_apply opsX_cons_k rfl (by rfl)
 intro _ hR K hK
 replace hF := (GI.rely) hF hR
 clear hR
 skip
 go_simp
 try (unfold stored; go_simp)
 refine hK _ _ ⟨?_, ?_⟩
 · co_still (termsG p E Dn)
 clear hK K
 try walk_nrm
 co_apply opsX_cons_k rfl (by rfl)
 intro _ hR K hK
 replace hF := (GI.rely) hF hR
 clear hR
 skip
 go_simp
 try (unfold stored; go_simp)
 refine hK _ _ ⟨?_, ?_⟩
 · co_still (termsG p E Dn)
 clear hK K
 try walk_nrm
 co_apply opsX_cons_k rfl (by rfl)
 intro _ hR K hK
 replace hF := (GI.rely) hF hR
 clear hR
 skip
 go_simp
 try (unfold stored; go_simp)
 refine hK _ _ ⟨?_, ?_⟩
 · co_still (termsG p E Dn)
 clear hK K
 try walk_nrm
 co_apply opsX_nil
 try simp only [ThenX]
 try co_then
 co_apply wpX_block
 co_apply wpX_cond (t := true)
 focus (exact rfl)
 simp only [if_true, if_false, Bool.false_eq_true, reduceIte]
 co_apply wpX_seq
 co_apply wpX_region
 simp only [List.size_toArray, List.length_cons, List.length_nil, Nat.reduceAdd, Nat.zero_add, List.range, List.range.loop]
 co_apply opsX_cons_k rfl (by rfl)
 intro _ hR K hK
 replace hF := (GI.rely) hF hR
 clear hR
 skip
 go_simp
 try (unfold stored; go_simp)
 refine hK _ _ ⟨?_, ?_⟩
 · co_still (termsG p E Dn)
 clear hK K
 try walk_nrm
 co_apply opsX_cons_k rfl (by rfl)
 intro _ hR K hK
 replace hF := (GI.rely) hF hR
 clear hR
 have hN := hF.2
 go_simp
 try (unfold stored; go_simp)
 refine hK _ _ ⟨?_, ?_⟩
 · (refine dg_alloc44 hty hN hE hD ?_; intro e he; have hm := mem_listed he; simp [go_sem, *] at hm)
 clear hK K
 try walk_nrm
 replace hF : GB p told n xs _ #[.int .i64 0, .int .i64 0, .int .i64 0, .int .i64 0] _ := ⟨⟨hF.1.alloc _, by rw [alloc_size]; exact Nat.le_succ_of_le hN⟩, Fb.new44 hty hN, Told.off hF.1⟩
 clear hN
 co_apply opsX_cons_k rfl (by rfl)
 intro _ hR K hK
 replace hF := (GB.rely) hF hR
 clear hR
 have hc0 := hF.2.1.cell (i := 0) rfl; have hc1 := hF.2.1.cell (i := 1) rfl; have hc2 := hF.2.1.cell (i := 2) rfl; have hc3 := hF.2.1.cell (i := 3) rfl; have hz0 := hF.2.1.thaw 0; have hz1 := hF.2.1.thaw 1; have hz2 := hF.2.1.thaw 2; have hz3 := hF.2.1.thaw 3
 go_simp
 try (unfold stored; go_simp)
 refine hK _ _ ⟨?_, ?_⟩
 · (refine dg_set4 hF.2.1 hE hD _ _ _ _ ?_; intro e he; have hm := mem_listed he; simp [go_sem, *] at hm; (rcases hm with rfl | rfl | rfl | rfl <;> exact ⟨_, _, _, rfl, rfl⟩))
 clear hK K
 try walk_nrm
 replace hF := (((hF.set 0 (.int .i64 now)).set 1 (.int .i64 kind)).set 2 (.int .i64 id)).set 3 (.int .i64 x)
 simp only [List.setIfInBounds_toArray, List.set_cons_zero, List.set_cons_succ] at hF
 clear hc0 hc1 hc2 hc3 hz0 hz1 hz2 hz3
 co_apply opsX_nil
 try simp only [ThenX]
 try co_then
 co_apply wpX_region
 simp only [List.size_toArray, List.length_cons, List.length_nil, Nat.reduceAdd, Nat.zero_add, List.range, List.range.loop]
 co_apply opsX_cons_k rfl (by rfl)
 intro _ hR K hK
 replace hF := (GB.rely) hF hR
 clear hR
 skip
 go_simp
 try (unfold stored; go_simp)
 refine hK _ _ ⟨?_, ?_⟩
 · co_still (termsG p E Dn)
 clear hK K
 try walk_nrm
 co_apply opsX_cons_k rfl (by rfl)
 intro _ hR K hK
 replace hF := (GB.rely) hF hR
 clear hR
 have hc0 := hF.2.1.cell (i := 0) rfl; have hc1 := hF.2.1.cell (i := 1) rfl; have hc2 := hF.2.1.cell (i := 2) rfl; have hc3 := hF.2.1.cell (i := 3) rfl
 go_simp
 try (unfold stored; go_simp)
 refine hK _ _ ⟨?_, ?_⟩
 · (refine dg_read ?_; intro e he; have hm := mem_listed he; simp [go_sem, *] at hm; (rcases hm with rfl | rfl | rfl | rfl <;> exact evA_cell hF.2.1 rfl _ _))
 clear hK K
 try walk_nrm
 clear hc0 hc1 hc2 hc3
 co_apply opsX_cons_k rfl (by rfl)
 intro _ hR K hK
 replace hF := (GB.rely) hF hR
 clear hR
 have hN := hF.1.2
 go_simp
 try (unfold stored; go_simp)
 refine hK _ _ ⟨?_, ?_⟩
 · (refine dg_alloc44 hty hN hE hD ?_; intro e he; have hm := mem_listed he; simp [go_sem, *] at hm)
 clear hK K
 try walk_nrm
 replace hF : GB p told n xs _ #[.int .i64 now, .int .i64 kind, .int .i64 id, .int .i64 x] _ := ⟨⟨hF.1.1.alloc _, by rw [alloc_size]; exact Nat.le_succ_of_le hN⟩, Fb.new44 hty hN, Told.off hF.1.1⟩
 clear hN
 obtain ⟨ti, tz, i1, i2, i3, i4, i5⟩ := info44
 co_apply opsX_cons_k rfl (by rfl)
 intro _ hR K hK
 replace hF := GB.rely hF hR
 clear hR
 obtain ⟨told', w', hr, hT', hN', hDG⟩ := Told.app (P := Tryz.prog) (t := 38) (ty := 38) (E := E) (Dn := Dn) (by rw [hty]; exact Tryz.underlying38) (by rw [hty]; exact i1) i2 i3 i4 i5 hE hD hF.1.2 hF.1.1 hn hF.2.1 (by intro u hu; simp at hu; rcases hu with rfl | rfl | rfl | rfl <;> rfl)
 refine uponK_append (.tmp 14) (.tmp 16) 38 rfl rfl rfl hr ?_
 refine hK _ _ ⟨hDG _ ?_, ?_⟩
 · intro e he
   have hm := mem_listed he
   rw [events_append_op (.tmp 14) (.tmp 16) 38 rfl rfl rfl] at hm
   exact hm
 clear hK K hDG hF hr
 have hF : GI p told' (n + 1) (xs ++ cells4 now kind id x) w' := ⟨hT', hN'⟩
 clear hT' hN'
 try walk_nrm
 co_apply opsX_cons_k rfl (by rfl)
 intro _ hR K hK
 replace hF := (GI.rely) hF hR
 clear hR
 skip
 go_simp
 try (unfold stored; go_simp)
 refine hK _ _ ⟨?_, ?_⟩
 · co_still (termsG p E Dn)
 clear hK K
 try walk_nrm
 co_apply opsX_nil
 try simp only [ThenX]
 try co_then
 exact H _ _ _ _ _ _ _ _ _ _ _ _ _ _ _ hF
def EI (Wg C : Nat) [Shy Wg C] (vals : List Value) (PostB : World → Prop) (p : Par) (told : Value) (n : Nat) (xs : List Value) (w : World) : Prop := PostB w ∧ KPa 87 Wg C vals w ∧ Hx.Told p told n xs w
theorem Told.aside {p : Par} {told : Value} {n : Nat} {xs : List Value} {w w₁ : World} (h : Hx.Told p told n xs w) (hCN : C < p.N0) (hWN : Wg < p.N0) (ha : Aside2 C Wg w w₁) : Hx.Told p told n xs w₁ := by
 refine ⟨h.1, h.2.imp id ?_⟩
 rintro ⟨g, cap, cur, h1, h2, h3, h4⟩
 exact ⟨g, cap, cur, h1, h2, (ha.block g (by omega) (by omega)).trans h3, h4⟩
theorem EI.rely (hCN : C < p.N0) (hWN : Wg < p.N0) (hPc : ∀ w w₁, Aside2 C Wg w w₁ → PostB w → PostB w₁) {told : Value} {n : Nat} {xs : List Value} {w w₁ : World} (h : EI Wg C vals PostB p told n xs w) (r : RPa 87 Wg C vals w w₁) : EI Wg C vals PostB p told n xs w₁ :=
 ⟨hPc _ _ r.aside h.1, r.ka h.2.1, Told.aside h.2.2 hCN hWN r.aside⟩
set_option maxHeartbeats 8000000 in
theorem gather_end (hCN : C < p.N0) (hWN : Wg < p.N0) (hPc : ∀ w w₁, Aside2 C Wg w w₁ → PostB w → PostB w₁) : ∃ k, ∀ (c R0 R1 : Code) (hc : Tryz.f34.body = some (.seq R0 (.seq R1 (.block 0 (.loop c))))) (told : Value) (n : Nat) (xs : List Value) (Qx : Option (List Value) → Exit → Act → World → Prop)
   (H : ∀ t6 t7 t8 t9 t10 t11 t12 t13 t14 t15 t16 t17 t18 w', EI Wg C vals PostB p told n xs w' → Qx none .ret { tmps := #[.chan (some E), .chan (some Dn), undef, undef, told, told, t6, t7, t8, t9, t10, t11, t12, t13, t14, t15, t16, t17, t18], defers := [] } w')
   (t6 t7 t8 t9 t10 t11 t12 t13 t14 t15 t16 t17 t18 : Value) (w : World), GI p told n xs w →
   wpX (gF Tryz.prog 87 Wg C Low vals Mine AnchW p E Dn zE44 zD57 PostB) Tryz.prog true 34 c k (some []) (ThenX (fun s' a' w' => LoopX (gF Tryz.prog 87 Wg C Low vals Mine AnchW p E Dn zE44 zD57 PostB) Tryz.prog true 34 c 0 s' Qx a' w') Qx) (gAt E Dn told t6 t7 t8 t9 t10 t11 t12 t13 t14 t15 t16 t17 t18) w := by
 co_apply Exists.intro
 intro c R0 R1 hc told n xs Qx H t6 t7 t8 t9 t10 t11 t12 t13 t14 t15 t16 t17 t18 w hF
 simp only [Tryz.f34, Option.some.injEq, Code.seq.injEq, Code.block.injEq, Code.loop.injEq, true_and] at hc
 obtain ⟨_, _, rfl⟩ := hc
 unfold gAt
 have z1 : ∀ w, (zeroValue 51).run Tryz.prog w = .ok zE44 w := fun w => by kernel_rfl
 have z2 : ∀ w, (zeroValue 78).run Tryz.prog w = .ok zD57 w := fun w => by kernel_rfl
 co_apply wpX_block
 co_apply wpX_seq
 co_apply wpX_seq
 co_apply wpX_region
 simp only [List.size_toArray, List.length_cons, List.length_nil, Nat.reduceAdd, Nat.zero_add, List.range, List.range.loop]
 co_apply opsX_cons_k rfl (by rfl)
 intro _ hR K hK
 replace hF := (GI.rely) hF hR
 clear hR
 skip
 go_simp
 try (unfold stored; go_simp)
 refine hK _ _ ⟨?_, ?_⟩
 · co_still (termsG p E Dn)
 clear hK K
 try walk_nrm
 co_apply opsX_nil
 try simp only [ThenX]
 try co_then
 co_apply wpX_region
 simp only [List.size_toArray, List.length_cons, List.length_nil, Nat.reduceAdd, Nat.zero_add, List.range, List.range.loop]
 co_apply opsX_cons_k rfl (by rfl)
 intro _ hR K hK
 replace hF := (GI.rely) hF hR
 clear hR
 skip
 go_simp
 try (unfold stored; go_simp)
 refine hK _ _ ⟨?_, ?_⟩
 · co_still (termsG p E Dn)
 clear hK K
 try walk_nrm
 co_apply opsX_nil
 try simp only [ThenX]
 try co_then
 co_apply wpX_seq
 co_apply wpX_region
 simp only [List.size_toArray, List.length_cons, List.length_nil, Nat.reduceAdd, Nat.zero_add, List.range, List.range.loop]
 co_apply opsX_sel0 rfl (by rfl)
 · intro w₁ h₁
   refine ⟨?_, ?_⟩
   · simp [execOp, go_sem, z1, z2, selCases, rcase, Act.eval]
   · intro e he
     have hm := mem_listed he
     simp [go_sem, *] at hm
 intro w₂ h₂ hpo hka
 replace hF : EI Wg C vals PostB p told n xs w₂ := ⟨hpo, hka, (GI.rely hF h₂).1⟩
 clear h₂ hpo hka
 rw [show commResult (selCases E Dn zE44 zD57) .select 1 zD57 false = .tuple #[.int .i64 1, .bool false, zE44, zD57] from by simp [commResult, selCases, rcase, goInt]]
 walk_nrm
 co_apply opsX_cons_k rfl (by rfl)
 intro _ hR K hK
 replace hF := (EI.rely hCN hWN hPc) hF hR
 clear hR
 skip
 go_simp
 try (unfold stored; go_simp)
 refine hK _ _ ⟨?_, ?_⟩
 · co_still (termsP 87 Wg C Low vals Mine)
 clear hK K
 try walk_nrm
 co_apply opsX_cons_k rfl (by rfl)
 intro _ hR K hK
 replace hF := (EI.rely hCN hWN hPc) hF hR
 clear hR
 skip
 go_simp
 try (unfold stored; go_simp)
 refine hK _ _ ⟨?_, ?_⟩
 · co_still (termsP 87 Wg C Low vals Mine)
 clear hK K
 try walk_nrm
 co_apply opsX_cons_k rfl (by rfl)
 intro _ hR K hK
 replace hF := (EI.rely hCN hWN hPc) hF hR
 clear hR
 skip
 go_simp
 try (unfold stored; go_simp)
 refine hK _ _ ⟨?_, ?_⟩
 · co_still (termsP 87 Wg C Low vals Mine)
 clear hK K
 try walk_nrm
 co_apply opsX_nil
 try simp only [ThenX]
 try co_then
 co_apply wpX_block
 co_apply wpX_cond (t := false)
 focus (exact rfl)
 simp only [if_true, if_false, Bool.false_eq_true, reduceIte]
 co_apply wpX_cond (t := true)
 focus (exact rfl)
 simp only [if_true, if_false, Bool.false_eq_true, reduceIte]
 co_apply wpX_seq
 co_apply wpX_region
 simp only [List.size_toArray, List.length_cons, List.length_nil, Nat.reduceAdd, Nat.zero_add, List.range, List.range.loop]
 co_apply opsX_cons_k rfl (by rfl)
 intro _ hR K hK
 replace hF := (EI.rely hCN hWN hPc) hF hR
 clear hR
 skip
 go_simp
 try (unfold stored; go_simp)
 refine hK _ _ ⟨?_, ?_⟩
 · co_still (termsP 87 Wg C Low vals Mine)
 clear hK K
 try walk_nrm
 co_apply opsX_cons_k rfl (by rfl)
 intro _ hR K hK
 replace hF := (EI.rely hCN hWN hPc) hF hR
 clear hR
 skip
 go_simp
 try (unfold stored; go_simp)
 refine hK _ _ ⟨?_, ?_⟩
 · co_still (termsP 87 Wg C Low vals Mine)
 clear hK K
 try walk_nrm
 co_apply opsX_nil
 try simp only [ThenX]
 try co_then
 co_apply wpX_of
 co_apply wpC_ret (termsP 87 Wg C Low vals Mine)
 exact H _ _ _ _ _ _ _ _ _ _ _ _ _ _ hF
abbrev Wd := Int × Int × Int × Int
abbrev Wd.v (x : Wd) : Value := wd x.1 x.2.1 x.2.2.1 x.2.2.2
abbrev Wd.c (x : Wd) : List Value := cells4 x.1 x.2.1 x.2.2.1 x.2.2.2
theorem gather_loop (hty : p.ety = 51) (hE : E < p.N0) (hD : Dn < p.N0) (hCN : C < p.N0) (hWN : Wg < p.N0) (hPc : ∀ w w₁, Aside2 C Wg w w₁ → PostB w → PostB w₁) (ws : List Wd) : ∃ k, ∀ (c R0 R1 : Code) (hc : Tryz.f34.body = some (.seq R0 (.seq R1 (.block 0 (.loop c))))) (told : Value) (n : Nat) (xs : List Value) (hn : n + ws.length < 10000) (Qx : Option (List Value) → Exit → Act → World → Prop)
   (H : ∀ told' t6 t7 t8 t9 t10 t11 t12 t13 t14 t15 t16 t17 t18 w', EI Wg C vals PostB p told' (n + ws.length) (xs ++ ws.flatMap Wd.c) w' → Qx none .ret { tmps := #[.chan (some E), .chan (some Dn), undef, undef, told', told', t6, t7, t8, t9, t10, t11, t12, t13, t14, t15, t16, t17, t18], defers := [] } w')
   (t6 t7 t8 t9 t10 t11 t12 t13 t14 t15 t16 t17 t18 : Value) (w : World), GI p told n xs w →
   LoopX (gF Tryz.prog 87 Wg C Low vals Mine AnchW p E Dn zE44 zD57 PostB) Tryz.prog true 34 c k (some (ws.map Wd.v)) Qx (gAt E Dn told t6 t7 t8 t9 t10 t11 t12 t13 t14 t15 t16 t17 t18) w := by
 induction ws with
 | nil =>
   obtain ⟨k, g⟩ := gather_end (Low := Low) (Mine := Mine) (AnchW := AnchW) (vals := vals) (E := E) (Dn := Dn) hCN hWN hPc
   refine ⟨k + 0 + 1, fun c R0 R1 hc told n xs hn Qx H t6 t7 t8 t9 t10 t11 t12 t13 t14 t15 t16 t17 t18 w hF => ?_⟩
   refine loopX1 (g c R0 R1 hc told n xs Qx (fun u6 u7 u8 u9 u10 u11 u12 u13 u14 u15 u16 u17 u18 w' hw => ?_) t6 t7 t8 t9 t10 t11 t12 t13 t14 t15 t16 t17 t18 w hF)
   exact H told _ _ _ _ _ _ _ _ _ _ _ _ _ w' (by simpa using hw)
 | cons x ws ih =>
   obtain ⟨k2, g2⟩ := ih
   obtain ⟨k, g⟩ := gather_round (Wg := Wg) (C := C) (Low := Low) (Mine := Mine) (AnchW := AnchW) (vals := vals) (PostB := PostB) hty hE hD
   refine ⟨k + k2 + 1, fun c R0 R1 hc told n xs hn Qx H t6 t7 t8 t9 t10 t11 t12 t13 t14 t15 t16 t17 t18 w hF => ?_⟩
   rw [List.length_cons] at hn
   refine loopX1 (g c R0 R1 hc told n xs (by omega) _ _ _ _ (ws.map Wd.v) Qx k2 (fun told' u6 u7 u8 u9 u10 u11 u12 u13 u14 u15 u16 u17 u18 w' hw => ?_) t6 t7 t8 t9 t10 t11 t12 t13 t14 t15 t16 t17 t18 w hF)
   refine g2 c R0 R1 hc told' (n + 1) _ (by omega) Qx (fun told'' v6 v7 v8 v9 v10 v11 v12 v13 v14 v15 v16 v17 v18 w'' hw' => H told'' _ _ _ _ _ _ _ _ _ _ _ _ _ w'' ?_) _ _ _ _ _ _ _ _ _ _ _ _ _ w' hw
   rw [List.length_cons, List.flatMap_cons, ← List.append_assoc, show n + (ws.length + 1) = n + 1 + ws.length from by omega]
   exact hw'
set_option maxHeartbeats 8000000 in
theorem gather_x (hty : p.ety = 51) (hE : E < p.N0) (hD : Dn < p.N0) (hCN : C < p.N0) (hWN : Wg < p.N0) (hPc : ∀ w w₁, Aside2 C Wg w w₁ → PostB w → PostB w₁) (ws : List Wd) (hn : ws.length < 10000) : ∃ k, ∀ (w : World), p.N0 ≤ w.heap.size →
   CallsX (gF Tryz.prog 87 Wg C Low vals Mine AnchW p E Dn zE44 zD57 PostB) Tryz.prog true 34 #[.chan (some E), .chan (some Dn)] k (some (ws.map Wd.v)) w fun s' v w' => s' = none ∧ EI Wg C vals PostB p v ws.length (ws.flatMap Wd.c) w' := by
 have key : ∃ k k2, ∀ (c R0 R1 : Code) (hc : Tryz.f34.body = some (.seq R0 (.seq R1 (.block 0 (.loop c))))) (Qx : Option (List Value) → Exit → Act → World → Prop)
     (H : ∀ told' t6 t7 t8 t9 t10 t11 t12 t13 t14 t15 t16 t17 t18 w', EI Wg C vals PostB p told' ws.length (ws.flatMap Wd.c) w' → Qx none .ret { tmps := #[.chan (some E), .chan (some Dn), undef, undef, told', told', t6, t7, t8, t9, t10, t11, t12, t13, t14, t15, t16, t17, t18], defers := [] } w')
     (t6 t7 t8 t9 t10 t11 t12 t13 t14 t15 t16 t17 t18 : Value) (w : World), GI p (.slice none 0 0) 0 [] w →
     wpX (gF Tryz.prog 87 Wg C Low vals Mine AnchW p E Dn zE44 zD57 PostB) Tryz.prog true 34 c k (some (ws.map Wd.v)) (ThenX (fun s' a' w' => LoopX (gF Tryz.prog 87 Wg C Low vals Mine AnchW p E Dn zE44 zD57 PostB) Tryz.prog true 34 c k2 s' Qx a' w') Qx) (gAt E Dn (.slice none 0 0) t6 t7 t8 t9 t10 t11 t12 t13 t14 t15 t16 t17 t18) w := by
   cases ws with
   | nil =>
     obtain ⟨k, g⟩ := gather_end (Low := Low) (Mine := Mine) (AnchW := AnchW) (vals := vals) (E := E) (Dn := Dn) hCN hWN hPc
     exact ⟨k, 0, fun c R0 R1 hc Qx H t6 t7 t8 t9 t10 t11 t12 t13 t14 t15 t16 t17 t18 w hF => g c R0 R1 hc _ _ _ Qx (fun u6 u7 u8 u9 u10 u11 u12 u13 u14 u15 u16 u17 u18 w' hw => H _ _ _ _ _ _ _ _ _ _ _ _ _ _ w' (by simpa using hw)) t6 t7 t8 t9 t10 t11 t12 t13 t14 t15 t16 t17 t18 w hF⟩
   | cons x ws =>
     rw [List.length_cons] at hn
     obtain ⟨k2, g2⟩ := gather_loop (Low := Low) (Mine := Mine) (AnchW := AnchW) (vals := vals) hty hE hD hCN hWN hPc ws
     obtain ⟨k, g⟩ := gather_round (Wg := Wg) (C := C) (Low := Low) (Mine := Mine) (AnchW := AnchW) (vals := vals) (PostB := PostB) hty hE hD
     refine ⟨k, k2, fun c R0 R1 hc Qx H t6 t7 t8 t9 t10 t11 t12 t13 t14 t15 t16 t17 t18 w hF => ?_⟩
     refine g c R0 R1 hc _ 0 _ (by omega) _ _ _ _ (ws.map Wd.v) Qx k2 (fun told' u6 u7 u8 u9 u10 u11 u12 u13 u14 u15 u16 u17 u18 w' hw => ?_) t6 t7 t8 t9 t10 t11 t12 t13 t14 t15 t16 t17 t18 w hF
     refine g2 c R0 R1 hc told' (0 + 1) _ (by omega) Qx (fun told'' v6 v7 v8 v9 v10 v11 v12 v13 v14 v15 v16 v17 v18 w'' hw' => H told'' _ _ _ _ _ _ _ _ _ _ _ _ _ w'' ?_) _ _ _ _ _ _ _ _ _ _ _ _ _ w' hw
     rw [List.length_cons, List.flatMap_cons, show ws.length + 1 = 0 + 1 + ws.length from by omega]
     simpa using hw'
 obtain ⟨k, k2, g⟩ := key
 co_apply Exists.intro
 intro w hN
 have hF : GI p (.slice none 0 0) 0 [] w := ⟨⟨rfl, .inl ⟨rfl, rfl⟩⟩, hN⟩
 co_apply callsX_of_wpX Tryz.func34 (by rfl) rfl
 simp only [Tryz.ntmps34, List.size_toArray, List.length_cons, List.length_nil, Nat.reduceAdd, Nat.reduceSub, Array.replicate_succ, Array.replicate_zero, List.push_toArray, List.append_toArray, List.nil_append, List.cons_append]
 co_apply wpX_seq
 co_apply wpX_region
 simp only [List.size_toArray, List.length_cons, List.length_nil, Nat.reduceAdd, Nat.zero_add, List.range, List.range.loop]
 co_apply opsX_cons_k rfl (by rfl)
 intro _ hR K hK
 replace hF := (GI.rely) hF hR
 clear hR
 skip
 go_simp
 try (unfold stored; go_simp)
 refine hK _ _ ⟨?_, ?_⟩
 · co_still (termsG p E Dn)
 clear hK K
 try walk_nrm
 co_apply opsX_nil
 try simp only [ThenX]
 try co_then
 co_apply wpX_seq
 co_apply wpX_region
 simp only [List.size_toArray, List.length_cons, List.length_nil, Nat.reduceAdd, Nat.zero_add, List.range, List.range.loop]
 co_apply opsX_cons_k rfl (by rfl)
 intro _ hR K hK
 replace hF := (GI.rely) hF hR
 clear hR
 skip
 go_simp
 try (unfold stored; go_simp)
 refine hK _ _ ⟨?_, ?_⟩
 · co_still (termsG p E Dn)
 clear hK K
 try walk_nrm
 co_apply opsX_nil
 try simp only [ThenX]
 try co_then
 co_apply wpX_block
 co_apply wpX_loop1
 exact g _ _ _ rfl _ (fun told' u6 u7 u8 u9 u10 u11 u12 u13 u14 u15 u16 u17 u18 w' hw => ⟨rfl, _, resultsC_tmp (t := 4) (by rfl) _, rfl, hw⟩) _ _ _ _ _ _ _ _ _ _ _ _ _ _ hF
end Go.Proofs.YtejkelcaljmnoaaGreatDoor
namespace Go.Hx
open Go.Conc Go.ConcX
def pR (N : Nat) : Par := ⟨44, N + 7, fun l => ∃ a : Addr, l = .cell a ∧ (a.block = N + 3 ∨ a.block = N + 5)⟩
def ShR (Sh : Loc → Prop) (N : Nat) : Loc → Prop := fun l => Sh l ∨ InWg (N + 6) l
def OkW (Wg C : Nat) (act : MemAct) : Prop := (∀ x, act.touch? = some x → ∃ a : Addr, x.loc = .cell a ∧ ((a.block = Wg ∧ x.kind ≠ .plain) ∨ (a.block = C ∧ x.kind = .plain))) ∧ ∀ a, act ≠ .mark (.release a)
@[reducible] def shyW (Wg C : Nat) (stop : Goroutine → World → Prop) : Shy Wg C where
 ok := OkW Wg C
 atomicWg := fun a wr h => ⟨fun x hx => by simp only [MemAct.touch?, Option.some.injEq] at hx; subst hx; exact ⟨a, rfl, .inl ⟨h, by simp⟩⟩, by simp⟩
 readWg := fun a h => ⟨fun x hx => by simp only [MemAct.touch?, Option.some.injEq] at hx; subst hx; exact ⟨a, rfl, .inl ⟨h, by simp⟩⟩, by simp⟩
 writeWg := fun a h => ⟨fun x hx => by simp only [MemAct.touch?, Option.some.injEq] at hx; subst hx; exact ⟨a, rfl, .inl ⟨h, by simp⟩⟩, by simp⟩
 theirs := fun a wr h => ⟨fun x hx => by simp only [MemAct.touch?, Option.some.injEq] at hx; subst hx; exact ⟨a, rfl, .inr ⟨h, by simp⟩⟩, by simp⟩
 disable := ⟨fun x hx => by simp [MemAct.touch?] at hx, by simp⟩
 enable := ⟨fun x hx => by simp [MemAct.touch?] at hx, by simp⟩
 relMerge := ⟨fun x hx => by simp [MemAct.touch?] at hx, by simp⟩
 acquire := ⟨fun x hx => by simp [MemAct.touch?] at hx, by simp⟩
 go1 := ⟨fun x hx => by simp [MemAct.touch?] at hx, by simp⟩
 start := ⟨fun x hx => by simp [MemAct.touch?] at hx, by simp⟩
 stop := stop
section
variable {N : Nat} {Sh : Loc → Prop} {stop : Goroutine → World → Prop}
def Elder (Sh : Loc → Prop) (N : Nat) : Prop := ∀ l, Sh l → ∃ b, blk l = some b ∧ b < N
theorem Elder.not (h : Elder Sh N) {b : Nat} (hb : N ≤ b) (i : Nat) : ¬ Sh (.cell ⟨b, i, none⟩) := fun s => by
 obtain ⟨x, h1, h2⟩ := h _ s
 simp [blk] at h1
 omega
theorem Elder.next (h : Elder Sh N) : Elder (ShR Sh N) (N + 7) := fun l hl => by
 rcases hl with s | ⟨a, rfl, ha⟩
 · obtain ⟨b, h1, h2⟩ := h l s; exact ⟨b, h1, by omega⟩
 · exact ⟨_, rfl, by omega⟩
theorem mark_of_loc {e : Event} {m : Mark} (h : e.loc = .mark m) : MemAct.ofEvent e = .mark m := by
 obtain ⟨l, wr, sy⟩ := e
 simp only at h
 subst h
 rfl
theorem okw_evP (h : Elder Sh N) {e : Event} (hk : OkW (N + 6) (N + 1) (MemAct.ofEvent e)) (h1 : e.loc ≠ .mark .disable) (h2 : e.loc ≠ .mark .enable) : EvP Sh e :=
 ⟨fun x hx hs => by
   obtain ⟨a, ha, hb⟩ := hk.1 x hx
   rw [ha] at hs
   obtain ⟨y, h3, h4⟩ := h _ hs
   simp only [blk, Option.some.injEq] at h3
   rcases hb with ⟨z, _⟩ | ⟨z, _⟩ <;> omega, h1, h2⟩
theorem okw_evP' (h : Elder Sh N) {e : Event} (hk : OkW (N + 6) (N + 1) (MemAct.ofEvent e)) (h1 : e.loc ≠ .mark .disable) (h2 : e.loc ≠ .mark .enable) : EvP (ShR Sh N) e :=
 ⟨fun x hx hs => by
   obtain ⟨a, ha, hb⟩ := hk.1 x hx
   rcases hb with ⟨_, z⟩ | ⟨z, _⟩
   · exact z
   · rw [ha] at hs
     rcases hs with s | ⟨a', e', ha'⟩
     · obtain ⟨y, h3, h4⟩ := h _ s
       simp only [blk, Option.some.injEq] at h3
       omega
     · cases e'; omega, h1, h2⟩
theorem thJ_of {a : Addr} (ha : a.block = N + 1) : ThJ (N + 6) (N + 1) (.cell a) := ⟨a, rfl, ha, by omega⟩
theorem shJ_of {a : Addr} (ha : a.block = N + 6) : ShJ (N + 6) (N + 1) (.cell a) := .inl ⟨a, rfl, ha⟩
theorem okR0 (Mine : Loc → Prop) (stop : Goroutine → World → Prop) : letI := shyW (N + 6) (N + 1) stop; ∀ e, EvQ Mine (N + 6) (N + 1) 0 e → Ev0 (ShR Sh N) e := by
 intro e he
 obtain ⟨_, h2, _, hk⟩ := he.1 0 ""
 refine ⟨fun x hx => ?_, fun a ha => hk.2 a (mark_of_loc ha)⟩
 obtain ⟨a, ha, hb⟩ := hk.1 x hx
 rcases hb with ⟨z, z'⟩ | ⟨z, _⟩
 · exact ⟨.inr ⟨a, ha, z⟩, z'⟩
 · have := ((h2 x hx).2.2 (by rw [ha]; exact thJ_of z)).1
   omega
theorem okRJ (h : Elder Sh N) (Mine : Loc → Prop) (stop : Goroutine → World → Prop) : letI := shyW (N + 6) (N + 1) stop; ∀ e, EvJ Mine (N + 6) (N + 1) e → EvP (ShR Sh N) e := by
 intro e he
 obtain ⟨_, _, _, hk⟩ := he.1 0 ""
 exact okw_evP' h hk he.2.1 he.2.2
theorem okRS (h : Elder Sh N) (stop : Goroutine → World → Prop) : letI := shyW (N + 6) (N + 1) stop; ∀ w w' es, DE (EvS (N + 6) (N + 1)) w w' es → ∀ e ∈ es, EvP Sh e := by
 intro w w' es he e hm
 obtain ⟨_, _, _, h1, h2, hk⟩ := he e hm
 exact okw_evP h hk (fun z => h1 (mark_of_loc z)) (fun z => h2 (mark_of_loc z))
end
open Go.ConcN (sumTo upd sumTo_upd upd_ne upd_same)
def Shs : List Nat → Loc → Prop
 | [] => fun _ => False
 | N :: s => ShR (Shs s) N
def D0 (Sh : Loc → Prop) : World → World → Array Event → Prop := fun _ _ es => ∀ e ∈ es, EvP Sh e
theorem terms0 (Sh : Loc → Prop) : Terms AtRel (D0 Sh) := ⟨atRel_trans, fun _ => by simp [D0]⟩
def Mine0 : Loc → Prop := fun _ => False
theorem goes_turn {P : Program} {main : Bool} {R : World → World → Prop} {D D' : World → World → Array Event → Prop} {Stop Stop' : Goroutine → World → Prop} (hD : ∀ w w' es, D w w' es → D' w w' es) (hS : ∀ g w, Stop g w → Stop' g w) :
   ∀ (n : Nat) (g : Goroutine) (w : World), Goes P main R D Stop n g w → Goes P main R D' Stop' n g w
 | 0, _, _, h => fun w₁ hr => hS _ _ (h w₁ hr)
 | n + 1, g, w, h => by
   rcases h with h | ⟨hr, h⟩
   · exact .inl fun w₁ h₁ => hS _ _ (h w₁ h₁)
   · refine .inr ⟨hr, fun w₁ h₁ => ?_⟩
     have := h w₁ h₁
     revert this
     cases stepG P main g w₁ with
     | go g' w' es => exact fun ⟨x, y⟩ => ⟨hD _ _ _ x, goes_turn hD hS n g' w' y⟩
     | _ => exact id
section
variable [Payload] (P : Program)
def RunAt (N : Nat) (s : List Nat) (Next : Goroutine → World → Prop) (g : Goroutine) (w : World) : Prop :=
 letI := shyW (N + 6) (N + 1) Next
 Elder (Shs s) N ∧ ∃ (vals : List Value) (AnchW : Goroutine → World → Prop) (Post : Value → World → Prop) (PostB : World → Prop) (zE zD : Value),
   (∀ w w₁, RB (pR N) (N + 2) (N + 4) w w₁ → PostB w → PostB w₁) ∧ (∀ w w₁, Aside2 (N + 1) (N + 6) w w₁ → PostB w → PostB w₁) ∧ (∀ w, PostB w → N + 7 ≤ w.heap.size) ∧
   (∀ g w, AnchW g w → g.status = .running) ∧ (∀ g w, AnchW g w → ∃ m, Goes P true (RPa 66 (N + 6) (N + 1) vals) (DPi Mine0 (N + 6) (N + 1) (N + 7)) (AtW1 P 66 (N + 6) (N + 1) (N + 7) vals Mine0 AnchW Post) m g w) ∧
   AtMkS P .disable (fun a w => ∃ n, Goes P true AtRel (DE (EvS (N + 6) (N + 1))) (AtMkS P .enable fun a w => ∃ n, Goes P true AtRel (DE (EvS (N + 6) (N + 1))) (AtFork P (Shs s) (Both P 66 (N + 6) (N + 1) (N + 7) vals Mine0 AnchW (pR N) (ShR (Shs s) N) (N + 2) (N + 4) zE zD PostB)) n a w) n a w) g w
def StopQ (Post : Value → World → Prop) : Nat → List Nat → Goroutine → World → Prop
 | 0, s => AtEnd0 P (Shs s) Post
 | n + 1, s => fun g w => ∃ N, RunAt P N s (fun g' w' => ∃ m, Goes P true AtRel (D0 (Shs (N :: s))) (StopQ Post n (N :: s)) m g' w') g w
def F0 (Post : Value → World → Prop) : Fam (Nat × List Nat) := ⟨fun _ => AtRel, fun s => D0 (Shs s.2), fun s => StopQ P Post s.1 s.2, fun s => terms0 _⟩
end
section
variable [Payload] {P : Program}
omit [Payload] in
theorem mark_step {Sh : Loc → Prop} {d₀ : Nat} {m : Mark} (hm : m = .disable ∨ m = .enable) {gs' : Array Goroutine} {a' g' : Goroutine} {w' : World} {sl' sl'' : Option (Nat × Nat)} {t' : Trace} {q' : Nat → Nat} {d : Nat}
   (h0' : gs'[0]? = some a') (hL' : Leavers P t' gs' q') (hP' : Past0 Sh t' d₀) (hgo : stepG P true a' (w'.at d) = .go g' (w'.at d) #[mk m]) (hst : stepT P (crowd gs' w' sl') = runT P (crowd gs' (w'.at d) sl'') 0) :
   ∃ (gs'' : Array Goroutine) (t'' : Trace), runNT P 1 (crowd gs' w' sl') t' = (.next (crowd gs'' (w'.at d) sl''), t'') ∧ gs''.size = gs'.size ∧ gs''[0]? = some g' ∧ Leavers P t'' gs'' q' ∧ Past0 Sh t'' (deafBehind d₀ #[mk m]) := by
 have hpos : 0 < gs'.size := (Array.getElem?_eq_some_iff.1 h0').1
 have hrunT := runT_crowd_go (P := P) (sl := sl'') (i := 0) h0' (show stepG P (0 == 0) a' (w'.at d) = _ from hgo)
 refine ⟨(gs'.map (Go.Conc.woken P a' g' (w'.at d))).setIfInBounds 0 g', _, ?_, by simp, by simp [hpos], ⟨fun j x hj hx => ?_, fun j hj => ?_⟩, hP'.word a'.frame.fn a'.frame.place hm⟩
 · simp only [runNT, hst, hrunT]
 · rw [Array.getElem?_setIfInBounds_ne (by omega), Array.getElem?_map] at hx
   obtain ⟨y, hy, rfl⟩ := Option.map_eq_some_iff.1 hx
   have hq := hL'.old j y hj hy
   rw [woken_quitsD hq, Deaf_other t' (g' := 0) (by omega) _ g_ofEvents]
   exact hq
 · have hj' : gs'.size ≤ j := by simpa using hj
   rw [Deaf_other t' (g' := 0) (by omega) _ g_ofEvents]
   exact hL'.above j hj'
end
end Go.Hx
