/-
  The gatherer takes one word after another, till the close.
  No condition but those that each statement names.
-/
import Derived.Test.YtbnaccilnilcmaaDoorChecked
import Derived.Test.YtbnaccilnilcmaaDoorHx11
set_option linter.unusedVariables false
set_option linter.unusedSimpArgs false
set_option linter.unusedSectionVars false
namespace Go.Proofs.YtbnaccilnilcmaaDoor
open Go.Conc Go.RowKit Go.Hx Go.ConcX Go.Conc.Lib Go.ConcX.Gen

/-- What the gatherer knows. -/
def GI (p : Par) (told : Value) (n : Nat) (xs : List Value) (w : World) : Prop := Hx.Told p told n xs w ∧ p.N0 ≤ w.heap.size
theorem GI.rely {p : Par} {told : Value} {n : Nat} {xs : List Value} {w w₁ : World} (h : GI p told n xs w) (r : RA p w w₁) : GI p told n xs w₁ := ⟨h.1.rely r, Nat.le_trans h.2 r.kept.size⟩

/-- The row lies elsewhere. -/
def Off (told : Value) (nb : Nat) : Prop := ∀ g l cap, told = .slice (some ⟨g, 0, none⟩) l cap → g ≠ nb
theorem Told.off {p : Par} {told : Value} {n : Nat} {xs : List Value} {w : World} (h : Hx.Told p told n xs w) : Off told w.heap.size := by
  intro g l cap e
  rcases h.2 with ⟨e', _⟩ | ⟨g', cap', cur, e', _, h3, _⟩
  · rw [e'] at e; cases e
  · rw [e'] at e
    cases e
    exact Nat.ne_of_lt (Array.getElem?_eq_some_iff.1 h3).1
theorem Told.setOther {p : Par} {told : Value} {n : Nat} {xs : List Value} {w : World} {nb : Nat} (h : Hx.Told p told n xs w) (ho : Off told nb) (i : Nat) (v : Value) : Hx.Told p told n xs (w.setCell ⟨nb, i, none⟩ v) := by
  refine ⟨h.1, h.2.imp id ?_⟩
  rintro ⟨g, cap, cur, h1, h2, h3, h4⟩
  exact ⟨g, cap, cur, h1, h2, by rw [setCell_get w _ v (ho g _ _ h1)]; exact h3, h4⟩

/-- .. and a block of words of its own. -/
def GB (p : Par) (told : Value) (n : Nat) (xs : List Value) (nb : Nat) (cs : Array Value) (w : World) : Prop := GI p told n xs w ∧ Fb p nb cs w ∧ Off told nb
theorem GB.rely {p : Par} {told : Value} {n : Nat} {xs : List Value} {nb : Nat} {cs : Array Value} {w w₁ : World} (h : GB p told n xs nb cs w) (r : RA p w w₁) : GB p told n xs nb cs w₁ := ⟨h.1.rely r, h.2.1.rely r, h.2.2⟩
theorem GB.set {p : Par} {told : Value} {n : Nat} {xs : List Value} {nb : Nat} {cs : Array Value} {w : World} (h : GB p told n xs nb cs w) (i : Nat) (v : Value) : GB p told n xs nb (cs.setIfInBounds i v) (w.setCell ⟨nb, i, none⟩ v) :=
  ⟨⟨Told.setOther h.1.1 h.2.2 i v, by simpa [World.setCell] using h.1.2⟩, h.2.1.set i v, h.2.2⟩
theorem GB.alloc {p : Par} {told : Value} {n : Nat} {xs : List Value} {nb : Nat} {cs : Array Value} {w : World} (h : GB p told n xs nb cs w) (o : Obj) : GB p told n xs nb cs (w.alloc o) :=
  ⟨⟨h.1.1.alloc o, by rw [alloc_size]; exact Nat.le_succ_of_le h.1.2⟩, h.2.1.alloc o, h.2.2⟩

theorem dg_alloc44 {p : Par} {E Dn : Nat} {w : World} {cs : Array Value} (hty : p.ety = 44) (hN : p.N0 ≤ w.heap.size) (hE : E < p.N0) (hD : Dn < p.N0) {es : Array Event} (hes : ∀ e ∈ es, False) : DG p E Dn w (w.alloc (.cells cs 44)) es := by
  have := dg_alloc (E := E) (Dn := Dn) (cs := cs) hN hE hD hes
  rwa [hty] at this
theorem Fb.new44 {p : Par} {w : World} {cs : Array Value} (hty : p.ety = 44) (hN : p.N0 ≤ w.heap.size) : Fb p w.heap.size cs (w.alloc (.cells cs 44)) := by
  have := Fb.new (cs := cs) hN
  rwa [hty] at this

abbrev zE44 : Value := .agg #[.int .i64 0, .int .i64 0, .int .i64 0, .int .i64 0]
abbrev zD57 : Value := .agg #[]
def gAt (E Dn : Nat) (told t6 t7 t8 t9 t10 t11 t12 t13 t14 t15 t16 t17 t18 : Value) : Act :=
  { tmps := #[.chan (some E), .chan (some Dn), undef, undef, .slice none 0 0, told, t6, t7, t8, t9, t10, t11, t12, t13, t14, t15, t16, t17, t18], defers := [] }

variable {p : Par} {E Dn Wg C Low : Nat} [Shy Wg C] {vals : List Value} {Mine : Loc → Prop} {AnchW : Goroutine → World → Prop} {PostB : World → Prop}

theorem info44 : ∃ i z, Tryd.prog.info? 44 = some i ∧ i.zero = some z ∧ i.size = 4 ∧ i.bytes = 32 ∧ z.cells.size = 4 := by
  have h : (Tryd.prog.info? 44).map (fun i => (i.zero.map (·.cells.size), i.size, i.bytes)) = some (some 4, 4, 32) := by kernel_rfl
  obtain ⟨i, hi, h2⟩ := Option.map_eq_some_iff.1 h
  simp only [Prod.mk.injEq] at h2
  obtain ⟨z, hz, h3⟩ := Option.map_eq_some_iff.1 h2.1
  exact ⟨i, z, hi, hz, h2.2.1, h2.2.2, h3⟩

/-- Four cells a word. -/
def cells4 (now kind id x : Int) : List Value := [.int .i64 now, .int .i64 kind, .int .i64 id, .int .i64 x]
abbrev wd (now kind id x : Int) : Value := .agg #[.int .i64 now, .int .i64 kind, .int .i64 id, .int .i64 x]

set_option maxRecDepth 100000 in
set_option maxHeartbeats 8000000 in
theorem gather_round (hty : p.ety = 44) (hE : E < p.N0) (hD : Dn < p.N0) : ∃ k, ∀ (c R0 R1 : Code) (hc : Tryd.f20.body = some (.seq R0 (.seq R1 (.block 0 (.loop c))))) (told : Value) (n : Nat) (xs : List Value) (hn : n < 10000) (now kind id x : Int) (vs : List Value) (Qx : Option (List Value) → Exit → Act → World → Prop) (k2 : Nat)
    (H : ∀ told' t6 t7 t8 t9 t10 t11 t12 t13 t14 t15 t16 t17 t18 w', GI p told' (n + 1) (xs ++ cells4 now kind id x) w' → LoopX (gF Tryd.prog 66 Wg C Low vals Mine AnchW p E Dn zE44 zD57 PostB) Tryd.prog true 20 c k2 (some vs) Qx (gAt E Dn told' t6 t7 t8 t9 t10 t11 t12 t13 t14 t15 t16 t17 t18) w')
    (t6 t7 t8 t9 t10 t11 t12 t13 t14 t15 t16 t17 t18 : Value) (w : World), GI p told n xs w →
    wpX (gF Tryd.prog 66 Wg C Low vals Mine AnchW p E Dn zE44 zD57 PostB) Tryd.prog true 20 c k (some (wd now kind id x :: vs)) (ThenX (fun s' a' w' => LoopX (gF Tryd.prog 66 Wg C Low vals Mine AnchW p E Dn zE44 zD57 PostB) Tryd.prog true 20 c k2 s' Qx a' w') Qx) (gAt E Dn told t6 t7 t8 t9 t10 t11 t12 t13 t14 t15 t16 t17 t18) w := by
  co_apply Exists.intro
  intro c R0 R1 hc told n xs hn now kind id x vs Qx k2 H t6 t7 t8 t9 t10 t11 t12 t13 t14 t15 t16 t17 t18 w hF
  simp only [Tryd.f20, Option.some.injEq, Code.seq.injEq, Code.block.injEq, Code.loop.injEq, true_and] at hc
  obtain ⟨_, _, rfl⟩ := hc
  unfold gAt
  have z1 : ∀ w, (zeroValue 44).run Tryd.prog w = .ok zE44 w := fun w => by kernel_rfl
  have z2 : ∀ w, (zeroValue 57).run Tryd.prog w = .ok zD57 w := fun w => by kernel_rfl
  co_apply wpX_block
  co_apply wpX_seq
  co_apply wpX_seq
  co_apply wpX_region
  simp only [List.size_toArray, List.length_cons, List.length_nil, Nat.reduceAdd, Nat.zero_add, List.range, List.range.loop]
  co_apply opsX_cons_k rfl (by rfl)
  intro _ hR K hK
  replace hF := (GI.rely) hF hR
  clear hR
  skip
  go_simp
  try (unfold stored; go_simp)
  refine hK _ _ ⟨?_, ?_⟩
  · co_still (termsG p E Dn)
  clear hK K
  try walk_nrm
  co_apply opsX_nil
  try simp only [ThenX]
  try co_then
  co_apply wpX_region
  simp only [List.size_toArray, List.length_cons, List.length_nil, Nat.reduceAdd, Nat.zero_add, List.range, List.range.loop]
  co_apply opsX_cons_k rfl (by rfl)
  intro _ hR K hK
  replace hF := (GI.rely) hF hR
  clear hR
  skip
  go_simp
  try (unfold stored; go_simp)
  refine hK _ _ ⟨?_, ?_⟩
  · co_still (termsG p E Dn)
  clear hK K
  try walk_nrm
  co_apply opsX_nil
  try simp only [ThenX]
  try co_then
  co_apply wpX_seq
  co_apply wpX_region
  simp only [List.size_toArray, List.length_cons, List.length_nil, Nat.reduceAdd, Nat.zero_add, List.range, List.range.loop]
  co_apply opsX_sel rfl (by rfl)
  · intro w₁ h₁
    refine ⟨?_, ?_⟩
    · simp [execOp, go_sem, z1, z2, selCases, rcase, Act.eval]
    · intro e he
      have hm := mem_listed he
      simp [go_sem, *] at hm
  intro w₂ h₂
  replace hF := GI.rely hF h₂
  clear h₂
  rw [show commResult (selCases E Dn zE44 zD57) .select 0 (wd now kind id x) true = .tuple #[.int .i64 0, .bool true, wd now kind id x, zD57] from by simp [commResult, selCases, rcase, goInt]]
  walk_nrm
  co_apply opsX_cons_k rfl (by rfl)
  intro _ hR K hK
  replace hF := (GI.rely) hF hR
  clear hR
  skip
  go_simp
  try (unfold stored; go_simp)
  refine hK _ _ ⟨?_, ?_⟩
  · co_still (termsG p E Dn)
  clear hK K
  try walk_nrm
  co_apply opsX_cons_k rfl (by rfl)
  intro _ hR K hK
  replace hF := (GI.rely) hF hR
  clear hR
  skip
  go_simp
  try (unfold stored; go_simp)
  refine hK _ _ ⟨?_, ?_⟩
  · co_still (termsG p E Dn)
  clear hK K
  try walk_nrm
  co_apply opsX_cons_k rfl (by rfl)
  intro _ hR K hK
  replace hF := (GI.rely) hF hR
  clear hR
  skip
  go_simp
  try (unfold stored; go_simp)
  refine hK _ _ ⟨?_, ?_⟩
  · co_still (termsG p E Dn)
  clear hK K
  try walk_nrm
  co_apply opsX_nil
  try simp only [ThenX]
  try co_then
  co_apply wpX_block
  co_apply wpX_cond (t := true)
  focus (exact rfl)
  simp only [if_true, if_false, Bool.false_eq_true, reduceIte]
  co_apply wpX_seq
  co_apply wpX_region
  simp only [List.size_toArray, List.length_cons, List.length_nil, Nat.reduceAdd, Nat.zero_add, List.range, List.range.loop]
  co_apply opsX_cons_k rfl (by rfl)
  intro _ hR K hK
  replace hF := (GI.rely) hF hR
  clear hR
  skip
  go_simp
  try (unfold stored; go_simp)
  refine hK _ _ ⟨?_, ?_⟩
  · co_still (termsG p E Dn)
  clear hK K
  try walk_nrm
  co_apply opsX_cons_k rfl (by rfl)
  intro _ hR K hK
  replace hF := (GI.rely) hF hR
  clear hR
  have hN := hF.2
  go_simp
  try (unfold stored; go_simp)
  refine hK _ _ ⟨?_, ?_⟩
  · (refine dg_alloc44 hty hN hE hD ?_; intro e he; have hm := mem_listed he; simp [go_sem, *] at hm)
  clear hK K
  try walk_nrm
  replace hF : GB p told n xs _ #[.int .i64 0, .int .i64 0, .int .i64 0, .int .i64 0] _ := ⟨⟨hF.1.alloc _, by rw [alloc_size]; exact Nat.le_succ_of_le hN⟩, Fb.new44 hty hN, Told.off hF.1⟩
  clear hN
  co_apply opsX_cons_k rfl (by rfl)
  intro _ hR K hK
  replace hF := (GB.rely) hF hR
  clear hR
  have hc0 := hF.2.1.cell (i := 0) rfl; have hc1 := hF.2.1.cell (i := 1) rfl; have hc2 := hF.2.1.cell (i := 2) rfl; have hc3 := hF.2.1.cell (i := 3) rfl; have hz0 := hF.2.1.thaw 0; have hz1 := hF.2.1.thaw 1; have hz2 := hF.2.1.thaw 2; have hz3 := hF.2.1.thaw 3
  go_simp
  try (unfold stored; go_simp)
  refine hK _ _ ⟨?_, ?_⟩
  · (refine dg_set4 hF.2.1 hE hD _ _ _ _ ?_; intro e he; have hm := mem_listed he; simp [go_sem, *] at hm; (rcases hm with rfl | rfl | rfl | rfl <;> exact ⟨_, _, _, rfl, rfl⟩))
  clear hK K
  try walk_nrm
  replace hF := (((hF.set 0 (.int .i64 now)).set 1 (.int .i64 kind)).set 2 (.int .i64 id)).set 3 (.int .i64 x)
  simp only [List.setIfInBounds_toArray, List.set_cons_zero, List.set_cons_succ] at hF
  clear hc0 hc1 hc2 hc3 hz0 hz1 hz2 hz3
  co_apply opsX_nil
  try simp only [ThenX]
  try co_then
  co_apply wpX_region
  simp only [List.size_toArray, List.length_cons, List.length_nil, Nat.reduceAdd, Nat.zero_add, List.range, List.range.loop]
  co_apply opsX_cons_k rfl (by rfl)
  intro _ hR K hK
  replace hF := (GB.rely) hF hR
  clear hR
  skip
  go_simp
  try (unfold stored; go_simp)
  refine hK _ _ ⟨?_, ?_⟩
  · co_still (termsG p E Dn)
  clear hK K
  try walk_nrm
  co_apply opsX_cons_k rfl (by rfl)
  intro _ hR K hK
  replace hF := (GB.rely) hF hR
  clear hR
  have hc0 := hF.2.1.cell (i := 0) rfl; have hc1 := hF.2.1.cell (i := 1) rfl; have hc2 := hF.2.1.cell (i := 2) rfl; have hc3 := hF.2.1.cell (i := 3) rfl
  go_simp
  try (unfold stored; go_simp)
  refine hK _ _ ⟨?_, ?_⟩
  · (refine dg_read ?_; intro e he; have hm := mem_listed he; simp [go_sem, *] at hm; (rcases hm with rfl | rfl | rfl | rfl <;> exact evA_cell hF.2.1 rfl _ _))
  clear hK K
  try walk_nrm
  clear hc0 hc1 hc2 hc3
  co_apply opsX_cons_k rfl (by rfl)
  intro _ hR K hK
  replace hF := (GB.rely) hF hR
  clear hR
  have hN := hF.1.2
  go_simp
  try (unfold stored; go_simp)
  refine hK _ _ ⟨?_, ?_⟩
  · (refine dg_alloc44 hty hN hE hD ?_; intro e he; have hm := mem_listed he; simp [go_sem, *] at hm)
  clear hK K
  try walk_nrm
  replace hF : GB p told n xs _ #[.int .i64 now, .int .i64 kind, .int .i64 id, .int .i64 x] _ := ⟨⟨hF.1.1.alloc _, by rw [alloc_size]; exact Nat.le_succ_of_le hN⟩, Fb.new44 hty hN, Told.off hF.1.1⟩
  clear hN
  obtain ⟨ti, tz, i1, i2, i3, i4, i5⟩ := info44
  co_apply opsX_cons_k rfl (by rfl)
  intro _ hR K hK
  replace hF := GB.rely hF hR
  clear hR
  obtain ⟨told', w', hr, hT', hN', hDG⟩ := Told.app (P := Tryd.prog) (t := 31) (ty := 31) (E := E) (Dn := Dn) (by rw [hty]; exact Tryd.underlying31) (by rw [hty]; exact i1) i2 i3 i4 i5 hE hD hF.1.2 hF.1.1 hn hF.2.1 (by intro u hu; simp at hu; rcases hu with rfl | rfl | rfl | rfl <;> rfl)
  refine uponK_append (.tmp 14) (.tmp 16) 31 rfl rfl rfl hr ?_
  refine hK _ _ ⟨hDG _ ?_, ?_⟩
  · intro e he
    have hm := mem_listed he
    rw [events_append_op (.tmp 14) (.tmp 16) 31 rfl rfl rfl] at hm
    exact hm
  clear hK K hDG hF hr
  have hF : GI p told' (n + 1) (xs ++ cells4 now kind id x) w' := ⟨hT', hN'⟩
  clear hT' hN'
  try walk_nrm
  co_apply opsX_cons_k rfl (by rfl)
  intro _ hR K hK
  replace hF := (GI.rely) hF hR
  clear hR
  skip
  go_simp
  try (unfold stored; go_simp)
  refine hK _ _ ⟨?_, ?_⟩
  · co_still (termsG p E Dn)
  clear hK K
  try walk_nrm
  co_apply opsX_nil
  try simp only [ThenX]
  try co_then
  exact H _ _ _ _ _ _ _ _ _ _ _ _ _ _ _ hF

/-- What is known behind the close. -/
def EI (Wg C : Nat) [Shy Wg C] (vals : List Value) (PostB : World → Prop) (p : Par) (told : Value) (n : Nat) (xs : List Value) (w : World) : Prop := PostB w ∧ KPa 66 Wg C vals w ∧ Hx.Told p told n xs w
theorem Told.aside {p : Par} {told : Value} {n : Nat} {xs : List Value} {w w₁ : World} (h : Hx.Told p told n xs w) (hCN : C < p.N0) (hWN : Wg < p.N0) (ha : Aside2 C Wg w w₁) : Hx.Told p told n xs w₁ := by
  refine ⟨h.1, h.2.imp id ?_⟩
  rintro ⟨g, cap, cur, h1, h2, h3, h4⟩
  exact ⟨g, cap, cur, h1, h2, (ha.block g (by omega) (by omega)).trans h3, h4⟩
theorem EI.rely (hCN : C < p.N0) (hWN : Wg < p.N0) (hPc : ∀ w w₁, Aside2 C Wg w w₁ → PostB w → PostB w₁) {told : Value} {n : Nat} {xs : List Value} {w w₁ : World} (h : EI Wg C vals PostB p told n xs w) (r : RPa 66 Wg C vals w w₁) : EI Wg C vals PostB p told n xs w₁ :=
  ⟨hPc _ _ r.aside h.1, r.ka h.2.1, Told.aside h.2.2 hCN hWN r.aside⟩

set_option maxRecDepth 100000 in
set_option maxHeartbeats 8000000 in
theorem gather_end (hCN : C < p.N0) (hWN : Wg < p.N0) (hPc : ∀ w w₁, Aside2 C Wg w w₁ → PostB w → PostB w₁) : ∃ k, ∀ (c R0 R1 : Code) (hc : Tryd.f20.body = some (.seq R0 (.seq R1 (.block 0 (.loop c))))) (told : Value) (n : Nat) (xs : List Value) (Qx : Option (List Value) → Exit → Act → World → Prop)
    (H : ∀ t6 t7 t8 t9 t10 t11 t12 t13 t14 t15 t16 t17 t18 w', EI Wg C vals PostB p told n xs w' → Qx none .ret { tmps := #[.chan (some E), .chan (some Dn), undef, undef, told, told, t6, t7, t8, t9, t10, t11, t12, t13, t14, t15, t16, t17, t18], defers := [] } w')
    (t6 t7 t8 t9 t10 t11 t12 t13 t14 t15 t16 t17 t18 : Value) (w : World), GI p told n xs w →
    wpX (gF Tryd.prog 66 Wg C Low vals Mine AnchW p E Dn zE44 zD57 PostB) Tryd.prog true 20 c k (some []) (ThenX (fun s' a' w' => LoopX (gF Tryd.prog 66 Wg C Low vals Mine AnchW p E Dn zE44 zD57 PostB) Tryd.prog true 20 c 0 s' Qx a' w') Qx) (gAt E Dn told t6 t7 t8 t9 t10 t11 t12 t13 t14 t15 t16 t17 t18) w := by
  co_apply Exists.intro
  intro c R0 R1 hc told n xs Qx H t6 t7 t8 t9 t10 t11 t12 t13 t14 t15 t16 t17 t18 w hF
  simp only [Tryd.f20, Option.some.injEq, Code.seq.injEq, Code.block.injEq, Code.loop.injEq, true_and] at hc
  obtain ⟨_, _, rfl⟩ := hc
  unfold gAt
  have z1 : ∀ w, (zeroValue 44).run Tryd.prog w = .ok zE44 w := fun w => by kernel_rfl
  have z2 : ∀ w, (zeroValue 57).run Tryd.prog w = .ok zD57 w := fun w => by kernel_rfl
  co_apply wpX_block
  co_apply wpX_seq
  co_apply wpX_seq
  co_apply wpX_region
  simp only [List.size_toArray, List.length_cons, List.length_nil, Nat.reduceAdd, Nat.zero_add, List.range, List.range.loop]
  co_apply opsX_cons_k rfl (by rfl)
  intro _ hR K hK
  replace hF := (GI.rely) hF hR
  clear hR
  skip
  go_simp
  try (unfold stored; go_simp)
  refine hK _ _ ⟨?_, ?_⟩
  · co_still (termsG p E Dn)
  clear hK K
  try walk_nrm
  co_apply opsX_nil
  try simp only [ThenX]
  try co_then
  co_apply wpX_region
  simp only [List.size_toArray, List.length_cons, List.length_nil, Nat.reduceAdd, Nat.zero_add, List.range, List.range.loop]
  co_apply opsX_cons_k rfl (by rfl)
  intro _ hR K hK
  replace hF := (GI.rely) hF hR
  clear hR
  skip
  go_simp
  try (unfold stored; go_simp)
  refine hK _ _ ⟨?_, ?_⟩
  · co_still (termsG p E Dn)
  clear hK K
  try walk_nrm
  co_apply opsX_nil
  try simp only [ThenX]
  try co_then
  co_apply wpX_seq
  co_apply wpX_region
  simp only [List.size_toArray, List.length_cons, List.length_nil, Nat.reduceAdd, Nat.zero_add, List.range, List.range.loop]
  co_apply opsX_sel0 rfl (by rfl)
  · intro w₁ h₁
    refine ⟨?_, ?_⟩
    · simp [execOp, go_sem, z1, z2, selCases, rcase, Act.eval]
    · intro e he
      have hm := mem_listed he
      simp [go_sem, *] at hm
  intro w₂ h₂ hpo hka
  replace hF : EI Wg C vals PostB p told n xs w₂ := ⟨hpo, hka, (GI.rely hF h₂).1⟩
  clear h₂ hpo hka
  rw [show commResult (selCases E Dn zE44 zD57) .select 1 zD57 false = .tuple #[.int .i64 1, .bool false, zE44, zD57] from by simp [commResult, selCases, rcase, goInt]]
  walk_nrm
  co_apply opsX_cons_k rfl (by rfl)
  intro _ hR K hK
  replace hF := (EI.rely hCN hWN hPc) hF hR
  clear hR
  skip
  go_simp
  try (unfold stored; go_simp)
  refine hK _ _ ⟨?_, ?_⟩
  · co_still (termsP 66 Wg C Low vals Mine)
  clear hK K
  try walk_nrm
  co_apply opsX_cons_k rfl (by rfl)
  intro _ hR K hK
  replace hF := (EI.rely hCN hWN hPc) hF hR
  clear hR
  skip
  go_simp
  try (unfold stored; go_simp)
  refine hK _ _ ⟨?_, ?_⟩
  · co_still (termsP 66 Wg C Low vals Mine)
  clear hK K
  try walk_nrm
  co_apply opsX_cons_k rfl (by rfl)
  intro _ hR K hK
  replace hF := (EI.rely hCN hWN hPc) hF hR
  clear hR
  skip
  go_simp
  try (unfold stored; go_simp)
  refine hK _ _ ⟨?_, ?_⟩
  · co_still (termsP 66 Wg C Low vals Mine)
  clear hK K
  try walk_nrm
  co_apply opsX_nil
  try simp only [ThenX]
  try co_then
  co_apply wpX_block
  co_apply wpX_cond (t := false)
  focus (exact rfl)
  simp only [if_true, if_false, Bool.false_eq_true, reduceIte]
  co_apply wpX_cond (t := true)
  focus (exact rfl)
  simp only [if_true, if_false, Bool.false_eq_true, reduceIte]
  co_apply wpX_seq
  co_apply wpX_region
  simp only [List.size_toArray, List.length_cons, List.length_nil, Nat.reduceAdd, Nat.zero_add, List.range, List.range.loop]
  co_apply opsX_cons_k rfl (by rfl)
  intro _ hR K hK
  replace hF := (EI.rely hCN hWN hPc) hF hR
  clear hR
  skip
  go_simp
  try (unfold stored; go_simp)
  refine hK _ _ ⟨?_, ?_⟩
  · co_still (termsP 66 Wg C Low vals Mine)
  clear hK K
  try walk_nrm
  co_apply opsX_cons_k rfl (by rfl)
  intro _ hR K hK
  replace hF := (EI.rely hCN hWN hPc) hF hR
  clear hR
  skip
  go_simp
  try (unfold stored; go_simp)
  refine hK _ _ ⟨?_, ?_⟩
  · co_still (termsP 66 Wg C Low vals Mine)
  clear hK K
  try walk_nrm
  co_apply opsX_nil
  try simp only [ThenX]
  try co_then
  co_apply wpX_of
  co_apply wpC_ret (termsP 66 Wg C Low vals Mine)
  exact H _ _ _ _ _ _ _ _ _ _ _ _ _ _ hF

/-- A word by its four numbers. -/
abbrev Wd := Int × Int × Int × Int
abbrev Wd.v (x : Wd) : Value := wd x.1 x.2.1 x.2.2.1 x.2.2.2
abbrev Wd.c (x : Wd) : List Value := cells4 x.1 x.2.1 x.2.2.1 x.2.2.2

theorem gather_loop (hty : p.ety = 44) (hE : E < p.N0) (hD : Dn < p.N0) (hCN : C < p.N0) (hWN : Wg < p.N0) (hPc : ∀ w w₁, Aside2 C Wg w w₁ → PostB w → PostB w₁) (ws : List Wd) : ∃ k, ∀ (c R0 R1 : Code) (hc : Tryd.f20.body = some (.seq R0 (.seq R1 (.block 0 (.loop c))))) (told : Value) (n : Nat) (xs : List Value) (hn : n + ws.length < 10000) (Qx : Option (List Value) → Exit → Act → World → Prop)
    (H : ∀ told' t6 t7 t8 t9 t10 t11 t12 t13 t14 t15 t16 t17 t18 w', EI Wg C vals PostB p told' (n + ws.length) (xs ++ ws.flatMap Wd.c) w' → Qx none .ret { tmps := #[.chan (some E), .chan (some Dn), undef, undef, told', told', t6, t7, t8, t9, t10, t11, t12, t13, t14, t15, t16, t17, t18], defers := [] } w')
    (t6 t7 t8 t9 t10 t11 t12 t13 t14 t15 t16 t17 t18 : Value) (w : World), GI p told n xs w →
    LoopX (gF Tryd.prog 66 Wg C Low vals Mine AnchW p E Dn zE44 zD57 PostB) Tryd.prog true 20 c k (some (ws.map Wd.v)) Qx (gAt E Dn told t6 t7 t8 t9 t10 t11 t12 t13 t14 t15 t16 t17 t18) w := by
  induction ws with
  | nil =>
    obtain ⟨k, g⟩ := gather_end (Low := Low) (Mine := Mine) (AnchW := AnchW) (vals := vals) (E := E) (Dn := Dn) hCN hWN hPc
    refine ⟨k + 0 + 1, fun c R0 R1 hc told n xs hn Qx H t6 t7 t8 t9 t10 t11 t12 t13 t14 t15 t16 t17 t18 w hF => ?_⟩
    refine loopX1 (g c R0 R1 hc told n xs Qx (fun u6 u7 u8 u9 u10 u11 u12 u13 u14 u15 u16 u17 u18 w' hw => ?_) t6 t7 t8 t9 t10 t11 t12 t13 t14 t15 t16 t17 t18 w hF)
    exact H told _ _ _ _ _ _ _ _ _ _ _ _ _ w' (by simpa using hw)
  | cons x ws ih =>
    obtain ⟨k2, g2⟩ := ih
    obtain ⟨k, g⟩ := gather_round (Wg := Wg) (C := C) (Low := Low) (Mine := Mine) (AnchW := AnchW) (vals := vals) (PostB := PostB) hty hE hD
    refine ⟨k + k2 + 1, fun c R0 R1 hc told n xs hn Qx H t6 t7 t8 t9 t10 t11 t12 t13 t14 t15 t16 t17 t18 w hF => ?_⟩
    rw [List.length_cons] at hn
    refine loopX1 (g c R0 R1 hc told n xs (by omega) _ _ _ _ (ws.map Wd.v) Qx k2 (fun told' u6 u7 u8 u9 u10 u11 u12 u13 u14 u15 u16 u17 u18 w' hw => ?_) t6 t7 t8 t9 t10 t11 t12 t13 t14 t15 t16 t17 t18 w hF)
    refine g2 c R0 R1 hc told' (n + 1) _ (by omega) Qx (fun told'' v6 v7 v8 v9 v10 v11 v12 v13 v14 v15 v16 v17 v18 w'' hw' => H told'' _ _ _ _ _ _ _ _ _ _ _ _ _ w'' ?_) _ _ _ _ _ _ _ _ _ _ _ _ _ w' hw
    rw [List.length_cons, List.flatMap_cons, ← List.append_assoc, show n + (ws.length + 1) = n + 1 + ws.length from by omega]
    exact hw'

set_option maxRecDepth 100000 in
set_option maxHeartbeats 8000000 in
/-- The whole function. -/
theorem gather_x (hty : p.ety = 44) (hE : E < p.N0) (hD : Dn < p.N0) (hCN : C < p.N0) (hWN : Wg < p.N0) (hPc : ∀ w w₁, Aside2 C Wg w w₁ → PostB w → PostB w₁) (ws : List Wd) (hn : ws.length < 10000) : ∃ k, ∀ (w : World), p.N0 ≤ w.heap.size →
    CallsX (gF Tryd.prog 66 Wg C Low vals Mine AnchW p E Dn zE44 zD57 PostB) Tryd.prog true 20 #[.chan (some E), .chan (some Dn)] k (some (ws.map Wd.v)) w fun s' v w' => s' = none ∧ EI Wg C vals PostB p v ws.length (ws.flatMap Wd.c) w' := by
  have key : ∃ k k2, ∀ (c R0 R1 : Code) (hc : Tryd.f20.body = some (.seq R0 (.seq R1 (.block 0 (.loop c))))) (Qx : Option (List Value) → Exit → Act → World → Prop)
      (H : ∀ told' t6 t7 t8 t9 t10 t11 t12 t13 t14 t15 t16 t17 t18 w', EI Wg C vals PostB p told' ws.length (ws.flatMap Wd.c) w' → Qx none .ret { tmps := #[.chan (some E), .chan (some Dn), undef, undef, told', told', t6, t7, t8, t9, t10, t11, t12, t13, t14, t15, t16, t17, t18], defers := [] } w')
      (t6 t7 t8 t9 t10 t11 t12 t13 t14 t15 t16 t17 t18 : Value) (w : World), GI p (.slice none 0 0) 0 [] w →
      wpX (gF Tryd.prog 66 Wg C Low vals Mine AnchW p E Dn zE44 zD57 PostB) Tryd.prog true 20 c k (some (ws.map Wd.v)) (ThenX (fun s' a' w' => LoopX (gF Tryd.prog 66 Wg C Low vals Mine AnchW p E Dn zE44 zD57 PostB) Tryd.prog true 20 c k2 s' Qx a' w') Qx) (gAt E Dn (.slice none 0 0) t6 t7 t8 t9 t10 t11 t12 t13 t14 t15 t16 t17 t18) w := by
    cases ws with
    | nil =>
      obtain ⟨k, g⟩ := gather_end (Low := Low) (Mine := Mine) (AnchW := AnchW) (vals := vals) (E := E) (Dn := Dn) hCN hWN hPc
      exact ⟨k, 0, fun c R0 R1 hc Qx H t6 t7 t8 t9 t10 t11 t12 t13 t14 t15 t16 t17 t18 w hF => g c R0 R1 hc _ _ _ Qx (fun u6 u7 u8 u9 u10 u11 u12 u13 u14 u15 u16 u17 u18 w' hw => H _ _ _ _ _ _ _ _ _ _ _ _ _ _ w' (by simpa using hw)) t6 t7 t8 t9 t10 t11 t12 t13 t14 t15 t16 t17 t18 w hF⟩
    | cons x ws =>
      rw [List.length_cons] at hn
      obtain ⟨k2, g2⟩ := gather_loop (Low := Low) (Mine := Mine) (AnchW := AnchW) (vals := vals) hty hE hD hCN hWN hPc ws
      obtain ⟨k, g⟩ := gather_round (Wg := Wg) (C := C) (Low := Low) (Mine := Mine) (AnchW := AnchW) (vals := vals) (PostB := PostB) hty hE hD
      refine ⟨k, k2, fun c R0 R1 hc Qx H t6 t7 t8 t9 t10 t11 t12 t13 t14 t15 t16 t17 t18 w hF => ?_⟩
      refine g c R0 R1 hc _ 0 _ (by omega) _ _ _ _ (ws.map Wd.v) Qx k2 (fun told' u6 u7 u8 u9 u10 u11 u12 u13 u14 u15 u16 u17 u18 w' hw => ?_) t6 t7 t8 t9 t10 t11 t12 t13 t14 t15 t16 t17 t18 w hF
      refine g2 c R0 R1 hc told' (0 + 1) _ (by omega) Qx (fun told'' v6 v7 v8 v9 v10 v11 v12 v13 v14 v15 v16 v17 v18 w'' hw' => H told'' _ _ _ _ _ _ _ _ _ _ _ _ _ w'' ?_) _ _ _ _ _ _ _ _ _ _ _ _ _ w' hw
      rw [List.length_cons, List.flatMap_cons, show ws.length + 1 = 0 + 1 + ws.length from by omega]
      simpa using hw'
  obtain ⟨k, k2, g⟩ := key
  co_apply Exists.intro
  intro w hN
  have hF : GI p (.slice none 0 0) 0 [] w := ⟨⟨rfl, .inl ⟨rfl, rfl⟩⟩, hN⟩
  co_apply callsX_of_wpX Tryd.func20 (by rfl) rfl
  simp only [Tryd.ntmps20, List.size_toArray, List.length_cons, List.length_nil, Nat.reduceAdd, Nat.reduceSub, Array.replicate_succ, Array.replicate_zero, List.push_toArray, List.append_toArray, List.nil_append, List.cons_append]
  co_apply wpX_seq
  co_apply wpX_region
  simp only [List.size_toArray, List.length_cons, List.length_nil, Nat.reduceAdd, Nat.zero_add, List.range, List.range.loop]
  co_apply opsX_cons_k rfl (by rfl)
  intro _ hR K hK
  replace hF := (GI.rely) hF hR
  clear hR
  skip
  go_simp
  try (unfold stored; go_simp)
  refine hK _ _ ⟨?_, ?_⟩
  · co_still (termsG p E Dn)
  clear hK K
  try walk_nrm
  co_apply opsX_nil
  try simp only [ThenX]
  try co_then
  co_apply wpX_seq
  co_apply wpX_region
  simp only [List.size_toArray, List.length_cons, List.length_nil, Nat.reduceAdd, Nat.zero_add, List.range, List.range.loop]
  co_apply opsX_cons_k rfl (by rfl)
  intro _ hR K hK
  replace hF := (GI.rely) hF hR
  clear hR
  skip
  go_simp
  try (unfold stored; go_simp)
  refine hK _ _ ⟨?_, ?_⟩
  · co_still (termsG p E Dn)
  clear hK K
  try walk_nrm
  co_apply opsX_nil
  try simp only [ThenX]
  try co_then
  co_apply wpX_block
  co_apply wpX_loop1
  exact g _ _ _ rfl _ (fun told' u6 u7 u8 u9 u10 u11 u12 u13 u14 u15 u16 u17 u18 w' hw => ⟨rfl, _, resultsC_tmp (t := 4) (by rfl) _, rfl, hw⟩) _ _ _ _ _ _ _ _ _ _ _ _ _ _ hF
end Go.Proofs.YtbnaccilnilcmaaDoor
