/-
  Part 2 of the proof.
  No condition but those that each statement names.
-/
import Derived.Test.YtejkelcaljmnoaaGreatDoorChecked
import Derived.Test.YtejkelcaljmnoaaGreatDoorHy01
import Derived.Conc.DeferLaws
import Derived.Conc.EventLaws
import Derived.Conc.TokenWalk
import Derived.Conc.FxGenDone
import Derived.Conc.FxGenLone
import Derived.KernelRfl
set_option maxRecDepth 100000
set_option maxHeartbeats 4000000
set_option linter.unusedVariables false
set_option linter.unusedSimpArgs false
set_option linter.unusedSectionVars false
namespace Go.Proofs.YtejkelcaljmnoaaGreatDoor
open Go.Conc Go.RowKit Go.Hx Go.ConcX Go.Conc.Lib Go.ConcX.Gen
def GI (p : Par) (told : Value) (n : Nat) (xs : List Value) (w : World) : Prop := Hx.Told p told n xs w ∧ p.N0 ≤ w.heap.size
theorem GI.rely {p : Par} {told : Value} {n : Nat} {xs : List Value} {w w₁ : World} (h : GI p told n xs w) (r : RA p w w₁) : GI p told n xs w₁ := ⟨h.1.rely r, Nat.le_trans h.2 r.kept.size⟩
def Off (told : Value) (nb : Nat) : Prop := ∀ g l cap, told = .slice (some ⟨g, 0, none⟩) l cap → g ≠ nb
theorem Told.off {p : Par} {told : Value} {n : Nat} {xs : List Value} {w : World} (h : Hx.Told p told n xs w) : Off told w.heap.size := by
 intro g l cap e;rcases h.2 with ⟨e', _⟩ | ⟨g', cap', cur, e', _, h3, _⟩
 · rw [e'] at e; cases e
 · rw [e'] at e;cases e;exact Nat.ne_of_lt (Array.getElem?_eq_some_iff.1 h3).1
theorem Told.setOther {p : Par} {told : Value} {n : Nat} {xs : List Value} {w : World} {nb : Nat} (h : Hx.Told p told n xs w) (ho : Off told nb) (i : Nat) (v : Value) : Hx.Told p told n xs (w.setCell ⟨nb, i, none⟩ v) := by
 refine ⟨h.1, h.2.imp id ?_⟩;rintro ⟨g, cap, cur, h1, h2, h3, h4⟩;exact ⟨g, cap, cur, h1, h2, by rw [fD w _ v (ho g _ _ h1)]; exact h3, h4⟩
def GB (p : Par) (told : Value) (n : Nat) (xs : List Value) (nb : Nat) (cs : Array Value) (w : World) : Prop := GI p told n xs w ∧ Fb p nb cs w ∧ Off told nb
theorem GB.rely {p : Par} {told : Value} {n : Nat} {xs : List Value} {nb : Nat} {cs : Array Value} {w w₁ : World} (h : GB p told n xs nb cs w) (r : RA p w w₁) : GB p told n xs nb cs w₁ := ⟨h.1.rely r, h.2.1.rely r, h.2.2⟩
theorem GB.set {p : Par} {told : Value} {n : Nat} {xs : List Value} {nb : Nat} {cs : Array Value} {w : World} (h : GB p told n xs nb cs w) (i : Nat) (v : Value) : GB p told n xs nb (cs.setIfInBounds i v) (w.setCell ⟨nb, i, none⟩ v) :=
 ⟨⟨Told.setOther h.1.1 h.2.2 i v, by simpa [World.setCell] using h.1.2⟩, h.2.1.set i v, h.2.2⟩
theorem jM {p : Par} {E Dn : Nat} {w : World} {cs : Array Value} (hty : p.ety = 51) (hN : p.N0 ≤ w.heap.size) (hE : E < p.N0) (hD : Dn < p.N0) {es : Array Event} (hes : ∀ e ∈ es, False) : DG p E Dn w (w.alloc (.cells cs 51)) es := by
 have := s8 (E := E) (Dn := Dn) (cs := cs) hN hE hD hes
 rwa [hty] at this
theorem Fb.new44 {p : Par} {w : World} {cs : Array Value} (hty : p.ety = 51) (hN : p.N0 ≤ w.heap.size) : Fb p w.heap.size cs (w.alloc (.cells cs 51)) := by
 have := Fb.new (cs := cs) hN
 rwa [hty] at this
abbrev zE44 : Value := .agg #[.int .i64 0, .int .i64 0, .int .i64 0, .int .i64 0]
abbrev zD57 : Value := .agg #[]
def gAt (E Dn : Nat) (told t6 t7 t8 t9 t10 t11 t12 t13 t14 t15 t16 t17 t18 : Value) : Act :=
 { tmps := #[.chan (some E), .chan (some Dn), undef, undef, .slice none 0 0, told, t6, t7, t8, t9, t10, t11, t12, t13, t14, t15, t16, t17, t18], defers := [] }
variable {p : Par} {E Dn Wg C Low : Nat} [Shy Wg C] {vals : List Value} {Mine : Loc → Prop} {AnchW : Goroutine → World → Prop} {PostB : World → Prop}
theorem ta : ∃ i z, Tryz.prog.info? 51 = some i ∧ i.zero = some z ∧ i.size = 4 ∧ i.bytes = 32 ∧ z.cells.size = 4 := by
 have h : (Tryz.prog.info? 51).map (fun i => (i.zero.map (·.cells.size), i.size, i.bytes)) = some (some 4, 4, 32) := by kernel_rfl
 obtain ⟨i, hi, h2⟩ := Option.map_eq_some_iff.1 h;simp only [Prod.mk.injEq] at h2;obtain ⟨z, hz, h3⟩ := Option.map_eq_some_iff.1 h2.1;exact ⟨i, z, hi, hz, h2.2.1, h2.2.2, h3⟩
def cells4 (now kind id x : Int) : List Value := [.int .i64 now, .int .i64 kind, .int .i64 id, .int .i64 x]
abbrev wd (now kind id x : Int) : Value := .agg #[.int .i64 now, .int .i64 kind, .int .i64 id, .int .i64 x]
theorem ie (hty : p.ety = 51) (hE : E < p.N0) (hD : Dn < p.N0) : ∃ k, ∀ (c R0 R1 : Code) (hc : Tryz.f34.body = some (.seq R0 (.seq R1 (.block 0 (.loop c))))) (told : Value) (n : Nat) (xs : List Value) (hn : n < 10000) (now kind id x : Int) (vs : List Value) (Qx : Option (List Value) → Exit → Act → World → Prop) (k2 : Nat)
   (H : ∀ told' t6 t7 t8 t9 t10 t11 t12 t13 t14 t15 t16 t17 t18 w', GI p told' (n + 1) (xs ++ cells4 now kind id x) w' → LoopX (gF Tryz.prog 87 Wg C Low vals Mine AnchW p E Dn zE44 zD57 PostB) Tryz.prog true 34 c k2 (some vs) Qx (gAt E Dn told' t6 t7 t8 t9 t10 t11 t12 t13 t14 t15 t16 t17 t18) w')
   (t6 t7 t8 t9 t10 t11 t12 t13 t14 t15 t16 t17 t18 : Value) (w : World), GI p told n xs w →
   wpX (gF Tryz.prog 87 Wg C Low vals Mine AnchW p E Dn zE44 zD57 PostB) Tryz.prog true 34 c k (some (wd now kind id x :: vs)) (ThenX (fun s' a' w' => LoopX (gF Tryz.prog 87 Wg C Low vals Mine AnchW p E Dn zE44 zD57 PostB) Tryz.prog true 34 c k2 s' Qx a' w') Qx) (gAt E Dn told t6 t7 t8 t9 t10 t11 t12 t13 t14 t15 t16 t17 t18) w := by
 co_apply Exists.intro;intro c R0 R1 hc told n xs hn now kind id x vs Qx k2 H t6 t7 t8 t9 t10 t11 t12 t13 t14 t15 t16 t17 t18 w hF;simp only [Tryz.f34, Option.some.injEq, Code.seq.injEq, Code.block.injEq, Code.loop.injEq, true_and] at hc;obtain ⟨_, _, rfl⟩ := hc;unfold gAt;have z1 : ∀ w, (zeroValue 51).run Tryz.prog w = .ok zE44 w := fun w => by kernel_rfl
 have z2 : ∀ w, (zeroValue 78).run Tryz.prog w = .ok zD57 w := fun w => by kernel_rfl
 co_apply eC;co_apply cj;co_apply cj;co_apply bd;simp only [List.size_toArray, List.length_cons, List.length_nil, Nat.reduceAdd, Nat.zero_add, List.range, List.range.loop];co_apply aG rfl (by rfl);intro _ hR K hK;replace hF := (GI.rely) hF hR;clear hR
 skip
 go_simp
 try (unfold stored; go_simp)
 refine hK _ _ ⟨?_, ?_⟩
 · co_still (dj p E Dn)
 clear hK K
 try walk_nrm
 co_apply bu
 try simp only [ThenX]
 try co_then
 co_apply bd;simp only [List.size_toArray, List.length_cons, List.length_nil, Nat.reduceAdd, Nat.zero_add, List.range, List.range.loop];co_apply aG rfl (by rfl);intro _ hR K hK;replace hF := (GI.rely) hF hR;clear hR
 skip
 go_simp
 try (unfold stored; go_simp)
 refine hK _ _ ⟨?_, ?_⟩
 · co_still (dj p E Dn)
 clear hK K
 try walk_nrm
 co_apply bu
 try simp only [ThenX]
 try co_then
 co_apply cj;co_apply bd;simp only [List.size_toArray, List.length_cons, List.length_nil, Nat.reduceAdd, Nat.zero_add, List.range, List.range.loop];co_apply s9 rfl (by rfl)
 · intro w₁ h₁;refine ⟨?_, ?_⟩
   · simp [execOp, go_sem, z1, z2, selCases, rcase, Act.eval]
   · intro e he;have hm := mem_listed he;simp [go_sem, *] at hm
 intro w₂ h₂;replace hF := GI.rely hF h₂;clear h₂;rw [show commResult (selCases E Dn zE44 zD57) .select 0 (wd now kind id x) true = .tuple #[.int .i64 0, .bool true, wd now kind id x, zD57] from by simp [commResult, selCases, rcase, goInt]]
 walk_nrm
 co_apply aG rfl (by rfl);intro _ hR K hK;replace hF := (GI.rely) hF hR;clear hR
 skip
 go_simp
 try (unfold stored; go_simp)
 refine hK _ _ ⟨?_, ?_⟩
 · co_still (dj p E Dn)
 clear hK K
 try walk_nrm
 co_apply aG rfl (by rfl);intro _ hR K hK;replace hF := (GI.rely) hF hR;clear hR
 skip
 go_simp
 try (unfold stored; go_simp)
 refine hK _ _ ⟨?_, ?_⟩
 · co_still (dj p E Dn)
 clear hK K
 try walk_nrm
 co_apply aG rfl (by rfl);intro _ hR K hK;replace hF := (GI.rely) hF hR;clear hR
 skip
 go_simp
 try (unfold stored; go_simp)
 refine hK _ _ ⟨?_, ?_⟩
 · co_still (dj p E Dn)
 clear hK K
 try walk_nrm
 co_apply bu
 try simp only [ThenX]
 try co_then
 co_apply eC;co_apply fE (t := true)
 focus (exact rfl)
 simp only [if_true, if_false, Bool.false_eq_true, reduceIte];co_apply cj;co_apply bd;simp only [List.size_toArray, List.length_cons, List.length_nil, Nat.reduceAdd, Nat.zero_add, List.range, List.range.loop];co_apply aG rfl (by rfl);intro _ hR K hK;replace hF := (GI.rely) hF hR;clear hR
 skip
 go_simp
 try (unfold stored; go_simp)
 refine hK _ _ ⟨?_, ?_⟩
 · co_still (dj p E Dn)
 clear hK K
 try walk_nrm
 co_apply aG rfl (by rfl);intro _ hR K hK;replace hF := (GI.rely) hF hR;clear hR;have hN := hF.2;go_simp
 try (unfold stored; go_simp)
 refine hK _ _ ⟨?_, ?_⟩
 · (refine jM hty hN hE hD ?_; intro e he; have hm := mem_listed he; simp [go_sem, *] at hm)
 clear hK K
 try walk_nrm
 replace hF : GB p told n xs _ #[.int .i64 0, .int .i64 0, .int .i64 0, .int .i64 0] _ := ⟨⟨hF.1.alloc _, by rw [gO]; exact Nat.le_succ_of_le hN⟩, Fb.new44 hty hN, Told.off hF.1⟩;clear hN;co_apply aG rfl (by rfl);intro _ hR K hK;replace hF := (GB.rely) hF hR;clear hR;have hc0 := hF.2.1.cell (i := 0) rfl; have hc1 := hF.2.1.cell (i := 1) rfl; have hc2 := hF.2.1.cell (i := 2) rfl; have hc3 := hF.2.1.cell (i := 3) rfl; have hz0 := hF.2.1.thaw 0; have hz1 := hF.2.1.thaw 1; have hz2 := hF.2.1.thaw 2; have hz3 := hF.2.1.thaw 3;go_simp
 try (unfold stored; go_simp)
 refine hK _ _ ⟨?_, ?_⟩
 · (refine vU hF.2.1 hE hD _ _ _ _ ?_; intro e he; have hm := mem_listed he; simp [go_sem, *] at hm; (rcases hm with rfl | rfl | rfl | rfl <;> exact ⟨_, _, _, rfl, rfl⟩))
 clear hK K
 try walk_nrm
 replace hF := (((hF.set 0 (.int .i64 now)).set 1 (.int .i64 kind)).set 2 (.int .i64 id)).set 3 (.int .i64 x);simp only [List.setIfInBounds_toArray, List.set_cons_zero, List.set_cons_succ] at hF;clear hc0 hc1 hc2 hc3 hz0 hz1 hz2 hz3;co_apply bu
 try simp only [ThenX]
 try co_then
 co_apply bd;simp only [List.size_toArray, List.length_cons, List.length_nil, Nat.reduceAdd, Nat.zero_add, List.range, List.range.loop];co_apply aG rfl (by rfl);intro _ hR K hK;replace hF := (GB.rely) hF hR;clear hR
 skip
 go_simp
 try (unfold stored; go_simp)
 refine hK _ _ ⟨?_, ?_⟩
 · co_still (dj p E Dn)
 clear hK K
 try walk_nrm
 co_apply aG rfl (by rfl);intro _ hR K hK;replace hF := (GB.rely) hF hR;clear hR;have hc0 := hF.2.1.cell (i := 0) rfl; have hc1 := hF.2.1.cell (i := 1) rfl; have hc2 := hF.2.1.cell (i := 2) rfl; have hc3 := hF.2.1.cell (i := 3) rfl;go_simp
 try (unfold stored; go_simp)
 refine hK _ _ ⟨?_, ?_⟩
 · (refine jz ?_; intro e he; have hm := mem_listed he; simp [go_sem, *] at hm; (rcases hm with rfl | rfl | rfl | rfl <;> exact dW hF.2.1 rfl _ _))
 clear hK K
 try walk_nrm
 clear hc0 hc1 hc2 hc3;co_apply aG rfl (by rfl);intro _ hR K hK;replace hF := (GB.rely) hF hR;clear hR;have hN := hF.1.2;go_simp
 try (unfold stored; go_simp)
 refine hK _ _ ⟨?_, ?_⟩
 · (refine jM hty hN hE hD ?_; intro e he; have hm := mem_listed he; simp [go_sem, *] at hm)
 clear hK K
 try walk_nrm
 replace hF : GB p told n xs _ #[.int .i64 now, .int .i64 kind, .int .i64 id, .int .i64 x] _ := ⟨⟨hF.1.1.alloc _, by rw [gO]; exact Nat.le_succ_of_le hN⟩, Fb.new44 hty hN, Told.off hF.1.1⟩;clear hN;obtain ⟨ti, tz, i1, i2, i3, i4, i5⟩ := ta;co_apply aG rfl (by rfl);intro _ hR K hK;replace hF := GB.rely hF hR;clear hR;obtain ⟨told', w', hr, hT', hN', hDG⟩ := Told.app (P := Tryz.prog) (t := 38) (ty := 38) (E := E) (Dn := Dn) (by rw [hty]; exact Tryz.underlying38) (by rw [hty]; exact i1) i2 i3 i4 i5 hE hD hF.1.2 hF.1.1 hn hF.2.1 (by intro u hu; simp at hu; rcases hu with rfl | rfl | rfl | rfl <;> rfl);refine uponK_append (.tmp 14) (.tmp 16) 38 rfl rfl rfl hr ?_;refine hK _ _ ⟨hDG _ ?_, ?_⟩
 · intro e he;have hm := mem_listed he;rw [events_append_op (.tmp 14) (.tmp 16) 38 rfl rfl rfl] at hm;exact hm
 clear hK K hDG hF hr;have hF : GI p told' (n + 1) (xs ++ cells4 now kind id x) w' := ⟨hT', hN'⟩;clear hT' hN'
 try walk_nrm
 co_apply aG rfl (by rfl);intro _ hR K hK;replace hF := (GI.rely) hF hR;clear hR
 skip
 go_simp
 try (unfold stored; go_simp)
 refine hK _ _ ⟨?_, ?_⟩
 · co_still (dj p E Dn)
 clear hK K
 try walk_nrm
 co_apply bu
 try simp only [ThenX]
 try co_then
 exact H _ _ _ _ _ _ _ _ _ _ _ _ _ _ _ hF
def EI (Wg C : Nat) [Shy Wg C] (vals : List Value) (PostB : World → Prop) (p : Par) (told : Value) (n : Nat) (xs : List Value) (w : World) : Prop := PostB w ∧ KPa 87 Wg C vals w ∧ Hx.Told p told n xs w
theorem Told.aside {p : Par} {told : Value} {n : Nat} {xs : List Value} {w w₁ : World} (h : Hx.Told p told n xs w) (hCN : C < p.N0) (hWN : Wg < p.N0) (ha : Aside2 C Wg w w₁) : Hx.Told p told n xs w₁ := by
 refine ⟨h.1, h.2.imp id ?_⟩;rintro ⟨g, cap, cur, h1, h2, h3, h4⟩;exact ⟨g, cap, cur, h1, h2, (ha.block g (by omega) (by omega)).trans h3, h4⟩
theorem EI.rely (hCN : C < p.N0) (hWN : Wg < p.N0) (hPc : ∀ w w₁, Aside2 C Wg w w₁ → PostB w → PostB w₁) {told : Value} {n : Nat} {xs : List Value} {w w₁ : World} (h : EI Wg C vals PostB p told n xs w) (r : RPa 87 Wg C vals w w₁) : EI Wg C vals PostB p told n xs w₁ :=
 ⟨hPc _ _ r.aside h.1, r.ka h.2.1, Told.aside h.2.2 hCN hWN r.aside⟩
theorem jN (hCN : C < p.N0) (hWN : Wg < p.N0) (hPc : ∀ w w₁, Aside2 C Wg w w₁ → PostB w → PostB w₁) : ∃ k, ∀ (c R0 R1 : Code) (hc : Tryz.f34.body = some (.seq R0 (.seq R1 (.block 0 (.loop c))))) (told : Value) (n : Nat) (xs : List Value) (Qx : Option (List Value) → Exit → Act → World → Prop)
   (H : ∀ t6 t7 t8 t9 t10 t11 t12 t13 t14 t15 t16 t17 t18 w', EI Wg C vals PostB p told n xs w' → Qx none .ret { tmps := #[.chan (some E), .chan (some Dn), undef, undef, told, told, t6, t7, t8, t9, t10, t11, t12, t13, t14, t15, t16, t17, t18], defers := [] } w')
   (t6 t7 t8 t9 t10 t11 t12 t13 t14 t15 t16 t17 t18 : Value) (w : World), GI p told n xs w →
   wpX (gF Tryz.prog 87 Wg C Low vals Mine AnchW p E Dn zE44 zD57 PostB) Tryz.prog true 34 c k (some []) (ThenX (fun s' a' w' => LoopX (gF Tryz.prog 87 Wg C Low vals Mine AnchW p E Dn zE44 zD57 PostB) Tryz.prog true 34 c 0 s' Qx a' w') Qx) (gAt E Dn told t6 t7 t8 t9 t10 t11 t12 t13 t14 t15 t16 t17 t18) w := by
 co_apply Exists.intro;intro c R0 R1 hc told n xs Qx H t6 t7 t8 t9 t10 t11 t12 t13 t14 t15 t16 t17 t18 w hF;simp only [Tryz.f34, Option.some.injEq, Code.seq.injEq, Code.block.injEq, Code.loop.injEq, true_and] at hc;obtain ⟨_, _, rfl⟩ := hc;unfold gAt;have z1 : ∀ w, (zeroValue 51).run Tryz.prog w = .ok zE44 w := fun w => by kernel_rfl
 have z2 : ∀ w, (zeroValue 78).run Tryz.prog w = .ok zD57 w := fun w => by kernel_rfl
 co_apply eC;co_apply cj;co_apply cj;co_apply bd;simp only [List.size_toArray, List.length_cons, List.length_nil, Nat.reduceAdd, Nat.zero_add, List.range, List.range.loop];co_apply aG rfl (by rfl);intro _ hR K hK;replace hF := (GI.rely) hF hR;clear hR
 skip
 go_simp
 try (unfold stored; go_simp)
 refine hK _ _ ⟨?_, ?_⟩
 · co_still (dj p E Dn)
 clear hK K
 try walk_nrm
 co_apply bu
 try simp only [ThenX]
 try co_then
 co_apply bd;simp only [List.size_toArray, List.length_cons, List.length_nil, Nat.reduceAdd, Nat.zero_add, List.range, List.range.loop];co_apply aG rfl (by rfl);intro _ hR K hK;replace hF := (GI.rely) hF hR;clear hR
 skip
 go_simp
 try (unfold stored; go_simp)
 refine hK _ _ ⟨?_, ?_⟩
 · co_still (dj p E Dn)
 clear hK K
 try walk_nrm
 co_apply bu
 try simp only [ThenX]
 try co_then
 co_apply cj;co_apply bd;simp only [List.size_toArray, List.length_cons, List.length_nil, Nat.reduceAdd, Nat.zero_add, List.range, List.range.loop];co_apply rh rfl (by rfl)
 · intro w₁ h₁;refine ⟨?_, ?_⟩
   · simp [execOp, go_sem, z1, z2, selCases, rcase, Act.eval]
   · intro e he;have hm := mem_listed he;simp [go_sem, *] at hm
 intro w₂ h₂ hpo hka;replace hF : EI Wg C vals PostB p told n xs w₂ := ⟨hpo, hka, (GI.rely hF h₂).1⟩;clear h₂ hpo hka;rw [show commResult (selCases E Dn zE44 zD57) .select 1 zD57 false = .tuple #[.int .i64 1, .bool false, zE44, zD57] from by simp [commResult, selCases, rcase, goInt]]
 walk_nrm
 co_apply aG rfl (by rfl);intro _ hR K hK;replace hF := (EI.rely hCN hWN hPc) hF hR;clear hR
 skip
 go_simp
 try (unfold stored; go_simp)
 refine hK _ _ ⟨?_, ?_⟩
 · co_still (fo 87 Wg C Low vals Mine)
 clear hK K
 try walk_nrm
 co_apply aG rfl (by rfl);intro _ hR K hK;replace hF := (EI.rely hCN hWN hPc) hF hR;clear hR
 skip
 go_simp
 try (unfold stored; go_simp)
 refine hK _ _ ⟨?_, ?_⟩
 · co_still (fo 87 Wg C Low vals Mine)
 clear hK K
 try walk_nrm
 co_apply aG rfl (by rfl);intro _ hR K hK;replace hF := (EI.rely hCN hWN hPc) hF hR;clear hR
 skip
 go_simp
 try (unfold stored; go_simp)
 refine hK _ _ ⟨?_, ?_⟩
 · co_still (fo 87 Wg C Low vals Mine)
 clear hK K
 try walk_nrm
 co_apply bu
 try simp only [ThenX]
 try co_then
 co_apply eC;co_apply fE (t := false)
 focus (exact rfl)
 simp only [if_true, if_false, Bool.false_eq_true, reduceIte];co_apply fE (t := true)
 focus (exact rfl)
 simp only [if_true, if_false, Bool.false_eq_true, reduceIte];co_apply cj;co_apply bd;simp only [List.size_toArray, List.length_cons, List.length_nil, Nat.reduceAdd, Nat.zero_add, List.range, List.range.loop];co_apply aG rfl (by rfl);intro _ hR K hK;replace hF := (EI.rely hCN hWN hPc) hF hR;clear hR
 skip
 go_simp
 try (unfold stored; go_simp)
 refine hK _ _ ⟨?_, ?_⟩
 · co_still (fo 87 Wg C Low vals Mine)
 clear hK K
 try walk_nrm
 co_apply aG rfl (by rfl);intro _ hR K hK;replace hF := (EI.rely hCN hWN hPc) hF hR;clear hR
 skip
 go_simp
 try (unfold stored; go_simp)
 refine hK _ _ ⟨?_, ?_⟩
 · co_still (fo 87 Wg C Low vals Mine)
 clear hK K
 try walk_nrm
 co_apply bu
 try simp only [ThenX]
 try co_then
 co_apply iS;co_apply wpC_ret (fo 87 Wg C Low vals Mine);exact H _ _ _ _ _ _ _ _ _ _ _ _ _ _ hF
abbrev Wd := Int × Int × Int × Int
abbrev Wd.v (x : Wd) : Value := wd x.1 x.2.1 x.2.2.1 x.2.2.2
abbrev Wd.c (x : Wd) : List Value := cells4 x.1 x.2.1 x.2.2.1 x.2.2.2
theorem mZ (hty : p.ety = 51) (hE : E < p.N0) (hD : Dn < p.N0) (hCN : C < p.N0) (hWN : Wg < p.N0) (hPc : ∀ w w₁, Aside2 C Wg w w₁ → PostB w → PostB w₁) (ws : List Wd) : ∃ k, ∀ (c R0 R1 : Code) (hc : Tryz.f34.body = some (.seq R0 (.seq R1 (.block 0 (.loop c))))) (told : Value) (n : Nat) (xs : List Value) (hn : n + ws.length < 10000) (Qx : Option (List Value) → Exit → Act → World → Prop)
   (H : ∀ told' t6 t7 t8 t9 t10 t11 t12 t13 t14 t15 t16 t17 t18 w', EI Wg C vals PostB p told' (n + ws.length) (xs ++ ws.flatMap Wd.c) w' → Qx none .ret { tmps := #[.chan (some E), .chan (some Dn), undef, undef, told', told', t6, t7, t8, t9, t10, t11, t12, t13, t14, t15, t16, t17, t18], defers := [] } w')
   (t6 t7 t8 t9 t10 t11 t12 t13 t14 t15 t16 t17 t18 : Value) (w : World), GI p told n xs w →
   LoopX (gF Tryz.prog 87 Wg C Low vals Mine AnchW p E Dn zE44 zD57 PostB) Tryz.prog true 34 c k (some (ws.map Wd.v)) Qx (gAt E Dn told t6 t7 t8 t9 t10 t11 t12 t13 t14 t15 t16 t17 t18) w := by
 induction ws with
 | nil =>
   obtain ⟨k, g⟩ := jN (Low := Low) (Mine := Mine) (AnchW := AnchW) (vals := vals) (E := E) (Dn := Dn) hCN hWN hPc;refine ⟨k + 0 + 1, fun c R0 R1 hc told n xs hn Qx H t6 t7 t8 t9 t10 t11 t12 t13 t14 t15 t16 t17 t18 w hF => ?_⟩;refine oO (g c R0 R1 hc told n xs Qx (fun u6 u7 u8 u9 u10 u11 u12 u13 u14 u15 u16 u17 u18 w' hw => ?_) t6 t7 t8 t9 t10 t11 t12 t13 t14 t15 t16 t17 t18 w hF);exact H told _ _ _ _ _ _ _ _ _ _ _ _ _ w' (by simpa using hw)
 | cons x ws ih =>
   obtain ⟨k2, g2⟩ := ih;obtain ⟨k, g⟩ := ie (Wg := Wg) (C := C) (Low := Low) (Mine := Mine) (AnchW := AnchW) (vals := vals) (PostB := PostB) hty hE hD;refine ⟨k + k2 + 1, fun c R0 R1 hc told n xs hn Qx H t6 t7 t8 t9 t10 t11 t12 t13 t14 t15 t16 t17 t18 w hF => ?_⟩;rw [List.length_cons] at hn;refine oO (g c R0 R1 hc told n xs (by omega) _ _ _ _ (ws.map Wd.v) Qx k2 (fun told' u6 u7 u8 u9 u10 u11 u12 u13 u14 u15 u16 u17 u18 w' hw => ?_) t6 t7 t8 t9 t10 t11 t12 t13 t14 t15 t16 t17 t18 w hF);refine g2 c R0 R1 hc told' (n + 1) _ (by omega) Qx (fun told'' v6 v7 v8 v9 v10 v11 v12 v13 v14 v15 v16 v17 v18 w'' hw' => H told'' _ _ _ _ _ _ _ _ _ _ _ _ _ w'' ?_) _ _ _ _ _ _ _ _ _ _ _ _ _ w' hw;rw [List.length_cons, List.flatMap_cons, ← List.append_assoc, show n + (ws.length + 1) = n + 1 + ws.length from by omega];exact hw'
theorem tf (hty : p.ety = 51) (hE : E < p.N0) (hD : Dn < p.N0) (hCN : C < p.N0) (hWN : Wg < p.N0) (hPc : ∀ w w₁, Aside2 C Wg w w₁ → PostB w → PostB w₁) (ws : List Wd) (hn : ws.length < 10000) : ∃ k, ∀ (w : World), p.N0 ≤ w.heap.size →
   CallsX (gF Tryz.prog 87 Wg C Low vals Mine AnchW p E Dn zE44 zD57 PostB) Tryz.prog true 34 #[.chan (some E), .chan (some Dn)] k (some (ws.map Wd.v)) w fun s' v w' => s' = none ∧ EI Wg C vals PostB p v ws.length (ws.flatMap Wd.c) w' := by
 have key : ∃ k k2, ∀ (c R0 R1 : Code) (hc : Tryz.f34.body = some (.seq R0 (.seq R1 (.block 0 (.loop c))))) (Qx : Option (List Value) → Exit → Act → World → Prop)
     (H : ∀ told' t6 t7 t8 t9 t10 t11 t12 t13 t14 t15 t16 t17 t18 w', EI Wg C vals PostB p told' ws.length (ws.flatMap Wd.c) w' → Qx none .ret { tmps := #[.chan (some E), .chan (some Dn), undef, undef, told', told', t6, t7, t8, t9, t10, t11, t12, t13, t14, t15, t16, t17, t18], defers := [] } w')
     (t6 t7 t8 t9 t10 t11 t12 t13 t14 t15 t16 t17 t18 : Value) (w : World), GI p (.slice none 0 0) 0 [] w →
     wpX (gF Tryz.prog 87 Wg C Low vals Mine AnchW p E Dn zE44 zD57 PostB) Tryz.prog true 34 c k (some (ws.map Wd.v)) (ThenX (fun s' a' w' => LoopX (gF Tryz.prog 87 Wg C Low vals Mine AnchW p E Dn zE44 zD57 PostB) Tryz.prog true 34 c k2 s' Qx a' w') Qx) (gAt E Dn (.slice none 0 0) t6 t7 t8 t9 t10 t11 t12 t13 t14 t15 t16 t17 t18) w := by
   cases ws with
   | nil =>
     obtain ⟨k, g⟩ := jN (Low := Low) (Mine := Mine) (AnchW := AnchW) (vals := vals) (E := E) (Dn := Dn) hCN hWN hPc;exact ⟨k, 0, fun c R0 R1 hc Qx H t6 t7 t8 t9 t10 t11 t12 t13 t14 t15 t16 t17 t18 w hF => g c R0 R1 hc _ _ _ Qx (fun u6 u7 u8 u9 u10 u11 u12 u13 u14 u15 u16 u17 u18 w' hw => H _ _ _ _ _ _ _ _ _ _ _ _ _ _ w' (by simpa using hw)) t6 t7 t8 t9 t10 t11 t12 t13 t14 t15 t16 t17 t18 w hF⟩
   | cons x ws =>
     rw [List.length_cons] at hn;obtain ⟨k2, g2⟩ := mZ (Low := Low) (Mine := Mine) (AnchW := AnchW) (vals := vals) hty hE hD hCN hWN hPc ws;obtain ⟨k, g⟩ := ie (Wg := Wg) (C := C) (Low := Low) (Mine := Mine) (AnchW := AnchW) (vals := vals) (PostB := PostB) hty hE hD;refine ⟨k, k2, fun c R0 R1 hc Qx H t6 t7 t8 t9 t10 t11 t12 t13 t14 t15 t16 t17 t18 w hF => ?_⟩;refine g c R0 R1 hc _ 0 _ (by omega) _ _ _ _ (ws.map Wd.v) Qx k2 (fun told' u6 u7 u8 u9 u10 u11 u12 u13 u14 u15 u16 u17 u18 w' hw => ?_) t6 t7 t8 t9 t10 t11 t12 t13 t14 t15 t16 t17 t18 w hF;refine g2 c R0 R1 hc told' (0 + 1) _ (by omega) Qx (fun told'' v6 v7 v8 v9 v10 v11 v12 v13 v14 v15 v16 v17 v18 w'' hw' => H told'' _ _ _ _ _ _ _ _ _ _ _ _ _ w'' ?_) _ _ _ _ _ _ _ _ _ _ _ _ _ w' hw;rw [List.length_cons, List.flatMap_cons, show ws.length + 1 = 0 + 1 + ws.length from by omega];simpa using hw'
 obtain ⟨k, k2, g⟩ := key;co_apply Exists.intro;intro w hN;have hF : GI p (.slice none 0 0) 0 [] w := ⟨⟨rfl, .inl ⟨rfl, rfl⟩⟩, hN⟩;co_apply eY Tryz.func34 (by rfl) rfl;simp only [Tryz.ntmps34, List.size_toArray, List.length_cons, List.length_nil, Nat.reduceAdd, Nat.reduceSub, Array.replicate_succ, Array.replicate_zero, List.push_toArray, List.append_toArray, List.nil_append, List.cons_append];co_apply cj;co_apply bd;simp only [List.size_toArray, List.length_cons, List.length_nil, Nat.reduceAdd, Nat.zero_add, List.range, List.range.loop];co_apply aG rfl (by rfl);intro _ hR K hK;replace hF := (GI.rely) hF hR;clear hR
 skip
 go_simp
 try (unfold stored; go_simp)
 refine hK _ _ ⟨?_, ?_⟩
 · co_still (dj p E Dn)
 clear hK K
 try walk_nrm
 co_apply bu
 try simp only [ThenX]
 try co_then
 co_apply cj;co_apply bd;simp only [List.size_toArray, List.length_cons, List.length_nil, Nat.reduceAdd, Nat.zero_add, List.range, List.range.loop];co_apply aG rfl (by rfl);intro _ hR K hK;replace hF := (GI.rely) hF hR;clear hR
 skip
 go_simp
 try (unfold stored; go_simp)
 refine hK _ _ ⟨?_, ?_⟩
 · co_still (dj p E Dn)
 clear hK K
 try walk_nrm
 co_apply bu
 try simp only [ThenX]
 try co_then
 co_apply eC;co_apply lg;exact g _ _ _ rfl _ (fun told' u6 u7 u8 u9 u10 u11 u12 u13 u14 u15 u16 u17 u18 w' hw => ⟨rfl, _, resultsC_tmp (t := 4) (by rfl) _, rfl, hw⟩) _ _ _ _ _ _ _ _ _ _ _ _ _ _ hF
end Go.Proofs.YtejkelcaljmnoaaGreatDoor
namespace Go.Hx
open Go.Conc Go.ConcX
def ShR (Sh : Loc → Prop) (N : Nat) : Loc → Prop := fun l => Sh l ∨ InWg (N + 6) l
def OkW (Wg C : Nat) (act : MemAct) : Prop := (∀ x, act.touch? = some x → ∃ a : Addr, x.loc = .cell a ∧ ((a.block = Wg ∧ x.kind ≠ .plain) ∨ (a.block = C ∧ x.kind = .plain))) ∧ ∀ a, act ≠ .mark (.release a)
@[reducible] def shyW (Wg C : Nat) (stop : Goroutine → World → Prop) : Shy Wg C where
 ok := OkW Wg C
 atomicWg := fun a wr h => ⟨fun x hx => by simp only [MemAct.touch?, Option.some.injEq] at hx; subst hx; exact ⟨a, rfl, .inl ⟨h, by simp⟩⟩, by simp⟩
 readWg := fun a h => ⟨fun x hx => by simp only [MemAct.touch?, Option.some.injEq] at hx; subst hx; exact ⟨a, rfl, .inl ⟨h, by simp⟩⟩, by simp⟩
 writeWg := fun a h => ⟨fun x hx => by simp only [MemAct.touch?, Option.some.injEq] at hx; subst hx; exact ⟨a, rfl, .inl ⟨h, by simp⟩⟩, by simp⟩
 theirs := fun a wr h => ⟨fun x hx => by simp only [MemAct.touch?, Option.some.injEq] at hx; subst hx; exact ⟨a, rfl, .inr ⟨h, by simp⟩⟩, by simp⟩
 disable := ⟨fun x hx => by simp [MemAct.touch?] at hx, by simp⟩
 enable := ⟨fun x hx => by simp [MemAct.touch?] at hx, by simp⟩
 relMerge := ⟨fun x hx => by simp [MemAct.touch?] at hx, by simp⟩
 acquire := ⟨fun x hx => by simp [MemAct.touch?] at hx, by simp⟩
 go1 := ⟨fun x hx => by simp [MemAct.touch?] at hx, by simp⟩
 start := ⟨fun x hx => by simp [MemAct.touch?] at hx, by simp⟩
 stop := stop
section
variable {N : Nat} {Sh : Loc → Prop} {stop : Goroutine → World → Prop}
def Elder (Sh : Loc → Prop) (N : Nat) : Prop := ∀ l, Sh l → ∃ b, blk l = some b ∧ b < N
theorem Elder.not (h : Elder Sh N) {b : Nat} (hb : N ≤ b) (i : Nat) : ¬ Sh (.cell ⟨b, i, none⟩) := fun s => by
 obtain ⟨x, h1, h2⟩ := h _ s;simp [blk] at h1;omega
theorem Elder.next (h : Elder Sh N) : Elder (ShR Sh N) (N + 7) := fun l hl => by
 rcases hl with s | ⟨a, rfl, ha⟩
 · obtain ⟨b, h1, h2⟩ := h l s; exact ⟨b, h1, by omega⟩
 · exact ⟨_, rfl, by omega⟩
theorem fF {e : Event} {m : Mark} (h : e.loc = .mark m) : MemAct.ofEvent e = .mark m := by
 obtain ⟨l, wr, sy⟩ := e;simp only at h;subst h;rfl
theorem vV (h : Elder Sh N) {e : Event} (hk : OkW (N + 6) (N + 1) (MemAct.ofEvent e)) (h1 : e.loc ≠ .mark .disable) (h2 : e.loc ≠ .mark .enable) : EvP Sh e :=
 ⟨fun x hx hs => by
   obtain ⟨a, ha, hb⟩ := hk.1 x hx;rw [ha] at hs;obtain ⟨y, h3, h4⟩ := h _ hs;simp only [blk, Option.some.injEq] at h3;rcases hb with ⟨z, _⟩ | ⟨z, _⟩ <;> omega, h1, h2⟩
theorem th (h : Elder Sh N) {e : Event} (hk : OkW (N + 6) (N + 1) (MemAct.ofEvent e)) (h1 : e.loc ≠ .mark .disable) (h2 : e.loc ≠ .mark .enable) : EvP (ShR Sh N) e :=
 ⟨fun x hx hs => by
   obtain ⟨a, ha, hb⟩ := hk.1 x hx;rcases hb with ⟨_, z⟩ | ⟨z, _⟩
   · exact z
   · rw [ha] at hs;rcases hs with s | ⟨a', e', ha'⟩
     · obtain ⟨y, h3, h4⟩ := h _ s;simp only [blk, Option.some.injEq] at h3;omega
     · cases e'; omega, h1, h2⟩
theorem yK {a : Addr} (ha : a.block = N + 1) : ThJ (N + 6) (N + 1) (.cell a) := ⟨a, rfl, ha, by omega⟩
theorem yL {a : Addr} (ha : a.block = N + 6) : ShJ (N + 6) (N + 1) (.cell a) := .inl ⟨a, rfl, ha⟩
theorem Bu (Mine : Loc → Prop) (stop : Goroutine → World → Prop) : letI := shyW (N + 6) (N + 1) stop; ∀ e, EvQ Mine (N + 6) (N + 1) 0 e → Ev0 (ShR Sh N) e := by
 intro e he;obtain ⟨_, h2, _, hk⟩ := he.1 0 "";refine ⟨fun x hx => ?_, fun a ha => hk.2 a (fF ha)⟩;obtain ⟨a, ha, hb⟩ := hk.1 x hx;rcases hb with ⟨z, z'⟩ | ⟨z, _⟩
 · exact ⟨.inr ⟨a, ha, z⟩, z'⟩
 · have := ((h2 x hx).2.2 (by rw [ha]; exact yK z)).1;omega
theorem Bv (h : Elder Sh N) (Mine : Loc → Prop) (stop : Goroutine → World → Prop) : letI := shyW (N + 6) (N + 1) stop; ∀ e, EvJ Mine (N + 6) (N + 1) e → EvP (ShR Sh N) e := by
 intro e he;obtain ⟨_, _, _, hk⟩ := he.1 0 "";exact th h hk he.2.1 he.2.2
theorem yM (h : Elder Sh N) (stop : Goroutine → World → Prop) : letI := shyW (N + 6) (N + 1) stop; ∀ w w' es, DE (EvS (N + 6) (N + 1)) w w' es → ∀ e ∈ es, EvP Sh e := by
 intro w w' es he e hm;obtain ⟨_, _, _, h1, h2, hk⟩ := he e hm;exact vV h hk (fun z => h1 (fF z)) (fun z => h2 (fF z))
end
open Go.ConcN (sumTo upd sumTo_upd upd_ne upd_same)
def Shs : List Nat → Loc → Prop
 | [] => fun _ => False
 | N :: s => ShR (Shs s) N
def D0 (Sh : Loc → Prop) : World → World → Array Event → Prop := fun _ _ es => ∀ e ∈ es, EvP Sh e
theorem jO (Sh : Loc → Prop) : Terms AtRel (D0 Sh) := ⟨atRel_trans, fun _ => by simp [D0]⟩
def Mine0 : Loc → Prop := fun _ => False
theorem dK {P : Program} {main : Bool} {R : World → World → Prop} {D D' : World → World → Array Event → Prop} {Stop Stop' : Goroutine → World → Prop} (hD : ∀ w w' es, D w w' es → D' w w' es) (hS : ∀ g w, Stop g w → Stop' g w) :
   ∀ (n : Nat) (g : Goroutine) (w : World), Goes P main R D Stop n g w → Goes P main R D' Stop' n g w
 | 0, _, _, h => fun w₁ hr => hS _ _ (h w₁ hr)
 | n + 1, g, w, h => by
   rcases h with h | ⟨hr, h⟩
   · exact .inl fun w₁ h₁ => hS _ _ (h w₁ h₁)
   · refine .inr ⟨hr, fun w₁ h₁ => ?_⟩;have := h w₁ h₁
     revert this
     cases stepG P main g w₁ with
     | go g' w' es => exact fun ⟨x, y⟩ => ⟨hD _ _ _ x, dK hD hS n g' w' y⟩
     | _ => exact id
section
variable [Payload] {P : Program}
omit [Payload] in
theorem ri {Sh : Loc → Prop} {d₀ : Nat} {m : Mark} (hm : m = .disable ∨ m = .enable) {gs' : Array Goroutine} {a' g' : Goroutine} {w' : World} {sl' sl'' : Option (Nat × Nat)} {t' : Trace} {q' : Nat → Nat} {d : Nat}
   (h0' : gs'[0]? = some a') (hL' : Leavers P t' gs' q') (hP' : Past0 Sh t' d₀) (hgo : stepG P true a' (w'.at d) = .go g' (w'.at d) #[mk m]) (hst : stepT P (crowd gs' w' sl') = runT P (crowd gs' (w'.at d) sl'') 0) :
   ∃ (gs'' : Array Goroutine) (t'' : Trace), runNT P 1 (crowd gs' w' sl') t' = (.next (crowd gs'' (w'.at d) sl''), t'') ∧ gs''.size = gs'.size ∧ gs''[0]? = some g' ∧ Leavers P t'' gs'' q' ∧ Past0 Sh t'' (deafBehind d₀ #[mk m]) := by
 have hpos : 0 < gs'.size := (Array.getElem?_eq_some_iff.1 h0').1;have hrunT := runT_crowd_go (P := P) (sl := sl'') (i := 0) h0' (show stepG P (0 == 0) a' (w'.at d) = _ from hgo);refine ⟨(gs'.map (Go.Conc.woken P a' g' (w'.at d))).setIfInBounds 0 g', _, ?_, by simp, by simp [hpos], ⟨fun j x hj hx => ?_, fun j hj => ?_⟩, hP'.word a'.frame.fn a'.frame.place hm⟩
 · simp only [runNT, hst, hrunT]
 · rw [Array.getElem?_setIfInBounds_ne (by omega), Array.getElem?_map] at hx;obtain ⟨y, hy, rfl⟩ := Option.map_eq_some_iff.1 hx;have hq := hL'.old j y hj hy;rw [woken_quitsD hq, Deaf_other t' (g' := 0) (by omega) _ aL];exact hq
 · have hj' : gs'.size ≤ j := by simpa using hj
   rw [Deaf_other t' (g' := 0) (by omega) _ aL];exact hL'.above j hj'
end
end Go.Hx
namespace Go.Hx
open Go.Conc
structure New (W : World) (os : List Obj) (w : World) : Prop where
 tape : w.tape = W.tape
 os' : w.os = W.os
 output : w.output = W.output
 heap : w.heap = W.heap ++ os.toArray
section
variable {W w w₁ : World} {os : List Obj}
theorem New.refl (W : World) : New W [] W := ⟨rfl, rfl, rfl, by simp⟩
theorem New.rely (h : New W os w) (r : AtRel w w₁) : New W os w₁ := by obtain ⟨d, rfl⟩ := r; exact ⟨h.tape, h.os', h.output, h.heap⟩
theorem New.alloc (h : New W os w) (o : Obj) : New W (os ++ [o]) (w.alloc o) := ⟨h.tape, h.os', h.output, by
 show w.heap.push o = _;rw [h.heap];apply Array.ext';simp⟩
theorem New.size (h : New W os w) : w.heap.size = W.heap.size + os.length := by simp [h.heap]
theorem New.get (h : New W os w) {i : Nat} {o : Obj} (ho : os[i]? = some o) : w.heap[W.heap.size + i]? = some o := by
 rw [h.heap, Array.getElem?_append_right (by omega)];simpa using ho
theorem New.old (h : New W os w) {b : Nat} (hb : b < W.heap.size) : w.heap[b]? = W.heap[b]? := by rw [h.heap, Array.getElem?_append_left hb]
theorem New.cell (h : New W os w) {i : Nat} {cs : Array Value} {ty : TypeId} (ho : os[i]? = some (.cells cs ty (0, 0))) {j : Nat} {v : Value} (hv : cs[j]? = some v) : w.cell? ⟨W.heap.size + i, j, none⟩ = some v := by
 simp [World.cell?, h.get ho, hv]
theorem New.thaw (h : New W os w) {i : Nat} {cs : Array Value} {ty : TypeId} (ho : os[i]? = some (.cells cs ty (0, 0))) (j : Nat) : w.frozen? ⟨W.heap.size + i, j, none⟩ = false := by
 simp [World.frozen?, h.get ho]
theorem New.set (h : New W os w) {i : Nat} {cs : Array Value} {ty : TypeId} (ho : os[i]? = some (.cells cs ty (0, 0))) (j : Nat) (v : Value) : New W (os.set i (.cells (cs.setIfInBounds j v) ty (0, 0))) (w.setCell ⟨W.heap.size + i, j, none⟩ v) := by
 refine ⟨h.tape, h.os', h.output, ?_⟩;have hlt : i < os.length := (List.getElem?_eq_some_iff.1 ho).1;have hgi : os[i] = .cells cs ty (0, 0) := (List.getElem?_eq_some_iff.1 ho).2;apply Array.ext_getElem?;intro x;by_cases hx : x = W.heap.size + i
 · subst hx;have hg := h.get ho;have hsz : W.heap.size + i < w.heap.size := (Array.getElem?_eq_some_iff.1 hg).1;have hg2 : w.heap[W.heap.size + i] = .cells cs ty (0, 0) := (Array.getElem?_eq_some_iff.1 hg).2;rw [Array.getElem?_append_right (by omega)];simp [World.setCell, hsz, Array.getElem_modify, hg2, hlt]
 · rw [fD w _ v hx, h.heap];rcases Nat.lt_or_ge x W.heap.size with hl | hl
   · rw [Array.getElem?_append_left hl, Array.getElem?_append_left hl]
   · rw [Array.getElem?_append_right hl, Array.getElem?_append_right hl];have : i ≠ x - W.heap.size := by omega
     simp [List.getElem?_set_ne this]
variable {Sh : Loc → Prop}
theorem dX {ad : Addr} (wr sy : Bool) (h : ¬ Sh (.cell ad)) : EvP Sh ⟨.cell ad, wr, sy⟩ :=
 ⟨fun x hx hs => by
   have hx' : x.loc = .cell ad := by cases sy <;> (simp [MemAct.ofEvent, MemAct.touch?] at hx; subst hx; rfl)
   rw [hx'] at hs;exact absurd hs h, by simp, by simp⟩
end
end Go.Hx
namespace Go.Hx
open Go.Conc Go.ConcX
open Go.ConcN (sumTo upd sumTo_upd upd_ne upd_same)
def pZ (N : Nat) : Par := ⟨51, N + 7, fun l => ∃ a : Addr, l = .cell a ∧ (a.block = N + 3 ∨ a.block = N + 5)⟩
section
variable {N : Nat} {Sh : Loc → Prop} {stop : Goroutine → World → Prop}
theorem x8 (h : Elder Sh N) : ShOk (pZ N) (ShR Sh N) where
 low := fun l b hl hb => by
   obtain ⟨x, h1, h2⟩ := h.next l hl
   rw [hb] at h1;cases h1;exact h2
 st := fun l b hl hb => by
   obtain ⟨a, rfl, ha⟩ := hl;simp only [blk, Option.some.injEq] at hb;show b < N + 7;omega
 ap := fun l hl hs => by
   obtain ⟨a, rfl, ha⟩ := hl;rcases hs with s | ⟨a', e, ha'⟩
   · obtain ⟨x, h1, h2⟩ := h _ s;simp only [blk, Option.some.injEq] at h1;omega
   · cases e; omega
theorem Bw (h : Elder Sh N) (Mine : Loc → Prop) (stop : Goroutine → World → Prop) : letI := shyW (N + 6) (N + 1) stop; ∀ w : World, (pZ N).N0 ≤ w.heap.size → ∀ e, EvQ Mine (N + 6) (N + 1) 1 e → EvB (pZ N) (ShR Sh N) w e := by
 intro w hw e he;obtain ⟨_, h2, _, hk⟩ := he.1 0 "";refine ⟨fun x hx hm => ?_, he.2.1, he.2.2.1⟩;have hw' : N + 7 ≤ w.heap.size := hw;obtain ⟨a, ha, hb⟩ := hk.1 x hx;have hcls : a.block = N + 6 ∨ a.block = N + 1 → ClsB (pZ N) w x := fun hz => ⟨a.block, by rw [ha]; rfl, by omega, fun f => by have : N + 7 ≤ a.block := f.1; omega⟩;have hst : a.block = N + 6 ∨ a.block = N + 1 → ((pZ N).Still x.loc → x.write = false) := fun hz hs => by
   obtain ⟨a', e', hs⟩ := hs;rw [ha] at e';cases e';omega
 rcases hb with ⟨z, z'⟩ | ⟨z, z'⟩
 · refine ⟨hcls (.inl z), fun _ => ?_, hst (.inl z)⟩;have := ((h2 x hx).2.1 (by rw [ha]; exact yL z)).2;cases hkk : x.kind with
   | plain => exact absurd hkk z'
   | atomic => rfl
   | said => exact absurd (this hkk) (by decide)
 · refine ⟨hcls (.inr z), fun hs => ?_, hst (.inr z)⟩;rw [ha] at hs;rcases hs with s | ⟨a', e', ha'⟩
   · obtain ⟨y, h3, h4⟩ := h _ s;simp only [blk, Option.some.injEq] at h3;omega
   · cases e'; omega
theorem Bx (h : Elder Sh N) (Mine : Loc → Prop) (stop : Goroutine → World → Prop) : letI := shyW (N + 6) (N + 1) stop; ∀ c, c ≠ 0 → Fix (N + 6) (N + 1) (N + 7) Mine (pZ N) (ShR Sh N) c := by
 intro c hc
 letI := shyW (N + 6) (N + 1) stop
 exact ⟨by omega, by omega, by omega, Nat.le_refl _, hc, x8 h, fun l hl => .inr hl, fun i s => by obtain ⟨a, e, ha⟩ := s; cases e; simp only at ha; omega, Bu Mine stop⟩
end
section
variable [Payload] (P : Program)
def RunZ (N : Nat) (s : List Nat) (Next : Goroutine → World → Prop) (g : Goroutine) (w : World) : Prop :=
 letI := shyW (N + 6) (N + 1) Next
 Elder (Shs s) N ∧ ∃ (vals : List Value) (AnchW : Goroutine → World → Prop) (Post : Value → World → Prop) (PostB : World → Prop) (zE zD : Value),
   (∀ w w₁, RB (pZ N) (N + 2) (N + 4) w w₁ → PostB w → PostB w₁) ∧ (∀ w w₁, Aside2 (N + 1) (N + 6) w w₁ → PostB w → PostB w₁) ∧ (∀ w, PostB w → N + 7 ≤ w.heap.size) ∧
   (∀ g w, AnchW g w → g.status = .running) ∧ (∀ g w, AnchW g w → ∃ m, Goes P true (RPa 87 (N + 6) (N + 1) vals) (DPi Mine0 (N + 6) (N + 1) (N + 7)) (AtW1 P 87 (N + 6) (N + 1) (N + 7) vals Mine0 AnchW Post) m g w) ∧
   AtMkS P .disable (fun a w => ∃ n, Goes P true AtRel (DE (EvS (N + 6) (N + 1))) (AtMkS P .enable fun a w => ∃ n, Goes P true AtRel (DE (EvS (N + 6) (N + 1))) (AtFork P (Shs s) (Both P 87 (N + 6) (N + 1) (N + 7) vals Mine0 AnchW (pZ N) (ShR (Shs s) N) (N + 2) (N + 4) zE zD PostB)) n a w) n a w) g w
def StopZ (Post : Value → World → Prop) : Nat → List Nat → Goroutine → World → Prop
 | 0, s => AtEnd0 P (Shs s) Post
 | n + 1, s => fun g w => ∃ N, RunZ P N s (fun g' w' => ∃ m, Goes P true AtRel (D0 (Shs (N :: s))) (StopZ Post n (N :: s)) m g' w') g w
def FZ (Post : Value → World → Prop) : Fam (Nat × List Nat) := ⟨fun _ => AtRel, fun s => D0 (Shs s.2), fun s => StopZ P Post s.1 s.2, fun s => jO _⟩
end
section
variable [Payload] {P : Program}
theorem tj {s : List Nat} {Next : Nat → Goroutine → World → Prop} {gs : Array Goroutine} {a : Goroutine} {w : World} {sl : Option (Nat × Nat)} {t : Trace} {q : Nat → Nat} {m : Nat}
   (h0 : gs[0]? = some a) (hL : Leavers P t gs q) (hP : Past0 (Shs s) t) (hG : Goes P true AtRel (D0 (Shs s)) (fun g w => ∃ N, RunZ P N s (Next N) g w) m a w) :
   ∃ (N : Nat) (k : Nat) (gs' : Array Goroutine) (a' : Goroutine) (w' : World) (sl' : Option (Nat × Nat)) (t' : Trace) (q' : Nat → Nat),
     runNT P k (crowd gs w sl) t = (.next (crowd gs' w' sl'), t') ∧ gs'[0]? = some a' ∧ Leavers P t' gs' q' ∧ Past0 (Shs (N :: s)) t' ∧ ∃ d, Next N a' (w'.at d) := by
 obtain ⟨k1, gs1, a1, w1, sl1, t1, q1, d, sl1', r1, hsz1, h01, hL1, hP1, ⟨N, hE, vals, AnchW, Post, PostB, zE, zD, x1, x2, x3, x4, x5, ⟨_, g', hgo, n2, hG2⟩⟩, hst1⟩ := mU (fun g w h => by obtain ⟨_, _, _, _, _, _, _, _, _, _, _, _, _, h⟩ := h; exact h.1) (fun _ _ _ h => h) _ m gs a w sl t q rfl h0 hL hP hG
 letI := shyW (N + 6) (N + 1) (Next N)
 obtain ⟨gs2, t2, r2, hsz2, h02, hL2, hP2⟩ := ri (.inl rfl) h01 hL1 hP1 hgo hst1;obtain ⟨k3, gs3, a3, w3, sl3, t3, q3, r3, hsz3, h03, hL3, hP3, n3, hG3⟩ := Bt (sl := sl1') (.inr rfl) (yM hE (Next N)) h02 hL2 hP2 hG2;have hP3' : Past0 (Shs s) t3 := by
   have e : deafBehind (deafBehind 0 #[mk .disable]) #[mk .enable] = 0 := by rfl
   rw [e] at hP3;exact hP3
 obtain ⟨k4, gs4, a4, w4, sl4, t4, q4, r4, hsz4, h04, _, hS, hL4, hP4⟩ := yJ (Wg := N + 6) (C := N + 1) (Low := N + 7) (Mine := Mine0) (p := pZ N) (Sh' := ShR (Shs s) N) (E := N + 2) (Dn := N + 4) (sl := sl3) (Post := Post)
   (fun l h => .inl h) (Bx hE Mine0 (Next N)) (by omega) (by omega) (by omega) (show N + 4 < N + 7 by omega) (fun l hl e => by
     subst e;rcases hl with s' | ⟨a, e, _⟩
     · obtain ⟨b, h1, h2⟩ := hE _ s';simp only [blk, Option.some.injEq] at h1;omega
     · cases e) (Bw hE Mine0 (Next N)) (Bv hE Mine0 (Next N)) x1 x2 x3 x4 x5 (yM hE (Next N)) h03 hL3 hP3' hG3
 refine ⟨N, k1 + (1 + (k3 + k4)), gs4, a4, w4, sl4, t4, q4, ?_, h04, hL4, hP4, hS⟩;rw [runNT_add, r1];simp only [];rw [runNT_add, r2];simp only [];rw [runNT_add, r3];exact r4
theorem lh {Post : Value → World → Prop} : ∀ (n : Nat) (s : List Nat) (gs : Array Goroutine) (a : Goroutine) (w : World) (sl : Option (Nat × Nat)) (t : Trace) (q : Nat → Nat) (m : Nat),
   gs[0]? = some a → Leavers P t gs q → Past0 (Shs s) t → Goes P true AtRel (D0 (Shs s)) (StopZ P Post n s) m a w →
   ∃ k last o w' t', runNT P (k + 1) (crowd gs w sl) t = (.ended o w', t') ∧ runN P k (crowd gs w sl) = .next last ∧ step P last = .ended o w' ∧ Good P Post last o w' t'
 | 0, s, gs, a, w, sl, t, q, m, h0, hL, hP, hG => zU (fun _ _ _ h => h) h0 hL hP hG
 | n + 1, s, gs, a, w, sl, t, q, m, h0, hL, hP, hG => by
   obtain ⟨N, k1, gs1, a1, w1, sl1, t1, q1, r1, h01, hL1, hP1, d, m1, hG1⟩ := tj (sl := sl) h0 hL hP hG;obtain ⟨k2, last, o, w', t', r2, r3, r4, r5⟩ := lh n (N :: s) gs1 a1 w1 sl1 t1 q1 m1 h01 hL1 hP1 (Goes.rely atRel_trans hG1 ⟨w1.drawn, rfl⟩);refine ⟨k1 + k2, last, o, w', t', ?_, ?_, r4, r5⟩
   · rw [Nat.add_assoc, runNT_add, r1];exact r2
   · rw [← runNT_fst P _ _ t, runNT_add, r1];simp only [];rw [runNT_fst];exact r3
end
def boxZ (N K : Nat) (ticks : Int) (st : Int) : List Obj :=
 [.cells #[.pointer (some ⟨K, 0, none⟩)] 35, .cells #[.int .i64 ticks] 3, .chan 0 #[] false 0 0 false, .cells #[.chan (some (N + 2))] 76, .chan 0 #[] false 0 0 false, .cells #[.chan (some (N + 4))] 77, .cells #[.int .u64 st, .int .u32 0] 87]
end Go.Hx
namespace Go.Hx
open Go.Conc
theorem jP {σ : Type} {F : Fam σ} {P : Program} {main : Bool} {fn : FuncId} {Q : σ → Exit → Act → World → Prop} {s : σ} {a : Act} {w : World} {c : Code} {n m : Nat} {b : Frame} {k : List Item} {cs : List Frame} (h : wpX F P main fn c n s Q a w) (hb : b.fn = fn) (hk : b.kind ≠ .early)
   (hc : ∀ s' e a' w', Q s' e a' w' → After P main (F.R s') (F.D s') (F.Stop s') m b k cs e a' w') : Goes P main (F.R s) (F.D s) (F.Stop s) (m + n) (G (b.at a (.code c :: k)) cs) w := h b k cs m hb hk hc
end Go.Hx
namespace Go.Hx
open Go.Conc Go.RowKit
section
variable (P : Program) (p : Par) (Sh : Loc → Prop) (E Dn : Nat) (PostB : World → Prop) (Aft : Goroutine → World → Prop)
def tellF : Fam (List Value) := ⟨fun _ => RB p E Dn, fun _ => DT p Sh E Dn, StopT P p Sh E Dn PostB Aft, fun _ => eH p Sh E Dn⟩
end
section
variable {P : Program} {p : Par} {Sh : Loc → Prop} {E Dn : Nat} {PostB : World → Prop} {Aft : Goroutine → World → Prop} {fn : FuncId} {Q : List Value → Exit → Act → World → Prop} {a : Act} {w : World}
theorem rj {ops : Array Oper} {i : Nat} {rest : List Nat} {o : Oper} {n : Nat} {v z' : Value} {vs : List Value} (ho : ops[i]? = some o) (hw : Region.wanted o (yielded ops a.tmps) = true)
   (hrun : ∀ w₁, RB p E Dn w w₁ → (execOp a.eval o).run P w₁ = .ok (.comm #[scase E v z'] true .send) w₁ ∧ ∀ e ∈ listed P fn a o w₁, EvB p Sh w₁ e)
   (hnext : ∀ w₂, RB p E Dn w w₂ → OpsX (tellF P p Sh E Dn PostB Aft) P false fn ops rest n vs Q (a.put o.dst undef) w₂) :
   OpsX (tellF P p Sh E Dn PostB Aft) P false fn ops (i :: rest) 0 (v :: vs) Q a w := by
 intro b k cs m hb hk hc;refine Goes.stop fun w₁ h₁ => ?_;obtain ⟨hr, hev⟩ := hrun w₁ h₁;refine (show AtTell P p Sh E Dn v (fun g₂ w₂ => Tells P p Sh E Dn PostB Aft vs (Conc.served g₂ undef) w₂) _ w₁ from ⟨rfl, _, z', stepG_comm ho hw hk hr, by rw [hb]; exact hev, fun w₂ h₂ => ?_⟩);show Tells P p Sh E Dn PostB Aft vs (Conc.served (core (G (b.at a (.inRegion ops (i :: rest) :: k)) cs)) undef) w₂;rw [core_G, served_G, ho];exact (fb _ _ _ _ _ _ _ _ _ _).2 ⟨_, hnext w₂ (RB.trans _ _ _ h₁ h₂) b k cs m hb hk hc⟩
end
end Go.Hx
namespace Go.Hx
open Go.Conc
section
variable {P : Program} {main : Bool} {R : World → World → Prop} {D : World → World → Array Event → Prop} {Stop : Goroutine → World → Prop} {b : Frame} {a : Act} {k : List Item} {cs : List Frame} {w : World}
theorem bA (T : Terms R D) {g g' : Goroutine} {n : Nat} (hr : g.status = .running) (hs : ∀ w, stepG P main g w = .go g' w #[]) (h : Goes P main R D Stop n g' w) : Goes P main R D Stop (n + 1) g w :=
 Goes.step hr fun w₁ h₁ => by rw [hs w₁]; exact ⟨T.idle _, h.rely T.trans h₁⟩
def dclose (ats : Array TypeId) (ty : TypeId) (c : Nat) : Deferred := { target := .builtin .close ats ty #[false], args := #[.chan (some c)] }
theorem iU {ops : Array Oper} {i : Nat} {rest : List Nat} {o : Oper} {x : Tmp} {c : Nat} {ats : Array TypeId} (ho : ops[i]? = some o) (hw : Region.wanted o (yielded ops a.tmps) = true) (hk : b.kind ≠ .early)
   (hop : o.op = .defer { callee := .builtin .close, args := #[.tmp x], argTypes := ats }) (hx : a.eval (.tmp x) = .chan (some c)) :
   stepG P main (G (b.at a (.inRegion ops (i :: rest) :: k)) cs) w = .go (G (b.at (Act.put ⟨a.tmps, dclose ats o.type c :: a.defers⟩ o.dst undef) (.inRegion ops rest :: k)) cs) w #[] := by
 have hr : (execOp a.eval o).run P w = .ok (.defer (dclose ats o.type c)) w := by
   unfold execOp;simp [hop, resolve, hx, dclose]
 have he : (execOp a.eval o).events P w #[] = #[] := by
   unfold execOp;simp [hop, resolve]
 have hfin : (b.at ⟨a.tmps, dclose ats o.type c :: a.defers⟩ (.inRegion ops (i :: rest) :: k)).finish undef = b.at (Act.put ⟨a.tmps, dclose ats o.type c :: a.defers⟩ o.dst undef) (.inRegion ops rest :: k) := by rw [Frame.finish_at, ho]; rfl
 have hk' : (b.kind == CallKind.early) = false := by simpa using hk
 rw [stepG_oper ho hw, ← hfin];simp [stepG.apply, hr, he, G, Frame.at, hk', GStep.after, seen_none]
theorem ig {ats : Array TypeId} {ty : TypeId} {ds : List Deferred} {todo : List Item} {c room s r : Nat} {buf : Array Value} {tm : Bool} (hd : a.defers = dclose ats ty c :: ds) (h : w.heap[c]? = some (.chan room buf false s r tm)) (hq : (P.funcs[b.fn]?).any (·.norace) = false) :
   stepG P main (G { b.at a todo with mode := .returning } cs) w = .go (G { b.at ⟨a.tmps, ds⟩ todo with mode := .returning } cs) (w.setChan c room buf true s r tm) (closeEvents c) := by
 have h1 := run_close_open (P := P) (w := w) ats ty h;have h2 := events_close_open (P := P) (w := w) (es := #[]) ats ty h;have hr : (invoke (.builtin .close ats ty #[false]) #[.chan (some c)]).run P w = .ok (.value (.tuple #[])) (w.setChan c room buf true s r tm) := by
   simp [invoke, go_sem, h1, World.setChan]
 have he : (invoke (.builtin .close ats ty #[false]) #[.chan (some c)]).events P w #[] = closeEvents c := by
   simp [invoke, go_sem, h1, h2, closeEvents]
 have hs : seen P b.fn (closeEvents c) = closeEvents c := by
   exact seen_eq hq (by intro e he f; simp only [closeEvents, List.mem_toArray, List.mem_cons, List.not_mem_nil, or_false] at he; rcases he with rfl | rfl <;> simp)
 simp [G, stepG, unwind, callDeferred, Frame.at, hd, dclose, hr, he, hs, GStep.after]
end
end Go.Hx
namespace Go.Proofs.YtejkelcaljmnoaaGreatDoor
open Go.Conc Go.RowKit Go.Hx Go.ConcX Go.Conc.Lib Go.ConcX.Gen
noncomputable def tl6 : Code := match Tryz.f19.body with | some (.seq _ (.seq _ (.seq _ (.seq _ (.seq _ t))))) => t | _ => .skip
noncomputable def tl7 : Code := match tl6 with | .seq _ t => t | _ => .skip
noncomputable def tl8 : Code := match tl7 with | .seq _ t => t | _ => .skip
noncomputable def tl9 : Code := match tl8 with | .seq _ t => t | _ => .skip
noncomputable def tl10 : Code := match tl9 with | .seq _ t => t | _ => .skip
noncomputable def r8 : Code := match tl8 with | .seq r _ => r | _ => .skip
theorem yN : tl8 = .seq r8 tl9 := by simp only [r8, tl9, tl8, tl7, tl6, Tryz.f19]
noncomputable def ops7 : Array Oper := match tl7 with | .seq (.region _ ops _) _ => ops | _ => #[]
noncomputable def ops9 : Array Oper := match tl9 with | .seq (.region _ ops _) _ => ops | _ => #[]
def TR (N K : Nat) (ticks : Int) (t9 t18 t19 t20 t21 t22 t23 : Value) : Array Value :=
 #[.pointer (some ⟨K, 0, none⟩), .int .i64 ticks, .pointer (some ⟨N, 0, none⟩), .pointer (some ⟨N + 1, 0, none⟩), .slice none 0 0, .int .i64 0, .pointer (some ⟨N + 3, 0, none⟩), .pointer (some ⟨N + 5, 0, none⟩), .pointer (some ⟨N + 6, 0, none⟩), t9,
   .int .i64 ticks, .bool false, .bool false, .int .i64 ticks, .bool false, .bool false, .chan (some (N + 2)), .chan (some (N + 4)), t18, t19, t20, t21, t22, t23, undef]
def caps (N : Nat) : Array Value := #[.pointer (some ⟨N + 6, 0, none⟩), .pointer (some ⟨N + 5, 0, none⟩), .pointer (some ⟨N, 0, none⟩), .pointer (some ⟨N + 1, 0, none⟩), .pointer (some ⟨N + 3, 0, none⟩)]
def fv (N : Nat) : Value := .func (.func 31) #[] (caps N)
def started (N : Nat) : Deferred := { target := .fn (.func 31) (caps N), args := #[] }
noncomputable def fW (N K : Nat) (ticks : Int) (b : Frame) (k : List Item) (told : Value) : Frame :=
 b.at ⟨TR N K ticks told (.tuple #[]) (fv N) (.chan (some (N + 2))) (.chan (some (N + 4))) told undef, []⟩ (.inRegion ops9 (0 :: []) :: .code tl10 :: k)
def FJ (N : Nat) (PostB : World → Prop) (ws : List Wd) (told : Value) (w : World) : Prop := PostB w ∧ Hx.Told (pZ N) told ws.length (ws.flatMap Wd.c) w
def AncR (N K : Nat) [Shy (N + 6) (N + 1)] (ticks : Int) (b : Frame) (k : List Item) (cs : List Frame) (PostB : World → Prop) (ws : List Wd) (g : Goroutine) (w : World) : Prop :=
 ∃ told, AnchW7 Tryz.link (FJ N PostB ws told) (N + 6) (N + 1) [.int .i64 ticks] (fW N K ticks b k told) cs g w
structure BI (N : Nat) (w : World) : Prop where
 e : w.heap[N + 3]? = some (.cells #[.chan (some (N + 2))] 76 (0, 0))
 d : w.heap[N + 5]? = some (.cells #[.chan (some (N + 4))] 77 (0, 0))
 z : N + 7 ≤ w.heap.size
theorem BI.rely {N : Nat} {w w₁ : World} (h : BI N w) (r : RA (pZ N) w w₁) : BI N w₁ :=
 ⟨r.still _ _ _ _ ⟨0, _, rfl, .inl rfl⟩ h.e, r.still _ _ _ _ ⟨0, _, rfl, .inr rfl⟩ h.d, Nat.le_trans h.z r.kept.size⟩
theorem BI.ce {N : Nat} {w : World} (h : BI N w) : w.cell? ⟨N + 3, 0, none⟩ = some (.chan (some (N + 2))) := by simp [World.cell?, h.e]
theorem BI.cd {N : Nat} {w : World} (h : BI N w) : w.cell? ⟨N + 5, 0, none⟩ = some (.chan (some (N + 4))) := by simp [World.cell?, h.d]
theorem li {p : Par} {w : World} {ad : Addr} (h : p.Still (.cell ad)) : EvA p w ⟨.cell ad, false, false⟩ :=
 ⟨fun x hx _ => .inr (by simp [MemAct.ofEvent, MemAct.touch?] at hx; subst hx; exact ⟨h, rfl⟩), by simp, by simp⟩
section
variable {N K : Nat} [Shy (N + 6) (N + 1)] {ticks : Int} {b : Frame} {k : List Item} {cs : List Frame} {PostB : World → Prop} {ws : List Wd}
theorem fj2 (hPc : ∀ w w₁, Aside2 (N + 1) (N + 6) w w₁ → PostB w → PostB w₁) (told : Value) : ∀ w w', Aside2 (N + 1) (N + 6) w w' → FJ N PostB ws told w → FJ N PostB ws told w' := fun _ _ h1 h2 =>
 ⟨hPc _ _ h1 h2.1, Told.aside h2.2 (show N + 1 < N + 7 by omega) (show N + 6 < N + 7 by omega) h1⟩
theorem tk (hk : b.kind ≠ .early) (hPc : ∀ w w₁, Aside2 (N + 1) (N + 6) w w₁ → PostB w → PostB w₁) (told : Value) (w : World) (hF : EI (N + 6) (N + 1) [.int .i64 ticks] PostB (pZ N) told ws.length (ws.flatMap Wd.c) w) :
   Goes Tryz.prog true (RPa 87 (N + 6) (N + 1) [.int .i64 ticks]) (DPi Mine0 (N + 6) (N + 1) (N + 7)) (AtKd Tryz.prog 87 (N + 6) (N + 1) (N + 7) [.int .i64 ticks] Mine0 (AncR N K ticks b k cs PostB ws)) 6
     (G (b.at ⟨TR N K ticks told (.tuple #[]) (fv N) (.chan (some (N + 2))) (.chan (some (N + 4))) told undef, []⟩ (.code tl9 :: k)) cs) w := by
 have T := fo 87 (N + 6) (N + 1) (N + 7) [.int .i64 ticks] Mine0;have hA := @waitStart _ Tryz.link Mine0 (N + 6) (N + 1) (N + 7) _ [.int .i64 ticks] (FJ N PostB ws told) b ⟨TR N K ticks told (.tuple #[]) (fv N) (.chan (some (N + 2))) (.chan (some (N + 4))) told undef, []⟩ ops9 0 [] (.code tl10 :: k) cs Tryz.prog Tryz.wgLib (fj2 hPc told);simp only [ops9, tl10, tl9, tl8, tl7, tl6, Tryz.f19, body_wait, waitFn, Option.getD_some] at hA ⊢;refine bA T rfl (fun _ => stepG_seq) ?_;refine bA T rfl (fun _ => stepG_region) ?_;simp only [List.size_toArray, List.length_cons, List.length_nil, Nat.reduceAdd, Nat.zero_add, List.range, List.range.loop];refine Goes.step rfl fun w₁ h₁ => ?_;replace hF := EI.rely (show N + 1 < N + 7 by omega) (show N + 6 < N + 7 by omega) hPc hF h₁;refine goes_call rfl rfl hk rfl Tryz.func35 (nm_wait Tryz.link) rfl ⟨T.idle _, ?_⟩;simp only [TR] at hA ⊢
 walk_nrmf Tryz.f35
 refine dK (fun _ _ _ h => h) (fun g w h => ?_) _ _ _ (hA w₁ ⟨⟨hF.1, hF.2.2⟩, hF.2.1⟩);obtain ⟨h1, g', h2, m, h3⟩ := h;exact ⟨h1, g', h2, m, dK (fun _ _ _ h => h) (fun g w h => ⟨told, h⟩) _ _ _ h3⟩
theorem rk {P : Program} {ty : TypeId} {Wg C Low : Nat} [Shy Wg C] {vals : List Value} {Mine : Loc → Prop} {A A' : Goroutine → World → Prop} {Post : Value → World → Prop} (hA : ∀ g w, A g w → A' g w) (g : Goroutine) (w : World) (h : AtW1 P ty Wg C Low vals Mine A Post g w) : AtW1 P ty Wg C Low vals Mine A' Post g w := by
 obtain ⟨h1, g', h2, h3, h4⟩ := h;refine ⟨h1, g', h2, fun hw => ?_, h4⟩;obtain ⟨m, hm⟩ := h3 hw;refine ⟨m, dK (fun _ _ _ h => h) (fun g w h => ?_) _ _ _ hm⟩;obtain ⟨h5, h6, h7⟩ := h;refine ⟨h5, h6, fun hk => ?_⟩;obtain ⟨g'', h8, m', h9⟩ := h7 hk;exact ⟨g'', h8, m', dK (fun _ _ _ h => h) hA _ _ _ h9⟩
end
theorem tl {N K : Nat} {ticks : Int} {b : Frame} {k : List Item} {cs : List Frame} {PostB : World → Prop} {ws : List Wd} {Next : Goroutine → World → Prop} (hPc : ∀ w w₁, Aside2 (N + 1) (N + 6) w w₁ → PostB w → PostB w₁)
   (hc : ∀ told w', FJ N PostB ws told w' → Next (G (b.at ⟨TR N K ticks told (.tuple #[]) (fv N) (.chan (some (N + 2))) (.chan (some (N + 4))) told (.tuple #[]), []⟩ (.inRegion ops9 [] :: .code tl10 :: k)) cs) w') :
   letI := shyW (N + 6) (N + 1) Next; ∀ (Post : Value → World → Prop) g w, AncR N K ticks b k cs PostB ws g w → ∃ m, Goes Tryz.prog true (RPa 87 (N + 6) (N + 1) [.int .i64 ticks]) (DPi Mine0 (N + 6) (N + 1) (N + 7)) (AtW1 Tryz.prog 87 (N + 6) (N + 1) (N + 7) [.int .i64 ticks] Mine0 (AncR N K ticks b k cs PostB ws) Post) m g w := by
 intro Post g w h
 letI := shyW (N + 6) (N + 1) Next
 obtain ⟨told, h⟩ := h;obtain ⟨m, hm⟩ := waitRound (Mine := Mine0) (Low := N + 7) (Post := Post) (mT := 0) Tryz.wgLib (by omega) (fj2 (ws := ws) hPc told) (fun w hF _ _ => Goes.stop fun w₁ h₁ => ⟨rfl, by
   obtain ⟨d, rfl⟩ := h₁;have := hc told (w.at d) (fj2 (ws := ws) hPc told w _ ⟨rfl, rfl, rfl, rfl, fun _ _ _ => rfl⟩ hF);exact this⟩) g w h
 exact ⟨m, dK (fun _ _ _ h => h) (rk fun g w h => ⟨told, h⟩) _ _ _ hm⟩
section
variable {N K : Nat} [Shy (N + 6) (N + 1)] {ticks : Int} {b : Frame} {k : List Item} {cs : List Frame} {PostB : World → Prop} {ws : List Wd}
theorem m0 (hb : b.fn = 19) (hk : b.kind ≠ .early) (hPc : ∀ w w₁, Aside2 (N + 1) (N + 6) w w₁ → PostB w → PostB w₁) (hws : ws.length < 10000) (w : World) (hF : BI N w) :
   Gathers Tryz.prog (pZ N) (N + 2) (N + 4) zE44 zD57 PostB (FinW Tryz.prog 87 (N + 6) (N + 1) (N + 7) [.int .i64 ticks] Mine0 (AncR N K ticks b k cs PostB ws)) (ws.map Wd.v)
     (G (b.at ⟨TR N K ticks undef (.tuple #[]) (fv N) undef undef undef undef, []⟩ (.inRegion ops7 [] :: .code tl8 :: k)) cs) w := by
 rw [cU];obtain ⟨k20, g20⟩ := tf (p := pZ N) (E := N + 2) (Dn := N + 4) (Wg := N + 6) (C := N + 1) (Low := N + 7) (vals := [.int .i64 ticks]) (Mine := Mine0) (AnchW := AncR N K ticks b k cs PostB ws) (PostB := PostB) rfl (show N + 2 < N + 7 by omega) (show N + 4 < N + 7 by omega) (show N + 1 < N + 7 by omega) (show N + 6 < N + 7 by omega) hPc ws hws;rw [yN];co_apply Exists.intro;co_apply bA (dj (pZ N) (N + 2) (N + 4)) rfl (fun _ => stepG_region_end);co_apply bA (dj (pZ N) (N + 2) (N + 4)) rfl (fun _ => stepG_seq)
 co_apply jP (F := gF Tryz.prog 87 (N + 6) (N + 1) (N + 7) [.int .i64 ticks] Mine0 (AncR N K ticks b k cs PostB ws) (pZ N) (N + 2) (N + 4) zE44 zD57 PostB) (s := some (ws.map Wd.v)) (m := 6)
   (Q := fun s' e a' w' => e = .normal ∧ s' = none ∧ ∃ told, a' = ⟨TR N K ticks told (.tuple #[]) (fv N) (.chan (some (N + 2))) (.chan (some (N + 4))) told undef, []⟩ ∧ EI (N + 6) (N + 1) [.int .i64 ticks] PostB (pZ N) told ws.length (ws.flatMap Wd.c) w') (b := b) (k := .code tl9 :: k) (cs := cs) (fn := 19) ?_ hb hk ?_
 · simp only [TR, r8, tl8, tl7, tl6, Tryz.f19];co_apply bd;simp only [List.size_toArray, List.length_cons, List.length_nil, Nat.reduceAdd, Nat.zero_add, List.range, List.range.loop];co_apply aG rfl (by rfl);intro _ hR K hK;replace hF := (BI.rely) hF hR;clear hR;have hc := hF.ce;go_simp
   try (unfold stored; go_simp)
   refine hK _ _ ⟨?_, ?_⟩
   · (refine jz ?_; co_evs (exact li ⟨_, rfl, .inl rfl⟩))
   clear hK K
   try walk_nrm
   clear hc;co_apply aG rfl (by rfl);intro _ hR K hK;replace hF := (BI.rely) hF hR;clear hR;have hc := hF.cd;go_simp
   try (unfold stored; go_simp)
   refine hK _ _ ⟨?_, ?_⟩
   · (refine jz ?_; co_evs (exact li ⟨_, rfl, .inr rfl⟩))
   clear hK K
   try walk_nrm
   clear hc;co_apply f9 rfl (by rfl) rfl
   · walk_nrm
     exact g20 _ hF.z
   intro s' v w' hv;obtain ⟨rfl, hI⟩ := hv;clear hF;have hF := hI;clear hI
   walk_nrm
   co_apply aG rfl (by rfl);intro _ hR K hK;replace hF := (EI.rely (show N + 1 < N + 7 by omega) (show N + 6 < N + 7 by omega) hPc) hF hR;clear hR
   skip
   go_simp
   try (unfold stored; go_simp)
   refine hK _ _ ⟨?_, ?_⟩
   · co_still (fo 87 (N + 6) (N + 1) (N + 7) [.int .i64 ticks] Mine0)
   clear hK K
   try walk_nrm
   co_apply bu;exact ⟨rfl, rfl, _, rfl, hF⟩
 · rintro s' e a' w' ⟨rfl, rfl, told, rfl, hI⟩;exact tk hk hPc told w' hI
end
theorem m4 (P : Program) (fn : Fn) (first cap : Array Value) (w : World) (es : Array Event) : (Instr.makeFunc fn first cap).events P w es = es := rfl
abbrev NextQ (Fin : Value → World → Prop) (nn N : Nat) (s : List Nat) : Goroutine → World → Prop := fun g' w' => ∃ m, Goes Tryz.prog true AtRel (D0 (Shs (N :: s))) (StopZ Tryz.prog Fin nn (N :: s)) m g' w'
noncomputable def ops6 : Array Oper := match tl6 with | .seq (.region _ ops _) _ => ops | _ => #[]
theorem tn {Fin : Value → World → Prop} {nn : Nat} {s : List Nat} {W : World} {K : Nat} {ticks : Int} {b : Frame} {k : List Item} {cs : List Frame} {PostB : World → Prop} {ws : List Wd} (hb : b.fn = 19) (hk : b.kind ≠ .early) (hE : Elder (Shs s) W.heap.size) (hws : ws.length < 10000)
   (hPb : ∀ w w₁, RB (pZ W.heap.size) (W.heap.size + 2) (W.heap.size + 4) w w₁ → PostB w → PostB w₁) (hPc : ∀ w w₁, Aside2 (W.heap.size + 1) (W.heap.size + 6) w w₁ → PostB w → PostB w₁) (hPn : ∀ w, PostB w → W.heap.size + 7 ≤ w.heap.size)
   (hT : ∀ [Shy (W.heap.size + 6) (W.heap.size + 1)] (w' : World), New W (boxZ W.heap.size K ticks KK) w' → Tells Tryz.prog (pZ W.heap.size) (ShR (Shs s) W.heap.size) (W.heap.size + 2) (W.heap.size + 4) PostB (AfterD Tryz.prog 87 (W.heap.size + 6) (W.heap.size + 1) (W.heap.size + 7) [.int .i64 ticks] Mine0) (ws.map Wd.v) (born Tryz.prog (started W.heap.size)) w')
   (hc : ∀ told w', FJ W.heap.size PostB ws told w' → ∃ m, Goes Tryz.prog true AtRel (D0 (Shs (W.heap.size :: s))) (StopZ Tryz.prog Fin nn (W.heap.size :: s)) m (G (b.at ⟨TR W.heap.size K ticks told (.tuple #[]) (fv W.heap.size) (.chan (some (W.heap.size + 2))) (.chan (some (W.heap.size + 4))) told (.tuple #[]), []⟩ (.inRegion ops9 [] :: .code tl10 :: k)) cs) w')
   (w : World) (hn : New W (boxZ W.heap.size K ticks 0) w) :
   Goes Tryz.prog true AtRel (D0 (Shs s)) (StopZ Tryz.prog Fin (nn + 1) s) 15 (G (b.at ⟨TR W.heap.size K ticks undef undef undef undef undef undef undef, []⟩ (.code tl6 :: k)) cs) w := by
 letI := shyW (W.heap.size + 6) (W.heap.size + 1) (NextQ Fin nn W.heap.size s)
 have T := jO (Shs s);have T2 : Terms AtRel (DE (EvS (W.heap.size + 6) (W.heap.size + 1))) := ⟨atRel_trans, fun w e he => by simp at he⟩;have hAn := tl (K := K) (ticks := ticks) (b := b) (k := k) (cs := cs) (ws := ws) (Next := NextQ Fin nn W.heap.size s) hPc hc;have e6 : ∃ i6, tl6 = .seq (.region i6 ops6 false) tl7 := ⟨_, by simp only [ops6, tl7, tl6, Tryz.f19]; rfl⟩;obtain ⟨i6, e6⟩ := e6;have hA := fun (w : World) (hw) (mT) (hT') => @addPos Tryz.link (W.heap.size + 6) (W.heap.size + 1) _ b ⟨TR W.heap.size K ticks undef undef undef undef undef undef undef, []⟩ ops6 0 [] (.code tl7 :: k) cs (AtFork Tryz.prog (Shs s) (Both Tryz.prog 87 (W.heap.size + 6) (W.heap.size + 1) (W.heap.size + 7) [.int .i64 ticks] Mine0 (AncR W.heap.size K ticks b k cs PostB ws) (pZ W.heap.size) (ShR (Shs s) W.heap.size) (W.heap.size + 2) (W.heap.size + 4) zE44 zD57 PostB)) mT Tryz.prog Tryz.wgLib w hw hT';rw [e6];refine bA T rfl (fun _ => stepG_seq) ?_;refine bA T rfl (fun _ => stepG_region) ?_;rw [show List.range ops6.size = [0] from by simp only [ops6, tl6, Tryz.f19]; rfl];refine Goes.step rfl fun w₁ h₁ => ?_;replace hn := hn.rely h₁;have hwg : WgAt 87 (W.heap.size + 6) w₁ 0 0 := hn.get (i := 6) rfl;have hn' : New W (boxZ W.heap.size K ticks KK) (w₁.setCell (stA (W.heap.size + 6)) (.int .u64 KK)) := hn.set (i := 6) rfl 0 (.int .u64 KK);refine goes_call (o := (ops6[0]?).getD default) (by simp only [ops6, tl6, Tryz.f19]; rfl) (by simp only [ops6, tl6, Tryz.f19]; rfl) hk (by simp only [ops6, tl6, Tryz.f19]; rfl) Tryz.func30 (nm_add Tryz.link) rfl ⟨T.idle _, ?_⟩;have hA := hA w₁ hwg 4 ?_
 · refine dK (yM hE (NextQ Fin nn W.heap.size s)) (fun g w h => ⟨W.heap.size, hE, [.int .i64 ticks], _, Fin, PostB, zE44, zD57, hPb, hPc, hPn, (fun g w h => by obtain ⟨_, _, hg, _⟩ := h; rw [hg]; rfl), hAn Fin, h⟩) _ _ _ ?_;simp only [TR, body_add, addFn, Option.getD_some] at hA ⊢
   walk_nrmf Tryz.f30
   exact hA
 · have e7 : ∃ i7, tl7 = .seq (.region i7 ops7 false) tl8 := ⟨_, by simp only [ops7, tl8, tl7, tl6, Tryz.f19]; rfl⟩;obtain ⟨i7, e7⟩ := e7;rw [show (⟨TR W.heap.size K ticks undef undef undef undef undef undef undef, []⟩ : Act).put ((ops6[0]?).bind (·.dst)) (.tuple #[]) = ⟨TR W.heap.size K ticks undef (.tuple #[]) undef undef undef undef undef, []⟩ from by simp only [ops6, tl6, Tryz.f19]; rfl];refine bA T2 rfl (fun _ => stepG_region_end) ?_;rw [e7];refine bA T2 rfl (fun _ => stepG_seq) ?_;refine bA T2 rfl (fun _ => stepG_region) ?_;rw [show List.range ops7.size = [0, 1] from by simp only [ops7, tl7, tl6, Tryz.f19]; rfl];refine Goes.step rfl fun w₂ h₂ => ?_;replace hn' := hn'.rely h₂;clear h₂;refine goes_oper_k (o := (ops7[0]?).getD default) (by simp only [ops7, tl7, tl6, Tryz.f19]; rfl) (by simp only [ops7, tl7, tl6, Tryz.f19]; rfl) hk (fun K2 hK => ?_);have hK' := hK ⟨TR W.heap.size K ticks undef (.tuple #[]) (fv W.heap.size) undef undef undef undef, []⟩ w₂ ⟨?_, ?_⟩
   · simp only [ops7, tl7, tl6, Tryz.f19];simp only [TR] at hK' ⊢;go_simp;exact hK'
   · intro e he;have hm := mem_listed he;simp [ops7, tl7, tl6, Tryz.f19, go_sem, m4] at hm
   · refine Goes.stop fun w₃ h₃ => ?_;replace hn' := hn'.rely h₃;clear h₃;refine ⟨rfl, G (b.at ⟨TR W.heap.size K ticks undef (.tuple #[]) (fv W.heap.size) undef undef undef undef, []⟩ (.inRegion ops7 [] :: .code tl8 :: k)) cs, born Tryz.prog (started W.heap.size), #[], ?_, by simp, ws.map Wd.v, hn'.get (i := 2) rfl, hn'.get (i := 4) rfl, m0 hb hk hPc hws w₃ ⟨hn'.get (i := 3) rfl, hn'.get (i := 5) rfl, by rw [hn'.size]; exact Nat.le_refl _⟩, hT w₃ hn'⟩
     have h := stepG_spawn (P := Tryz.prog) (main := true) (b := b) (a := ⟨TR W.heap.size K ticks undef (.tuple #[]) (fv W.heap.size) undef undef undef undef, []⟩) (k := .code tl8 :: k) (cs := cs) (ops := ops7) (i := 1) (rest := []) (o := (ops7[1]?).getD default) (d := started W.heap.size) (w := w₃) (w' := w₃) (f := .func 31) (c := caps W.heap.size)
       (by simp only [ops7, tl7, tl6, Tryz.f19]; rfl) (by simp only [ops7, tl7, tl6, Tryz.f19]; rfl) hk (by simp [ops7, tl7, tl6, Tryz.f19, go_sem, TR, fv, started, Deferred.ofValue]) rfl
     rw [h];simp [listed, ops7, tl7, tl6, Tryz.f19, go_sem, seen, Deferred.ofValue, TR, fv];rfl
end Go.Proofs.YtejkelcaljmnoaaGreatDoor
namespace Go.Lo
open Go.Conc Go.Hx
abbrev Frag := List (Nat × Bool × Obj)
def cellOf : Obj → Addr → Option Value
 | .cells c _ _, a => if a.spot.isSome then none else c[a.off]?
 | _, _ => none
def shapeOf : Obj → Option (TypeId × Nat)
 | .cells c e _ => some (e, c.size)
 | _ => none
def frozenOf : Obj → Addr → Bool
 | .cells _ _ (lo, hi), a => lo ≤ a.off && a.off < hi
 | _, _ => false
def thing : Obj → Bool
 | .cells .. => false
 | .chan .. => false
 | _ => true
def plainV : Value → Bool
 | .agg _ => false
 | .tuple _ => false
 | _ => true
def fits : Obj → Obj → Bool
 | .cells _ t _, .cells _ t' _ => t == t'
 | o, o' => thing o && thing o'
def okMark : Mark → Bool
 | .noRoom => true
 | .extern _ => true
 | _ => false
def froze (fr : Nat × Nat) (a : Addr) (m : Nat) : Nat × Nat := if m = 0 then fr else if fr.1 == fr.2 then (a.off, a.off + m) else (min fr.1 a.off, max fr.2 (a.off + m))
def wpS {α : Type} (P : Program) (New : Obj → Prop) : Sem α → (α → Frag → Prop) → Frag → Prop
 | .pure a, Q, L => Q a L
 | .load m a k, Q, L => m = .plain ∧ ∃ fl o v, (a.block, fl, o) ∈ L ∧ cellOf o a = some v ∧ wpS P New (k v) Q L
 | .store m a v k, Q, L => m = .plain ∧ plainV v = true ∧ a.spot = none ∧ ∃ n cs ty fr, L[n]? = some (a.block, true, .cells cs ty fr) ∧ a.off < cs.size ∧ frozenOf (.cells cs ty fr) a = false ∧ wpS P New k Q (L.set n (a.block, true, .cells (cs.setIfInBounds a.off v) ty fr))
 | .new o k, Q, L => New o ∧ ∀ b, (∀ t ∈ L, t.1 ≠ b) → wpS P New (k b) Q ((b, true, o) :: L)
 | .shape r k, Q, L => ∃ fl o, (r, fl, o) ∈ L ∧ wpS P New (k (shapeOf o)) Q L
 | .freeze a m k, Q, L => ∃ n cs ty fr, L[n]? = some (a.block, true, .cells cs ty fr) ∧ wpS P New k Q (L.set n (a.block, true, .cells cs ty (froze fr a m)))
 | .frozen a k, Q, L => ∃ fl o, (a.block, fl, o) ∈ L ∧ wpS P New (k (frozenOf o a)) Q L
 | .getObj r k, Q, L => ∃ fl o, (r, fl, o) ∈ L ∧ thing o = true ∧ wpS P New (k o) Q L
 | .setObj r o k, Q, L => thing o = true ∧ ∃ n o', L[n]? = some (r, true, o') ∧ thing o' = true ∧ wpS P New k Q (L.set n (r, true, o))
 | .choose q k, Q, L => (q.forced = true → wpS P New (k 0) Q L) ∧ (q.forced = false → ∀ t, wpS P New (k (q.cut t)) Q L)
 | .sys _ _, _, _ => False
 | .program k, Q, L => wpS P New (k P) Q L
 | .mark m k, Q, L => okMark m = true ∧ wpS P New k Q L
 | .halt _, _, _ => False
section
variable {α β : Type} {P : Program} {New : Obj → Prop}
theorem bV {Q Q' : α → Frag → Prop} (h : ∀ a L, Q a L → Q' a L) : ∀ (s : Sem α) (L : Frag), wpS P New s Q L → wpS P New s Q' L := by
 intro s
 induction s with
 | pure a => exact fun L x => h _ _ x
 | load m a k ih => rintro L ⟨h1, fl, o, v, h2, h3, h4⟩; exact ⟨h1, fl, o, v, h2, h3, ih _ _ h4⟩
 | store m a v k ih => rintro L ⟨h1, h2, h3, n, cs, ty, fr, h4, h5, h6, h7⟩; exact ⟨h1, h2, h3, n, cs, ty, fr, h4, h5, h6, ih _ h7⟩
 | new o k ih => rintro L ⟨h1, h2⟩; exact ⟨h1, fun b hb => ih _ _ (h2 b hb)⟩
 | shape r k ih => rintro L ⟨fl, o, h1, h2⟩; exact ⟨fl, o, h1, ih _ _ h2⟩
 | freeze a m k ih => rintro L ⟨n, cs, ty, fr, h1, h2⟩; exact ⟨n, cs, ty, fr, h1, ih _ h2⟩
 | frozen a k ih => rintro L ⟨fl, o, h1, h2⟩; exact ⟨fl, o, h1, ih _ _ h2⟩
 | getObj r k ih => rintro L ⟨fl, o, h1, h2, h3⟩; exact ⟨fl, o, h1, h2, ih _ _ h3⟩
 | setObj r o k ih => rintro L ⟨h0, n, o', h1, h2, h3⟩; exact ⟨h0, n, o', h1, h2, ih _ h3⟩
 | choose q k ih => rintro L ⟨h1, h2⟩; exact ⟨fun e => ih _ _ (h1 e), fun e t => ih _ _ (h2 e t)⟩
 | sys c k ih => exact fun L x => x
 | program k ih => exact fun L x => ih _ _ x
 | mark m k ih => rintro L ⟨h1, h2⟩; exact ⟨h1, ih _ h2⟩
 | halt x => exact fun L x => x
theorem ro (f : α → Sem β) (Q : β → Frag → Prop) : ∀ (s : Sem α) (L : Frag), wpS P New (s.bind f) Q L = wpS P New s (fun a L' => wpS P New (f a) Q L') L := by
 intro s
 induction s with
 | pure a => exact fun L => rfl
 | load m a k ih => intro L; simp only [Sem.bind, wpS, ih]
 | store m a v k ih => intro L; simp only [Sem.bind, wpS, ih]
 | new o k ih => intro L; simp only [Sem.bind, wpS, ih]
 | shape r k ih => intro L; simp only [Sem.bind, wpS, ih]
 | freeze a n k ih => intro L; simp only [Sem.bind, wpS, ih]
 | frozen a k ih => intro L; simp only [Sem.bind, wpS, ih]
 | getObj r k ih => intro L; simp only [Sem.bind, wpS, ih]
 | setObj r o k ih => intro L; simp only [Sem.bind, wpS, ih]
 | choose q k ih => intro L; simp only [Sem.bind, wpS, ih]
 | sys c k ih => intro L; simp only [Sem.bind, wpS]
 | program k ih => intro L; simp only [Sem.bind, wpS, ih]
 | mark m k ih => intro L; simp only [Sem.bind, wpS, ih]
 | halt x => intro L; simp only [Sem.bind, wpS]
theorem aj (s : Sem α) (f : α → Sem β) (Q : β → Frag → Prop) (L : Frag) : wpS P New (s >>= f) Q L = wpS P New s (fun a L' => wpS P New (f a) Q L') L := ro f Q s L
theorem bm (a : α) (Q : α → Frag → Prop) (L : Frag) : wpS P New (Pure.pure a) Q L = Q a L := rfl
theorem iV (a : α) (Q : α → Frag → Prop) (L : Frag) : wpS P New (Sem.pure a) Q L = Q a L := rfl
end
def upd (w : World) (b : Nat) (o : Obj) : World := { w with heap := w.heap.setIfInBounds b o }
def more (w : World) (o : Obj) : World := { w with heap := w.heap.push o }
def drew (w : World) : World := { w with drawn := w.drawn + 1 }
structure Dom (R : World → World → Prop) (D : World → World → Array Event → Prop) where
 New : Obj → Prop
 Own : Frag → World → Prop
 Gu : World → World → Prop
 Ev : World → Event → Prop
 gr : ∀ w, Gu w w
 gt : ∀ {a b c}, Gu a b → Gu b c → Gu a c
 em : ∀ {w w' e}, Gu w w' → Ev w e → Ev w' e
 dd : ∀ {w w' es}, Gu w w' → (∀ e ∈ es, Ev w' e) → D w w' es
 rely : ∀ {L w w₁}, Own L w → R w w₁ → Own L w₁
 has : ∀ {L w b fl o}, Own L w → (b, fl, o) ∈ L → w.heap[b]? = some o
 evc : ∀ {L w b fl o}, Own L w → (b, fl, o) ∈ L → ∀ i, Ev w ⟨.cell ⟨b, i, none⟩, false, false⟩
 evo : ∀ {L w b fl o}, Own L w → (b, fl, o) ∈ L → Ev w ⟨.obj b, false, false⟩
 set : ∀ {L w n b o o'}, Own L w → L[n]? = some (b, true, o) → fits o o' = true → Own (L.set n (b, true, o')) (upd w b o') ∧ Gu w (upd w b o') ∧ (∀ i, Ev (upd w b o') ⟨.cell ⟨b, i, none⟩, true, false⟩) ∧ Ev (upd w b o') ⟨.obj b, true, false⟩
 new : ∀ {L w o}, Own L w → New o → (∀ t ∈ L, t.1 ≠ w.heap.size) ∧ Own ((w.heap.size, true, o) :: L) (more w o) ∧ Gu w (more w o)
 draw : ∀ {L w}, Own L w → Own L (drew w) ∧ Gu w (drew w)
 nor : ∀ w m, okMark m = true → Ev w ⟨.mark m, false, true⟩
 sub : ∀ {L L' w}, Own L w → (∀ t ∈ L', t ∈ L) → (L'.map (·.1)).Nodup → Own L' w
 nd : ∀ {L w}, Own L w → (L.map (·.1)).Nodup
 ld : LetsDraw D
section
variable {R : World → World → Prop} {D : World → World → Array Event → Prop} {α : Type} {P : Program}
theorem oQ {w : World} {a : Addr} {cs : Array Value} {ty : TypeId} {fr : Nat × Nat} {m : Nat} (h : w.heap[a.block]? = some (.cells cs ty fr)) : w.freeze a m = upd w a.block (.cells cs ty (froze fr a m)) := by
 obtain ⟨hlt, he⟩ := Array.getElem?_eq_some_iff.1 h;unfold World.freeze froze
 split
 · have e : w.heap.setIfInBounds a.block (Obj.cells cs ty fr) = w.heap := by
     apply Array.ext
     · simp
     · intro j h1 h2;simp only [Array.getElem_setIfInBounds h2]
       split
       · subst_vars; simp [he]
       · rfl
   unfold upd;rw [e]
 · unfold upd;congr 1;apply Array.ext
   · simp
   · intro j h1 h2;simp only [Array.getElem_modify, Array.getElem_setIfInBounds (by simpa using h1)]
     split
     · subst_vars; simp [he]
     · rfl
theorem m5 {w : World} {b : Nat} {cs : Array Value} {ty : TypeId} {fr : Nat × Nat} {i : Nat} {v : Value} (h : w.heap[b]? = some (.cells cs ty fr)) : w.setCell ⟨b, i, none⟩ v = upd w b (.cells (cs.setIfInBounds i v) ty fr) := by
 obtain ⟨hlt, he⟩ := Array.getElem?_eq_some_iff.1 h;unfold World.setCell upd;congr 1;apply Array.ext
 · simp
 · intro j h1 h2;simp only [Array.getElem_modify, Array.getElem_setIfInBounds (by simpa using h1)]
   split
   · subst_vars; simp [he]
   · rfl
theorem lS {w : World} {a : Addr} {o : Obj} {v : Value} (h : w.heap[a.block]? = some o) (hv : cellOf o a = some v) : w.cell? a = some v := by
 unfold World.cell?;rw [h];cases o <;> simp_all [cellOf]
theorem oR {o o' : Obj} (h : thing o' = true) (k : thing o = true) : fits o' o = true := by
 unfold fits
 split
 · simp [thing] at h
 · simp [h, k]
theorem jQ {o : Obj} (h : thing o = true) : o.isChan = false := by cases o <;> first | rfl | cases h
theorem jg {r : Nat} {k : Obj → Sem α} {w : World} {es : Array Event} {o : Obj} (hb : w.heap[r]? = some o) (h : thing o = true) : (Sem.getObj r k).runT P w es = (k o).runT P w (es.push ⟨.obj r, false, false⟩) := by
 have hc := jQ h;simp only [Sem.runT, hb];cases o <;> first | rfl | cases h
theorem m6 {r : Nat} {k : Sem α} {w : World} {es : Array Event} {o o' : Obj} (hb : w.heap[r]? = some o') (h' : thing o' = true) (h : thing o = true) : (Sem.setObj r o k).runT P w es = k.runT P (upd w r o) (es.push ⟨.obj r, true, false⟩) := by
 have hc := jQ h;simp only [Sem.runT, hb, hc];cases o' <;> first | rfl | cases h'
theorem oS {a : Addr} {v : Value} {k : Sem α} {w : World} {es : Array Event} {u : Value} (hc : w.cell? a = some u) (hz : w.frozen? a = false) (hp : plainV v = true) : (Sem.store Mode.plain a v k).runT P w es = k.runT P (w.setCell a v) (es.push ⟨.cell a, true, false⟩) := by
 cases v <;> first | (simp only [Sem.runT, hc, hz]; rfl) | cases hp
theorem zV (Δ : Dom R D) : ∀ (s : Sem α) (Q : α → Frag → Prop) (L : Frag) (w : World) (es : Array Event), Δ.Own L w → wpS P Δ.New s Q L →
   ∃ a w' es', s.runT P w es = (.ok a w', es ++ es') ∧ Δ.Gu w w' ∧ (∀ e ∈ es', Δ.Ev w' e) ∧ ∃ L', Δ.Own L' w' ∧ Q a L' := by
 intro s
 induction s with
 | pure a => exact fun Q L w es hO h => ⟨a, w, #[], by simp [Sem.runT, -Sem.runT_eq], Δ.gr w, by simp, L, hO, h⟩
 | load m a k ih =>
   rintro Q L w es hO ⟨rfl, fl, o, v, hm, hv, h⟩;have hb := Δ.has hO hm;have hc := lS hb hv;have hs : a.spot = none := by cases o <;> simp_all [cellOf]
   obtain ⟨x, w', es', hr, hg, he, hL⟩ := ih v Q L w (es.push ⟨.cell a, false, false⟩) hO h;refine ⟨x, w', #[⟨.cell a, false, false⟩] ++ es', by simp only [Sem.runT, hc]; rw [show ((Mode.plain == Mode.atomic) = false) from rfl, hr]; simp, hg, fun e hm' => ?_, hL⟩;rcases Array.mem_append.1 hm' with h1 | h1
   · obtain rfl := by simpa using h1
     obtain ⟨b, i, sp⟩ := a;obtain rfl : sp = none := hs;exact Δ.em hg (Δ.evc hO hm i)
   · exact he e h1
 | store m a v k ih =>
   rintro Q L w es hO ⟨rfl, hp, hs, n, cs, ty, fr, hn, hi, hfr, h⟩;obtain ⟨b, i, sp⟩ := a;obtain rfl : sp = none := hs;have hb := Δ.has hO (List.mem_of_getElem? hn);have hc : w.cell? ⟨b, i, none⟩ = some cs[i] := lS hb (by simp [cellOf, hi]);have hz : w.frozen? ⟨b, i, none⟩ = false := by unfold World.frozen?; rw [hb]; exact hfr
   obtain ⟨h1, h2, h3, _⟩ := Δ.set (o' := .cells (cs.setIfInBounds i v) ty fr) hO hn (by simp [fits]);obtain ⟨x, w', es', hr, hg, he, hL⟩ := ih Q _ _ (es.push ⟨.cell ⟨b, i, none⟩, true, false⟩) h1 h;refine ⟨x, w', #[⟨.cell ⟨b, i, none⟩, true, false⟩] ++ es', ?_, Δ.gt h2 hg, fun e hm' => ?_, hL⟩
   · rw [oS hc hz hp, m5 hb, hr]; simp
   · rcases Array.mem_append.1 hm' with h4 | h4
     · obtain rfl := by simpa using h4
       exact Δ.em hg (h3 i)
     · exact he e h4
 | new o k ih =>
   rintro Q L w es hO ⟨hN, h⟩;obtain ⟨h1, h2, h3⟩ := Δ.new hO hN;obtain ⟨x, w', es', hr, hg, he, hL⟩ := ih _ Q _ _ es h2 (h _ h1);exact ⟨x, w', es', by simp only [Sem.runT]; exact hr, Δ.gt h3 hg, he, hL⟩
 | shape r k ih =>
   rintro Q L w es hO ⟨fl, o, hm, h⟩;have hb := Δ.has hO hm;obtain ⟨x, w', es', hr, hg, he, hL⟩ := ih _ Q L w es hO h;refine ⟨x, w', es', ?_, hg, he, hL⟩;have e0 : w.shape? r = shapeOf o := by unfold World.shape?; rw [hb]; cases o <;> rfl
   simp only [Sem.runT, e0]; exact hr
 | freeze a m k ih =>
   rintro Q L w es hO ⟨n, cs, ty, fr, hn, h⟩;have hb := Δ.has hO (List.mem_of_getElem? hn);obtain ⟨h1, h2, _⟩ := Δ.set (o' := .cells cs ty (froze fr a m)) hO hn (by simp [fits]);obtain ⟨x, w', es', hr, hg, he, hL⟩ := ih Q _ _ es h1 h;exact ⟨x, w', es', by simp only [Sem.runT]; rw [oQ hb]; exact hr, Δ.gt h2 hg, he, hL⟩
 | frozen a k ih =>
   rintro Q L w es hO ⟨fl, o, hm, h⟩;have hb := Δ.has hO hm;obtain ⟨x, w', es', hr, hg, he, hL⟩ := ih _ Q L w es hO h;refine ⟨x, w', es', ?_, hg, he, hL⟩;have e0 : w.frozen? a = frozenOf o a := by unfold World.frozen?; rw [hb]; cases o <;> rfl
   simp only [Sem.runT, e0]; exact hr
 | getObj r k ih =>
   rintro Q L w es hO ⟨fl, o, hm, ho, h⟩;have hb := Δ.has hO hm;obtain ⟨x, w', es', hr, hg, he, hL⟩ := ih o Q L w (es.push ⟨.obj r, false, false⟩) hO h;refine ⟨x, w', #[⟨.obj r, false, false⟩] ++ es', ?_, hg, fun e hm' => ?_, hL⟩
   · rw [jg hb ho, hr]; simp
   · rcases Array.mem_append.1 hm' with h1 | h1
     · obtain rfl := by simpa using h1
       exact Δ.em hg (Δ.evo hO hm)
     · exact he e h1
 | setObj r o k ih =>
   rintro Q L w es hO ⟨ho, n, o', hn, ho', h⟩;have hb := Δ.has hO (List.mem_of_getElem? hn);obtain ⟨h1, h2, _, h3⟩ := Δ.set (o' := o) hO hn (oR ho' ho);obtain ⟨x, w', es', hr, hg, he, hL⟩ := ih Q _ _ (es.push ⟨.obj r, true, false⟩) h1 h;refine ⟨x, w', #[⟨.obj r, true, false⟩] ++ es', ?_, Δ.gt h2 hg, fun e hm' => ?_, hL⟩
   · rw [m6 hb ho' ho, hr]; simp
   · rcases Array.mem_append.1 hm' with h4 | h4
     · obtain rfl := by simpa using h4
       exact Δ.em hg h3
     · exact he e h4
 | choose q k ih =>
   rintro Q L w es hO ⟨h0, h1⟩;cases hf : q.forced with
   | true =>
     obtain ⟨x, w', es', hr, hg, he, hL⟩ := ih _ Q L w es hO (h0 hf);exact ⟨x, w', es', by simp only [Sem.runT, hf, if_true]; exact hr, hg, he, hL⟩
   | false =>
     obtain ⟨d1, d2⟩ := Δ.draw hO;obtain ⟨x, w', es', hr, hg, he, hL⟩ := ih _ Q L (drew w) es d1 (h1 hf (w.tape w.drawn q));exact ⟨x, w', es', by simp only [Sem.runT, hf, Bool.false_eq_true, if_false]; exact hr, Δ.gt d2 hg, he, hL⟩
 | sys c k ih => exact fun Q L w es hO h => h.elim
 | program k ih =>
   intro Q L w es hO h;obtain ⟨x, w', es', hr, hg, he, hL⟩ := ih P Q L w es hO h;exact ⟨x, w', es', by simp only [Sem.runT]; exact hr, hg, he, hL⟩
 | mark m k ih =>
   rintro Q L w es hO ⟨hm, h⟩;obtain ⟨x, w', es', hr, hg, he, hL⟩ := ih Q L w (es.push ⟨.mark m, false, true⟩) hO h;refine ⟨x, w', #[⟨.mark m, false, true⟩] ++ es', by simp only [Sem.runT]; rw [hr]; simp, hg, fun e hm' => ?_, hL⟩;rcases Array.mem_append.1 hm' with h1 | h1
   · obtain rfl := by simpa using h1
     exact Δ.nor w' m hm
   · exact he e h1
 | halt x => exact fun Q L w es hO h => h.elim
theorem oT (Δ : Dom R D) {s : Sem α} {Q : α → Frag → Prop} {L : Frag} {w : World} (hO : Δ.Own L w) (h : wpS P Δ.New s Q L) :
   ∃ a w', s.run P w = .ok a w' ∧ Δ.Gu w w' ∧ (∀ e ∈ s.events P w #[], Δ.Ev w' e) ∧ ∃ L', Δ.Own L' w' ∧ Q a L' := by
 obtain ⟨a, w', es', hr, hg, he, hL⟩ := zV Δ s Q L w #[] hO h;refine ⟨a, w', ?_, hg, ?_, hL⟩
 · rw [← Sem.runT_fst P s w #[], hr]
 · unfold Sem.events; rw [hr]; simpa using he
end
section
variable {σ : Type} {F : Fam σ} (Δ : ∀ s, Dom (F.R s) (F.D s)) (P : Program) (main : Bool) (fn : FuncId)
def up (Q : σ → Exit → Act → Frag → Prop) : σ → Exit → Act → World → Prop := fun s e a w => ∃ L, (Δ s).Own L w ∧ Q s e a L
def upV (Q : σ → Value → Frag → Prop) : σ → Value → World → Prop := fun s v w => ∃ L, (Δ s).Own L w ∧ Q s v L
def wpL (c : Code) (n : Nat) (s : σ) (Q : σ → Exit → Act → Frag → Prop) (a : Act) (L : Frag) : Prop := ∀ w, (Δ s).Own L w → wpX F P main fn c n s (up Δ Q) a w
def OpsL (ops : Array Oper) (todo : List Nat) (n : Nat) (s : σ) (Q : σ → Exit → Act → Frag → Prop) (a : Act) (L : Frag) : Prop := ∀ w, (Δ s).Own L w → OpsX F P main fn ops todo n s (up Δ Q) a w
def LoopL (c : Code) (n : Nat) (s : σ) (Q : σ → Exit → Act → Frag → Prop) (a : Act) (L : Frag) : Prop := ∀ w, (Δ s).Own L w → LoopX F P main fn c n s (up Δ Q) a w
def CallsL (f : FuncId) (args : Array Value) (n : Nat) (s : σ) (L : Frag) (Post : σ → Value → Frag → Prop) : Prop := ∀ w, (Δ s).Own L w → CallsX F P main f args n s w (upV Δ Post)
end
section
variable {σ : Type}
def thenL (K : σ → Act → Frag → Prop) (Q : σ → Exit → Act → Frag → Prop) : σ → Exit → Act → Frag → Prop
 | s, .normal, a, L => K s a L
 | s, e, a, L => Q s e a L
def inBlockL (id : Nat) (Q : σ → Exit → Act → Frag → Prop) : σ → Exit → Act → Frag → Prop
 | s, .exit id', a, L => if id' = id then Q s .normal a L else Q s (.exit id') a L
 | s, e, a, L => Q s e a L
def bodyL (P : Program) (g : Func) (Post : σ → Value → Frag → Prop) : σ → Exit → Act → Frag → Prop
 | s, .normal, a, L | s, .ret, a, L => a.defers = [] ∧ ∃ v, ResultsC P g a.tmps v ∧ Post s v L
 | _, _, _, _ => False
def onNext (o : Oper) (a : Act) (K : Act → Prop) : Next → Prop
 | .value v => K (a.put o.dst v)
 | .skip => K (a.put o.dst undef)
 | _ => False
end
section
variable {σ : Type} {F : Fam σ} {Δ : ∀ s, Dom (F.R s) (F.D s)} {P : Program} {main : Bool} {fn : FuncId} {Q : σ → Exit → Act → Frag → Prop} {s : σ} {a : Act} {L : Frag}
theorem lT {K : σ → Act → Frag → Prop} {K' : σ → Act → World → Prop} (h : ∀ s a L w, (Δ s).Own L w → K s a L → K' s a w) {s : σ} {e : Exit} {a : Act} {w : World} (q : up Δ (thenL K Q) s e a w) : ThenX K' (up Δ Q) s e a w := by
 obtain ⟨L, hO, q⟩ := q;cases e <;> first | exact h _ _ _ _ hO q | exact ⟨L, hO, q⟩
theorem dt {Q' : σ → Exit → Act → Frag → Prop} {c : Code} {n : Nat} (h : wpL Δ P main fn c n s Q a L) (hq : ∀ s e a L, Q s e a L → Q' s e a L) : wpL Δ P main fn c n s Q' a L :=
 fun w hO => ff (h w hO) fun s e a w ⟨L, hL, q⟩ => ⟨L, hL, hq _ _ _ _ q⟩
theorem m7 {c : Code} {n n' : Nat} (h : wpL Δ P main fn c n s Q a L) (hn : n ≤ n') : wpL Δ P main fn c n' s Q a L := fun w hO => sZ (h w hO) hn
theorem rq {ops : Array Oper} {todo : List Nat} {n n' : Nat} (h : OpsL Δ P main fn ops todo n s Q a L) (hn : n ≤ n') : OpsL Δ P main fn ops todo n' s Q a L := fun w hO => fe (h w hO) hn
theorem yO {c : Code} {n : Nat} (h : (L.map (·.1)).Nodup → wpL Δ P main fn c n s Q a L) : wpL Δ P main fn c n s Q a L := fun w hO => h ((Δ s).nd hO) w hO
theorem vW {ops : Array Oper} {todo : List Nat} {n : Nat} (h : (L.map (·.1)).Nodup → OpsL Δ P main fn ops todo n s Q a L) : OpsL Δ P main fn ops todo n s Q a L := fun w hO => h ((Δ s).nd hO) w hO
theorem vX {x y : Code} {n₁ n₂ : Nat} (h : wpL Δ P main fn x n₁ s (thenL (fun s' a' L' => wpL Δ P main fn y n₂ s' Q a' L') Q) a L) : wpL Δ P main fn (.seq x y) (n₁ + n₂ + 1) s Q a L :=
 fun w hO => cj (ff (h w hO) fun _ _ _ _ q => lT (fun _ _ _ _ hO k => k _ hO) q)
theorem tq {c : Operand} {x y : Code} {t : Bool} {n : Nat} (hc : a.eval c = .bool t) (h : wpL Δ P main fn (if t then x else y) n s Q a L) : wpL Δ P main fn (.cond c x y) (n + 1) s Q a L := fun w hO => fE hc (h w hO)
theorem ru {id : Nat} {c : Code} {n : Nat} (h : wpL Δ P main fn c n s (inBlockL id Q) a L) : wpL Δ P main fn (.block id c) (n + 2) s Q a L :=
 fun w hO => eC (ff (h w hO) fun s' e a' w' ⟨L', hL, q⟩ => by
   cases e with
   | exit id' =>
     simp only [inBlockL] at q;simp only [Exit.inBlock]
     split
     · rename_i e; rw [if_pos e] at q; exact ⟨L', hL, q⟩
     · rename_i e; rw [if_neg e] at q; exact ⟨L', hL, q⟩
   | _ => exact ⟨L', hL, q⟩)
theorem tt (h : Q s .normal a L) : wpL Δ P main fn .skip 1 s Q a L := fun _ hO => iS (wpC_skip (F.terms s) ⟨L, hO, h⟩)
theorem vY (h : Q s .ret a L) : wpL Δ P main fn .ret 1 s Q a L := fun _ hO => iS (wpC_ret (F.terms s) ⟨L, hO, h⟩)
theorem tv {id : Nat} (h : Q s (.exit id) a L) : wpL Δ P main fn (.exit id) 1 s Q a L := fun _ hO => iS (wpC_exit (F.terms s) ⟨L, hO, h⟩)
theorem rx {c : Code} {n₁ n₂ : Nat} (h : wpL Δ P main fn c n₁ s (thenL (fun s' a' L' => LoopL Δ P main fn c n₂ s' Q a' L') Q) a L) : wpL Δ P main fn (.loop c) (n₁ + n₂ + 1) s Q a L :=
 fun w hO => lg (ff (h w hO) fun _ _ _ _ q => lT (fun _ _ _ _ hO k => k _ hO) q)
theorem yP {c : Code} {n₁ n₂ : Nat} (h : wpL Δ P main fn c n₁ s (thenL (fun s' a' L' => LoopL Δ P main fn c n₂ s' Q a' L') Q) a L) : LoopL Δ P main fn c (n₁ + n₂ + 1) s Q a L :=
 fun w hO => oO (ff (h w hO) fun _ _ _ _ q => lT (fun _ _ _ _ hO k => k _ hO) q)
theorem gQ {c : Code} {n n' : Nat} (h : LoopL Δ P main fn c n s Q a L) (hn : n ≤ n') : LoopL Δ P main fn c n' s Q a L :=
 fun w hO b k cs m hb hk hc => (h w hO b k cs m hb hk hc).mono (by omega)
theorem lU {c : Code} {n : Nat} (I : Nat → σ → Act → Frag → Prop) (h : ∀ k s a L, I k s a L → wpL Δ P main fn c n s (thenL (fun s' a' L' => ∃ k', k' < k ∧ I k' s' a' L') Q) a L) :
   ∀ (k : Nat) (s : σ) (a : Act) (L : Frag), I k s a L → LoopL Δ P main fn c ((k + 1) * (n + 1)) s Q a L := by
 intro k
 induction k using Nat.strongRecOn with
 | _ k ih =>
   intro s a L hI;refine gQ (yP (n₂ := k * (n + 1)) (dt (h k s a L hI) fun s' e a' L' q => ?_)) (by rw [Nat.succ_mul]; omega);cases e with
   | normal =>
     obtain ⟨k', hk', hi⟩ := q;exact gQ (ih k' hk' s' a' L' hi) (Nat.mul_le_mul_right _ hk')
   | _ => exact q
theorem tw {c : Code} {n : Nat} (I : Nat → σ → Act → Frag → Prop) (h : ∀ k s a L, I k s a L → wpL Δ P main fn c n s (thenL (fun s' a' L' => ∃ k', k' < k ∧ I k' s' a' L') Q) a L) (k : Nat) (hI : I k s a L) :
   wpL Δ P main fn (.loop c) ((k + 1) * (n + 1)) s Q a L := by
 refine m7 (rx (n₂ := k * (n + 1)) (dt (h k s a L hI) fun s' e a' L' q => ?_)) (by rw [Nat.succ_mul]; omega);cases e with
 | normal =>
   obtain ⟨k', hk', hi⟩ := q;exact gQ (lU I h k' s' a' L' hi) (Nat.mul_le_mul_right _ hk')
 | _ => exact q
theorem oU {id : Nat} {ops : Array Oper} {n : Nat} (h : OpsL Δ P main fn ops (List.range ops.size) n s Q a L) : wpL Δ P main fn (.region id ops false) (n + 1) s Q a L := fun w hO => bd (h w hO)
theorem tA {ops : Array Oper} (h : Q s .normal a L) : OpsL Δ P main fn ops [] 1 s Q a L := fun _ hO => bu ⟨L, hO, h⟩
theorem kX {ops : Array Oper} {i : Nat} {rest : List Nat} {o : Oper} {n : Nat} (ho : ops[i]? = some o) (hw : Region.wanted o (yielded ops a.tmps) = false)
   (h : OpsL Δ P main fn ops rest n s Q (a.put o.dst undef) L) : OpsL Δ P main fn ops (i :: rest) (n + 1) s Q a L := fun w hO => gH ho hw (h w hO)
theorem lV {o : Oper} {w w' : World} {x : Next} {K : Act → World → Prop} {KL : Act → Frag → Prop} {L' : Frag} (hr : (execOp a.eval o).run P w = .ok x w') (hL : (Δ s).Own L' w')
   (h : onNext o a (fun a' => KL a' L') x) (hk : ∀ a', KL a' L' → K a' w') : uponK o a K ((execOp a.eval o).run P w) := by
 rw [hr];cases x <;> simp only [onNext] at h <;> first | exact hk _ h | exact h.elim
theorem lj {ops : Array Oper} {i : Nat} {rest : List Nat} {o : Oper} {n : Nat} (ho : ops[i]? = some o) (hw : Region.wanted o (yielded ops a.tmps) = true)
   (h : wpS P (Δ s).New (execOp a.eval o) (fun x L' => onNext o a (fun a' => OpsL Δ P main fn ops rest n s Q a' L') x) L) : OpsL Δ P main fn ops (i :: rest) (n + 1) s Q a L := by
 intro w hO;refine iT ho hw fun w₁ h₁ => ?_;have hO₁ := (Δ s).rely hO h₁;obtain ⟨x, w', hr, hg, he, L', hL, hx⟩ := oT (Δ s) hO₁ h;refine lV (Δ := Δ) (s := s) (KL := fun a' L' => OpsL Δ P main fn ops rest n s Q a' L') hr hL hx fun a' k => ⟨(Δ s).dd hg fun e hm => he e (mem_listed hm), k _ hL⟩
theorem ry {f : FuncId} {g : Func} {c : Code} {args : Array Value} {n : Nat} {Post : σ → Value → Frag → Prop} (hf : P.funcs[f]? = some g) (hname : (g.name == "runtime.NumGoroutine") = false) (hb : g.body = some c)
   (h : wpL Δ P main f c n s (bodyL P g Post) { tmps := args ++ Array.replicate (g.ntmps - args.size) undef, defers := [] } L) : CallsL Δ P main f args n s L Post :=
 fun w hO => eY hf hname hb (ff (h w hO) fun s' e a' w' ⟨L', hL, q⟩ => by
   cases e <;> first | exact ⟨q.1, q.2.choose, q.2.choose_spec.1, L', hL, q.2.choose_spec.2⟩ | exact q)
theorem rz {ops : Array Oper} {i : Nat} {rest : List Nat} {o : Oper} {f : FuncId} {args : Array Operand} {ats : Array TypeId} {nf n : Nat} {Post : σ → Value → Frag → Prop}
   (ho : ops[i]? = some o) (hw : Region.wanted o (yielded ops a.tmps) = true) (hop : o.op = .call { callee := .value (.func f), args, argTypes := ats })
   (hcall : CallsL Δ P main f (args.map a.eval) nf s L Post) (hnext : ∀ s' v L', Post s' v L' → OpsL Δ P main fn ops rest n s' Q (a.put o.dst v) L') : OpsL Δ P main fn ops (i :: rest) (n + nf + 3) s Q a L :=
 fun w hO => f9 ho hw hop (hcall w hO) fun s' v w' ⟨L', hL, hp⟩ => hnext s' v L' hp w' hL
end
abbrev DM {σ : Type} (F : Fam σ) := ∀ s, Dom (F.R s) (F.D s)
def sizeAt (P : Program) (t : TypeId) : Option Nat := (P.info? t).map (·.size)
def bytesAt (P : Program) (t : TypeId) : Option Nat := (P.info? t).map (·.bytes)
def zeroAt (P : Program) (t : TypeId) : Option Value := (P.info? t).bind (·.zero)
def aggAt (P : Program) (t : TypeId) : Option Bool := (P.underlying t).map fun | .struct _ | .array _ _ => true | _ => false
def fieldOff (P : Program) (s f : Nat) : Option Nat :=
 match P.underlying s with
 | some (.struct fs) => match fs[f]? with
   | some fd => match sizeAt P fd.type with
     | some (_ + 1) => some fd.offset
     | _ => none
   | none => none
 | _ => none
def fieldPart (P : Program) (s f : Nat) : Option (Nat × Nat × Bool) :=
 match P.underlying s with
 | some (.struct fs) => match fs[f]? with
   | some fd => match sizeAt P fd.type, aggAt P fd.type with
     | some n, some g => some (fd.offset, n, g)
     | _, _ => none
   | none => none
 | _ => none
section
variable {α β : Type} {P : Program} {New : Obj → Prop} {L : Frag}
theorem aN {t : TypeId} {d : TypeDesc} {Q : TypeDesc → Frag → Prop} (h : P.underlying t = some d) : wpS P New (underlying t) Q L = Q d L := by
 show (wpS P New (match P.underlying t with | some d => pure d | none => stuck "no such type") Q L) = Q d L;rw [h]; rfl
theorem du {t : TypeId} {i : TypeInfo} {Q : TypeInfo → Frag → Prop} (h : P.info? t = some i) : wpS P New (typeInfo t) Q L = Q i L := by
 show (wpS P New (match P.info? t with | some d => pure d | none => stuck "no such type") Q L) = Q i L;rw [h]; rfl
theorem bI {t n : Nat} {Q : Nat → Frag → Prop} (h : sizeAt P t = some n) : wpS P New (sizeOf t) Q L = Q n L := by
 obtain ⟨i, hi, rfl⟩ := Option.map_eq_some_iff.1 h;unfold sizeOf;rw [aj, du hi]; rfl
theorem cv {t : Nat} {v : Value} {Q : Value → Frag → Prop} (h : zeroAt P t = some v) : wpS P New (zeroValue t) Q L = Q v L := by
 obtain ⟨i, hi, hz⟩ := Option.bind_eq_some_iff.1 h;unfold zeroValue;rw [aj, du hi, hz]; rfl
theorem ii {a : Addr} {Q : Addr → Frag → Prop} : wpS P New (Instr.sureAddr (.pointer (some a))) Q L = Q a L := rfl
def At (L : Frag) (b i : Nat) (v : Value) : Prop := ∃ fl cs ty fr, (b, fl, Obj.cells cs ty fr) ∈ L ∧ cs[i]? = some v
theorem At.at {b i n : Nat} {v : Value} {fl : Bool} {cs : Array Value} {ty : TypeId} {fr : Nat × Nat} (h : L[n]? = some (b, fl, .cells cs ty fr)) (hv : cs[i]? = some v) : At L b i v := ⟨fl, cs, ty, fr, List.mem_of_getElem? h, hv⟩
theorem tB {b i : Nat} {v : Value} {Q : Value → Frag → Prop} (h : At L b i v) (hQ : Q v L) : wpS P New (load ⟨b, i, none⟩) Q L := by
 obtain ⟨fl, cs, ty, fr, hm, hv⟩ := h;exact ⟨rfl, fl, _, v, hm, by simpa [cellOf] using hv, hQ⟩
theorem rA {b i n : Nat} {cs : Array Value} {ty : TypeId} {v : Value} {Q : Unit → Frag → Prop} (h : L[n]? = some (b, true, .cells cs ty)) (hi : i < cs.size) (hp : plainV v = true) (hQ : Q () (L.set n (b, true, .cells (cs.setIfInBounds i v) ty))) : wpS P New (store ⟨b, i, none⟩ v) Q L :=
 ⟨rfl, hp, rfl, n, cs, ty, (0, 0), h, hi, by simp [frozenOf], hQ⟩
theorem bY {o : Obj} {Q : Nat → Frag → Prop} (hN : New o) (hQ : ∀ b, (∀ t ∈ L, t.1 ≠ b) → Q b ((b, true, o) :: L)) : wpS P New (newObj o) Q L := ⟨hN, hQ⟩
theorem eI {r : Nat} {o : Obj} {fl : Bool} {Q : Obj → Frag → Prop} (hm : (r, fl, o) ∈ L) (ho : thing o = true) (hQ : Q o L) : wpS P New (getObj r) Q L := ⟨fl, o, hm, ho, hQ⟩
theorem dk {r n : Nat} {o o' : Obj} {Q : Unit → Frag → Prop} (hn : L[n]? = some (r, true, o')) (ho' : thing o' = true) (ho : thing o = true) (hQ : Q () (L.set n (r, true, o))) : wpS P New (setObj r o) Q L := ⟨ho, n, o', hn, ho', hQ⟩
theorem dv (b o i : Nat) : (⟨b, o, none⟩ : Addr).add i = ⟨b, o + i, none⟩ := by
 unfold Addr.add
 split
 · subst_vars; rfl
 · rfl
theorem lW {b o : Nat} {cs : Array Value} {ty : TypeId} {fr : Nat × Nat} {fl : Bool} (hm : (b, fl, .cells cs ty fr) ∈ L) {Q : Array Value → Frag → Prop} :
   ∀ (n i : Nat) (acc : Array Value), o + i + n ≤ cs.size → Q (acc ++ cs.extract (o + i) (o + i + n)) L → wpS P New (loadCellsFrom ⟨b, o, none⟩ i n acc) Q L := by
 intro n
 induction n with
 | zero =>
   intro i acc h hQ;have e : cs.extract (o + i) (o + i + 0) = #[] := by apply Array.ext'; simp
   rw [e, Array.append_empty] at hQ;exact hQ
 | succ n ih =>
   intro i acc h hQ;have hi : o + i < cs.size := by omega
   unfold loadCellsFrom;rw [aj, dv];refine tB (b := b) (i := o + i) ⟨fl, cs, ty, fr, hm, Array.getElem?_eq_getElem hi⟩ ?_;refine ih (i + 1) _ (by omega) ?_;have e : acc.push cs[o + i] ++ cs.extract (o + (i + 1)) (o + (i + 1) + n) = acc ++ cs.extract (o + i) (o + i + (n + 1)) := by
     apply Array.ext';simp only [Array.toList_append, Array.toList_push, Array.toList_extract, List.append_assoc];congr 1;rw [List.extract_eq_take_drop, List.extract_eq_take_drop];have : cs.toList.drop (o + i) = cs[o + i] :: cs.toList.drop (o + i + 1) := by
       rw [List.drop_eq_getElem_cons (by simpa using hi)]; simp
     rw [this, show o + i + (n + 1) - (o + i) = n + 1 by omega, show o + (i + 1) + n - (o + (i + 1)) = n by omega, List.take_succ_cons, Nat.add_assoc];simp
   rw [e]; exact hQ
theorem kY {b o n : Nat} {cs : Array Value} {ty : TypeId} {fr : Nat × Nat} {fl : Bool} (hm : (b, fl, .cells cs ty fr) ∈ L) {Q : Array Value → Frag → Prop} (h : o + n ≤ cs.size) (hQ : Q (cs.extract o (o + n)) L) : wpS P New (loadCells ⟨b, o, none⟩ n) Q L :=
 lW hm n 0 #[] (by omega) (by simpa using hQ)
def puts (cs : Array Value) (o : Nat) : List Value → Array Value
 | [] => cs
 | v :: vs => puts (cs.setIfInBounds o v) (o + 1) vs
theorem kZ {b n : Nat} {ty : TypeId} : ∀ (vs : List Value) (o i : Nat) (cs : Array Value) (L : Frag) {Q : Unit → Frag → Prop}, L[n]? = some (b, true, .cells cs ty) → o + i + vs.length ≤ cs.size → vs.all plainV = true →
   Q () (L.set n (b, true, .cells (puts cs (o + i) vs) ty)) → wpS P New (storeCells ⟨b, o, none⟩ vs i) Q L := by
 intro vs
 induction vs with
 | nil =>
   intro o i cs L Q hn h _ hQ;have e : L.set n (b, true, .cells cs ty) = L := by
     apply List.ext_getElem?;intro j;rw [List.getElem?_set]
     split
     · rename_i e; subst e; obtain ⟨hl, he⟩ := List.getElem?_eq_some_iff.1 hn; simp [hl, he]
     · rfl
   rw [puts, e] at hQ;exact hQ
 | cons v vs ih =>
   intro o i cs L Q hn h hp hQ;simp only [List.length_cons] at h;simp only [List.all_cons, Bool.and_eq_true] at hp;obtain ⟨hl, he⟩ := List.getElem?_eq_some_iff.1 hn;unfold storeCells;rw [aj, dv];refine rA (b := b) (i := o + i) hn (by omega) hp.1 ?_;refine ih o (i + 1) (cs.setIfInBounds (o + i) v) _ (by simp [hl]) (by simp; omega) hp.2 ?_;rw [List.set_set];exact hQ
theorem cC {b n o : Nat} {ty : TypeId} {vs : List Value} {cs : Array Value} {Q : Unit → Frag → Prop} (hn : L[n]? = some (b, true, .cells cs ty)) (h : o + vs.length ≤ cs.size) (hp : vs.all plainV = true)
   (hQ : Q () (L.set n (b, true, .cells (puts cs o vs) ty))) : wpS P New (storeCells ⟨b, o, none⟩ vs) Q L := kZ vs o 0 cs L hn (by omega) hp hQ
end
def wpQ {α : Type} (P : Program) : Sem α → (α → Prop) → Frag → Prop
 | .pure a, K, _ => K a
 | .load m a k, K, L => m = .plain ∧ ∃ fl o v, (a.block, fl, o) ∈ L ∧ cellOf o a = some v ∧ wpQ P (k v) K L
 | .shape r k, K, L => ∃ fl o, (r, fl, o) ∈ L ∧ wpQ P (k (shapeOf o)) K L
 | .frozen a k, K, L => ∃ fl o, (a.block, fl, o) ∈ L ∧ wpQ P (k (frozenOf o a)) K L
 | .getObj r k, K, L => ∃ fl o, (r, fl, o) ∈ L ∧ thing o = true ∧ wpQ P (k o) K L
 | .choose q k, K, L => q.forced = true ∧ wpQ P (k 0) K L
 | .program k, K, L => wpQ P (k P) K L
 | .mark m k, K, L => okMark m = true ∧ wpQ P k K L
 | .store .., _, _ | .new .., _, _ | .freeze .., _, _ | .setObj .., _, _ | .sys .., _, _ | .halt _, _, _ => False
section
variable {α β : Type} {P : Program}
theorem da {K K' : α → Prop} (h : ∀ a, K a → K' a) {L L' : Frag} (hL : ∀ t ∈ L, t ∈ L') : ∀ (s : Sem α), wpQ P s K L → wpQ P s K' L' := by
 intro s
 induction s with
 | pure a => exact fun x => h _ x
 | load m a k ih => rintro ⟨h1, fl, o, v, h2, h3, h4⟩; exact ⟨h1, fl, o, v, hL _ h2, h3, ih _ h4⟩
 | shape r k ih => rintro ⟨fl, o, h1, h2⟩; exact ⟨fl, o, hL _ h1, ih _ h2⟩
 | frozen a k ih => rintro ⟨fl, o, h1, h2⟩; exact ⟨fl, o, hL _ h1, ih _ h2⟩
 | getObj r k ih => rintro ⟨fl, o, h1, h2, h3⟩; exact ⟨fl, o, hL _ h1, h2, ih _ h3⟩
 | choose q k ih => rintro ⟨h1, h2⟩; exact ⟨h1, ih _ h2⟩
 | program k ih => exact fun x => ih _ x
 | store m a v k ih => exact fun x => x
 | new o k ih => exact fun x => x
 | freeze a n k ih => exact fun x => x
 | setObj r o k ih => exact fun x => x
 | sys c k ih => exact fun x => x
 | mark m k ih => rintro ⟨h1, h2⟩; exact ⟨h1, ih h2⟩
 | halt x => exact fun x => x
theorem rB {L : Frag} (f : α → Sem β) (K : β → Prop) : ∀ (s : Sem α), wpQ P (s.bind f) K L = wpQ P s (fun a => wpQ P (f a) K L) L := by
 intro s
 induction s with
 | pure a => rfl
 | load m a k ih => simp only [Sem.bind, wpQ, ih]
 | shape r k ih => simp only [Sem.bind, wpQ, ih]
 | frozen a k ih => simp only [Sem.bind, wpQ, ih]
 | getObj r k ih => simp only [Sem.bind, wpQ, ih]
 | choose q k ih => simp only [Sem.bind, wpQ, ih]
 | program k ih => simp only [Sem.bind, wpQ, ih]
 | store m a v k ih => simp only [Sem.bind, wpQ]
 | new o k ih => simp only [Sem.bind, wpQ]
 | freeze a n k ih => simp only [Sem.bind, wpQ]
 | setObj r o k ih => simp only [Sem.bind, wpQ]
 | sys c k ih => simp only [Sem.bind, wpQ]
 | mark m k ih => simp only [Sem.bind, wpQ, ih]
 | halt x => simp only [Sem.bind, wpQ]
theorem ar {L : Frag} (s : Sem α) (f : α → Sem β) (K : β → Prop) : wpQ P (s >>= f) K L = wpQ P s (fun a => wpQ P (f a) K L) L := rB f K s
theorem bG {L : Frag} (a : α) (K : α → Prop) : wpQ P (Pure.pure a) K L = K a := rfl
theorem qd {L : Frag} (c : Prop) [Decidable c] (x y : Sem α) (K : α → Prop) : wpQ P (if c then x else y) K L = if c then wpQ P x K L else wpQ P y K L := by split <;> rfl
theorem bJ {New : Obj → Prop} {L : Frag} {K : α → Prop} {Q : α → Frag → Prop} (h : ∀ a, K a → Q a L) : ∀ (s : Sem α), wpQ P s K L → wpS P New s Q L := by
 intro s
 induction s with
 | pure a => exact fun x => h _ x
 | load m a k ih => rintro ⟨h1, fl, o, v, h2, h3, h4⟩; exact ⟨h1, fl, o, v, h2, h3, ih _ h4⟩
 | shape r k ih => rintro ⟨fl, o, h1, h2⟩; exact ⟨fl, o, h1, ih _ h2⟩
 | frozen a k ih => rintro ⟨fl, o, h1, h2⟩; exact ⟨fl, o, h1, ih _ h2⟩
 | getObj r k ih => rintro ⟨fl, o, h1, h2, h3⟩; exact ⟨fl, o, h1, h2, ih _ h3⟩
 | choose q k ih => rintro ⟨h1, h2⟩; exact ⟨fun _ => ih _ h2, fun e => by rw [h1] at e; cases e⟩
 | program k ih => exact fun x => ih _ x
 | store m a v k ih => exact fun x => x.elim
 | new o k ih => exact fun x => x.elim
 | freeze a n k ih => exact fun x => x.elim
 | setObj r o k ih => exact fun x => x.elim
 | sys c k ih => exact fun x => x.elim
 | mark m k ih => rintro ⟨h1, h2⟩; exact ⟨h1, ih h2⟩
 | halt x => exact fun x => x.elim
variable {R : World → World → Prop} {D : World → World → Array Event → Prop}
theorem zW (Δ : Dom R D) {L : Frag} {w : World} (hO : Δ.Own L w) {K : α → Prop} : ∀ (s : Sem α) (es : Array Event), wpQ P s K L → ∃ a es', s.runT P w es = (.ok a w, es ++ es') ∧ (∀ e ∈ es', Δ.Ev w e) ∧ K a := by
 intro s
 induction s with
 | pure a => exact fun es h => ⟨a, #[], by simp [Sem.runT, -Sem.runT_eq], by simp, h⟩
 | load m a k ih =>
   rintro es ⟨rfl, fl, o, v, hm, hv, h⟩;have hb := Δ.has hO hm;have hc := lS hb hv;have hs : a.spot = none := by cases o <;> simp_all [cellOf]
   obtain ⟨x, es', hr, he, hK⟩ := ih v (es.push ⟨.cell a, false, false⟩) h;refine ⟨x, #[⟨.cell a, false, false⟩] ++ es', by simp only [Sem.runT, hc]; rw [show ((Mode.plain == Mode.atomic) = false) from rfl, hr]; simp, fun e hm' => ?_, hK⟩;rcases Array.mem_append.1 hm' with h1 | h1
   · obtain rfl := by simpa using h1
     obtain ⟨b, i, sp⟩ := a;obtain rfl : sp = none := hs;exact Δ.evc hO hm i
   · exact he e h1
 | shape r k ih =>
   rintro es ⟨fl, o, hm, h⟩;have hb := Δ.has hO hm;obtain ⟨x, es', hr, he, hK⟩ := ih _ es h;have e0 : w.shape? r = shapeOf o := by unfold World.shape?; rw [hb]; cases o <;> rfl
   exact ⟨x, es', by simp only [Sem.runT, e0]; exact hr, he, hK⟩
 | frozen a k ih =>
   rintro es ⟨fl, o, hm, h⟩;have hb := Δ.has hO hm;obtain ⟨x, es', hr, he, hK⟩ := ih _ es h;have e0 : w.frozen? a = frozenOf o a := by unfold World.frozen?; rw [hb]; cases o <;> rfl
   exact ⟨x, es', by simp only [Sem.runT, e0]; exact hr, he, hK⟩
 | getObj r k ih =>
   rintro es ⟨fl, o, hm, ho, h⟩;have hb := Δ.has hO hm;obtain ⟨x, es', hr, he, hK⟩ := ih o (es.push ⟨.obj r, false, false⟩) h;refine ⟨x, #[⟨.obj r, false, false⟩] ++ es', by rw [jg hb ho, hr]; simp, fun e hm' => ?_, hK⟩;rcases Array.mem_append.1 hm' with h1 | h1
   · obtain rfl := by simpa using h1
     exact Δ.evo hO hm
   · exact he e h1
 | choose q k ih =>
   rintro es ⟨hf, h⟩;obtain ⟨x, es', hr, he, hK⟩ := ih _ es h;exact ⟨x, es', by simp only [Sem.runT, hf, if_true]; exact hr, he, hK⟩
 | program k ih =>
   intro es h;obtain ⟨x, es', hr, he, hK⟩ := ih P es h;exact ⟨x, es', by simp only [Sem.runT]; exact hr, he, hK⟩
 | store m a v k ih => exact fun _ x => x.elim
 | new o k ih => exact fun _ x => x.elim
 | freeze a n k ih => exact fun _ x => x.elim
 | setObj r o k ih => exact fun _ x => x.elim
 | sys c k ih => exact fun _ x => x.elim
 | mark m k ih =>
   rintro es ⟨hm, h⟩;obtain ⟨x, es', hr, he, hK⟩ := ih (es.push ⟨.mark m, false, true⟩) h;refine ⟨x, #[⟨.mark m, false, true⟩] ++ es', by simp only [Sem.runT]; rw [hr]; simp, fun e hm' => ?_, hK⟩;rcases Array.mem_append.1 hm' with h1 | h1
   · obtain rfl := by simpa using h1
     exact Δ.nor w m hm
   · exact he e h1
 | halt x => exact fun _ x => x.elim
theorem lX (Δ : Dom R D) {L : Frag} {w : World} (hO : Δ.Own L w) {s : Sem α} {v : α} (h : wpQ P s (· = v) L) : s.run P w = .ok v w ∧ ∀ e ∈ s.events P w #[], Δ.Ev w e := by
 obtain ⟨a, es', hr, he, rfl⟩ := zW Δ hO s #[] h;refine ⟨by rw [← Sem.runT_fst P s w #[], hr], ?_⟩;unfold Sem.events;rw [hr];simpa using he
end
section
variable {α β : Type} {P : Program} {L : Frag}
theorem aH {t : TypeId} {d : TypeDesc} {K : TypeDesc → Prop} (h : P.underlying t = some d) : wpQ P (underlying t) K L = K d := by
 show (wpQ P (match P.underlying t with | some d => pure d | none => stuck "no such type") K L) = K d;rw [h]; rfl
theorem ij {t : TypeId} {i : TypeInfo} {K : TypeInfo → Prop} (h : P.info? t = some i) : wpQ P (typeInfo t) K L = K i := by
 show (wpQ P (match P.info? t with | some d => pure d | none => stuck "no such type") K L) = K i;rw [h]; rfl
theorem cV {t n : Nat} {K : Nat → Prop} (h : sizeAt P t = some n) : wpQ P (sizeOf t) K L = K n := by
 obtain ⟨i, hi, rfl⟩ := Option.map_eq_some_iff.1 h;unfold sizeOf;rw [ar, ij hi]; rfl
theorem gI {t : Nat} {v : Value} {K : Value → Prop} (h : zeroAt P t = some v) : wpQ P (zeroValue t) K L = K v := by
 obtain ⟨i, hi, hz⟩ := Option.bind_eq_some_iff.1 h;unfold zeroValue;rw [ar, ij hi, hz]; rfl
theorem gb {t : Nat} {g : Bool} {K : Bool → Prop} (h : aggAt P t = some g) : wpQ P (isAgg t) K L = K g := by
 obtain ⟨d, hd, rfl⟩ := Option.map_eq_some_iff.1 h;unfold isAgg;rw [ar, aH hd];cases d <;> rfl
theorem dw {a : Addr} {K : Addr → Prop} : wpQ P (Instr.sureAddr (.pointer (some a))) K L = K a := rfl
theorem m8 {b i : Nat} {v : Value} {K : Value → Prop} (h : At L b i v) (hK : K v) : wpQ P (load ⟨b, i, none⟩) K L := by
 obtain ⟨fl, cs, ty, fr, hm, hv⟩ := h;exact ⟨rfl, fl, _, v, hm, by simpa [cellOf] using hv, hK⟩
theorem oV {r : Nat} {o : Obj} {fl : Bool} {K : Obj → Prop} (hm : (r, fl, o) ∈ L) (ho : thing o = true) (hK : K o) : wpQ P (getObj r) K L := ⟨fl, o, hm, ho, hK⟩
theorem gd {b : Nat} {fl : Bool} {cs : Array Value} {t : TypeId} {fr : Nat × Nat} {K : Option (TypeId × Nat) → Prop} (h : (b, fl, .cells cs t fr) ∈ L) (hK : K (some (t, cs.size))) : wpQ P (shape b) K L := ⟨fl, _, h, hK⟩
theorem fp {a : Addr} {fl : Bool} {cs : Array Value} {t : TypeId} {K : Bool → Prop} (h : (a.block, fl, .cells cs t) ∈ L) (hK : K false) : wpQ P (frozen a) K L := ⟨fl, _, h, by simpa [frozenOf, wpQ] using hK⟩
theorem lY {b o : Nat} {cs : Array Value} {ty : TypeId} {fr : Nat × Nat} {fl : Bool} (hm : (b, fl, .cells cs ty fr) ∈ L) {K : Array Value → Prop} :
   ∀ (n i : Nat) (acc : Array Value), o + i + n ≤ cs.size → K (acc ++ cs.extract (o + i) (o + i + n)) → wpQ P (loadCellsFrom ⟨b, o, none⟩ i n acc) K L := by
 intro n
 induction n with
 | zero =>
   intro i acc h hK;have e : cs.extract (o + i) (o + i + 0) = #[] := by apply Array.ext'; simp
   rw [e, Array.append_empty] at hK;exact hK
 | succ n ih =>
   intro i acc h hK;have hi : o + i < cs.size := by omega
   unfold loadCellsFrom;rw [ar, dv];refine m8 (b := b) (i := o + i) ⟨fl, cs, ty, fr, hm, Array.getElem?_eq_getElem hi⟩ ?_;refine ih (i + 1) _ (by omega) ?_;have e : acc.push cs[o + i] ++ cs.extract (o + (i + 1)) (o + (i + 1) + n) = acc ++ cs.extract (o + i) (o + i + (n + 1)) := by
     apply Array.ext';simp only [Array.toList_append, Array.toList_push, Array.toList_extract, List.append_assoc];congr 1;rw [List.extract_eq_take_drop, List.extract_eq_take_drop];have : cs.toList.drop (o + i) = cs[o + i] :: cs.toList.drop (o + i + 1) := by
       rw [List.drop_eq_getElem_cons (by simpa using hi)]; simp
     rw [this, show o + i + (n + 1) - (o + i) = n + 1 by omega, show o + (i + 1) + n - (o + (i + 1)) = n by omega, List.take_succ_cons, Nat.add_assoc];simp
   rw [e]; exact hK
theorem eZ {b o n : Nat} {cs : Array Value} {ty : TypeId} {fr : Nat × Nat} {fl : Bool} (hm : (b, fl, .cells cs ty fr) ∈ L) {K : Array Value → Prop} (h : o + n ≤ cs.size) (hK : K (cs.extract o (o + n))) : wpQ P (loadCells ⟨b, o, none⟩ n) K L :=
 lY hm n 0 #[] (by omega) (by simpa using hK)
end
def Yld (P : Program) (L : Frag) (s : Sem Next) (v : Value) : Prop := wpQ P s (· = .value v) L
theorem Yld.mono {P : Program} {L L' : Frag} {s : Sem Next} {v : Value} (h : Yld P L s v) (hL : ∀ t ∈ L, t ∈ L') : Yld P L' s v := da (fun _ h => h) hL s h
theorem Yld.go {P : Program} {L : Frag} {s : Sem Next} {v : Value} (h : Yld P L s v) {New : Obj → Prop} {Q : Next → Frag → Prop} (hQ : Q (.value v) L) : wpS P New s Q L := bJ (fun a e => by rw [e]; exact hQ) s h
section
variable {P : Program} {L : Frag} {ρ : Operand → Value} {d : Option Tmp} {ty : TypeId} {ps : String} {af : Array Edge} {g : Option (Nat × Bool)}
theorem cR {s : Sem Value} {f : Value → Sem Next} {v : Value} (hf : ∀ v, f v = pure (.value v)) (h : ∀ (K : Value → Prop), K v → wpQ P s K L) : Yld P L (s >>= f) v := by
 unfold Yld;rw [ar];exact h _ (by rw [hf]; rfl)
theorem yQ {x : Operand} : Yld P L (execOp ρ ⟨d, .move x, ty, ps, af, g⟩) (ρ x) := rfl
theorem tC {x : Operand} : Yld P L (execOp ρ ⟨d, .assign x, ty, ps, af, g⟩) (ρ x) := rfl
theorem yR {c a b : Operand} {t : Bool} (hc : ρ c = .bool t) : Yld P L (execOp ρ ⟨d, .pick c a b, ty, ps, af, g⟩) (if t then ρ a else ρ b) := by
 show wpQ P (asBool (ρ c) >>= fun t => pure (Next.value (if t then ρ a else ρ b))) (· = .value (if t then ρ a else ρ b)) L;rw [hc]; rfl
theorem oW {x : Operand} {a : Addr} (hx : ρ x = .pointer (some a)) : Yld P L (execOp ρ ⟨d, .nilCheck x, ty, ps, af, g⟩) (.pointer (some a)) := by
 unfold Yld;simp only [execOp, hx]; rfl
theorem m9 {x : Operand} {s f b i off : Nat} (hx : ρ x = .pointer (some ⟨b, i, none⟩)) (hf : fieldOff P s f = some off) : Yld P L (execOp ρ ⟨d, .fieldAddr s x f, ty, ps, af, g⟩) (.pointer (some ⟨b, i + off, none⟩)) := by
 refine cR (fun _ => rfl) fun K h => ?_;unfold fieldOff at hf
 split at hf <;> try cases hf
 rename_i fs hu
 split at hf <;> try cases hf
 rename_i fd hfd
 split at hf <;> try cases hf
 rename_i n hn;unfold Instr.fieldAt;rw [ar, aH hu, hx];simp only [hfd];rw [ar, dw, ar];unfold fieldPlace;rw [ar, cV hn];simp only [Nat.succ_ne_zero, if_false, Nat.add_eq_zero_iff, Nat.one_ne_zero, and_false];rw [bG, dv];exact h
theorem yS {x : Operand} {t b i : Nat} {v : Value} (hx : ρ x = .pointer (some ⟨b, i, none⟩)) (ht : aggAt P t = some false) (hv : At L b i v) : Yld P L (execOp ρ ⟨d, .load t x, ty, ps, af, g⟩) v := by
 refine cR (fun _ => rfl) fun K h => ?_;unfold Instr.loadAt;rw [hx, ar, dw];unfold loadVar;rw [ar, gb ht];exact m8 hv h
theorem rC {x : Operand} {t b i n : Nat} {cs : Array Value} {e : TypeId} {fr : Nat × Nat} {fl : Bool} (hx : ρ x = .pointer (some ⟨b, i, none⟩)) (ht : aggAt P t = some true) (hs : sizeAt P t = some n) (hm : (b, fl, .cells cs e fr) ∈ L) (hi : i + n ≤ cs.size) :
   Yld P L (execOp ρ ⟨d, .load t x, ty, ps, af, g⟩) (.agg (cs.extract i (i + n))) := by
 refine cR (fun _ => rfl) fun K h => ?_;unfold Instr.loadAt;rw [hx, ar, dw];unfold loadVar;rw [ar, gb ht];simp only [if_true];rw [ar, cV hs, ar];exact eZ hm hi h
theorem oX {x ix : Operand} {t b o sz : Nat} {len : Nat} {e : TypeId} {k : IntKind} {n : Int} (hx : ρ x = .pointer (some ⟨b, o, none⟩)) (hi : ρ ix = .int k n) (hu : P.underlying t = some (.array len e)) (hs : sizeAt P e = some sz) (h0 : 0 ≤ n) (h1 : n < len) :
   Yld P L (execOp ρ ⟨d, .indexAddr t x ix, ty, ps, af, g⟩) (.pointer (some ⟨b, o + n.toNat * sz, none⟩)) := by
 refine cR (fun _ => rfl) fun K h => ?_;unfold Instr.indexAt;rw [hx, hi];simp only [ar, asIntOf, bG, aH hu, dw, qd, cV hs, dv];rw [if_pos ⟨h0, h1⟩];exact h
theorem rF {x ix : Operand} {t b o sz : Nat} {len cap : Nat} {e : TypeId} {k : IntKind} {n : Int} (hx : ρ x = .slice (some ⟨b, o, none⟩) len cap) (hi : ρ ix = .int k n) (hu : P.underlying t = some (.slice e)) (hs : sizeAt P e = some sz) (h0 : 0 ≤ n) (h1 : n < len) :
   Yld P L (execOp ρ ⟨d, .indexAddr t x ix, ty, ps, af, g⟩) (.pointer (some ⟨b, o + n.toNat * sz, none⟩)) := by
 refine cR (fun _ => rfl) fun K h => ?_;unfold Instr.indexAt;rw [hx, hi];simp only [ar, asIntOf, bG, aH hu, qd, cV hs, dv];rw [if_pos ⟨h0, h1⟩];exact h
theorem jh {op : BinOp} {t : TypeId} {x y : Operand} {k k' : IntKind} {a b : Int} : eqGuard op t x y (.int k a) (.int k' b) = pure () := by
 unfold eqGuard;cases op <;> rfl
theorem fG {op : BinOp} {t u : TypeId} {x y : Operand} {k : IntKind} {a b : Int} {v : Value} (hx : ρ x = .int k a) (hy : ρ y = .int k b) (h : binOp op t (.int k a) (.int k b) = pure v) : Yld P L (execOp ρ ⟨d, .binOp op t x y u, ty, ps, af, g⟩) v := by
 refine cR (fun _ => rfl) fun K hQ => ?_;rw [hx, hy, jh];show wpQ P (binOp op t (.int k a) (.int k b)) K L;rw [h]; exact hQ
theorem zX {t u : TypeId} {x y : Operand} {k : IntKind} {a b : Int} (hx : ρ x = .int k a) (hy : ρ y = .int k b) : Yld P L (execOp ρ ⟨d, .binOp .add t x y u, ty, ps, af, g⟩) (.int k (k.wrap (a + b))) := fG hx hy (by simp [binOp, Op.intArith])
theorem zY {t u : TypeId} {x y : Operand} {k : IntKind} {a b : Int} (hx : ρ x = .int k a) (hy : ρ y = .int k b) : Yld P L (execOp ρ ⟨d, .binOp .sub t x y u, ty, ps, af, g⟩) (.int k (k.wrap (a - b))) := fG hx hy (by simp [binOp, Op.intArith])
theorem zZ {t u : TypeId} {x y : Operand} {k : IntKind} {a b : Int} (hx : ρ x = .int k a) (hy : ρ y = .int k b) : Yld P L (execOp ρ ⟨d, .binOp .mul t x y u, ty, ps, af, g⟩) (.int k (k.wrap (a * b))) := fG hx hy (by simp [binOp, Op.intArith])
theorem z0 {t u : TypeId} {x y : Operand} {k : IntKind} {a b : Int} (hx : ρ x = .int k a) (hy : ρ y = .int k b) (hb : b ≠ 0) : Yld P L (execOp ρ ⟨d, .binOp .rem t x y u, ty, ps, af, g⟩) (.int k (a.tmod b)) := fG hx hy (by simp [binOp, Op.intDiv, hb])
theorem z5 {t u : TypeId} {x y : Operand} {k : IntKind} {a b : Int} (hx : ρ x = .int k a) (hy : ρ y = .int k b) (hb : b ≠ 0) : Yld P L (execOp ρ ⟨d, .binOp .quo t x y u, ty, ps, af, g⟩) (.int k (k.wrap (a.tdiv b))) := fG hx hy (by simp [binOp, Op.intDiv, hb])
theorem z6 {t u : TypeId} {x y : Operand} {k : IntKind} {a b : Int} (hx : ρ x = .int k a) (hy : ρ y = .int k b) : Yld P L (execOp ρ ⟨d, .binOp .eql t x y u, ty, ps, af, g⟩) (.bool (a == b)) := fG hx hy (by simp [binOp, Op.intCmp])
theorem z7 {t u : TypeId} {x y : Operand} {k : IntKind} {a b : Int} (hx : ρ x = .int k a) (hy : ρ y = .int k b) : Yld P L (execOp ρ ⟨d, .binOp .neq t x y u, ty, ps, af, g⟩) (.bool (a != b)) := fG hx hy (by simp [binOp, Op.intCmp])
theorem z8 {t u : TypeId} {x y : Operand} {k : IntKind} {a b : Int} (hx : ρ x = .int k a) (hy : ρ y = .int k b) : Yld P L (execOp ρ ⟨d, .binOp .lss t x y u, ty, ps, af, g⟩) (.bool (decide (a < b))) := fG hx hy (by simp [binOp, Op.intCmp])
theorem z9 {t u : TypeId} {x y : Operand} {k : IntKind} {a b : Int} (hx : ρ x = .int k a) (hy : ρ y = .int k b) : Yld P L (execOp ρ ⟨d, .binOp .leq t x y u, ty, ps, af, g⟩) (.bool (decide (a ≤ b))) := fG hx hy (by simp [binOp, Op.intCmp])
theorem Aa {t u : TypeId} {x y : Operand} {k : IntKind} {a b : Int} (hx : ρ x = .int k a) (hy : ρ y = .int k b) : Yld P L (execOp ρ ⟨d, .binOp .gtr t x y u, ty, ps, af, g⟩) (.bool (decide (b < a))) := fG hx hy (by simp [binOp, Op.intCmp])
theorem Ac {t u : TypeId} {x y : Operand} {k : IntKind} {a b : Int} (hx : ρ x = .int k a) (hy : ρ y = .int k b) : Yld P L (execOp ρ ⟨d, .binOp .geq t x y u, ty, ps, af, g⟩) (.bool (decide (b ≤ a))) := fG hx hy (by simp [binOp, Op.intCmp])
theorem yT {s t : TypeId} {ds : TypeDesc} {x : Operand} {j k : IntKind} {n : Int} (hx : ρ x = .int j n) (hs : P.underlying s = some ds) (ht : P.underlying t = some (.int k)) : Yld P L (execOp ρ ⟨d, .convert s t x, ty, ps, af, g⟩) (.int k (k.wrap n)) := by
 refine cR (fun _ => rfl) fun K h => ?_;unfold convert;rw [hx, ar, aH hs, ar, aH ht];exact h
theorem Ad {t : TypeId} {x : Operand} {b : Bool} (hx : ρ x = .bool b) : Yld P L (execOp ρ ⟨d, .unOp .not t x, ty, ps, af, g⟩) (.bool !b) := by
 refine cR (fun _ => rfl) fun K h => ?_;rw [hx]; exact h
theorem Ae {t : TypeId} {x : Operand} {k : IntKind} {n : Int} (hx : ρ x = .int k n) : Yld P L (execOp ρ ⟨d, .unOp .neg t x, ty, ps, af, g⟩) (.int k (k.wrap (0 - n))) := by
 refine cR (fun _ => rfl) fun K h => ?_;rw [hx]; exact h
theorem rG {x : Operand} {i : Nat} {vs : Array Value} {v : Value} (hx : ρ x = .tuple vs) (hv : vs[i]? = some v) : Yld P L (execOp ρ ⟨d, .extract x i, ty, ps, af, g⟩) v := by
 refine cR (fun _ => rfl) fun K h => ?_;rw [hx];simp only [Instr.extract, hv]; exact h
theorem jR {f : Fn} {c1 c2 : Array Operand} : Yld P L (execOp ρ ⟨d, .makeFunc f c1 c2, ty, ps, af, g⟩) (.func f (c1.map ρ) (c2.map ρ)) := cR (fun _ => rfl) fun _ h => h
theorem na {t : TypeId} {x : Operand} {ds : TypeDesc} (ht : P.underlying t = some ds) (hi : ∀ ms, ds ≠ .interface ms) : Yld P L (execOp ρ ⟨d, .makeInterface t x, ty, ps, af, g⟩) (.iface t (ρ x)) := by
 refine cR (fun _ => rfl) fun K h => ?_;unfold Instr.makeInterface;rw [ar, aH ht];cases ds <;> first | exact h | exact absurd rfl (hi _)
theorem fg {t off : Nat} {cs : Array Value} {v : Value} {K : Value → Prop} (hg : aggAt P t = some false) (hv : cs[off]? = some v) (h : K v) : wpQ P (part t cs off) K L := by
 unfold part;rw [ar, gb hg];simp only [Bool.false_eq_true, if_false, hv];exact h
theorem vZ {x : Operand} {s f off n : Nat} {cs : Array Value} {v : Value} (hx : ρ x = .agg cs) (hf : fieldPart P s f = some (off, n, false)) (hv : cs[off]? = some v) : Yld P L (execOp ρ ⟨d, .field s x f, ty, ps, af, g⟩) v := by
 refine cR (fun _ => rfl) fun K h => ?_;unfold fieldPart at hf
 split at hf <;> try cases hf
 rename_i fs hu
 split at hf <;> try cases hf
 rename_i fd hfd
 split at hf <;> try cases hf
 rename_i h1 h2;unfold Instr.field;rw [ar, aH hu, hx];simp only [hfd];exact fg h2 hv h
theorem iW {b : Builtin} {args : Array Operand} {ats : Array TypeId} {s : Array Bool → Sem Value} {v : Value} (hb : ∀ cs, builtin b ats ty cs (args.map ρ) = (s cs >>= fun v => pure (.value v))) (h : ∀ cs (K : Value → Prop), K v → wpQ P (s cs) K L) :
   Yld P L (execOp ρ ⟨d, .call ⟨.builtin b, args, ats⟩, ty, ps, af, g⟩) v := by
 show wpQ P (builtin b ats ty _ (args.map ρ)) _ L;rw [hb, ar];exact h _ _ rfl
theorem wg {x : Operand} {ats : Array TypeId} {t : TypeId} {e : TypeId} {base : Option Addr} {len cap : Nat} (hx : ρ x = .slice base len cap) (ha : ats[0]? = some t) (hu : P.underlying t = some (.slice e)) : Yld P L (execOp ρ ⟨d, .call ⟨.builtin .len, #[x], ats⟩, ty, ps, af, g⟩) (.int .i64 len) := by
 refine iW (s := fun _ => Builtin.len_ ats ty (#[x].map ρ)) (fun _ => rfl) fun _ K h => ?_;unfold Builtin.len_;simp only [ha, List.map_toArray, List.map_cons, List.map_nil, hx, List.getElem?_toArray, List.getElem?_cons_zero];rw [ar, aH hu];exact h
theorem tF {x : Operand} {ats : Array TypeId} {t : TypeId} {s : ByteArray} (hx : ρ x = .string s) (ha : ats[0]? = some t) (hu : P.underlying t = some .string) : Yld P L (execOp ρ ⟨d, .call ⟨.builtin .len, #[x], ats⟩, ty, ps, af, g⟩) (.int .i64 s.size) := by
 refine iW (s := fun _ => Builtin.len_ ats ty (#[x].map ρ)) (fun _ => rfl) fun _ K h => ?_;unfold Builtin.len_;simp only [ha, List.map_toArray, List.map_cons, List.map_nil, hx, List.getElem?_toArray, List.getElem?_cons_zero];rw [ar, aH hu];exact h
theorem Af {x y : Operand} {ats : Array TypeId} {k k' : IntKind} {a b : Int} (hx : ρ x = .int k a) (hy : ρ y = .int k' b) : Yld P L (execOp ρ ⟨d, .call ⟨.builtin .min, #[x, y], ats⟩, ty, ps, af, g⟩) (.int k (if b < a then b else a)) := by
 refine iW (s := fun _ => Builtin.min_ ats ty (#[x, y].map ρ)) (fun _ => rfl) fun _ K h => ?_;unfold Builtin.min_;simp only [List.map_toArray, List.map_cons, List.map_nil, hx, hy, List.foldlM, Builtin.min2];exact h
theorem nc {op : BinOp} {t : TypeId} {x y : Operand} {a b : Option Addr} : eqGuard op t x y (.pointer a) (.pointer b) = pure () := by
 unfold eqGuard;cases op <;> rfl
theorem x9 {op : BinOp} {t u e : TypeId} {x y : Operand} {a b : Option Addr} {v : Bool} (hop : op = .eql ∨ op = .neq) (hx : ρ x = .pointer a) (hy : ρ y = .pointer b) (hu : P.underlying t = some (.pointer e))
   (h : ∀ (K : Bool → Prop), K v → wpQ P (Op.equal t (.pointer a) (.pointer b)) K L) : Yld P L (execOp ρ ⟨d, .binOp op t x y u, ty, ps, af, g⟩) (.bool (if op = .eql then v else !v)) := by
 refine cR (fun _ => rfl) fun K hQ => ?_;rw [hx, hy, nc];show wpQ P (binOp op t (.pointer a) (.pointer b)) K L;rcases hop with rfl | rfl
 · show wpQ P (do pure (.bool (← Op.equal t (.pointer a) (.pointer b)))) K L;rw [ar];exact h _ hQ
 · show wpQ P (do pure (.bool (!(← Op.equal t (.pointer a) (.pointer b))))) K L;rw [ar];exact h _ hQ
theorem dL {t : TypeId} {x y : Value} : Op.equal t x y = Op.equalIn (9999 + 1) t x y := rfl
theorem ng {t e : TypeId} {a : Option Addr} {K : Bool → Prop} (hu : P.underlying t = some (.pointer e)) (h : K a.isNone) : wpQ P (Op.equal t (.pointer a) (.pointer none)) K L := by
 rw [dL, Op.equalIn.eq_def];rw [ar, aH hu];cases a <;> exact h
theorem jS {a : Addr} {fl : Bool} {cs : Array Value} {t : TypeId} {fr : Nat × Nat} {K : Unit → Prop} (h : (a.block, fl, .cells cs t fr) ∈ L) (hQ : K ()) : wpQ P (noView a) K L := by
 unfold noView viewAt;rw [ar, ar];refine gd h ?_;simp only [Option.isSome_some, if_true];exact hQ
theorem gJ {a : Addr} {fl : Bool} {cs : Array Value} {t : TypeId} {K : Bool → Prop} (h : (a.block, fl, .cells cs t) ∈ L) (hQ : K false) : wpQ P (stringish a) K L := by
 unfold stringish;rw [ar];refine fp h ?_;simp only [Bool.false_eq_true, if_false];rw [ar];refine gd h ?_;exact fp (a := { block := a.block, off := cs.size }) h hQ
theorem lZ {a b : Addr} {fl fl' : Bool} {cs cs' : Array Value} {t t' : TypeId} {K : Bool → Prop} (h : (a.block, fl, .cells cs t) ∈ L) (h' : (b.block, fl', .cells cs' t') ∈ L) (hQ : K false) : wpQ P (mayBeOne a b) K L := by
 unfold mayBeOne;rw [ar];refine gJ h ?_;rw [ar];refine gJ h' ?_;simp only [Bool.false_and, Bool.or_false, ar];refine gd h ?_;refine gd h' ?_;exact hQ
theorem jT {t e n : TypeId} {b i b' i' : Nat} {cs cs' : Array Value} {ty1 ty1' : TypeId} {fl fl' : Bool} {K : Bool → Prop} (hu : P.underlying t = some (.pointer e)) (hs : sizeAt P e = some (n + 1))
   (h1 : (b, fl, .cells cs ty1) ∈ L) (h2 : (b', fl', .cells cs' ty1') ∈ L) (h : K (decide ((b, i) = (b', i')))) : wpQ P (Op.equal t (.pointer (some ⟨b, i, none⟩)) (.pointer (some ⟨b', i', none⟩))) K L := by
 rw [dL, Op.equalIn.eq_def];rw [ar, aH hu];show wpQ P (do if (← sizeOf e) ≠ 0 then sameAddr ⟨b, i, none⟩ ⟨b', i', none⟩ else _) K L;rw [ar, cV hs];simp only [ne_eq, Nat.add_eq_zero_iff, Nat.one_ne_zero, and_false, not_false_eq_true, if_true];unfold sameAddr;by_cases hb : b = b'
 · subst hb;simp only [beq_self_eq_true, if_true];have e0 : ((⟨b, i, none⟩ : Addr) == ⟨b, i', none⟩) = decide ((b, i) = (b, i')) := by
     rw [Bool.eq_iff_iff]; simp [Prod.ext_iff]
   rw [e0]; exact h
 · have hne : (b == b') = false := by simpa using hb
   have hd : decide ((b, i) = (b', i')) = false := by simp [hb]
   rw [hd] at h;simp only [hne, Bool.false_eq_true, if_false];rw [ar];refine fp h1 ?_;rw [ar];refine fp h2 ?_;simp only [Bool.and_false, Bool.false_eq_true, if_false];rw [ar];refine jS h1 ?_;rw [ar];refine jS h2 ?_;rw [ar];refine lZ h1 h2 ?_;exact h
theorem wh {t u e : TypeId} {x y : Operand} {a : Option Addr} (hx : ρ x = .pointer a) (hy : ρ y = .pointer none) (hu : P.underlying t = some (.pointer e)) : Yld P L (execOp ρ ⟨d, .binOp .eql t x y u, ty, ps, af, g⟩) (.bool a.isNone) :=
 x9 (.inl rfl) hx hy hu fun _ h => ng hu h
theorem tG {t u e n : TypeId} {x y : Operand} {b i b' i' : Nat} {cs cs' : Array Value} {ty1 ty1' : TypeId} {fl fl' : Bool} (hx : ρ x = .pointer (some ⟨b, i, none⟩)) (hy : ρ y = .pointer (some ⟨b', i', none⟩)) (hu : P.underlying t = some (.pointer e)) (hs : sizeAt P e = some (n + 1))
   (h1 : (b, fl, .cells cs ty1) ∈ L) (h2 : (b', fl', .cells cs' ty1') ∈ L) : Yld P L (execOp ρ ⟨d, .binOp .eql t x y u, ty, ps, af, g⟩) (.bool (decide ((b, i) = (b', i')))) :=
 x9 (.inl rfl) hx hy hu fun _ h => jT hu hs h1 h2 h
theorem wq {op : BinOp} {t u : TypeId} {x y : Operand} {v : Value} {b : Bool} {ms : Array (String × TypeId)} (hop : op = .eql ∨ op = .neq) (hv : (v = .nilIface ∧ b = true) ∨ (∃ s w, v = .iface s w ∧ b = false)) (hx : ρ x = v) (hy : y = .const .nilIface) (hy' : ρ y = .nilIface) (hu : P.underlying t = some (.interface ms)) :
   Yld P L (execOp ρ ⟨d, .binOp op t x y u, ty, ps, af, g⟩) (.bool (if op = .eql then b else !b)) := by
 refine cR (fun _ => rfl) fun K hQ => ?_;have hg : eqGuard op t x y v .nilIface = pure () := by
   unfold eqGuard;rcases hop with rfl | rfl <;> rcases hv with ⟨rfl, _⟩ | ⟨s, w, rfl, _⟩ <;> subst hy <;> simp
 rw [hx, hy', hg];show wpQ P (binOp op t v .nilIface) K L;have he : ∀ (K : Bool → Prop), K b → wpQ P (Op.equal t v .nilIface) K L := fun K hQ => by
   rw [dL, Op.equalIn.eq_def, ar, aH hu];rcases hv with ⟨rfl, rfl⟩ | ⟨s, w, rfl, rfl⟩ <;> exact hQ
 have e1 : binOp op t v .nilIface = if op = .eql then (do pure (.bool (← Op.equal t v .nilIface))) else (do pure (.bool (!(← Op.equal t v .nilIface)))) := by
   rcases hop with rfl | rfl <;> rcases hv with ⟨rfl, _⟩ | ⟨s, w, rfl, _⟩ <;> rfl
 rw [e1];rcases hop with rfl | rfl
 · simp only [if_true, ar]; exact he _ hQ
 · simp only [reduceCtorEq, if_false, ar]; exact he _ hQ
end
section
variable {P : Program} {New : Obj → Prop} {L : Frag} {Q : Next → Frag → Prop} {ρ : Operand → Value} {d : Option Tmp} {ty : TypeId} {ps : String} {af : Array Edge} {g : Option (Nat × Bool)}
theorem bv {v : Value} (h : plainV v = true) : v.cells = #[v] := by cases v <;> first | rfl | cases h
theorem wu {t : TypeId} {x y : Operand} {b i n : Nat} {v : Value} {cs : Array Value} {e : TypeId} (hx : ρ x = .pointer (some ⟨b, i, none⟩)) (hy : ρ y = v) (hs : sizeAt P t = some 1) (hn : L[n]? = some (b, true, .cells cs e)) (hi : i < cs.size) (hp : plainV v = true)
   (hQ : Q .skip (L.set n (b, true, .cells (cs.setIfInBounds i v) e))) : wpS P New (execOp ρ ⟨d, .store t x y, ty, ps, af, g⟩) Q L := by
 show wpS P New (Instr.storeAt t (ρ x) (ρ y) >>= fun _ => pure .skip) Q L;unfold Instr.storeAt storeVar;rw [hx, hy, aj, aj, ii, aj, bI hs, bv hp];simp only [List.size_toArray, List.length_cons, List.length_nil, Nat.zero_add, ne_eq, not_true_eq_false, if_false];refine cC hn (by simp; omega) (by simpa using hp) ?_;exact hQ
theorem oY {t : TypeId} {x y : Operand} {b i n m : Nat} {vs : List Value} {cs : Array Value} {e : TypeId} (hx : ρ x = .pointer (some ⟨b, i, none⟩)) (hy : ρ y = .agg vs.toArray) (hs : sizeAt P t = some m) (hm : vs.length = m) (hn : L[n]? = some (b, true, .cells cs e)) (hi : i + vs.length ≤ cs.size) (hp : vs.all plainV = true)
   (hQ : Q .skip (L.set n (b, true, .cells (puts cs i vs) e))) : wpS P New (execOp ρ ⟨d, .store t x y, ty, ps, af, g⟩) Q L := by
 show wpS P New (Instr.storeAt t (ρ x) (ρ y) >>= fun _ => pure .skip) Q L;unfold Instr.storeAt storeVar;rw [hx, hy, aj, aj, ii, aj, bI hs];simp only [Value.cells, List.size_toArray, hm, ne_eq, not_true_eq_false, if_false];exact cC hn hi hp hQ
theorem wv {t : TypeId} {z : Value} (hz : zeroAt P t = some z) (hN : New (.cells z.cells t)) (hQ : ∀ b, (∀ t ∈ L, t.1 ≠ b) → Q (.value (.pointer (some ⟨b, 0, none⟩))) ((b, true, .cells z.cells t) :: L)) : wpS P New (execOp ρ ⟨d, .alloc t, ty, ps, af, g⟩) Q L := by
 show wpS P New (Instr.alloc t true (.tuple #[]) >>= fun v => pure (.value v)) Q L;unfold Instr.alloc newVar newRow;rw [aj, aj, cv hz];simp only [aj];exact bY hN hQ
theorem Ag {t : TypeId} {x : Operand} {v : Value} (hx : ρ x = v) (hN : New (.cells v.cells t)) (hQ : ∀ b, (∀ t ∈ L, t.1 ≠ b) → Q (.value (.pointer (some ⟨b, 0, none⟩))) ((b, true, .cells v.cells t) :: L)) : wpS P New (execOp ρ ⟨d, .box t x, ty, ps, af, g⟩) Q L := by
 show wpS P New (Instr.box t (ρ x) >>= fun v => pure (.value v)) Q L;unfold Instr.box newVar newRow;rw [hx];simp only [aj];exact bY hN hQ
theorem rH {t : TypeId} (hN : New (.map #[] 0)) (hQ : ∀ b, (∀ t ∈ L, t.1 ≠ b) → Q (.value (.map (some b))) ((b, true, .map #[] 0) :: L)) : wpS P New (execOp ρ ⟨d, .makeMap t none, ty, ps, af, g⟩) Q L := by
 show wpS P New (Instr.makeMap t none >>= fun v => pure (.value v)) Q L;unfold Instr.makeMap;simp only [aj, bm];exact bY hN hQ
theorem k5 {t e : TypeId} {x : Operand} {v z : Value} (hx : ρ x = v) (hu : P.underlying t = some (.slice e)) (hs : sizeAt P e = some 1) (hz : zeroAt P e = some z) (hzp : plainV z = true) (hp : plainV v = true) (hN : New (.cells #[v] e))
   (hQ : ∀ b, (∀ t ∈ L, t.1 ≠ b) → Q (.value (.slice (some ⟨b, 0, none⟩) 1 1)) ((b, true, .cells #[v] e) :: L)) : wpS P New (execOp ρ ⟨d, .buildSlice t 1 #[(0, x)], ty, ps, af, g⟩) Q L := by
 simp only [execOp, List.map_toArray, List.map_cons, List.map_nil];unfold Instr.buildSlice newRow;have h0 : Instr.fill (fun i => some (i * 1, 1)) ((Array.range (1 * 1)).map (#[z][· % #[z].size]!)) [(0, v)] = some #[v] := by
   have e1 : (Array.range (1 * 1)).map (#[z][· % #[z].size]!) = #[z] := by
     have : Array.range (1 * 1) = #[0] := by decide
     rw [this]; simp
   rw [e1];simp [Instr.fill, bv hp]
 rw [aj, aj, aN hu, hx];simp only [];rw [aj, bI hs];simp only [Nat.one_mul, gt_iff_lt, Nat.reduceLT, Nat.reducePow, if_false, Nat.one_ne_zero];rw [aj, cv hz, aj, bm, bv hzp];simp only [Nat.one_mul] at h0;simp only [h0, aj];exact bY hN hQ
theorem ll (n : Nat) : ∀ (r c : Nat), c ≤ n → Builtin.growBy n r c ≤ 2 * n + 192
 | 0, c, h => by unfold Builtin.growBy; omega
 | r + 1, c, h => by
   unfold Builtin.growBy
   split
   · omega
   · rename_i hc;by_cases h2 : c + (c + 768) / 4 ≤ n
     · exact ll n r _ h2
     · cases r with
       | zero => unfold Builtin.growBy; omega
       | succ r => unfold Builtin.growBy; rw [if_pos (by omega)]; omega
theorem oZ {n c : Nat} (h : c < n) : Builtin.nextslicecap n c ≤ 2 * n + 192 := by
 unfold Builtin.nextslicecap
 split
 · omega
 · split
   · omega
   · exact ll n 4 c (by omega)
structure Reads (P : Program) (L : Frag) (sz n : Nat) (x : Value) (vs : Array Value) : Prop where
 r : ∀ (New : Obj → Prop) (Q : Array Value → Frag → Prop), Q vs L → wpS P New (Builtin.firstCells sz n x) Q L
theorem dM {sz n len cap : Nat} : Reads P L sz n (.slice none len cap) #[] := ⟨fun _ _ hQ => hQ⟩
theorem cP {b : Builtin} {args : Array Operand} {ats : Array TypeId} {s : Sem Value} (hb : ∀ cs, builtin b ats ty cs (args.map ρ) = (s >>= fun v => pure (.value v))) (h : wpS P New s (fun v L' => Q (.value v) L') L) : wpS P New (execOp ρ ⟨d, .call ⟨.builtin b, args, ats⟩, ty, ps, af, g⟩) Q L := by
 show wpS P New (builtin b ats ty _ (args.map ρ)) Q L;rw [hb, aj];exact h
theorem nh {n : Nat} {Q : Unit → Frag → Prop} (h : Q () L) : wpS P New (askRoom n) Q L := by
 unfold askRoom
 split
 · exact ⟨rfl, h⟩
 · exact h
theorem o0 {x y : Operand} {t u e e2 : TypeId} {sz sLen sCap b o n m : Nat} {yb : Option Addr} {yc : Nat} {vs : Array Value} {cs : Array Value} {e' : TypeId} (hx : ρ x = .slice (some ⟨b, o, none⟩) sLen sCap) (hy : ρ y = .slice yb n yc) (hu : P.underlying t = some (.slice e)) (hv : P.underlying u = some (.slice e2)) (hs : sizeAt P e = some sz)
   (hr : Reads P L sz n (.slice yb n yc) vs) (hc : sLen + n ≤ sCap) (hm : L[m]? = some (b, true, .cells cs e')) (ho : o + sLen * sz + vs.size ≤ cs.size) (hp : vs.toList.all plainV = true)
   (hQ : Q (.value (.slice (some ⟨b, o, none⟩) (sLen + n) sCap)) (L.set m (b, true, .cells (puts cs (o + sLen * sz) vs.toList) e'))) : wpS P New (execOp ρ ⟨d, .call ⟨.builtin .append, #[x, y], #[t, u]⟩, ty, ps, af, g⟩) Q L := by
 refine cP (s := Builtin.append_ #[t, u] ty #[.slice (some ⟨b, o, none⟩) sLen sCap, .slice yb n yc]) (fun _ => by simp [builtin, hx, hy]) ?_;unfold Builtin.append_;simp only [List.getElem?_toArray, List.getElem?_cons_zero, List.getElem?_cons_succ];rw [aj, aN hu];simp only [];rw [aj, bI hs];rw [aj, aN hv, aj, bm];simp only [Bool.false_eq_true, if_false, Bool.not_false, if_true, Builtin.lenOf];rw [aj, bm];simp only [hc, if_true];rw [aj];refine hr.r New _ ?_;rw [aj, dv];exact cC hm (by simpa using ho) hp hQ
theorem ni {x y : Operand} {t u e e2 : TypeId} {sz by_ sLen sCap n : Nat} {xb yb : Option Addr} {yc : Nat} {ws vs : Array Value} {z : Value} (hx : ρ x = .slice xb sLen sCap) (hy : ρ y = .slice yb n yc) (hu : P.underlying t = some (.slice e)) (hv : P.underlying u = some (.slice e2)) (hs : sizeAt P e = some sz) (hb : bytesAt P e = some (by_ + 1)) (hz0 : zeroAt P e = some z)
   (hw : Reads P L sz sLen (.slice xb sLen sCap) ws) (hr : Reads P L sz n (.slice yb n yc) vs) (hc : sCap < sLen + n) (hbig : (2 * (sLen + n) + 192) * (by_ + 1) ≤ 281474976710656) (hN : ∀ cs, New (.cells cs e))
   (hQ : ∀ b cap, (∀ t ∈ L, t.1 ≠ b) → sLen + n ≤ cap → cap < 9223372036854775808 → Q (.value (.slice (some ⟨b, 0, none⟩) (sLen + n) cap)) ((b, true, .cells (ws ++ vs ++ Builtin.zeroCells z.cells (cap - (sLen + n))) e) :: L)) : wpS P New (execOp ρ ⟨d, .call ⟨.builtin .append, #[x, y], #[t, u]⟩, ty, ps, af, g⟩) Q L := by
 refine cP (s := Builtin.append_ #[t, u] ty #[.slice xb sLen sCap, .slice yb n yc]) (fun _ => by simp [builtin, hx, hy]) ?_;unfold Builtin.append_;simp only [List.getElem?_toArray, List.getElem?_cons_zero, List.getElem?_cons_succ];obtain ⟨inf, hinf, hby⟩ := Option.map_eq_some_iff.1 hb;rw [aj, aN hu];simp only [];rw [aj, bI hs];rw [aj, aN hv, aj, bm];simp only [Bool.false_eq_true, if_false, Bool.not_false, if_true, Builtin.lenOf];rw [aj, bm];have h1 : ¬ (sLen + n ≤ sCap) := by omega
 simp only [h1, if_false];rw [aj, du hinf];have h2 : ¬ (((sLen + n : Nat) : Int) > IntKind.i64.max ∧ (False ∨ inf.bytes = 0)) := by rw [hby]; rintro ⟨_, h | h⟩ <;> simp at h
 simp only [h2, if_false];rw [aj, du hinf];have h3 : ¬ (Builtin.nextslicecap (sLen + n) sCap * inf.bytes > 2 ^ 48) := by
   rw [hby];have := Nat.mul_le_mul_right (by_ + 1) (oZ hc);omega
 simp only [h3, if_false];rw [aj];have hlt : sLen + n < 9223372036854775808 := by
   have : 2 * (sLen + n) + 192 ≤ (2 * (sLen + n) + 192) * (by_ + 1) := Nat.le_mul_of_pos_right _ (by omega);omega
 refine ⟨fun h => by simp [Question.forced] at h, fun _ tp => ?_⟩;have hcap : sLen + n ≤ Question.cut (.appendCap (sLen + n) sCap e) tp ∧ Question.cut (.appendCap (sLen + n) sCap e) tp < 9223372036854775808 := by
   simp only [Question.cut];have := Nat.mod_lt tp (show 2 ^ 63 - (sLen + n) > 0 by omega);omega
 generalize Question.cut (.appendCap (sLen + n) sCap e) tp = cap at hcap ⊢;rw [iV, aj, du hinf, aj];refine nh ?_;rw [aj];refine hw.r New _ ?_;rw [aj];refine hr.r New _ ?_;rw [aj, cv hz0];simp only [newRow, aj];exact bY (hN _) fun b hb => hQ b cap hb hcap.1 hcap.2
end
section
variable {σ : Type} (F : Fam σ) (P : Program) (main : Bool) (fn : FuncId) (ops : Array Oper) (S : Array Bool → σ → World → Prop) (Q : σ → Exit → Act → World → Prop) (nf : Nat)
def AnyY : Nat → Array Bool → σ → Act → World → Prop
 | 0, ls, s, a, w => Region.ready .any ops ls = [] ∧ Q s .normal a w
 | fuel + 1, ls, s, a, w =>
   (Region.ready .any ops ls = [] → Q s .normal a w) ∧
   ∀ i ∈ Region.ready .any ops ls, OpX F P main fn ops nf i (fun s' a' w' => S (ls.setIfInBounds i true) s' w' ∧ AnyY fuel (ls.setIfInBounds i true) s' a' w') s a w
def Down (ls : Array Bool) : Prop := ls.size = ops.size ∧ ∀ j oj, ops[j]? = some oj → ls.getD j true = true → ∀ e ∈ oj.after, Region.binds .any e = true → ls.getD e.on false = true
end
def hangs (ops : Array Oper) : Nat → Nat → Nat → Bool
 | 0, _, _ => false
 | f + 1, e, i => match ops[e]? with
   | some oe => oe.after.any fun ed => Region.binds .any ed && (ed.on == i || hangs ops f ed.on i)
   | none => false
section
variable {ops : Array Oper} {ls : Array Bool}
theorem l9 {i : Nat} (h : ls.getD i false = true) : ls.getD i true = true := by
 simp only [Array.getD_eq_getD_getElem?] at *;cases hx : ls[i]? <;> simp_all
theorem Down.hangs (h : Down ops ls) : ∀ (f e i : Nat), Lo.hangs ops f e i = true → ls.getD e true = true → ls.getD i false = true
 | 0, _, _, hh, _ => by simp [Lo.hangs] at hh
 | f + 1, e, i, hh, he => by
   unfold Lo.hangs at hh
   split at hh
   · rename_i oe hoe;obtain ⟨ed, hed, hb⟩ := Array.any_eq_true'.1 hh;simp only [Bool.and_eq_true, Bool.or_eq_true, beq_iff_eq] at hb;have h1 := h.2 e oe hoe he ed hed hb.1;rcases hb.2 with rfl | h2
     · exact h1
     · exact h.hangs f ed.on i h2 (l9 h1)
   · cases hh
theorem nj {i j : Nat} {d : Bool} (h : ls.getD j d = true) : (ls.setIfInBounds i true).getD j d = true := by
 simp only [Array.getD_eq_getD_getElem?, Array.getElem?_setIfInBounds] at *
 split
 · split <;> simp_all
 · exact h
theorem Down.step (h : Down ops ls) {i : Nat} (hi : i ∈ Region.ready .any ops ls) : Down ops (ls.setIfInBounds i true) := by
 obtain ⟨hun, oi, hoi, hall⟩ := mem_ready.1 hi;refine ⟨by simpa using h.1, fun j oj hoj hj e he hb => ?_⟩;by_cases hji : i = j
 · subst hji;obtain rfl := Option.some.inj (hoi.symm.trans hoj);exact nj (hall e he hb)
 · refine nj (h.2 j oj hoj ?_ e he hb);simpa [Array.getD_eq_getD_getElem?, Array.getElem?_setIfInBounds, hji] using hj
theorem jU : Down ops (Array.replicate ops.size false) := by
 refine ⟨by simp, fun j oj hoj hj => ?_⟩;have : j < ops.size := (Array.getElem?_eq_some_iff.1 hoj).1;simp [Array.getD_eq_getD_getElem?, this] at hj
end
section
variable {σ : Type} {F : Fam σ} {P : Program} {main : Bool} {fn : FuncId} {ops : Array Oper} {S : Array Bool → σ → World → Prop} {Q : σ → Exit → Act → World → Prop} {nf : Nat}
theorem AnyY.rely (hSR : ∀ ls s x y, S ls s x → F.R s x y → S ls s y) (hQR : ∀ s a x y, Q s .normal a x → F.R s x y → Q s .normal a y) :
   ∀ (fuel : Nat) (ls : Array Bool) (s : σ) (a : Act) (w w₁ : World), AnyY F P main fn ops S Q nf fuel ls s a w → F.R s w w₁ → AnyY F P main fn ops S Q nf fuel ls s a w₁
 | 0, _, _, _, _, _, h, r => ⟨h.1, hQR _ _ _ _ h.2 r⟩
 | fuel + 1, ls, s, a, w, w₁, h, r => ⟨fun e => hQR _ _ _ _ (h.1 e) r, fun i hi => by
     rcases h.2 i hi with this | ⟨o, f, args, ats, Post, h1, h2, h3, h4, h5⟩
     · refine .inl ?_;unfold OpC at *
       split
       · simp_all
       · rename_i o ho;simp only [ho] at this
         split
         · rename_i hw; simp only [hw, if_true] at this; exact fun w₂ h₂ => this w₂ ((F.terms s).trans _ _ _ r h₂)
         · rename_i hw; simp only [hw] at this; exact ⟨hSR _ _ _ _ this.1 r, AnyY.rely hSR hQR fuel _ _ _ _ _ this.2 r⟩
     · exact .inr ⟨o, f, args, ats, Post, h1, h2, h3, mV h4 r, h5⟩⟩
theorem o3 : ∀ (fuel t : Nat) (ls : Array Bool) (s : σ) (a : Act) (w : World), AnyY F P main fn ops S Q nf fuel ls s a w →
   OpsX F P main fn ops (Region.linearise.go .any ops fuel t ls []) (fuel * (nf + 3) + 1) s Q a w := by
 intro fuel
 induction fuel with
 | zero => intro t ls s a w h; simpa [Region.linearise.go] using bu h.2
 | succ fuel ih =>
   intro t ls s a w h;obtain ⟨h₀, h₁⟩ := h;simp only [Region.linearise.go]
   change OpsX F P main fn ops (match (Region.ready .any ops ls)[t % (Region.ready .any ops ls).length]? with
     | some i => Region.linearise.go .any ops fuel (t / (Region.ready .any ops ls).length) (ls.setIfInBounds i true) [i]
     | none => [].reverse) ((fuel + 1) * (nf + 3) + 1) s Q a w
   cases hi : (Region.ready .any ops ls)[t % (Region.ready .any ops ls).length]? with
   | none =>
     have hnil : Region.ready .any ops ls = [] := by
       cases hr : Region.ready .any ops ls with
       | nil => rfl
       | cons x xs =>
         rw [hr] at hi;have hlt : t % (x :: xs).length < (x :: xs).length := Nat.mod_lt _ (by simp);simp at hi;simp at hlt;omega
     exact fe (by simpa using bu (h₀ hnil)) (by omega)
   | some i =>
     simp only [];rw [linearise_go_acc, List.reverse_singleton, List.singleton_append];have := mX (mW (fun s' a' w' x => ih (t / (Region.ready .any ops ls).length) _ s' a' w' x.2) (h₁ i (List.mem_of_getElem? hi)));exact fe this (by rw [Nat.succ_mul]; omega)
theorem wy {j : Nat} {oi oj : Oper} {v : Value} (hj : ops[j]? = some oj) (hap : oi.apart ops oj = true)
   (hsj : ∀ cs b, oj.op ≠ .select cs b) {K : σ → Act → World → Prop} {s : σ} {a : Act} {w : World} (h : OpX F P main fn ops nf j K s (a.put oi.dst v) w) :
   OpX F P main fn ops nf j (fun s' a' w' => (∃ u, a' = a.put oj.dst u) ∧ K s' (a'.put oi.dst v) w') s a w := by
 obtain ⟨h1, h2, h3⟩ := Oper.apart_spec hap;rcases h with h | ⟨o, f, args, ats, Post, g1, g2, g3, g4, g5⟩
 · refine .inl ?_;unfold OpC at *;simp only [hj] at *;rw [wanted_put oj a oi.dst v h1] at h
   split
   · rename_i hw;simp only [hw, if_true] at h;intro w₁ h₁;have h := h w₁ h₁;unfold listed at *;rw [execOp_put oj hsj a oi.dst v h1] at h;generalize (execOp a.eval oj).run P w₁ = r at *;cases r with
     | ok n w' =>
       cases n <;> simp only [uponK] at h ⊢
       case value u => exact ⟨h.1, ⟨u, rfl⟩, by rw [← Act.put_comm a v u h2]; exact h.2⟩
       case skip => exact ⟨h.1, ⟨_, rfl⟩, by rw [← Act.put_comm a v undef h2]; exact h.2⟩
     | halt x w' => simp only [uponK] at h
   · rename_i hw;simp only [hw] at h;exact ⟨⟨_, rfl⟩, by rw [← Act.put_comm a v undef h2]; exact h⟩
 · obtain rfl : oj = o := Option.some.inj (hj.symm.trans g1);refine .inr ⟨oj, f, args, ats, Post, hj, by rw [wanted_put oj a oi.dst v h1] at g2; exact g2, g3, ?_, fun s' u w' hp => ⟨⟨u, rfl⟩, by rw [← Act.put_comm a v u h2]; exact g5 s' u w' hp⟩⟩;have : args.map (a.put oi.dst v).eval = args.map a.eval := by
     apply Array.map_congr_left;intro x hx;refine Act.eval_put fun d hd hxd => h1 d hd ?_;subst hxd;refine List.mem_append_left _ (List.mem_filterMap.2 ⟨.tmp d, ?_, rfl⟩);simp [g3, Op.operands, Call.operands, hx]
   rw [this] at g4;exact g4
def YY (F : Fam σ) (P : Program) (fn : FuncId) (ops : Array Oper) (S : Array Bool → σ → World → Prop) (i : Nat) (oi : Oper) (v : Value) (a : Act) : Prop :=
 ∀ ls, Down ops ls → ls.getD i true = false → YieldsX F P fn ops (S ls) oi v a
theorem o4 (hSR : ∀ ls s x y, S ls s x → F.R s x y → S ls s y) (hQR : ∀ s a x y, Q s .normal a x → F.R s x y → Q s .normal a y) {i : Nat} {oi : Oper} {v : Value} (hi : ops[i]? = some oi)
   (hsel : ∀ (j : Nat) (o : Oper) cs b, ops[j]? = some o → o.op ≠ .select cs b) (hSi : ∀ ls s w, S ls s w ↔ S (ls.setIfInBounds i true) s w) :
   ∀ (fuel : Nat) (ls : Array Bool) (s : σ) (a : Act) (w : World), Down ops ls →
     (∀ j oj, ops[j]? = some oj → j ≠ i → ls.getD j true = false → (∀ e ∈ oj.after, Region.binds .any e = true → e.on ≠ i) → oi.apart ops oj = true) →
     i ∈ Region.ready .any ops ls → YY F P fn ops S i oi v a → S ls s w →
     AnyY F P main fn ops S Q nf fuel (ls.setIfInBounds i true) s (a.put oi.dst v) w → AnyY F P main fn ops S Q nf (fuel + 1) ls s a w := by
 have hK : ∀ fuel ls, ∀ s a x y, (S ls s x ∧ AnyY F P main fn ops S Q nf fuel ls s a x) → F.R s x y → (S ls s y ∧ AnyY F P main fn ops S Q nf fuel ls s a y) :=
   fun fuel ls s a x y h r => ⟨hSR _ _ _ _ h.1 r, AnyY.rely hSR hQR fuel ls s a x y h.2 r⟩
 intro fuel
 induction fuel with
 | zero =>
   intro ls s a w hD _ hr hy hS H;refine ⟨fun h => (by rw [h] at hr; cases hr), fun j hj => ?_⟩;have hun := (mem_ready.1 hr).1;by_cases hji : j = i
   · subst hji; exact (hy ls hD hun).opX (hSR ls) hi (hK _ _) hS ⟨(hSi _ _ _).1 hS, H⟩
   · have := ready_mono hj hji;rw [H.1] at this;cases this
 | succ fuel ih =>
   intro ls s a w hD hfree hr hy hS H;have hun := (mem_ready.1 hr).1;refine ⟨fun h => (by rw [h] at hr; cases hr), fun j hj => ?_⟩;by_cases hji : j = i
   · subst hji; exact (hy ls hD hun).opX (hSR ls) hi (hK _ _) hS ⟨(hSi _ _ _).1 hS, H⟩
   · have h1 := H.2 j (ready_mono hj hji);obtain ⟨hjun, oj, hoj, hall⟩ := mem_ready.1 hj;have hnot : ∀ e ∈ oj.after, Region.binds .any e = true → e.on ≠ i := fun e he hb heq => by
       have h1 := hall e he hb;have h0 := (mem_ready.1 hr).1;rw [heq] at h1;rcases Nat.lt_or_ge i ls.size with h' | h'
       · simp [h'] at h0 h1; rw [h0] at h1; cases h1
       · simp [Array.getElem?_eq_none h'] at h1
     have hap := hfree j oj hoj hji hjun hnot;obtain ⟨g1, g2, g3⟩ := Oper.apart_spec hap;have h2 := wy hoj hap (fun cs b => hsel j oj cs b hoj) h1
     have hfree' : ∀ k ok, ops[k]? = some ok → k ≠ i → (ls.setIfInBounds j true).getD k true = false →
         (∀ e ∈ ok.after, Region.binds .any e = true → e.on ≠ i) → oi.apart ops ok = true := fun k ok hk hki hun hno => by
       refine hfree k ok hk hki ?_ hno;by_cases hjk : j = k
       · subst hjk; exact hjun
       · rw [getD_set_ne true hjk] at hun; exact hun
     have hun' : (ls.setIfInBounds j true).getD i true = false := by rw [getD_set_ne true hji]; exact hun
     refine mW (fun s' a' w' h3 => ?_) h2;obtain ⟨⟨u, rfl⟩, h4, h5⟩ := h3;have hS' : S (ls.setIfInBounds j true) s' w' := by
       rw [hSi, Array.setIfInBounds_comm _ _ hji];exact h4
     refine ⟨hS', ih (ls.setIfInBounds j true) s' _ w' (hD.step hj) hfree' (ready_mono hr (Ne.symm hji)) (fun ls' d' u' s => (hy ls' d' u' s).of_same (execOp_put oi (fun cs b => hsel i oi cs b hi) a oj.dst u g3) (wanted_put oi a oj.dst u g3)) hS' ?_⟩;rw [Array.setIfInBounds_comm _ _ hji];exact h5
theorem iX (hSR : ∀ ls s x y, S ls s x → F.R s x y → S ls s y) (hQR : ∀ s a x y, Q s .normal a x → F.R s x y → Q s .normal a y) {i : Nat} {oi : Oper} {v : Value} {fuel : Nat} {ls : Array Bool} {s : σ} {a : Act} {w : World} (hi : ops[i]? = some oi)
   (hs : Region.noSelect ops = true) (hf : Region.free .any ops ls i = true) (hr : (Region.ready .any ops ls).contains i = true) (hD : Down ops ls) (hSi : ∀ ls s w, S ls s w ↔ S (ls.setIfInBounds i true) s w)
   (hy : YY F P fn ops S i oi v a) (hS : S ls s w) (h : AnyY F P main fn ops S Q nf fuel (ls.setIfInBounds i true) s (a.put oi.dst v) w) : AnyY F P main fn ops S Q nf (fuel + 1) ls s a w :=
 o4 hSR hQR hi (Region.noSelect_spec hs) hSi fuel ls s a w hD (Region.free_spec hi hf) (by simpa using hr) hy hS h
theorem ik {rs : List Nat} {fuel : Nat} {ls : Array Bool} {s : σ} {a : Act} {w : World} (hr : Region.ready .any ops ls = rs) (hne : rs ≠ [])
   (h : ∀ i ∈ rs, OpX F P main fn ops nf i (fun s' a' w' => S (ls.setIfInBounds i true) s' w' ∧ AnyY F P main fn ops S Q nf fuel (ls.setIfInBounds i true) s' a' w') s a w) : AnyY F P main fn ops S Q nf (fuel + 1) ls s a w :=
 ⟨fun h0 => absurd (hr ▸ h0) hne, hr ▸ h⟩
theorem lm {ls : Array Bool} {s : σ} {a : Act} {w : World} (hr : Region.ready .any ops ls = []) (h : Q s .normal a w) : ∀ fuel, AnyY F P main fn ops S Q nf fuel ls s a w
 | 0 => ⟨hr, h⟩
 | _ + 1 => ⟨fun _ => h, fun i hi => by rw [hr] at hi; cases hi⟩
theorem jV {s : σ} (hd : LetsDraw (F.D s)) {id : Nat} {a : Act} {w : World} (hm : P.follows .mixedOrders = true)
   (h : ∀ w₁, F.R s w w₁ → AnyY F P main fn ops S Q nf ops.size (Array.replicate ops.size false) s a { w₁ with drawn := w₁.drawn + 1 }) : wpX F P main fn (Code.region id ops true) (ops.size * (nf + 3) + 1 + 1) s Q a w :=
 fun b k cs m hb hk hc => Goes.step rfl fun w₁ h₁ => by
   rw [stepG_region_draw];refine ⟨hd _, ?_⟩;have := o3 ops.size (w₁.tape w₁.drawn (.order b.fn id)) _ s a _ (h w₁ h₁) b k cs m hb hk hc;simp only [Region.schedule, hm, Bool.true_or, if_true];exact this
end
section
variable {σ : Type} {F : Fam σ} (Δ : ∀ s, Dom (F.R s) (F.D s)) (P : Program) (main : Bool) (fn : FuncId) (ops : Array Oper) (Q : σ → Exit → Act → Frag → Prop) (nf : Nat)
def Pre (R L0 : Frag) (e : Nat) (s0 : σ) (ls : Array Bool) (s : σ) (L : Frag) : Prop := s = s0 ∧ (∀ t ∈ R, t ∈ L) ∧ (ls.getD e true = false → ∀ t ∈ L0, t ∈ L)
def AnyL (R L0 : Frag) (e : Nat) (s0 : σ) (fuel : Nat) (ls : Array Bool) (s : σ) (a : Act) (L : Frag) : Prop :=
 Down ops ls → ∀ w, (Δ s).Own L w → AnyY F P main fn ops (fun ls s w => ∃ L, (Δ s).Own L w ∧ Pre R L0 e s0 ls s L) (up Δ Q) nf fuel ls s a w
end
section
variable {σ : Type} {F : Fam σ} {Δ : ∀ s, Dom (F.R s) (F.D s)} {P : Program} {main : Bool} {fn : FuncId} {ops : Array Oper} {Q : σ → Exit → Act → Frag → Prop} {nf : Nat} {R L0 : Frag} {e : Nat} {s0 s : σ} {fuel : Nat} {ls : Array Bool} {a : Act} {L : Frag}
theorem nk {ls : Array Bool} {s : σ} {x y : World} (h : ∃ L, (Δ s).Own L x ∧ Pre R L0 e s0 ls s L) (r : F.R s x y) : ∃ L, (Δ s).Own L y ∧ Pre R L0 e s0 ls s L := by
 obtain ⟨L, h1, h2⟩ := h;exact ⟨L, (Δ s).rely h1 r, h2⟩
theorem wz {s : σ} {x : Exit} {a : Act} {w w₁ : World} (h : up Δ Q s x a w) (r : F.R s w w₁) : up Δ Q s x a w₁ := by
 obtain ⟨L, h1, h2⟩ := h;exact ⟨L, (Δ s).rely h1 r, h2⟩
theorem tH (R : Frag) (e : Nat) {id : Nat} (hm : P.follows .mixedOrders = true) (h : AnyL Δ P main fn ops Q nf R L e s ops.size (Array.replicate ops.size false) s a L) : wpL Δ P main fn (.region id ops true) (ops.size * (nf + 3) + 1 + 1) s Q a L := by
 intro w hO;refine jV (S := fun ls s' w => ∃ L', (Δ s').Own L' w ∧ Pre R L e s ls s' L') (Δ s).ld hm fun w₁ h₁ => h jU _ ((Δ s).draw ((Δ s).rely hO h₁)).1
theorem jW : ∀ (s : σ) (a : Act) (x y : World), up Δ Q s .normal a x → F.R s x y → up Δ Q s .normal a y := fun _ _ _ _ h r => wz h r
theorem ln {i : Nat} {oi : Oper} {v : Value} {Lr : Frag} (hi : ops[i]? = some oi) (hs : Region.noSelect ops = true) (hf : Region.free .any ops ls i = true) (hr : (Region.ready .any ops ls).contains i = true) (hie : i ≠ e) (hr0 : Lr = R ∨ (Lr = L0 ∧ hangs ops ops.size e i = true))
   (hP : Pre R L0 e s0 ls s L) (hw : Region.wanted oi (yielded ops a.tmps) = true) (hy : Yld P Lr (execOp a.eval oi) v)
   (h : AnyL Δ P main fn ops Q nf R L0 e s0 fuel (ls.setIfInBounds i true) s (a.put oi.dst v) L) : AnyL Δ P main fn ops Q nf R L0 e s0 (fuel + 1) ls s a L := by
 intro hD w hO;have hrm : i ∈ Region.ready .any ops ls := by simpa using hr
 refine iX (fun _ _ _ _ h r => nk h r) jW hi hs hf hr hD (fun ls s w => ?_) (fun ls' hD' hun s' => .inl ⟨hw, fun w' ⟨L', hO', h1, h2, h3⟩ => ?_⟩) ⟨L, hO, hP⟩ (h (hD.step hrm) w hO)
 · refine exists_congr fun L' => and_congr_right fun _ => ?_;unfold Pre;rw [getD_set_ne true hie]
 · have hsub : ∀ t ∈ Lr, t ∈ L' := by
     rcases hr0 with rfl | ⟨rfl, hh⟩
     · exact h2
     · refine h3 ?_;cases he : ls'.getD e true with
       | false => rfl
       | true =>
         have := hD'.hangs _ _ _ hh he;rw [l9 this] at hun;cases hun
   obtain ⟨q1, q2⟩ := lX (Δ s') hO' (hy.mono hsub);exact ⟨q1, (Δ s').dd ((Δ s').gr w') fun e he => q2 e (mem_listed he)⟩
theorem rI {i : Nat} {oi : Oper} (hi : ops[i]? = some oi) (hs : Region.noSelect ops = true) (hf : Region.free .any ops ls i = true) (hr : (Region.ready .any ops ls).contains i = true) (hie : i ≠ e)
   (hP : Pre R L0 e s0 ls s L) (hw : Region.wanted oi (yielded ops a.tmps) = false)
   (h : AnyL Δ P main fn ops Q nf R L0 e s0 fuel (ls.setIfInBounds i true) s (a.put oi.dst undef) L) : AnyL Δ P main fn ops Q nf R L0 e s0 (fuel + 1) ls s a L := by
 intro hD w hO;have hrm : i ∈ Region.ready .any ops ls := by simpa using hr
 refine iX (fun _ _ _ _ h r => nk h r) jW hi hs hf hr hD (fun ls s w => ?_) (fun ls' hD' hun s' => .inr ⟨hw, rfl⟩) ⟨L, hO, hP⟩ (h (hD.step hrm) w hO);refine exists_congr fun L' => and_congr_right fun _ => ?_;unfold Pre;rw [getD_set_ne true hie]
theorem qe {i : Nat} {o : Oper} (hr : Region.ready .any ops ls = [i]) (hi : ops[i]? = some o) (hw : Region.wanted o (yielded ops a.tmps) = true)
   (h : wpS P (Δ s).New (execOp a.eval o) (fun x L' => onNext o a (fun a' => Pre R L0 e s0 (ls.setIfInBounds i true) s L' ∧ AnyL Δ P main fn ops Q nf R L0 e s0 fuel (ls.setIfInBounds i true) s a' L') x) L) : AnyL Δ P main fn ops Q nf R L0 e s0 (fuel + 1) ls s a L := by
 intro hD w hO;have hrm : i ∈ Region.ready .any ops ls := by simp [hr]
 refine ik hr (by simp) fun j hj => ?_;obtain rfl : j = i := by simpa using hj
 refine .inl ?_;unfold OpC;simp only [hi, hw, if_true];intro w₁ h₁;obtain ⟨x, w', hrun, hg, he, L', hL, hx⟩ := oT (Δ s) ((Δ s).rely hO h₁) h;exact lV (Δ := Δ) (s := s) (KL := fun a' L' => Pre R L0 e s0 (ls.setIfInBounds j true) s L' ∧ AnyL Δ P main fn ops Q nf R L0 e s0 fuel (ls.setIfInBounds j true) s a' L') hrun hL hx fun a' k => ⟨(Δ s).dd hg fun e hm => he e (mem_listed hm), ⟨L', hL, k.1⟩, k.2 (hD.step hrm) _ hL⟩
theorem rJ {i : Nat} {o : Oper} {f : FuncId} {args : Array Operand} {ats : Array TypeId} {Post : σ → Value → Frag → Prop} (hr : Region.ready .any ops ls = [i]) (hi : ops[i]? = some o) (hw : Region.wanted o (yielded ops a.tmps) = true)
   (hop : o.op = .call { callee := .value (.func f), args, argTypes := ats }) (hcall : CallsL Δ P main f (args.map a.eval) nf s L Post)
   (h : ∀ s' v L', Post s' v L' → Pre R L0 e s0 (ls.setIfInBounds i true) s' L' ∧ AnyL Δ P main fn ops Q nf R L0 e s0 fuel (ls.setIfInBounds i true) s' (a.put o.dst v) L') : AnyL Δ P main fn ops Q nf R L0 e s0 (fuel + 1) ls s a L := by
 intro hD w hO;have hrm : i ∈ Region.ready .any ops ls := by simp [hr]
 refine ik hr (by simp) fun j hj => ?_;obtain rfl : j = i := by simpa using hj
 exact .inr ⟨o, f, args, ats, _, hi, hw, hop, hcall w hO, fun s' v w' ⟨L', hL, hp⟩ => ⟨⟨L', hL, (h s' v L' hp).1⟩, (h s' v L' hp).2 (hD.step hrm) _ hL⟩⟩
theorem tI {i j : Nat} (hr : Region.ready .any ops ls = [i, j])
   (h1 : ∀ (w : World), (Δ s).Own L w → Down ops ls → OpX F P main fn ops nf i (fun s' a' w' => (∃ L', (Δ s').Own L' w' ∧ Pre R L0 e s0 (ls.setIfInBounds i true) s' L') ∧ AnyY F P main fn ops (fun ls s w => ∃ L, (Δ s).Own L w ∧ Pre R L0 e s0 ls s L) (up Δ Q) nf fuel (ls.setIfInBounds i true) s' a' w') s a w)
   (h2 : ∀ (w : World), (Δ s).Own L w → Down ops ls → OpX F P main fn ops nf j (fun s' a' w' => (∃ L', (Δ s').Own L' w' ∧ Pre R L0 e s0 (ls.setIfInBounds j true) s' L') ∧ AnyY F P main fn ops (fun ls s w => ∃ L, (Δ s).Own L w ∧ Pre R L0 e s0 ls s L) (up Δ Q) nf fuel (ls.setIfInBounds j true) s' a' w') s a w) :
   AnyL Δ P main fn ops Q nf R L0 e s0 (fuel + 1) ls s a L := by
 intro hD w hO;refine ik hr (by simp) fun k hk => ?_;simp only [List.mem_cons, List.not_mem_nil, or_false] at hk;rcases hk with rfl | rfl
 · exact h1 w hO hD
 · exact h2 w hO hD
theorem wD (h : (L.map (·.1)).Nodup → AnyL Δ P main fn ops Q nf R L0 e s0 fuel ls s a L) : AnyL Δ P main fn ops Q nf R L0 e s0 fuel ls s a L := fun hD w hO => h ((Δ s).nd hO) hD w hO
theorem rK (hr : Region.ready .any ops ls = []) (h : Q s .normal a L) : AnyL Δ P main fn ops Q nf R L0 e s0 fuel ls s a L := fun _ _ hO => lm hr ⟨L, hO, h⟩ fuel
end
abbrev Env := List (Nat × Value)
def look : Env → Nat → Option Value
 | [], _ => none
 | (u, v) :: ε, t => if u = t then some v else look ε t
def ev (ε : Env) : Operand → Option Value
 | .tmp t => look ε t
 | .const v => some v
 | .global g => some (.pointer (some ⟨g, 0, none⟩))
 | .func f => some (.func (.func f) #[] #[])
structure Fits (N : Nat) (ε : Env) (a : Act) : Prop where
 sz : a.tmps.size = N
 df : a.defers = []
 at_ : ∀ t v, look ε t = some v → t < N ∧ a.tmps.getD t undef = v
def putE (d : Option Tmp) (v : Value) (ε : Env) : Env := match d with
 | some d => (d, v) :: ε
 | none => ε
def dstOk (N : Nat) : Option Tmp → Bool
 | some d => decide (d < N)
 | none => true
section
variable {N : Nat} {ε : Env} {a : Act}
theorem Fits.ev (h : Fits N ε a) {x : Operand} {v : Value} (hx : Lo.ev ε x = some v) : a.eval x = v := by
 cases x with
 | tmp t => exact (h.at_ t v hx).2
 | const u => exact Option.some.inj hx
 | global g => exact Option.some.inj hx
 | func f => exact Option.some.inj hx
theorem Fits.put (h : Fits N ε a) {d : Option Tmp} (hd : dstOk N d = true) (v : Value) : Fits N (putE d v ε) (a.put d v) := by
 cases d with
 | none => exact h
 | some d =>
   have hd' : d < N := by simpa [dstOk] using hd
   refine ⟨by simpa [Act.put] using h.sz, h.df, fun t u ht => ?_⟩;simp only [putE, look] at ht
   split at ht
   · rename_i e;subst e;refine ⟨hd', ?_⟩;rw [← Option.some.inj ht];simp [Act.put, Array.getD_eq_getD_getElem?, h.sz, hd']
   · rename_i e;obtain ⟨h1, h2⟩ := h.at_ t u ht;refine ⟨h1, ?_⟩;rw [← h2];simp [Act.put, Array.getD_eq_getD_getElem?, Array.getElem?_setIfInBounds, e]
theorem Fits.sub (h : Fits N ε a) {ε' : Env} (hs : ε'.map (fun p => look ε p.1) = ε'.map (fun p => some p.2)) : Fits N ε' a := by
 refine ⟨h.sz, h.df, ?_⟩
 induction ε' with
 | nil => intro t v ht; cases ht
 | cons p ε' ih =>
   simp only [List.map_cons, List.cons.injEq] at hs;intro t v ht;simp only [look] at ht
   split at ht
   · rename_i e;rw [← e, ← Option.some.inj ht];exact h.at_ _ _ hs.1
   · exact ih hs.2 t v ht
end
def wantedE (ops : Array Oper) (N : Nat) (ε : Env) : Option (Nat × Bool) → Option Bool
 | none => some true
 | some (j, want) => match (ops[j]?).bind (·.dst) with
   | some d => match look ε d with
     | some (.bool b) => some (b == want)
     | _ => none
   | none => none
theorem Fits.wanted {N : Nat} {ε : Env} {a : Act} (h : Fits N ε a) {ops : Array Oper} {o : Oper} {b : Bool} (hw : wantedE ops N ε o.guard = some b) : Region.wanted o (yielded ops a.tmps) = b := by
 unfold Region.wanted;unfold wantedE at hw
 split at hw
 · rename_i e; rw [e]; exact Option.some.inj hw
 · rename_i j want e;rw [e]
   split at hw <;> try cases hw
   rename_i d hd
   split at hw <;> try cases hw
   rename_i c hc;obtain ⟨h1, h2⟩ := h.at_ _ _ hc;have h3 : a.tmps[d]? = some (.bool c) := by
     have : d < a.tmps.size := by rw [h.sz]; exact h1
     simp [Array.getD_eq_getD_getElem?, this] at h2;simp [this, h2]
   have h4 : yielded ops a.tmps j = some c := by
     unfold yielded;rw [hd];simp [h3]
   show (yielded ops a.tmps j == some want) = (c == want);rw [h4]; rfl
section
variable {σ : Type}
def thenE (K : σ → Env → Frag → Prop) (Q : σ → Exit → Env → Frag → Prop) : σ → Exit → Env → Frag → Prop
 | s, .normal, a, L => K s a L
 | s, e, a, L => Q s e a L
def inBlockE (id : Nat) (Q : σ → Exit → Env → Frag → Prop) : σ → Exit → Env → Frag → Prop
 | s, .exit id', a, L => if id' = id then Q s .normal a L else Q s (.exit id') a L
 | s, e, a, L => Q s e a L
def resE (g : Func) (ε : Env) : Option Value := match g.results.toList with
 | [] => some (.tuple #[])
 | [.tmp t] => look ε t
 | [.tmp t, .tmp u] => match look ε t, look ε u with
   | some v, some w => some (.tuple #[v, w])
   | _, _ => none
 | _ => none
def bodyE (g : Func) (Post : σ → Value → Frag → Prop) : σ → Exit → Env → Frag → Prop
 | s, .normal, ε, L | s, .ret, ε, L => ∃ v, resE g ε = some v ∧ Post s v L
 | _, _, _, _ => False
end
section
variable {σ : Type} {F : Fam σ} (Δ : ∀ s, Dom (F.R s) (F.D s)) (P : Program) (main : Bool) (fn : FuncId) (N : Nat)
def upE (Q : σ → Exit → Env → Frag → Prop) : σ → Exit → Act → Frag → Prop := fun s e a L => ∃ ε, Fits N ε a ∧ Q s e ε L
def wpE (c : Code) (n : Nat) (s : σ) (Q : σ → Exit → Env → Frag → Prop) (ε : Env) (L : Frag) : Prop := ∀ a, Fits N ε a → wpL Δ P main fn c n s (upE N Q) a L
def OpsE (ops : Array Oper) (todo : List Nat) (n : Nat) (s : σ) (Q : σ → Exit → Env → Frag → Prop) (ε : Env) (L : Frag) : Prop := ∀ a, Fits N ε a → OpsL Δ P main fn ops todo n s (upE N Q) a L
def AnyE (ops : Array Oper) (Q : σ → Exit → Env → Frag → Prop) (nf : Nat) (R L0 : Frag) (e : Nat) (s0 : σ) (fuel : Nat) (ls : Array Bool) (s : σ) (ε : Env) (L : Frag) : Prop := ∀ a, Fits N ε a → AnyL Δ P main fn ops (upE N Q) nf R L0 e s0 fuel ls s a L
end
section
variable {σ : Type} {F : Fam σ} {Δ : ∀ s, Dom (F.R s) (F.D s)} {P : Program} {main : Bool} {fn : FuncId} {N : Nat} {Q : σ → Exit → Env → Frag → Prop} {s : σ} {ε : Env} {L : Frag}
theorem np {K : σ → Env → Frag → Prop} {K' : σ → Act → Frag → Prop} (h : ∀ s ε a L, Fits N ε a → K s ε L → K' s a L) {s : σ} {e : Exit} {a : Act} {L : Frag} (q : upE N (thenE K Q) s e a L) : thenL K' (upE N Q) s e a L := by
 obtain ⟨ε, hf, q⟩ := q;cases e <;> first | exact h _ _ _ _ hf q | exact ⟨ε, hf, q⟩
theorem nq {Q' : σ → Exit → Env → Frag → Prop} {c : Code} {n : Nat} (h : wpE Δ P main fn N c n s Q ε L) (hq : ∀ s e ε L, Q s e ε L → Q' s e ε L) : wpE Δ P main fn N c n s Q' ε L :=
 fun a ha => dt (h a ha) fun s e a L ⟨ε, hf, q⟩ => ⟨ε, hf, hq _ _ _ _ q⟩
theorem il {c : Code} {n n' : Nat} (h : wpE Δ P main fn N c n s Q ε L) (hn : n ≤ n') : wpE Δ P main fn N c n' s Q ε L := fun a ha => m7 (h a ha) hn
theorem lp {ops : Array Oper} {todo : List Nat} {n n' : Nat} (h : OpsE Δ P main fn N ops todo n s Q ε L) (hn : n ≤ n') : OpsE Δ P main fn N ops todo n' s Q ε L := fun a ha => rq (h a ha) hn
theorem yU {c : Code} {n : Nat} (h : (L.map (·.1)).Nodup → wpE Δ P main fn N c n s Q ε L) : wpE Δ P main fn N c n s Q ε L := fun a ha => yO fun hn => h hn a ha
theorem jA {ops : Array Oper} {todo : List Nat} {n : Nat} (h : (L.map (·.1)).Nodup → OpsE Δ P main fn N ops todo n s Q ε L) : OpsE Δ P main fn N ops todo n s Q ε L := fun a ha => vW fun hn => h hn a ha
theorem wE {c : Code} {n : Nat} (ε' : Env)  (hs : ε'.map (fun p => look ε p.1) = ε'.map (fun p => some p.2) := by rfl) (h : wpE Δ P main fn N c n s Q ε' L) : wpE Δ P main fn N c n s Q ε L := fun a ha => h a (ha.sub hs)
def kn (ε ε' : Env) : Prop := ε'.map (fun p => look ε p.1) = ε'.map (fun p => some p.2)
theorem aV {c : Code} {n : Nat} {ε' : Env} (hs : kn ε ε') (h : wpE Δ P main fn N c n s Q ε' L) : wpE Δ P main fn N c n s Q ε L := wE ε' hs h
theorem aq {x y : Code} {n₁ n₂ : Nat} (h : wpE Δ P main fn N x n₁ s (thenE (fun s' ε' L' => wpE Δ P main fn N y n₂ s' Q ε' L') Q) ε L) : wpE Δ P main fn N (.seq x y) (n₁ + n₂ + 1) s Q ε L :=
 fun a ha => vX (dt (h a ha) fun _ _ _ _ q => np (fun _ _ a _ hf k => k a hf) q)
theorem nr {x y : Code} {n₁ n₂ : Nat} (ε' : Env) (h1 : wpE Δ P main fn N x n₁ s (thenE (fun s' ε'' L' => s = s' ∧ L = L' ∧ kn ε'' ε') Q) ε L) (h2 : wpE Δ P main fn N y n₂ s Q ε' L) : wpE Δ P main fn N x n₁ s (thenE (fun s' ε' L' => wpE Δ P main fn N y n₂ s' Q ε' L') Q) ε L :=
 nq h1 fun s' e ε'' L' q => by
   cases e with
   | normal => obtain ⟨rfl, rfl, hk⟩ := q; exact aV hk h2
   | _ => exact q
theorem o5 {c : Operand} {x y : Code} (t : Bool) {n : Nat} (hc : ev ε c = some (.bool t)) (h : wpE Δ P main fn N (if t then x else y) n s Q ε L) : wpE Δ P main fn N (.cond c x y) (n + 1) s Q ε L := fun a ha => tq (ha.ev hc) (h a ha)
theorem bk {c : Operand} {x y : Code} {t : Bool} {n m : Nat}   (hc : ev ε c = some (.bool t) := by rfl) (hx : t = true → wpE Δ P main fn N x n s Q ε L) (hy : t = false → wpE Δ P main fn N y m s Q ε L) : wpE Δ P main fn N (.cond c x y) (max n m + 1) s Q ε L := by
 refine o5 t hc ?_;cases t with
 | true => exact il (hx rfl) (Nat.le_max_left _ _)
 | false => exact il (hy rfl) (Nat.le_max_right _ _)
theorem aQ {c : Operand} {x y : Code} {n : Nat}  (hc : ev ε c = some (.bool true) := by rfl) (h : wpE Δ P main fn N x n s Q ε L) : wpE Δ P main fn N (.cond c x y) (n + 1) s Q ε L := o5 true hc h
theorem ai {c : Operand} {x y : Code} {n : Nat}  (hc : ev ε c = some (.bool false) := by rfl) (h : wpE Δ P main fn N y n s Q ε L) : wpE Δ P main fn N (.cond c x y) (n + 1) s Q ε L := o5 false hc h
theorem aI {id : Nat} {c : Code} {n : Nat} (h : wpE Δ P main fn N c n s (inBlockE id Q) ε L) : wpE Δ P main fn N (.block id c) (n + 2) s Q ε L :=
 fun a ha => ru (dt (h a ha) fun s' e a' L' ⟨ε', hf, q⟩ => by
   cases e with
   | exit id' =>
     simp only [inBlockE] at q;simp only [inBlockL]
     split
     · rename_i e; rw [if_pos e] at q; exact ⟨ε', hf, q⟩
     · rename_i e; rw [if_neg e] at q; exact ⟨ε', hf, q⟩
   | _ => exact ⟨ε', hf, q⟩)
theorem aD (h : Q s .normal ε L) : wpE Δ P main fn N .skip 1 s Q ε L := fun _ ha => tt ⟨ε, ha, h⟩
theorem aK (h : Q s .ret ε L) : wpE Δ P main fn N .ret 1 s Q ε L := fun _ ha => vY ⟨ε, ha, h⟩
theorem bS {id : Nat} (h : Q s (.exit id) ε L) : wpE Δ P main fn N (.exit id) 1 s Q ε L := fun _ ha => tv ⟨ε, ha, h⟩
theorem ax {id : Nat} {ops : Array Oper} {n : Nat} (h : OpsE Δ P main fn N ops (List.range ops.size) n s Q ε L) : wpE Δ P main fn N (.region id ops false) (n + 1) s Q ε L := fun a ha => oU (h a ha)
theorem aa {id n n₂ : Nat} {ops : Array Oper} {y : Code} (h : OpsE Δ P main fn N ops (List.range ops.size) n s (thenE (fun s' ε' L' => wpE Δ P main fn N y n₂ s' Q ε' L') Q) ε L) : wpE Δ P main fn N (.seq (.region id ops false) y) (n + 1 + n₂ + 1) s Q ε L := aq (ax h)
theorem ah {ops : Array Oper} (h : Q s .normal ε L) : OpsE Δ P main fn N ops [] 1 s Q ε L := fun _ ha => tA ⟨ε, ha, h⟩
theorem bK {c : Code} {n : Nat} (I : Nat → σ → Env → Frag → Prop) (k : Nat) (hI : I k s ε L) (h : ∀ k s ε L, I k s ε L → wpE Δ P main fn N c n s (thenE (fun s' ε' L' => ∃ k', k' < k ∧ I k' s' ε' L') Q) ε L) :
   wpE Δ P main fn N (.loop c) ((k + 1) * (n + 1)) s Q ε L :=
 fun a ha => tw (fun k s a L => ∃ ε, Fits N ε a ∧ I k s ε L) (fun k s a L ⟨ε, hf, hi⟩ => dt (h k s ε L hi a hf) fun _ _ _ _ q => np (fun _ ε' _ _ hf ⟨k', hk, hi⟩ => ⟨k', hk, ε', hf, hi⟩) q) k ⟨ε, ha, hI⟩
theorem wF {g : Func} {a : Act} {v : Value} (hf : Fits N ε a) (h : resE g ε = some v) : ResultsC P g a.tmps v := by
 unfold resE at h
 split at h
 · rename_i e; rw [← Option.some.inj h]; exact resultsC_none (Array.ext' e) _
 · rename_i t e; rw [← (hf.at_ _ _ h).2]; exact resultsC_tmp (Array.ext' e) _
 · rename_i t u e
   split at h
   · rename_i h1 h2;rw [← Option.some.inj h, ← (hf.at_ _ _ h1).2, ← (hf.at_ _ _ h2).2];exact resultsC_tmp2 (Array.ext' e) _
   · cases h
 · cases h
def argsAt : Nat → List Value → Env
 | _, [] => []
 | k, v :: vs => (k, v) :: argsAt (k + 1) vs
def args (vs : List Value) : Env := argsAt 0 vs
theorem ge : ∀ (vs : List Value) (k t : Nat) (v : Value), look (argsAt k vs) t = some v → k ≤ t ∧ vs[t - k]? = some v
 | [], _, _, _, h => by cases h
 | u :: vs, k, t, v, h => by
   simp only [argsAt, look] at h
   split at h
   · rename_i e; subst e; simpa using h
   · rename_i e;obtain ⟨h1, h2⟩ := ge vs (k + 1) t v h;refine ⟨by omega, ?_⟩;rw [show t - k = (t - (k + 1)) + 1 by omega];simpa using h2
theorem aB (N : Nat) {f : FuncId} {g : Func} {c : Code} {vs : List Value} {n : Nat} {Post : σ → Value → Frag → Prop} (hf : P.funcs[f]? = some g) (hN : g.ntmps = N)  (hname : (g.name == "runtime.NumGoroutine") = false := by rfl) (hb : g.body = some c := by rfl) (hl : Nat.ble vs.length N = true := by rfl) (h : wpE Δ P main f N c n s (bodyE g Post) (args vs) L) : CallsL Δ P main f vs.toArray n s L Post := by
 have hl := Nat.le_of_ble_eq_true hl;subst hN;refine ry hf hname hb (dt (h _ ⟨by simp; omega, rfl, fun t v ht => ?_⟩) fun s' e a' L' ⟨ε', hf, q⟩ => ?_)
 · obtain ⟨_, h2⟩ := ge vs 0 t v ht;have hlt := (List.getElem?_eq_some_iff.1 h2).1;simp only [Nat.sub_zero] at h2 hlt;refine ⟨by omega, ?_⟩;simp only [Array.getD_eq_getD_getElem?, Array.getElem?_append, List.size_toArray, hlt, if_true, List.getElem?_toArray, h2, Option.getD_some]
 · cases e <;> first | exact ⟨hf.df, q.choose, wF hf q.choose_spec.1, q.choose_spec.2⟩ | exact q
def EY (P : Program) (N : Nat) (ε : Env) (L : Frag) (o : Oper) (v : Value) : Prop := ∀ a, Fits N ε a → Yld P L (execOp a.eval o) v
def EO (P : Program) (New : Obj → Prop) (N : Nat) (ε : Env) (L : Frag) (o : Oper) (post : Value → Frag → Prop) : Prop := ∀ a, Fits N ε a → wpS P New (execOp a.eval o) (fun x L' => match x with | .value v => post v L' | .skip => post undef L' | _ => False) L
theorem oy {ops : Array Oper} {i : Nat} {rest : List Nat} {d : Option Tmp} {k : Op} {ot : TypeId} {ps : String} {af : Array Edge} {g : Option (Nat × Bool)} {n : Nat} {v : Value} (ho : ops[i]? = some ⟨d, k, ot, ps, af, g⟩) (hy : EY P N ε L ⟨d, k, ot, ps, af, g⟩ v)  (hw : wantedE ops N ε g = some true := by rfl) (hd : dstOk N d = true := by rfl) (h : OpsE Δ P main fn N ops rest n s Q (putE d v ε) L) : OpsE Δ P main fn N ops (i :: rest) (n + 1) s Q ε L :=
 fun a ha => lj ho (ha.wanted hw) ((hy a ha).go (h _ (ha.put hd v)))
theorem ou {ops : Array Oper} {i : Nat} {rest : List Nat} {d : Option Tmp} {k : Op} {ot : TypeId} {ps : String} {af : Array Edge} {g : Option (Nat × Bool)} {n : Nat} (ho : ops[i]? = some ⟨d, k, ot, ps, af, g⟩)  (hw : wantedE ops N ε g = some false := by rfl) (hd : dstOk N d = true := by rfl) (h : OpsE Δ P main fn N ops rest n s Q (putE d undef ε) L) : OpsE Δ P main fn N ops (i :: rest) (n + 1) s Q ε L :=
 fun a ha => kX ho (ha.wanted hw) (h _ (ha.put hd undef))
theorem oe {ops : Array Oper} {i : Nat} {rest : List Nat} {d : Option Tmp} {k : Op} {ot : TypeId} {ps : String} {af : Array Edge} {g : Option (Nat × Bool)} {n : Nat} {post : Value → Frag → Prop} (ho : ops[i]? = some ⟨d, k, ot, ps, af, g⟩) (hy : EO P (Δ s).New N ε L ⟨d, k, ot, ps, af, g⟩ post)  (hw : wantedE ops N ε g = some true := by rfl) (hd : dstOk N d = true := by rfl) (h : ∀ v L', post v L' → OpsE Δ P main fn N ops rest n s Q (putE d v ε) L') : OpsE Δ P main fn N ops (i :: rest) (n + 1) s Q ε L :=
 fun a ha => lj ho (ha.wanted hw) (bV (fun x L' q => by cases x <;> first | exact h _ _ q _ (ha.put hd _) | exact q.elim) _ _ (hy a ha))
theorem oc {ops : Array Oper} {i : Nat} {rest : List Nat} {d : Option Tmp} {k : Op} {ot : TypeId} {ps : String} {af : Array Edge} {g : Option (Nat × Bool)} {f : FuncId} {args : Array Operand} {ats : Array TypeId} {vs : List Value} {nf n : Nat} {Post : σ → Value → Frag → Prop}
   (ho : ops[i]? = some ⟨d, k, ot, ps, af, g⟩) (hop : k = .call { callee := .value (.func f), args, argTypes := ats }) (ha : args.toList.map (ev ε) = vs.map some) (hcall : CallsL Δ P main f vs.toArray nf s L Post)
    (hw : wantedE ops N ε g = some true := by rfl) (hd : dstOk N d = true := by rfl) (h : ∀ s' v L', Post s' v L' → OpsE Δ P main fn N ops rest n s' Q (putE d v ε) L') : OpsE Δ P main fn N ops (i :: rest) (n + nf + 3) s Q ε L := by
 intro a hf;have e : args.map a.eval = vs.toArray := by
   apply Array.ext';simp only [Array.toList_map];have : ∀ (l : List Operand) (vs : List Value), l.map (ev ε) = vs.map some → l.map a.eval = vs := by
     intro l
     induction l with
     | nil => intro vs h; cases vs <;> simp_all
     | cons x l ih =>
       intro vs h;cases vs with
       | nil => simp at h
       | cons v vs =>
         simp only [List.map_cons, List.cons.injEq] at h ⊢;exact ⟨hf.ev h.1, ih vs h.2⟩
   exact this _ _ ha
 exact rz ho (hf.wanted hw) hop (by rw [e]; exact hcall) fun s' v L' hp => h s' v L' hp _ (hf.put hd v)
theorem bi {id : Nat} {ops : Array Oper} (R : Frag) (e : Nat) {nf : Nat}  (hm : P.follows .mixedOrders = true := by first | rfl | kernel_rfl) (h : AnyE Δ P main fn N ops Q nf R L e s ops.size (Array.replicate ops.size false) s ε L) : wpE Δ P main fn N (.region id ops true) (ops.size * (nf + 3) + 1 + 1) s Q ε L :=
 fun a ha => tH R e hm (h a ha)
theorem bq {id : Nat} {ops : Array Oper}  (hm : P.follows .mixedOrders = true := by first | rfl | kernel_rfl) (h : AnyE Δ P main fn N ops Q 0 L L 1000000 s ops.size (Array.replicate ops.size false) s ε L) : wpE Δ P main fn N (.region id ops true) (ops.size * (0 + 3) + 1 + 1) s Q ε L := bi L 1000000 hm h
section
variable {ops : Array Oper} {nf : Nat} {R L0 : Frag} {e : Nat} {s0 : σ} {fuel : Nat} {ls : Array Bool}
theorem ak {R : Frag} (hR : ∀ t ∈ R, t ∈ L) : Pre R L e s ls s L := ⟨rfl, hR, fun _ _ h => h⟩
theorem pI : Pre L L e s ls s L := ⟨rfl, fun _ h => h, fun _ _ h => h⟩
theorem dY {R L0 : Frag} (hR : ∀ t ∈ R, t ∈ L) (h0 : ∀ t ∈ L0, t ∈ L) : Pre R L0 e s ls s L := ⟨rfl, hR, fun _ => h0⟩
theorem ay {R L0 : Frag} (hR : ∀ t ∈ R, t ∈ L) (h : ls.getD e true = true := by first | rfl | decide) : Pre R L0 e s ls s L := ⟨rfl, hR, fun h' => by rw [h] at h'; cases h'⟩
theorem t0 (i : Nat) {d : Option Tmp} {k : Op} {ot : TypeId} {ps : String} {af : Array Edge} {g : Option (Nat × Bool)} {v : Value} (ho : ops[i]? = some ⟨d, k, ot, ps, af, g⟩) (hy : EY P N ε L0 ⟨d, k, ot, ps, af, g⟩ v) (hP : Pre R L0 e s0 ls s L)
   (hs : Region.noSelect ops = true := by kernel_rfl) (hf : Region.free .any ops ls i = true := by kernel_rfl) (hr : (Region.ready .any ops ls).contains i = true := by kernel_rfl) (hie : i ≠ e := by decide) (hh : hangs ops ops.size e i = true := by kernel_rfl) (hw : wantedE ops N ε g = some true := by rfl) (hd : dstOk N d = true := by rfl) (h : AnyE Δ P main fn N ops Q nf R L0 e s0 fuel (ls.setIfInBounds i true) s (putE d v ε) L) :
   AnyE Δ P main fn N ops Q nf R L0 e s0 (fuel + 1) ls s ε L :=
 fun a ha => ln ho hs hf hr hie (.inr ⟨rfl, hh⟩) hP (ha.wanted hw) (hy a ha) (h _ (ha.put hd v))
theorem tr (i : Nat) {d : Option Tmp} {k : Op} {ot : TypeId} {ps : String} {af : Array Edge} {g : Option (Nat × Bool)} {v : Value} (ho : ops[i]? = some ⟨d, k, ot, ps, af, g⟩) (hy : EY P N ε R ⟨d, k, ot, ps, af, g⟩ v) (hP : Pre R L0 e s0 ls s L)
   (hs : Region.noSelect ops = true := by kernel_rfl) (hf : Region.free .any ops ls i = true := by kernel_rfl) (hr : (Region.ready .any ops ls).contains i = true := by kernel_rfl) (hie : i ≠ e := by decide) (hw : wantedE ops N ε g = some true := by rfl) (hd : dstOk N d = true := by rfl) (h : AnyE Δ P main fn N ops Q nf R L0 e s0 fuel (ls.setIfInBounds i true) s (putE d v ε) L) :
   AnyE Δ P main fn N ops Q nf R L0 e s0 (fuel + 1) ls s ε L :=
 fun a ha => ln ho hs hf hr hie (.inl rfl) hP (ha.wanted hw) (hy a ha) (h _ (ha.put hd v))
theorem tu (i : Nat) {d : Option Tmp} {k : Op} {ot : TypeId} {ps : String} {af : Array Edge} {g : Option (Nat × Bool)} (ho : ops[i]? = some ⟨d, k, ot, ps, af, g⟩) (hP : Pre R L0 e s0 ls s L)
   (hs : Region.noSelect ops = true := by kernel_rfl) (hf : Region.free .any ops ls i = true := by kernel_rfl) (hr : (Region.ready .any ops ls).contains i = true := by kernel_rfl) (hie : i ≠ e := by decide) (hw : wantedE ops N ε g = some false := by rfl) (hd : dstOk N d = true := by rfl) (h : AnyE Δ P main fn N ops Q nf R L0 e s0 fuel (ls.setIfInBounds i true) s (putE d undef ε) L) :
   AnyE Δ P main fn N ops Q nf R L0 e s0 (fuel + 1) ls s ε L :=
 fun a ha => rI ho hs hf hr hie hP (ha.wanted hw) (h _ (ha.put hd undef))
theorem to (i : Nat) {d : Option Tmp} {k : Op} {ot : TypeId} {ps : String} {af : Array Edge} {g : Option (Nat × Bool)} {v : Value} (ho : ops[i]? = some ⟨d, k, ot, ps, af, g⟩) (hy : EY P N ε L ⟨d, k, ot, ps, af, g⟩ v) (hP : Pre R L0 e s0 (ls.setIfInBounds i true) s L)
   (hr : Region.ready .any ops ls = [i] := by kernel_rfl) (hw : wantedE ops N ε g = some true := by rfl) (hd : dstOk N d = true := by rfl) (h : AnyE Δ P main fn N ops Q nf R L0 e s0 fuel (ls.setIfInBounds i true) s (putE d v ε) L) : AnyE Δ P main fn N ops Q nf R L0 e s0 (fuel + 1) ls s ε L :=
 fun a ha => qe hr ho (ha.wanted hw) ((hy a ha).go ⟨hP, h _ (ha.put hd v)⟩)
theorem te {i : Nat} {d : Option Tmp} {k : Op} {ot : TypeId} {ps : String} {af : Array Edge} {g : Option (Nat × Bool)} {post : Value → Frag → Prop} (ho : ops[i]? = some ⟨d, k, ot, ps, af, g⟩) (hy : EO P (Δ s).New N ε L ⟨d, k, ot, ps, af, g⟩ post)
   (hr : Region.ready .any ops ls = [i] := by kernel_rfl) (hw : wantedE ops N ε g = some true := by rfl) (hd : dstOk N d = true := by rfl) (h : ∀ v L', post v L' → Pre R L0 e s0 (ls.setIfInBounds i true) s L' ∧ AnyE Δ P main fn N ops Q nf R L0 e s0 fuel (ls.setIfInBounds i true) s (putE d v ε) L') : AnyE Δ P main fn N ops Q nf R L0 e s0 (fuel + 1) ls s ε L :=
 fun a ha => qe hr ho (ha.wanted hw) (bV (fun x L' q => by cases x <;> first | exact ⟨(h _ _ q).1, (h _ _ q).2 _ (ha.put hd _)⟩ | exact q.elim) _ _ (hy a ha))
theorem tc (i : Nat) {d : Option Tmp} {k : Op} {ot : TypeId} {ps : String} {af : Array Edge} {g : Option (Nat × Bool)} {f : FuncId} {args : Array Operand} {ats : Array TypeId} {vs : List Value} {Post : σ → Value → Frag → Prop} (ho : ops[i]? = some ⟨d, k, ot, ps, af, g⟩) (hop : k = .call { callee := .value (.func f), args, argTypes := ats }) (ha : args.toList.map (ev ε) = vs.map some) (hcall : CallsL Δ P main f vs.toArray nf s L Post)
   (hr : Region.ready .any ops ls = [i] := by kernel_rfl) (hw : wantedE ops N ε g = some true := by rfl) (hd : dstOk N d = true := by rfl) (h : ∀ s' v L', Post s' v L' → Pre R L0 e s0 (ls.setIfInBounds i true) s' L' ∧ AnyE Δ P main fn N ops Q nf R L0 e s0 fuel (ls.setIfInBounds i true) s' (putE d v ε) L') : AnyE Δ P main fn N ops Q nf R L0 e s0 (fuel + 1) ls s ε L := by
 intro a hf;have e' : args.map a.eval = vs.toArray := by
   apply Array.ext';simp only [Array.toList_map];have : ∀ (l : List Operand) (vs : List Value), l.map (ev ε) = vs.map some → l.map a.eval = vs := by
     intro l
     induction l with
     | nil => intro vs h; cases vs <;> simp_all
     | cons x l ih =>
       intro vs h;cases vs with
       | nil => simp at h
       | cons v vs =>
         simp only [List.map_cons, List.cons.injEq] at h ⊢;exact ⟨hf.ev h.1, ih vs h.2⟩
   exact this _ _ ha
 exact rJ hr ho (hf.wanted hw) hop (by rw [e']; exact hcall) fun s' v L' hp => ⟨(h s' v L' hp).1, (h s' v L' hp).2 _ (hf.put hd v)⟩
theorem a0 (h : (L.map (·.1)).Nodup → AnyE Δ P main fn N ops Q nf R L0 e s0 fuel ls s ε L) : AnyE Δ P main fn N ops Q nf R L0 e s0 fuel ls s ε L := fun a ha => wD fun hn => h hn a ha
theorem td  (hr : Region.ready .any ops ls = [] := by kernel_rfl) (h : Q s .normal ε L) : AnyE Δ P main fn N ops Q nf R L0 e s0 fuel ls s ε L := fun _ ha => rK hr ⟨ε, ha, h⟩
end
end
section
variable {P : Program} {N : Nat} {ε : Env} {L : Frag} {d : Option Tmp} {ty : TypeId} {ps : String} {af : Array Edge} {g : Option (Nat × Bool)}
theorem ae {x : Operand} {v : Value} (hx : ev ε x = some v := by rfl) : EY P N ε L ⟨d, .move x, ty, ps, af, g⟩ v := fun _ ha => (ha.ev hx) ▸ yQ
theorem bL {x : Operand} {v : Value} (hx : ev ε x = some v := by rfl) : EY P N ε L ⟨d, .assign x, ty, ps, af, g⟩ v := fun _ ha => (ha.ev hx) ▸ tC
theorem aJ {x : Operand} {a : Addr} (hx : ev ε x = some (.pointer (some a)) := by rfl) : EY P N ε L ⟨d, .nilCheck x, ty, ps, af, g⟩ (.pointer (some a)) := fun _ ha => oW (ha.ev hx)
theorem aP {c x y : Operand} {t : Bool} {v w : Value} (hc : ev ε c = some (.bool t) := by rfl) (hx : ev ε x = some v := by rfl) (hy : ev ε y = some w := by rfl) : EY P N ε L ⟨d, .pick c x y, ty, ps, af, g⟩ (if t then v else w) := fun _ ha => (ha.ev hx) ▸ (ha.ev hy) ▸ yR (ha.ev hc)
theorem au {x : Operand} {s f b i off : Nat} (hx : ev ε x = some (.pointer (some ⟨b, i, none⟩)) := by rfl) (hf : fieldOff P s f = some off := by kernel_rfl) : EY P N ε L ⟨d, .fieldAddr s x f, ty, ps, af, g⟩ (.pointer (some ⟨b, i + off, none⟩)) := fun _ ha => m9 (ha.ev hx) hf
theorem aF {x : Operand} {t b i : Nat} {v : Value} (hx : ev ε x = some (.pointer (some ⟨b, i, none⟩)) := by rfl) (ht : aggAt P t = some false := by kernel_rfl)
   (hv : At L b i v := by first | exact At.at (n := 0) rfl (by first | rfl | assumption) | exact At.at (n := 1) rfl (by first | rfl | assumption) | exact At.at (n := 2) rfl (by first | rfl | assumption) | exact At.at (n := 3) rfl (by first | rfl | assumption) | exact At.at (n := 4) rfl (by first | rfl | assumption) | exact At.at (n := 5) rfl (by first | rfl | assumption) | exact At.at (n := 6) rfl (by first | rfl | assumption) | assumption) :
   EY P N ε L ⟨d, .load t x, ty, ps, af, g⟩ v := fun _ ha => yS (ha.ev hx) ht hv
theorem ba {x : Operand} {t b i n : Nat} {cs : Array Value} {e : TypeId} {fr : Nat × Nat} {fl : Bool} (hx : ev ε x = some (.pointer (some ⟨b, i, none⟩)) := by rfl) (ht : aggAt P t = some true) (hs : sizeAt P t = some n) (hm : (b, fl, .cells cs e fr) ∈ L) (hi : i + n ≤ cs.size) :
   EY P N ε L ⟨d, .load t x, ty, ps, af, g⟩ (.agg (cs.extract i (i + n))) := fun _ ha => rC (ha.ev hx) ht hs hm hi
theorem aX {x ix : Operand} {t b o sz len off : Nat} {e : TypeId} {k : IntKind} {n : Int} (hu : P.underlying t = some (.array len e)) (hs : sizeAt P e = some sz) (hx : ev ε x = some (.pointer (some ⟨b, o, none⟩)) := by rfl) (hi : ev ε ix = some (.int k n) := by rfl) (h0 : 0 ≤ n := by first | decide | omega | assumption) (h1 : n < len := by first | decide | omega | assumption | (simp; done)) (ho : o + n.toNat * sz = off := by ((try simp only [Int.toNat_natCast, Nat.zero_add, Nat.mul_one, Nat.reduceAdd, Nat.reduceMul, Int.reduceToNat, Int.toNat_zero, Int.toNat_one, Nat.zero_mul, Nat.add_zero]); first | done | exact rfl)) :
   EY P N ε L ⟨d, .indexAddr t x ix, ty, ps, af, g⟩ (.pointer (some ⟨b, off, none⟩)) := fun _ ha => ho ▸ oX (ha.ev hx) (ha.ev hi) hu hs h0 h1
theorem bH {x ix : Operand} {t b o sz len cap off : Nat} {e : TypeId} {k : IntKind} {n : Int} (hu : P.underlying t = some (.slice e)) (hs : sizeAt P e = some sz) (hx : ev ε x = some (.slice (some ⟨b, o, none⟩) len cap) := by rfl) (hi : ev ε ix = some (.int k n) := by rfl) (h0 : 0 ≤ n := by first | decide | omega | assumption) (h1 : n < len := by first | decide | omega | assumption | (simp; done)) (ho : o + n.toNat * sz = off := by ((try simp only [Int.toNat_natCast, Nat.zero_add, Nat.mul_one, Nat.reduceAdd, Nat.reduceMul, Int.reduceToNat, Int.toNat_zero, Int.toNat_one, Nat.zero_mul, Nat.add_zero]); first | done | exact rfl)) :
   EY P N ε L ⟨d, .indexAddr t x ix, ty, ps, af, g⟩ (.pointer (some ⟨b, off, none⟩)) := fun _ ha => ho ▸ rF (ha.ev hx) (ha.ev hi) hu hs h0 h1
variable {t u : TypeId} {x y : Operand} {k : IntKind} {a b : Int}
theorem aR (hx : ev ε x = some (.int k a) := by rfl) (hy : ev ε y = some (.int k b) := by rfl) : EY P N ε L ⟨d, .binOp .add t x y u, ty, ps, af, g⟩ (.int k (k.wrap (a + b))) := fun _ ha => zX (ha.ev hx) (ha.ev hy)
theorem qf (hx : ev ε x = some (.int k a) := by rfl) (hy : ev ε y = some (.int k b) := by rfl) : EY P N ε L ⟨d, .binOp .sub t x y u, ty, ps, af, g⟩ (.int k (k.wrap (a - b))) := fun _ ha => zY (ha.ev hx) (ha.ev hy)
theorem nt (hx : ev ε x = some (.int k a) := by rfl) (hy : ev ε y = some (.int k b) := by rfl) : EY P N ε L ⟨d, .binOp .mul t x y u, ty, ps, af, g⟩ (.int k (k.wrap (a * b))) := fun _ ha => zZ (ha.ev hx) (ha.ev hy)
theorem ji (hx : ev ε x = some (.int k a) := by rfl) (hy : ev ε y = some (.int k b) := by rfl) (hb : b ≠ 0 := by first | decide | omega) : EY P N ε L ⟨d, .binOp .rem t x y u, ty, ps, af, g⟩ (.int k (a.tmod b)) := fun _ ha => z0 (ha.ev hx) (ha.ev hy) hb
theorem Ah (hx : ev ε x = some (.int k a) := by rfl) (hy : ev ε y = some (.int k b) := by rfl) (hb : b ≠ 0 := by first | decide | omega) : EY P N ε L ⟨d, .binOp .quo t x y u, ty, ps, af, g⟩ (.int k (k.wrap (a.tdiv b))) := fun _ ha => z5 (ha.ev hx) (ha.ev hy) hb
theorem aA (hx : ev ε x = some (.int k a) := by rfl) (hy : ev ε y = some (.int k b) := by rfl) : EY P N ε L ⟨d, .binOp .eql t x y u, ty, ps, af, g⟩ (.bool (a == b)) := fun _ ha => z6 (ha.ev hx) (ha.ev hy)
theorem fy (hx : ev ε x = some (.int k a) := by rfl) (hy : ev ε y = some (.int k b) := by rfl) : EY P N ε L ⟨d, .binOp .neq t x y u, ty, ps, af, g⟩ (.bool (a != b)) := fun _ ha => z7 (ha.ev hx) (ha.ev hy)
theorem cF (hx : ev ε x = some (.int k a) := by rfl) (hy : ev ε y = some (.int k b) := by rfl) : EY P N ε L ⟨d, .binOp .lss t x y u, ty, ps, af, g⟩ (.bool (decide (a < b))) := fun _ ha => z8 (ha.ev hx) (ha.ev hy)
theorem nu (hx : ev ε x = some (.int k a) := by rfl) (hy : ev ε y = some (.int k b) := by rfl) : EY P N ε L ⟨d, .binOp .leq t x y u, ty, ps, af, g⟩ (.bool (decide (a ≤ b))) := fun _ ha => z9 (ha.ev hx) (ha.ev hy)
theorem dn (hx : ev ε x = some (.int k a) := by rfl) (hy : ev ε y = some (.int k b) := by rfl) : EY P N ε L ⟨d, .binOp .gtr t x y u, ty, ps, af, g⟩ (.bool (decide (b < a))) := fun _ ha => Aa (ha.ev hx) (ha.ev hy)
theorem fh (hx : ev ε x = some (.int k a) := by rfl) (hy : ev ε y = some (.int k b) := by rfl) : EY P N ε L ⟨d, .binOp .geq t x y u, ty, ps, af, g⟩ (.bool (decide (b ≤ a))) := fun _ ha => Ac (ha.ev hx) (ha.ev hy)
theorem cp {s' t' : TypeId} {ds : TypeDesc} {j : IntKind} {n : Int} (hx : ev ε x = some (.int j n) := by rfl) (hs : P.underlying s' = some ds := by kernel_rfl) (ht : P.underlying t' = some (.int k) := by kernel_rfl) : EY P N ε L ⟨d, .convert s' t' x, ty, ps, af, g⟩ (.int k (k.wrap n)) := fun _ ha => yT (ha.ev hx) hs ht
theorem cN {c : Bool} (hx : ev ε x = some (.bool c) := by rfl) : EY P N ε L ⟨d, .unOp .not t x, ty, ps, af, g⟩ (.bool !c) := fun _ ha => Ad (ha.ev hx)
theorem Ai (hx : ev ε x = some (.int k a) := by rfl) : EY P N ε L ⟨d, .unOp .neg t x, ty, ps, af, g⟩ (.int k (k.wrap (0 - a))) := fun _ ha => Ae (ha.ev hx)
theorem bW {i : Nat} {vs : Array Value} {v : Value} (hx : ev ε x = some (.tuple vs) := by rfl) (hv : vs[i]? = some v := by rfl) : EY P N ε L ⟨d, .extract x i, ty, ps, af, g⟩ v := fun _ ha => rG (ha.ev hx) hv
theorem ma {f : Fn} {v : Value} (hx : ev ε x = some v := by rfl) : EY P N ε L ⟨d, .makeFunc f #[] #[x], ty, ps, af, g⟩ (.func f #[] #[v]) := fun _ ha => by
 have := jR (P := P) (L := L) (ρ := Act.eval ‹_›) (d := d) (ty := ty) (ps := ps) (af := af) (g := g) (f := f) (c1 := #[]) (c2 := #[x]);simpa [ha.ev hx] using this
theorem o6 {f : Fn} {v : Value} (hx : ev ε x = some v := by rfl) : EY P N ε L ⟨d, .makeFunc f #[x] #[], ty, ps, af, g⟩ (.func f #[v] #[]) := fun _ ha => by
 have := jR (P := P) (L := L) (ρ := Act.eval ‹_›) (d := d) (ty := ty) (ps := ps) (af := af) (g := g) (f := f) (c1 := #[x]) (c2 := #[]);simpa [ha.ev hx] using this
theorem io {v : Value} {ds : TypeDesc} (hi : ∀ ms, ds ≠ .interface ms) (hx : ev ε x = some v := by rfl) (ht : P.underlying t = some ds := by kernel_rfl) : EY P N ε L ⟨d, .makeInterface t x, ty, ps, af, g⟩ (.iface t v) := fun _ ha => (ha.ev hx) ▸ na ht hi
theorem Aj {s' f off n : Nat} {cs : Array Value} {v : Value} (hx : ev ε x = some (.agg cs) := by rfl) (hf : fieldPart P s' f = some (off, n, false) := by kernel_rfl) (hv : cs[off]? = some v := by rfl) : EY P N ε L ⟨d, .field s' x f, ty, ps, af, g⟩ v := fun _ ha => vZ (ha.ev hx) hf hv
theorem bB {ats : Array TypeId} {e : TypeId} {base : Option Addr} {len cap : Nat} (hx : ev ε x = some (.slice base len cap) := by rfl) (hu : P.underlying t = some (.slice e) := by kernel_rfl) (ha' : ats[0]? = some t := by rfl) : EY P N ε L ⟨d, .call ⟨.builtin .len, #[x], ats⟩, ty, ps, af, g⟩ (.int .i64 len) := fun _ ha => wg (ha.ev hx) ha' hu
theorem jX {ats : Array TypeId} {s' : ByteArray} (hx : ev ε x = some (.string s') := by rfl) (hu : P.underlying t = some .string := by kernel_rfl) (ha' : ats[0]? = some t := by rfl) : EY P N ε L ⟨d, .call ⟨.builtin .len, #[x], ats⟩, ty, ps, af, g⟩ (.int .i64 s'.size) := fun _ ha => tF (ha.ev hx) ha' hu
theorem Ak {ats : Array TypeId} {k' : IntKind} (hx : ev ε x = some (.int k a) := by rfl) (hy : ev ε y = some (.int k' b) := by rfl) : EY P N ε L ⟨d, .call ⟨.builtin .min, #[x, y], ats⟩, ty, ps, af, g⟩ (.int k (if b < a then b else a)) := fun _ ha => Af (ha.ev hx) (ha.ev hy)
theorem jj {e : TypeId} {p : Option Addr} (hx : ev ε x = some (.pointer p) := by rfl) (hy : ev ε y = some (.pointer none) := by rfl) (hu : P.underlying t = some (.pointer e) := by kernel_rfl) : EY P N ε L ⟨d, .binOp .eql t x y u, ty, ps, af, g⟩ (.bool p.isNone) := fun _ ha => wh (ha.ev hx) (ha.ev hy) hu
theorem yd {e n b i b' i' : Nat} {cs cs' : Array Value} {ty1 ty1' : TypeId} {fl fl' : Bool} (h1 : (b, fl, .cells cs ty1) ∈ L) (h2 : (b', fl', .cells cs' ty1') ∈ L) (hx : ev ε x = some (.pointer (some ⟨b, i, none⟩)) := by rfl) (hy : ev ε y = some (.pointer (some ⟨b', i', none⟩)) := by rfl) (hu : P.underlying t = some (.pointer e) := by kernel_rfl) (hs : sizeAt P e = some (n + 1) := by kernel_rfl) :
   EY P N ε L ⟨d, .binOp .eql t x y u, ty, ps, af, g⟩ (.bool (decide ((b, i) = (b', i')))) := fun _ ha => tG (ha.ev hx) (ha.ev hy) hu hs h1 h2
theorem dH {op : BinOp} {c : Bool} {ms : Array (String × TypeId)} {v : Value} (hv : (v = .nilIface ∧ c = true) ∨ (∃ s w, v = .iface s w ∧ c = false)) (hop : op = .eql ∨ op = .neq := by first | exact .inl rfl | exact .inr rfl) (hx : ev ε x = some v := by rfl) (hu : P.underlying t = some (.interface ms) := by kernel_rfl) :
   EY P N ε L ⟨d, .binOp op t x (.const .nilIface) u, ty, ps, af, g⟩ (.bool (if op = .eql then c else !c)) := fun _ ha => wq hop hv (ha.ev hx) rfl rfl hu
end
def SetAt (L : Frag) (b i : Nat) (v : Value) (L' : Frag) : Prop := ∃ n cs e, L[n]? = some (b, true, .cells cs e) ∧ i < cs.size ∧ L' = L.set n (b, true, .cells (cs.setIfInBounds i v) e)
theorem SetAt.h {L : Frag} {b i : Nat} {v : Value} {cs : Array Value} {e : TypeId} (hi : i < cs.size) : SetAt ((b, true, .cells cs e) :: L) b i v ((b, true, .cells (cs.setIfInBounds i v) e) :: L) := ⟨0, cs, e, rfl, hi, rfl⟩
theorem SetAt.t {L L' : Frag} {b i : Nat} {v : Value} {x : Nat × Bool × Obj} (h : SetAt L b i v L') : SetAt (x :: L) b i v (x :: L') := by
 obtain ⟨n, cs, e, h1, h2, rfl⟩ := h;exact ⟨n + 1, cs, e, by simpa using h1, h2, rfl⟩
section
variable {σ : Type} {F : Fam σ} {Δ : ∀ s, Dom (F.R s) (F.D s)} {P : Program} {main : Bool} {fn : FuncId} {N : Nat} {Q : σ → Exit → Env → Frag → Prop} {s : σ} {ε : Env} {L L' : Frag} {New : Obj → Prop} {d : Option Tmp} {ty : TypeId} {ps : String} {af : Array Edge} {g : Option (Nat × Bool)}
theorem os {ops : Array Oper} {i : Nat} {rest : List Nat} {d : Option Tmp} {k : Op} {ot : TypeId} {ps : String} {af : Array Edge} {g : Option (Nat × Bool)} {n : Nat} (ho : ops[i]? = some ⟨d, k, ot, ps, af, g⟩) (hy : EO P (Δ s).New N ε L ⟨d, k, ot, ps, af, g⟩ (fun r L'' => r = undef ∧ L'' = L')) (hw : wantedE ops N ε g = some true := by rfl) (hd : dstOk N d = true := by rfl) (h : OpsE Δ P main fn N ops rest n s Q (putE d undef ε) L') : OpsE Δ P main fn N ops (i :: rest) (n + 1) s Q ε L :=
 oe ho hy hw hd (fun _ _ ⟨e1, e2⟩ => by rw [e1, e2]; exact h)
theorem eV {t : TypeId} {z : Value} (hN : New (.cells z.cells t)) (hz : zeroAt P t = some z := by kernel_rfl) : EO P New N ε L ⟨d, .alloc t, ty, ps, af, g⟩ (fun r L'' => ∃ b, (∀ t ∈ L, t.1 ≠ b) ∧ r = .pointer (some ⟨b, 0, none⟩) ∧ L'' = (b, true, .cells z.cells t) :: L) :=
 fun _ _ => wv hz hN fun b hb => ⟨b, hb, rfl, rfl⟩
theorem cn {t : TypeId} {x : Operand} {v : Value} (hN : New (.cells v.cells t)) (hx : ev ε x = some v := by rfl) : EO P New N ε L ⟨d, .box t x, ty, ps, af, g⟩ (fun r L'' => ∃ b, (∀ t ∈ L, t.1 ≠ b) ∧ r = .pointer (some ⟨b, 0, none⟩) ∧ L'' = (b, true, .cells v.cells t) :: L) :=
 fun _ ha => Ag (ha.ev hx) hN fun b hb => ⟨b, hb, rfl, rfl⟩
theorem ip {t e : TypeId} {x : Operand} {v z : Value} (hN : New (.cells #[v] e)) (hx : ev ε x = some v := by rfl) (hu : P.underlying t = some (.slice e) := by kernel_rfl) (hs : sizeAt P e = some 1 := by kernel_rfl) (hz : zeroAt P e = some z := by kernel_rfl) (hzp : plainV z = true := by rfl) (hp : plainV v = true := by rfl) :
   EO P New N ε L ⟨d, .buildSlice t 1 #[(0, x)], ty, ps, af, g⟩ (fun r L'' => ∃ b, (∀ t ∈ L, t.1 ≠ b) ∧ r = .slice (some ⟨b, 0, none⟩) 1 1 ∧ L'' = (b, true, .cells #[v] e) :: L) :=
 fun _ ha => k5 (ha.ev hx) hu hs hz hzp hp hN fun b hb => ⟨b, hb, rfl, rfl⟩
def Fun (L : Frag) : Prop := ∀ b fl fl' o o', (b, fl, o) ∈ L → (b, fl', o') ∈ L → fl = fl' ∧ o = o'
theorem bF {L : Frag} (h : (L.map (·.1)).Nodup) : Fun L := by
 intro b fl fl' o o' h1 h2;obtain ⟨i, hi⟩ := List.getElem?_of_mem h1;obtain ⟨j, hj⟩ := List.getElem?_of_mem h2;have e1 : (L.map (·.1))[i]? = some b := by simp [hi]
 have e2 : (L.map (·.1))[j]? = some b := by simp [hj]
 obtain ⟨hl1, he1⟩ := List.getElem?_eq_some_iff.1 e1;obtain ⟨hl2, he2⟩ := List.getElem?_eq_some_iff.1 e2;have hij : i = j := by
   rcases Nat.lt_trichotomy i j with g | g | g
   · exact absurd (he1.trans he2.symm) (List.pairwise_iff_getElem.1 h i j hl1 hl2 g)
   · exact g
   · exact absurd (he2.trans he1.symm) (List.pairwise_iff_getElem.1 h j i hl2 hl1 g)
 subst hij;have := hi.symm.trans hj;simp only [Option.some.injEq, Prod.mk.injEq, true_and] at this;exact this
structure Upd (L : Frag) (b : Nat) (o : Obj) (L' : Frag) : Prop where
 self : (b, true, o) ∈ L'
 ne : ∀ t ∈ L, t.1 ≠ b → t ∈ L'
 fn : Fun L'
structure Add (L : Frag) (b : Nat) (o : Obj) (L' : Frag) : Prop where
 self : (b, true, o) ∈ L'
 sub : ∀ t ∈ L, t ∈ L'
 new : ∀ t ∈ L, t.1 ≠ b
 fn : Fun L'
theorem cS {L : Frag} (hnd : (L.map (·.1)).Nodup) {n b : Nat} {o o' : Obj} (hn : L[n]? = some (b, true, o)) : Upd L b o' (L.set n (b, true, o')) := by
 obtain ⟨hl, he⟩ := List.getElem?_eq_some_iff.1 hn;refine ⟨List.mem_of_getElem? (i := n) (by simp [hl]), fun t ht hne => ?_, bF ?_⟩
 · obtain ⟨i, hi⟩ := List.getElem?_of_mem ht;refine List.mem_of_getElem? (i := i) ?_;rw [List.getElem?_set_ne (fun e => hne ?_)]
   · exact hi
   · subst e; rw [hn] at hi; simp only [Option.some.injEq] at hi; rw [← hi]
 · have : (L.set n (b, true, o')).map (·.1) = L.map (·.1) := by
     apply List.ext_getElem?;intro i;simp only [List.getElem?_map, List.getElem?_set]
     split
     · rename_i e; subst e; simp [hl, he]
     · rfl
   rw [this]; exact hnd
theorem tJ {ops : Array Oper} {todo : List Nat} {n : Nat} (h : Fun L → OpsE Δ P main fn N ops todo n s Q ε L) : OpsE Δ P main fn N ops todo n s Q ε L := jA fun hn => h (bF hn)
theorem iq {c : Code} {n : Nat} (h : Fun L → wpE Δ P main fn N c n s Q ε L) : wpE Δ P main fn N c n s Q ε L := yU fun hn => h (bF hn)
theorem fq {t b i : Nat} {x y : Operand} {v : Value} {cs : Array Value} {e : TypeId} (hx : ev ε x = some (.pointer (some ⟨b, i, none⟩)) := by rfl) (hy : ev ε y = some v := by rfl) (hp : plainV v = true := by rfl) (hs : sizeAt P t = some 1) (hnd : (L.map (·.1)).Nodup) (hm : (b, true, .cells cs e) ∈ L) (hi : i < cs.size) :
   EO P New N ε L ⟨d, .store t x y, ty, ps, af, g⟩ (fun r L'' => r = undef ∧ Upd L b (.cells (cs.setIfInBounds i v) e) L'') := by
 intro a ha;obtain ⟨n, hn⟩ := List.getElem?_of_mem hm;exact wu (ha.ev hx) (ha.ev hy) hs hn hi hp ⟨rfl, cS hnd hn⟩
theorem osm {ops : Array Oper} {i : Nat} {rest : List Nat} {n : Nat} {ot : TypeId} {t b j : Nat} {x y : Operand} {v : Value} {cs : Array Value} {e : TypeId} (ho : ops[i]? = some ⟨d, .store t x y, ot, ps, af, g⟩) (hx : ev ε x = some (.pointer (some ⟨b, j, none⟩)) := by rfl) (hy : ev ε y = some v := by rfl) (hp : plainV v = true := by rfl) (hs : sizeAt P t = some 1) (hm : (b, true, .cells cs e) ∈ L) (hi : j < cs.size)
   (hw : wantedE ops N ε g = some true := by rfl) (hd : dstOk N d = true := by rfl) (h : ∀ L', Upd L b (.cells (cs.setIfInBounds j v) e) L' → OpsE Δ P main fn N ops rest n s Q (putE d undef ε) L') : OpsE Δ P main fn N ops (i :: rest) (n + 1) s Q ε L :=
 jA fun hnd => oe ho (fq hx hy hp hs hnd hm hi) hw hd fun _ L'' ⟨e1, e2⟩ => by rw [e1]; exact h L'' e2
theorem dx {b : Nat} {o : Obj} (hL : Fun L) (hb : ∀ t ∈ L, t.1 ≠ b) : Add L b o ((b, true, o) :: L) := by
 refine ⟨List.mem_cons_self, fun t ht => List.mem_cons_of_mem _ ht, hb, ?_⟩;intro b' fl fl' o1 o2 h1 h2;rcases List.mem_cons.1 h1 with e1 | h1 <;> rcases List.mem_cons.1 h2 with e2 | h2
 · simp only [Prod.mk.injEq] at e1 e2; exact ⟨by rw [e1.2.1, e2.2.1], by rw [e1.2.2, e2.2.2]⟩
 · simp only [Prod.mk.injEq] at e1; exact absurd e1.1 (hb _ h2)
 · simp only [Prod.mk.injEq] at e2; exact absurd e2.1 (hb _ h1)
 · exact hL _ _ _ _ _ h1 h2
theorem bT {ops : Array Oper} {i : Nat} {rest : List Nat} {n : Nat} {k : Op} {ot : TypeId} {f : Nat → Value} {ob : Obj} (ho : ops[i]? = some ⟨d, k, ot, ps, af, g⟩) (hy : EO P (Δ s).New N ε L ⟨d, k, ot, ps, af, g⟩ (fun r L'' => ∃ b, (∀ t ∈ L, t.1 ≠ b) ∧ r = f b ∧ L'' = (b, true, ob) :: L))
   (hw : wantedE ops N ε g = some true := by rfl) (hd : dstOk N d = true := by rfl) (h : ∀ b L', Add L b ob L' → OpsE Δ P main fn N ops rest n s Q (putE d (f b) ε) L') : OpsE Δ P main fn N ops (i :: rest) (n + 1) s Q ε L :=
 tJ fun hF => oe ho hy hw hd fun _ L'' ⟨b, hb, e1, e2⟩ => by rw [e1]; exact h b L'' (e2 ▸ dx hF hb)
theorem nv {ops : Array Oper} {nf : Nat} {R L0 : Frag} {e : Nat} {s0 : σ} {fuel : Nat} {ls : Array Bool} {i : Nat} {k : Op} {ot : TypeId} {f : Nat → Value} {ob : Obj} (ho : ops[i]? = some ⟨d, k, ot, ps, af, g⟩) (hy : EO P (Δ s).New N ε L ⟨d, k, ot, ps, af, g⟩ (fun r L'' => ∃ b, (∀ t ∈ L, t.1 ≠ b) ∧ r = f b ∧ L'' = (b, true, ob) :: L))
   (hr : Region.ready .any ops ls = [i] := by kernel_rfl) (hw : wantedE ops N ε g = some true := by rfl) (hd : dstOk N d = true := by rfl) (h : ∀ b L', Add L b ob L' → Pre R L0 e s0 (ls.setIfInBounds i true) s L' ∧ AnyE Δ P main fn N ops Q nf R L0 e s0 fuel (ls.setIfInBounds i true) s (putE d (f b) ε) L') : AnyE Δ P main fn N ops Q nf R L0 e s0 (fuel + 1) ls s ε L :=
 a0 fun hnd => te ho hy hr hw hd fun _ L'' ⟨b, hb, e1, e2⟩ => by rw [e1]; exact h b L'' (e2 ▸ dx (bF hnd) hb)
end
section
variable {σ : Type} {F : Fam σ} {Δ : ∀ s, Dom (F.R s) (F.D s)} {P : Program} {main : Bool} {fn : FuncId} {N : Nat} {Q : σ → Exit → Env → Frag → Prop} {s : σ} {ε : Env} {L : Frag} {ops : Array Oper} {i j n : Nat} {rest : List Nat} {d d' : Option Tmp} {k : Op} {ot ot' : TypeId} {ps ps' : String} {af af' : Array Edge} {g g' : Option (Nat × Bool)} {v v' : Value} {x : Operand}
theorem oan (ho : ops[i]? = some ⟨d, .assign x, ot, ps, af, g⟩) (hx : ev ε x = some v := by rfl) (hw : wantedE ops N ε g = some true := by rfl) (hd : dstOk N d = true := by rfl) (h : Q s .normal (putE d v ε) L) : OpsE Δ P main fn N ops [i] (1 + 1) s Q ε L := oy ho (bL hx) hw hd (ah h)
theorem om (ho : ops[i]? = some ⟨d, .move x, ot, ps, af, g⟩) (hx : ev ε x = some v) (ho' : ops[j]? = some ⟨d', k, ot', ps', af', g'⟩) (hy : EY P N (putE d v ε) L ⟨d', k, ot', ps', af', g'⟩ v') (hw : wantedE ops N ε g = some true := by rfl) (hd : dstOk N d = true := by rfl) (hw' : wantedE ops N (putE d v ε) g' = some true := by rfl) (hd' : dstOk N d' = true := by rfl) (h : OpsE Δ P main fn N ops rest n s Q (putE d' v' (putE d v ε)) L) : OpsE Δ P main fn N ops (i :: j :: rest) (n + 1 + 1) s Q ε L := oy ho (ae hx) hw hd (oy ho' hy hw' hd' h)
theorem pN {R : Frag} {e : Nat} {ls : Array Bool} (hR : ∀ t ∈ R, t ∈ L := by simp) : Pre R L e s ls s L := ak hR
end
end Go.Lo
