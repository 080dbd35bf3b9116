/-
  Part 10 of the proof.
  No condition but those that each statement names.
-/
import Derived.Test.YtejkelcaljmnoaaGreatDoorHy09
import Derived.Test.YtejkelcaljmnoaaGreatDoorHy03
import Derived.Conc.Own3
set_option maxRecDepth 100000
set_option maxHeartbeats 4000000
set_option linter.unusedVariables false
set_option linter.unusedSimpArgs false
set_option linter.unusedSectionVars false
namespace Go.Proofs.YtejkelcaljmnoaaGreatDoor
open Go.Conc Go.Hx Go.Lo
def cfgv (c : Nat → Int) (bo : Int) : Value := .agg #[.int .i64 (c 0), .int .i64 (c 1), .int .i64 (c 2), .int .i64 bo]
def arr3 (c : Nat → Int) : Value := .agg #[.int .i64 (c 0), .int .i64 (c 1), .int .i64 (c 2)]
def okc (c : Nat → Int) (bo : Int) : Bool := decide (((1 ≤ c 0 ∧ c 0 ≤ 10) ∧ (1 ≤ c 1 ∧ c 1 ≤ 10) ∧ (1 ≤ c 2 ∧ c 2 ≤ 10)) ∧ 1 ≤ bo ∧ bo ≤ 1000)
theorem AC (c : Nat → Int) {i : Nat} (hi : i < 3) : evR Tryz.prog (Instr.index 24 (arr3 c) (.int .i64 (i : Nat))) [] = some (.int .i64 (c i), []) := by
 have : i = 0 ∨ i = 1 ∨ i = 2 := by omega
 rcases this with rfl | rfl | rfl
 · show evR Tryz.prog (Instr.index 24 (arr3 c) (.int .i64 ((0 : Nat) : Int))) [] = some (.int .i64 (c 0), []);kernel_rfl
 · show evR Tryz.prog (Instr.index 24 (arr3 c) (.int .i64 ((1 : Nat) : Int))) [] = some (.int .i64 (c 1), []);kernel_rfl
 · show evR Tryz.prog (Instr.index 24 (arr3 c) (.int .i64 ((2 : Nat) : Int))) [] = some (.int .i64 (c 2), []);kernel_rfl
theorem kD : ∃ n, ∀ {σ} {F : Fam σ} {Δ : DM F} {main s} (L : Frag) (c : Nat → Int) (bo : Int), (∀ cs, (Δ s).New (.cells cs 26)) → Fun L →
   CallsL Δ Tryz.prog main 45 [cfgv c bo].toArray n s L (fun s' v L' => s = s' ∧ v = .bool (okc c bo) ∧ Ext L L') := by
 apply Exists.intro;intro σ F Δ main s L c bo hN hF;co_applyP aB 25 Tryz.func45 Tryz.ntmps45;co_applyP ai;co_applyP bI rfl (bS (hN _));intro b L1 hA;have hE : Ext L L1 := ⟨hA.fn, hA.sub⟩;have hbo : At L1 b 3 (.int .i64 bo) := ⟨true, _, _, _, hA.self, rfl⟩;co_applyP oy rfl aj;co_applyP aa;co_applyP ar;co_applyP ai;co_applyP oy rfl (av (hf := ma));co_applyP oy rfl (a5 (ht := zT) (hs := zS) (hm := hA.self) (hi := by show 0 + 0 + 3 ≤ 4; decide));co_applyP oy rfl ah;co_applyP aa;co_applyP aJ;rw [show (Value.agg (((cfgv c bo).cells).extract 0 (0 + 3))) = arr3 c from rfl];co_applyP bF (fun k s' ε' L' => s' = s ∧ L' = L1 ∧ ∃ i, i ≤ 3 ∧ k + i = 3 ∧ (∀ j, j < i → 1 ≤ c j ∧ c j ≤ 10) ∧ kn ε' [(1, ptr b), (6, arr3 c), (7, .int .i64 (i : Nat))]) 3
 · exact ⟨rfl, rfl, 0, by omega, rfl, by omega, rfl⟩
 rintro k s' ε' L' ⟨rfl, rfl, i, hi, hk, hok, he⟩;co_applyP a0 he;have ei : IntKind.i64.wrap ((i : Int) + 1) = ((i + 1 : Nat) : Int) := by simp [IntKind.wrap_i64]; omega
 co_applyP ai;co_applyP oy rfl ci;co_applyP aa;co_applyP ar;co_applyP bi rfl;intro hlt
 · have hi3 : i < 3 := by simp at hlt; omega
   co_applyP aC;co_applyP ar;co_applyP aJ;co_applyP ai;co_applyP oy rfl (uG (AC c hi3));co_applyP oy rfl aj;co_applyP aa;co_applyP ar;co_applyP jO ([(15, .bool (decide (c i < 1 ∨ 10 < c i))), (1, ptr b), (6, arr3 c), (7, .int .i64 (i : Nat))]);co_applyP ay;co_applyP oy rfl ah;co_applyP oy rfl ci;co_applyP oy rfl ah
   · by_cases h3 : c i < 1
     · have e3 : decide (c i < 1) = true := by simp [h3]
       rw [e3];co_applyP ou rfl;co_applyP ou rfl;co_applyP oy rfl aN;co_applyP aa;change _ = _ ∧ _ = _ ∧ kn _ _;refine ⟨rfl, rfl, ?_⟩;have e4 : true = decide (c i < 1 ∨ 10 < c i) := by simp [h3]
       rw [← e4]; rfl
     · have e3 : decide (c i < 1) = false := by simp; omega
       rw [e3];co_applyP oy rfl (ah);co_applyP oy rfl (dK);co_applyP oy rfl aN;co_applyP aa;change _ = _ ∧ _ = _ ∧ kn _ _;refine ⟨rfl, rfl, ?_⟩;have e4 : decide (10 < c i) = decide (c i < 1 ∨ 10 < c i) := by simp [h3]
       rw [← e4]; rfl
   co_applyP bi rfl;intro hw;co_applyP ai;co_applyP oy rfl aj;co_applyP aa;co_applyP aI;change ∃ v, resE .. = some v ∧ _
   · have hw' : c i < 1 ∨ 10 < c i := by simpa using hw
     have e5 : okc c bo = false := by
       unfold okc;simp only [decide_eq_false_iff_not];rintro ⟨h1, _⟩;have : i = 0 ∨ i = 1 ∨ i = 2 := by omega
       rcases this with rfl | rfl | rfl <;> omega
     exact ⟨_, rfl, rfl, by rw [e5], hE⟩
   intro hw;co_applyP aC;co_applyP ay;co_applyP oy rfl a8;co_applyP oy rfl ah;co_applyP aa;change ∃ k', k' < _ ∧ _;have hw' : ¬ (c i < 1 ∨ 10 < c i) := by simpa using hw
   refine ⟨k - 1, by omega, rfl, rfl, i + 1, by omega, by omega, fun j hj => ?_, by rw [← ei]; rfl⟩;by_cases hj' : j = i
   · subst hj'; omega
   · exact hok j (by omega)
 intro hlt;co_applyP bN;co_applyP ar;have hi3 : i = 3 := by simp at hlt; omega
 subst hi3;co_applyP jO ([(2, .bool (okc c bo))]);co_applyP ay;co_applyP oy rfl (av (hf := eZ));co_applyP oy rfl (aG (ht := aY));co_applyP oy rfl d8;co_applyP oy rfl ah
 · by_cases h3 : 1 ≤ bo
   · have e3 : decide (1 ≤ bo) = true := by simp [h3]
     rw [e3];co_applyP oy rfl ((av (hf := eZ)));co_applyP oy rfl ((aG (ht := aY)));co_applyP oy rfl (np);co_applyP oy rfl aN;co_applyP oy rfl aj;co_applyP aa;change _ = _ ∧ _ = _ ∧ kn _ _;refine ⟨rfl, rfl, ?_⟩;have e4 : decide (bo ≤ 1000) = okc c bo := by unfold okc; have h0 := hok 0 (by omega); have h1 := hok 1 (by omega); have h2 := hok 2 (by omega); simp [h3, h0, h1, h2]
     rw [← e4]; rfl
   · have e3 : decide (1 ≤ bo) = false := decide_eq_false h3;rw [e3];co_applyP ou rfl;co_applyP ou rfl;co_applyP ou rfl;co_applyP oy rfl aN;co_applyP oy rfl aj;co_applyP aa;change _ = _ ∧ _ = _ ∧ kn _ _;refine ⟨rfl, rfl, ?_⟩;have e4 : false = okc c bo := by unfold okc; symm; simp only [decide_eq_false_iff_not]; omega
     rw [← e4]; rfl
 co_applyP aI;change ∃ v, resE .. = some v ∧ _;exact ⟨_, rfl, rfl, rfl, hE⟩
def oki (n : Nat) : Bool := decide (0 < n ∧ n % 4 = 0 ∧ n ≤ 1024)
theorem lH : ∃ n, ∀ {σ} {F : Fam σ} {Δ : DM F} {main s} (L : Frag) (base : Option Addr) (len cap : Nat),
   CallsL Δ Tryz.prog main 46 [.slice base len cap].toArray n s L (fun s' v L' => s = s' ∧ v = .bool (oki len) ∧ L = L') := by
 apply Exists.intro;intro σ F Δ main s L base len cap;co_applyP aB 17 Tryz.func46 Tryz.ntmps46;co_applyP ai;co_applyP oy rfl aj;co_applyP aa;co_applyP ai;co_applyP oy rfl ah;co_applyP oy rfl (bt (hu := U44));co_applyP oy rfl aj;co_applyP aa;co_applyP ar;co_applyP jO ([(2, .bool (oki len))]);co_applyP ay;co_applyP oy rfl ah;co_applyP oy rfl dK;co_applyP oy rfl ah
 · by_cases h3 : 0 < len
   · have e3 : decide ((0 : Int) < (len : Int)) = true := by simp [h3]
     rw [e3];co_applyP oy rfl (ah);co_applyP oy rfl (gX);rw [show Int.tmod (len : Int) 4 = ((len % 4 : Nat) : Int) by rw [Int.tmod_eq_emod_of_nonneg (by omega)]; rfl];co_applyP oy rfl (aA);co_applyP oy rfl aN;co_applyP oy rfl ah;by_cases h4 : len % 4 = 0
     · have e5 : (((len % 4 : Nat) : Int) == 0) = true := by simp [h4]
       rw [e5];co_applyP oy rfl (ah);co_applyP oy rfl (np);co_applyP oy rfl aN;co_applyP oy rfl aj;co_applyP aa;change _ = _ ∧ _ = _ ∧ kn _ _;refine ⟨rfl, rfl, ?_⟩;have e4 : decide ((len : Int) ≤ 1024) = oki len := by unfold oki; simp only [h3, h4, true_and]; congr 1; simp; omega
       rw [← e4]; rfl
     · have e5 : (((len % 4 : Nat) : Int) == 0) = false := by simp; omega
       rw [e5];co_applyP ou rfl;co_applyP ou rfl;co_applyP oy rfl aN;co_applyP oy rfl aj;co_applyP aa;change _ = _ ∧ _ = _ ∧ kn _ _;refine ⟨rfl, rfl, ?_⟩;have e4 : false = oki len := by unfold oki; symm; simp only [decide_eq_false_iff_not]; omega
       rw [← e4]; rfl
   · have e3 : decide ((0 : Int) < (len : Int)) = false := by simp; omega
     rw [e3];co_applyP ou rfl;co_applyP ou rfl;co_applyP ou rfl;co_applyP oy rfl aN;co_applyP oy rfl ah;co_applyP ou rfl;co_applyP ou rfl;co_applyP oy rfl aN;co_applyP oy rfl aj;co_applyP aa;change _ = _ ∧ _ = _ ∧ kn _ _;refine ⟨rfl, rfl, ?_⟩;have e4 : false = oki len := by unfold oki; symm; simp only [decide_eq_false_iff_not]; omega
     rw [← e4]; rfl
 co_applyP aI;change ∃ v, resE .. = some v ∧ _;exact ⟨_, rfl, rfl, rfl, rfl⟩
abbrev bts (im : Nat → Int) (n : Nat) : List Value := (List.range n).map fun i => Value.int .u8 (im i)
theorem zg (a b c e : Int) : evR Tryz.prog (Instr.build 158 [(0, .int .u8 a), (1, .int .u8 b), (2, .int .u8 c), (3, .int .u8 e)].toArray) [] = some (.agg #[.int .u8 a, .int .u8 b, .int .u8 c, .int .u8 e], []) := by kernel_rfl
theorem vj : zeroAt Tryz.prog 158 = some (.agg #[.int .u8 0, .int .u8 0, .int .u8 0, .int .u8 0]) := by kernel_rfl
theorem xp : bytesAt Tryz.prog 158 = some 4 := by kernel_rfl
theorem Bl (im : Nat → Int) (j : Nat) : bts im (4 * (j + 1)) = bts im (4 * j) ++ [.int .u8 (im (4 * j)), .int .u8 (im (4 * j + 1)), .int .u8 (im (4 * j + 2)), .int .u8 (im (4 * j + 3))] := by
 have : 4 * (j + 1) = 4 * j + 1 + 1 + 1 + 1 := by omega
 rw [this];simp only [bts, List.range_succ, List.map_append, List.map_cons, List.map_nil, List.append_assoc, List.cons_append, List.nil_append]
theorem vk : ∃ n, ∀ {σ} {F : Fam σ} {Δ : DM F} {main s} (L : Frag) (ib o len cap : Nat) (im : Nat → Int), (∀ cs, (Δ s).New (.cells cs 158)) → Fun L → len % 4 = 0 → len ≤ 1024 → (∀ i, i < len → At L ib (o + i) (.int .u8 (im i))) →
   CallsL Δ Tryz.prog main 47 [.slice (some ⟨ib, o, none⟩) len cap].toArray n s L (fun s' v L' => s = s' ∧ ∃ a, v = rowv a 4 (len / 4) ∧ slOk a (bts im len) 158 L' ∧ (∀ t ∈ L, a.b ≠ some t.1) ∧ Ext L L') := by
 apply Exists.intro;intro σ F Δ main s L ib o len cap im hN hF h4 hle hat;co_applyP aB 36 Tryz.func47 Tryz.ntmps47;co_applyP ai;co_applyP oy rfl aj;co_applyP aa;co_applyP ai;co_applyP oy rfl aj;co_applyP aa;co_applyP ar;co_applyP ai;co_applyP oy rfl aj;co_applyP aa;co_applyP aJ;co_applyP bF (fun c s' ε' L' => s' = s ∧ Ext L L' ∧ ∃ j a, 4 * j ≤ len ∧ c + j = 256 ∧ slOk a (bts im (4 * j)) 158 L' ∧ (∀ t ∈ L, a.b ≠ some t.1) ∧ kn ε' [(0, .slice (some ⟨ib, o, none⟩) len cap), (4, .int .i64 ((4 * j : Nat) : Int)), (3, rowv a 4 j)]) 256
 · exact ⟨rfl, ⟨hF, fun _ h => h⟩, 0, ⟨none, []⟩, by omega, rfl, ⟨rfl, rfl⟩, fun t ht => by simp, rfl⟩
 rintro c s' ε' L' ⟨rfl, hE, j, a, hj, hc, ha, han, he⟩;co_applyP a0 he;have w0 : IntKind.i64.wrap (((4 * j : Nat) : Int) + 4) = ((4 * (j + 1) : Nat) : Int) := by simp [IntKind.wrap_i64]; omega
 have w1 : IntKind.i64.wrap (((4 * j : Nat) : Int) + 1) = ((4 * j + 1 : Nat) : Int) := by simp [IntKind.wrap_i64]; omega
 have w2 : IntKind.i64.wrap (((4 * j : Nat) : Int) + 2) = ((4 * j + 2 : Nat) : Int) := by simp [IntKind.wrap_i64]; omega
 have w3 : IntKind.i64.wrap (((4 * j : Nat) : Int) + 3) = ((4 * j + 3 : Nat) : Int) := by simp [IntKind.wrap_i64]; omega
 co_applyP ar;co_applyP ai;co_applyP oy rfl ah;co_applyP oy rfl a8;co_applyP oy rfl ah;co_applyP oy rfl (bt (hu := U44));co_applyP oy rfl np;co_applyP aa;co_applyP bi rfl;intro hlt
 · rw [w0] at hlt;have hlt' : 4 * (j + 1) ≤ len := by simp only [decide_eq_true_eq] at hlt; omega
   have hat' : ∀ i, i < 4 → At L' ib (o + (4 * j + i)) (.int .u8 (im (4 * j + i))) := fun i hi => by
     obtain ⟨fl, cs, ty, fr, h1, h2⟩ := hat (4 * j + i) (by omega);exact ⟨fl, cs, ty, fr, hE.s _ h1, h2⟩
   co_applyP aC;co_applyP ar;co_applyP aJ;co_applyP bj [] 22 (nf := 0) aZ;co_applyP tr (i := 0) rfl (ah) (ae (by simp));co_applyP tr (i := 1) rfl (ah) (ae (by simp));co_applyP tr (i := 2) rfl (ah) (ae (by simp));co_applyP tr (i := 3) rfl (bu U44 d9 (off := o + (4 * j)) (ho := by rw [Nat.mul_one, Int.toNat_natCast])) (ae (by simp));co_applyP t0 (i := 4) rfl (aG (ht := fp) (hv := hat' 0 (by omega))) (ae (by simp));co_applyP tr (i := 5) rfl (ah) (ae (by simp));co_applyP tr (i := 6) rfl (ah) (ae (by simp));co_applyP tr (i := 7) rfl (a8) (ae (by simp));rw [w1];co_applyP tr (i := 8) rfl (bu U44 d9 (off := o + (4 * j + 1)) (ho := by rw [Nat.mul_one, Int.toNat_natCast])) (ae (by simp));co_applyP t0 (i := 9) rfl (aG (ht := fp) (hv := hat' 1 (by omega))) (ae (by simp));co_applyP tr (i := 10) rfl (ah) (ae (by simp));co_applyP tr (i := 11) rfl (ah) (ae (by simp));co_applyP tr (i := 12) rfl (a8) (ae (by simp));rw [w2];co_applyP tr (i := 13) rfl (bu U44 d9 (off := o + (4 * j + 2)) (ho := by rw [Nat.mul_one, Int.toNat_natCast])) (ae (by simp));co_applyP t0 (i := 14) rfl (aG (ht := fp) (hv := hat' 2 (by omega))) (ae (by simp));co_applyP tr (i := 15) rfl (ah) (ae (by simp));co_applyP tr (i := 16) rfl (ah) (ae (by simp));co_applyP tr (i := 17) rfl (a8) (ae (by simp));rw [w3];co_applyP tr (i := 18) rfl (bu U44 d9 (off := o + (4 * j + 3)) (ho := by rw [Nat.mul_one, Int.toNat_natCast])) (ae (by simp));co_applyP t0 (i := 19) rfl (aG (ht := fp) (hv := hat' 3 (by omega))) (ae (by simp));co_applyP tr (i := 20) rfl (bl (zg _ _ _ _)) (ae (by simp));co_applyP nq (i := 21) rfl (vi (sz := 4) (hN := hN _) (hv := rfl) (hu := l8) (hs := cU) (hz := vj) (h0 := by decide) (h24 := by decide));intro nb L1 hA;refine ⟨dJ (by simp) (fun t ht => hA.sub t ht), ?_⟩;co_applyP a7;intro hnd;have hr : Reads Tryz.prog L1 4 1 (.slice (some ⟨nb, 0, none⟩) 1 1) [Value.int .u8 (im (4 * j)), .int .u8 (im (4 * j + 1)), .int .u8 (im (4 * j + 2)), .int .u8 (im (4 * j + 3))].toArray := by
     have := bZ (P := Tryz.prog) (sz := 4) (n := 1) (len := 1) (cap := 1) (o := 0) hA.self (by show 0 + 1 * 4 ≤ 4; decide);exact this
   co_applyP te (i := 22) rfl (qF (a := a) (by_ := 3) (xs := bts im (4 * j)) (n := j) (m := 1) (hnd := hnd) (hu := l8) (hs := cU) (hb := xp) (hz := vj) (hzs := rfl) (hN := hN) (ha := ha.mono fun c hc o ho => hA.sub _ ho) (hn := by simp; omega) (hr := hr) (hm := rfl) (hpl := rfl) (h0 := by decide) (h8 := by omega));rintro _ _ ⟨a', rfl, hp⟩;refine ⟨aE (by simp), ?_⟩;co_applyP to (i := 23) rfl (aj) (aE (by simp));co_applyP td (by kernel_rfl);co_applyP ay;co_applyP oy rfl ah;co_applyP oy rfl a8;co_applyP oy rfl aj;co_applyP aa;change ∃ k', k' < _ ∧ _;refine ⟨c - 1, by omega, rfl, ⟨hp.fn, fun t ht => hp.sub _ (hA.sub _ (hE.s _ ht)) (han t ht)⟩, j + 1, a', by omega, by omega, ?_, fun t ht e => ?_, by rw [w0]; rfl⟩
   · rw [Bl]; exact hp.ok
   · rcases hp.d _ e with h | h
     · exact han t ht h
     · exact h _ (hA.sub _ (hE.s _ ht)) rfl
 intro hlt;co_applyP bN;co_applyP ai;co_applyP oy rfl ah;co_applyP oy rfl aj;co_applyP aa;co_applyP aI;change ∃ v, resE .. = some v ∧ _;rw [w0] at hlt;have hj4 : 4 * j = len := by simp at hlt; omega
 have hj4' : len / 4 = j := by omega
 exact ⟨_, rfl, rfl, a, by rw [hj4'], by rw [← hj4]; exact ha, han, hE⟩
section
variable {New : Obj → Prop} {N : Nat} {ε : Env} {L : Frag} {d : Option Tmp} {ty : TypeId} {ps : String} {af : Array Edge} {g : Option (Nat × Bool)} {P : Program}
theorem AD {t : TypeId} (hN : New (.map #[] 0)) : EO P New N ε L ⟨d, .makeMap t none, ty, ps, af, g⟩ (fun r L'' => ∃ b, (∀ t ∈ L, t.1 ≠ b) ∧ r = .map (some b) ∧ L'' = (b, true, .map #[] 0) :: L) :=
 fun _ _ => rM hN fun b hb => ⟨b, hb, rfl, rfl⟩
end
def PS.zero : PS := ⟨0, 0, 0, 0, 0, 0, 0, fun _ => 0, fun _ => 0, fun _ => (0, 0), 0⟩
def St.bare (c : Nat → Int) (bo : Int) (pn : Nat) (im : Nat → Int) : St := ⟨c, bo, pn, fun i j => im (4 * i + j), [], 0, fun _ => [], fun _ => [], [], 0⟩
theorem vl (c : Nat → Int) (bo : Int) (b n cap wb : Nat) : evR Tryz.prog (Instr.build 115 [(0, cfgv c bo), (1, .slice (some ⟨b, 0, none⟩) n cap), (6, .map (some wb))].toArray) [] = some (.agg (kcells ⟨c, bo, .slice (some ⟨b, 0, none⟩) n cap, .slice none 0 0, 0, fun _ => .slice none 0 0, fun _ => .slice none 0 0, .map (some wb), 0⟩), []) := by kernel_rfl
theorem Bm : evR Tryz.prog (Instr.build 99 [].toArray) [] = some (.agg (pcells PS.zero), []) := by kernel_rfl
theorem qG {K g cap wb len : Nat} {c : Nat → Int} {bo : Int} {im : Nat → Int} {L L1 L2 : Frag} {a : Sl} (hab : a.b = some g) (h4 : len % 4 = 0) (hcap : cap = len / 4 + a.junk.length / 4) (ha : slOk a (bts im len) 158 L1) (hw : (wb, true, Obj.map #[] 0) ∈ L1) (hE : Ext L L1) (han : ∀ t ∈ L, a.b ≠ some t.1) (hwn : ∀ t ∈ L, t.1 ≠ wb)
   (hA : Add L1 K (.cells (kcells ⟨c, bo, .slice (some ⟨g, 0, none⟩) (len / 4) cap, .slice none 0 0, 0, fun _ => .slice none 0 0, fun _ => .slice none 0 0, .map (some wb), 0⟩) 115) L2) :
   Rep K ⟨g, cap, (bts im len ++ a.junk).toArray, fun _ => ⟨none, []⟩, fun _ => ⟨none, []⟩, wb, [], 0⟩ (St.bare c bo (len / 4) im) L L2 where
 fn := hA.fn
 k := hA.self
 g := hA.sub _ (ha.mem hab)
 gv i j hi hj := by
   have hlt : 4 * i + j < len := by have : i < len / 4 := hi; omega
   simp only [List.getElem?_toArray];rw [List.getElem?_append_left (by simpa using hlt)];simp [hlt, St.bare]
 p q hq := by cases hq
 pn := by simp [St.bare]
 p8 := by simp [St.bare]
 pa := ⟨rfl, rfl⟩
 rw l hl := ⟨rfl, rfl⟩
 ya i hi := ⟨rfl, rfl⟩
 w := hA.sub _ hw
 wl := rfl
 bn := by simp
 bc x hx := by cases hx
 wa e he := by cases he
 d i j hij hn := absurd rfl hn
 dy i j hij hn := absurd rfl hn
 al i c hc := by cases hc
 yl i c hc := by cases hc
 fr t ht := hA.sub _ (hE.s _ ht)
 fd t ht := ⟨hA.new _ (hE.s _ ht), fun q hq => by (cases hq), fun i h => by (cases h), fun i h => by (cases h), hwn t ht⟩
theorem AE : ∃ n, ∀ {σ} {F : Fam σ} {Δ : DM F} {main s} (L : Frag) (c : Nat → Int) (bo : Int) (base : Option Addr) (len cap : Nat), (∀ s o, (Δ s).New o) → Fun L → okc c bo = true → oki len = false →
   CallsL Δ Tryz.prog main 29 [cfgv c bo, .slice base len cap].toArray n s L (fun s' v L' => s = s' ∧ v = .tuple #[.pointer none, .int .i64 2] ∧ Ext L L') := by
 obtain ⟨n1, g1⟩ := kD;obtain ⟨n2, g2⟩ := lH;apply Exists.intro;intro σ F Δ main s L c bo base len cap hN hF hok hoi;co_applyP aB 24 Tryz.func29 Tryz.ntmps29;co_applyP ai;co_applyP bI rfl (bS (hN _ _));intro b L1 hA;co_applyP oy rfl aj;co_applyP oy rfl aj;co_applyP aa;co_applyP ar;co_applyP ai;co_applyP oy rfl (a5 (ht := jb) (hs := fq) (hm := hA.self) (hi := by show 0 + 4 ≤ 4; decide));rw [show (Value.agg (((cfgv c bo).cells).extract 0 (0 + 4))) = cfgv c bo from rfl];co_applyP oc rfl rfl rfl (g1 L1 c bo (fun cs => hN _ _) hA.fn);rintro _ _ _ ⟨rfl, rfl, hE⟩;rw [hok];co_applyP oy rfl bY;co_applyP aa;co_applyP ak rfl;co_applyP aC;co_applyP ar (n₂ := 0);co_applyP ai;co_applyP oy rfl ah;co_applyP oc rfl rfl rfl (g2 _ base len cap);rintro _ _ _ ⟨rfl, rfl, rfl⟩;rw [hoi];co_applyP oy rfl bY;co_applyP aa;co_applyP aS rfl;co_applyP ai;co_applyP oy rfl aj;co_applyP oy rfl aj;co_applyP aa;co_applyP aI;change ∃ v, resE .. = some v ∧ _;exact ⟨_, rfl, rfl, rfl, (Ext.mk hA.fn hA.sub).trans hE⟩
theorem AF : ∃ n, ∀ {σ} {F : Fam σ} {Δ : DM F} {main s} (L : Frag) (c : Nat → Int) (bo : Int) (ib o len cap : Nat) (im : Nat → Int), (∀ s o, (Δ s).New o) → Fun L → okc c bo = true → oki len = true → (∀ i, i < len → At L ib (o + i) (.int .u8 (im i))) →
   CallsL Δ Tryz.prog main 29 [cfgv c bo, .slice (some ⟨ib, o, none⟩) len cap].toArray n s L (fun s' v L' => s = s' ∧ ∃ K A b, v = .tuple #[ptr K, .int .i64 0] ∧ Rep K A ((St.bare c bo (len / 4) im).adopt b PS.zero) L L') := by
 obtain ⟨n1, g1⟩ := kD;obtain ⟨n2, g2⟩ := lH;obtain ⟨n3, g3⟩ := vk;obtain ⟨n4, g4⟩ := x9;apply Exists.intro;intro σ F Δ main s L c bo ib o len cap im hN hF hok hoi hat;have hoi' : 0 < len ∧ len % 4 = 0 ∧ len ≤ 1024 := by unfold oki at hoi; simpa using hoi
 co_applyP aB 24 Tryz.func29 Tryz.ntmps29;co_applyP ai;co_applyP bI rfl (bS (hN _ _));intro b L1 hA;have hE1 : Ext L L1 := ⟨hA.fn, hA.sub⟩;co_applyP oy rfl aj;co_applyP oy rfl aj;co_applyP aa;co_applyP ar;co_applyP ai;co_applyP oy rfl (a5 (ht := jb) (hs := fq) (hm := hA.self) (hi := by show 0 + 4 ≤ 4; decide));rw [show (Value.agg (((cfgv c bo).cells).extract 0 (0 + 4))) = cfgv c bo from rfl];co_applyP oc rfl rfl rfl (g1 L1 c bo (fun cs => hN _ _) hA.fn);rintro _ _ _ ⟨rfl, rfl, hE⟩;rename_i L2;rw [hok];co_applyP oy rfl bY;co_applyP aa;co_applyP ak rfl;co_applyP aC;co_applyP ar;co_applyP ai;co_applyP oy rfl ah;co_applyP oc rfl rfl rfl (g2 _ _ len cap);rintro _ _ _ ⟨rfl, rfl, rfl⟩;rw [hoi];co_applyP oy rfl bY;co_applyP aa;co_applyP ak rfl;co_applyP aC;change wpE ..;have hcfg : (b, true, Obj.cells (cfgv c bo).cells 26) ∈ L2 := hE.s _ hA.self;have hE2 : Ext L L2 := hE1.trans hE;have hbn : ∀ (a : Sl) (L3 : Frag), slOk a (bts im len) 158 L3 → ∃ g, a.b = some g := fun a L3 h => by
   cases hab : a.b with
   | some g => exact ⟨g, rfl⟩
   | none =>
     unfold slOk at h;rw [hab] at h;have := congrArg List.length h.1;simp at this;omega
 co_applyP dP (fun s'' ε'' L'' => s = s'' ∧ ∃ K A, Rep K A (St.bare c bo (len / 4) im) L2 L'' ∧ kn ε'' [(6, ptr K)]);co_applyP bj L2 5 aZ;co_applyP tr (i := 0) rfl (a5 (ht := jb) (hs := fq) (hm := hcfg) (hi := by show 0 + 4 ≤ 4; decide)) pI;rw [show (Value.agg (((cfgv c bo).cells).extract 0 (0 + 4))) = cfgv c bo from rfl];co_applyP tr (i := 1) rfl (ah) pI;co_applyP t2 (i := 2) (j := 3) rfl rfl rfl (g3 L2 ib o len cap im (fun cs => hN _ _) hE.f hoi'.2.1 hoi'.2.2 (fun i hi => hE2.at (hat i hi))) rfl (AD (hN _ _))
 · rintro s' v L3 ⟨rfl, a, rfl, ha, han, hE3⟩;refine ⟨dJ (fun t h => hE3.s t h) (fun t h => hE3.s t h), ?_⟩;obtain ⟨g, hg⟩ := hbn a L3 ha;have ev : rowv a 4 (len / 4) = .slice (some ⟨g, 0, none⟩) (len / 4) (len / 4 + a.junk.length / 4) := by unfold rowv; rw [hg]
   rw [ev];co_applyP nq (i := 3) rfl (AD (hN _ _));intro wb L4 hA4;refine ⟨dJ (fun t h => hA4.sub _ (hE3.s t h)) (fun t h => hA4.sub _ (hE3.s t h)), ?_⟩;co_applyP to (i := 4) rfl (bl (vl c bo g _ _ wb)) (dJ (fun t h => hA4.sub _ (hE3.s t h)) (fun t h => hA4.sub _ (hE3.s t h)));co_applyP nq (i := 5) rfl (bS (hN _ _));intro K L5 hA5;refine ⟨aE (fun t h => hA5.sub _ (hA4.sub _ (hE3.s t h))), ?_⟩;co_applyP to (i := 6) rfl (aj) (aE (fun t h => hA5.sub _ (hA4.sub _ (hE3.s t h))));co_applyP td (by kernel_rfl);change _ = _ ∧ ∃ K A, _ ∧ kn _ _;exact ⟨rfl, K, _, qG hg hoi'.2.1 rfl (ha.mono fun c hc o ho => hA4.sub _ ho) hA4.self ⟨hA4.fn, fun t h => hA4.sub _ (hE3.s t h)⟩ han (fun t ht => hA4.new _ (hE3.s _ ht)) hA5, rfl⟩
 · rintro v L3 ⟨wb, hwb, rfl, rfl⟩;refine ⟨dJ (fun t h => List.mem_cons_of_mem _ h) (fun t h => List.mem_cons_of_mem _ h), ?_⟩;have hA3 := de (o := .map #[] 0) hE.f hwb;have hE3 : Ext L2 ((wb, true, .map #[] 0) :: L2) := ⟨hA3.fn, hA3.sub⟩;co_applyP tc (i := 2) rfl rfl rfl (g3 _ ib o len cap im (fun cs => hN _ _) hA3.fn hoi'.2.1 hoi'.2.2 (fun i hi => (hE2.trans hE3).at (hat i hi)));rintro _ _ _ ⟨rfl, a, rfl, ha, han, hE4⟩;refine ⟨dJ (fun t h => hE4.s _ (hA3.sub t h)) (fun t h => hE4.s _ (hA3.sub t h)), ?_⟩;rename_i L4;obtain ⟨g, hg⟩ := hbn a L4 ha;have ev : rowv a 4 (len / 4) = .slice (some ⟨g, 0, none⟩) (len / 4) (len / 4 + a.junk.length / 4) := by unfold rowv; rw [hg]
   rw [ev];co_applyP to (i := 4) rfl (bl (vl c bo g _ _ wb)) (dJ (fun t h => hE4.s _ (hA3.sub t h)) (fun t h => hE4.s _ (hA3.sub t h)));co_applyP nq (i := 5) rfl (bS (hN _ _));intro K L5 hA5;refine ⟨aE (fun t h => hA5.sub _ (hE4.s _ (hA3.sub t h))), ?_⟩;co_applyP to (i := 6) rfl (aj) (aE (fun t h => hA5.sub _ (hE4.s _ (hA3.sub t h))));co_applyP td (by kernel_rfl);change _ = _ ∧ ∃ K A, _ ∧ kn _ _;exact ⟨rfl, K, _, qG hg hoi'.2.1 rfl ha (hE4.s _ hA3.self) (hE3.trans hE4) (fun t ht => han _ (hA3.sub _ ht)) hwb hA5, rfl⟩
 rintro s'' ε'' L3 ⟨rfl, K, A, hR, he⟩;co_applyP a0 he;co_applyP ai;co_applyP oy rfl ah;co_applyP oy rfl (bl Bm);co_applyP bI rfl (bS (hN _ _));intro pbk L4 hA4;have hR4 : Rep K A (St.bare c bo (len / 4) im) (pb pbk PS.zero :: L2) L4 := hR.fresh ⟨hA4.fn, hA4.sub⟩ hA4.new hA4.self;co_applyP oc rfl rfl rfl (g4 K A _ L2 L4 pbk PS.zero (fun cs => hN _ _) hR4 (fun t ht => hA4.new _ (hR.fr t ht)) (by simp [St.bare]) (by simp [St.bare]) (by decide) (by simp [St.bare]));rintro _ _ _ ⟨rfl, rfl, A', hR5⟩;co_applyP aa;co_applyP ai;co_applyP oy rfl ah;co_applyP oy rfl aj;co_applyP oy rfl aj;co_applyP aa;co_applyP aI;change ∃ v, resE .. = some v ∧ _;exact ⟨_, rfl, rfl, K, A', pbk, rfl, hR5.less fun t ht => hE2.s t ht⟩
def phead (x : PS) : List Value := .int .i64 x.id :: .int .i64 x.par :: .int .i64 x.st :: .int .i64 x.stat :: .int .i64 x.at_ :: .int .i64 x.lv :: .int .i64 x.used :: (List.range 8).map (fun i => .int .u16 (x.r i))
theorem sL (x : PS) : (pcells x).extract (0 + 0) (0 + 0 + 15) = (phead x).toArray := rfl
theorem zh : bytesAt Tryz.prog 49 = some 72 := by kernel_rfl
theorem yf : zeroAt Tryz.prog 49 = some (.agg (phead PS.zero).toArray) := by kernel_rfl
def heads (l : List (Nat × PS)) : List Value := l.flatMap fun q => phead q.2
theorem fZ (l : List (Nat × PS)) : (heads l).length = l.length * 15 := by
 induction l with
 | nil => rfl
 | cons q l ih =>
   have : heads (q :: l) = phead q.2 ++ heads l := rfl;rw [this, List.length_append, ih];simp [phead]; omega
theorem pM (l : List (Nat × PS)) (q : Nat × PS) : heads (l ++ [q]) = heads l ++ phead q.2 := by simp [heads]
theorem qH : ∃ n, ∀ {σ} {F : Fam σ} {Δ : DM F} {main s} (K : Nat) (A : Lay) (S : St) (Fr L : Frag), (∀ s o, (Δ s).New o) → Rep K A S Fr L →
   CallsL Δ Tryz.prog main 20 [ptr K].toArray n s L (fun s' v L' => s = s' ∧ ∃ a, v = rowv a 15 S.ps.length ∧ slOk a (heads S.ps) 49 L' ∧ (∀ t ∈ L, a.b ≠ some t.1) ∧ Ext L L') := by
 obtain ⟨n1, g1⟩ := xU;apply Exists.intro;intro σ F Δ main s K A S Fr L hN hR;obtain ⟨base, cap, hv, hat⟩ := br hR.pa;simp only [List.length_map] at hv;co_applyP aB 22 Tryz.func20 Tryz.ntmps20;co_applyP ai;co_applyP oy rfl aj;co_applyP aa;co_applyP ai;co_applyP oy rfl aj;co_applyP aa;co_applyP ar;co_applyP ai;co_applyP oy rfl ah;co_applyP oc rfl rfl rfl (g1 K A S Fr L hR);rintro _ _ _ ⟨rfl, rfl, rfl⟩;rw [hv];co_applyP oy rfl (bt (hu := U91));co_applyP oy rfl ah;co_applyP aa;co_applyP aJ;co_applyP bF (fun k s' ε' L' => s' = s ∧ Ext L L' ∧ ∃ l1 l2 a, S.ps = l1 ++ l2 ∧ k + l1.length = 8 ∧ slOk a (heads l1) 49 L' ∧ (∀ t ∈ L, a.b ≠ some t.1) ∧ kn ε' [(9, .int .i64 l1.length), (8, .int .i64 S.ps.length), (7, .slice base S.ps.length cap), (3, rowv a 15 l1.length)]) 8
 · exact ⟨rfl, ⟨hR.fn, fun _ h => h⟩, [], S.ps, ⟨none, []⟩, rfl, rfl, ⟨rfl, rfl⟩, fun t ht => by simp, rfl⟩
 rintro k s' ε' L' ⟨rfl, hE, l1, l2, a, hl, hk, ha, han, he⟩;co_applyP a0 he;have hlen := congrArg List.length hl;simp only [List.length_append] at hlen;have h8 := hR.p8;co_applyP ai;co_applyP oy rfl ci;co_applyP aa;co_applyP ar;co_applyP bi rfl;intro hc
 · cases l2 with
   | nil => simp at hc hlen; omega
   | cons q l2 =>
     obtain ⟨b, hb, hbs, hbv⟩ := hat l1.length (ptr q.1) (by rw [hl]; simp);subst hbs;have hbv' : At L' b l1.length (ptr q.1) := hE.at hbv;have hq := hE.s _ (hR.p q (by rw [hl]; simp));simp at hlen;have ei : IntKind.i64.wrap ((l1.length : Int) + 1) = ((l1 ++ [q]).length : Int) := by simp [IntKind.wrap_i64]; omega
     co_applyP aC;co_applyP ar;co_applyP aJ;co_applyP ai;co_applyP oy rfl (bu U91 bG);co_applyP oy rfl (aG (ht := cW));co_applyP oy rfl aj;co_applyP aa;co_applyP ay;co_applyP oy rfl ah;co_applyP oy rfl ah;co_applyP oy rfl aK;co_applyP oy rfl (av (hf := aD));co_applyP oy rfl (a5 (ht := zW) (hs := lh) (hm := hq) (hi := by rw [bd]; omega));rw [sL];co_applyP bI rfl (vi (sz := 15) (hN := hN _ _) (hv := rfl) (hu := U42) (hs := lh) (hz := yf) (h0 := by decide) (h24 := by decide));intro nb L1 hA;have hr : Reads Tryz.prog L1 15 1 (.slice (some ⟨nb, 0, none⟩) 1 1) (phead q.2).toArray := by
       have := bZ (P := Tryz.prog) (sz := 15) (n := 1) (len := 1) (cap := 1) (o := 0) hA.self (by show 0 + 1 * 15 ≤ 15; decide);exact this
     co_applyP oeN rfl (fun hnd => qF (a := a) (by_ := 71) (xs := heads l1) (n := l1.length) (m := 1) (hnd := hnd) (hu := U42) (hs := lh) (hb := zh) (hz := yf) (hzs := rfl) (hN := fun cs => hN _ _) (ha := ha.mono fun c hc o ho => hA.sub _ ho) (hn := fZ l1) (hr := hr) (hm := rfl) (hpl := rfl) (h0 := by decide) (h8 := by omega));rintro _ L2 ⟨a', rfl, hp⟩;co_applyP oy rfl aj;co_applyP aa;co_applyP ay;co_applyP oy rfl a8;co_applyP oy rfl ah;co_applyP aa;change ∃ k', k' < _ ∧ _;refine ⟨k - 1, by omega, rfl, ⟨hp.fn, fun t ht => hp.sub _ (hA.sub _ (hE.s _ ht)) (han t ht)⟩, l1 ++ [q], l2, a', by simp [hl], by simp; omega, ?_, fun t ht e => ?_, ?_⟩
     · rw [pM]; exact hp.ok
     · rcases hp.d _ e with h | h
       · exact han t ht h
       · exact h _ (hA.sub _ (hE.s _ ht)) rfl
     · rw [← ei, show (l1 ++ [q]).length = l1.length + 1 by simp]; rfl
 intro hc;co_applyP bN;co_applyP ai;co_applyP oy rfl ah;co_applyP oy rfl aj;co_applyP aa;co_applyP aI;change ∃ v, resE .. = some v ∧ _;have hl2 : l2 = [] := by
   cases l2 with
   | nil => rfl
   | cons q l2 => simp at hc hlen; omega
 subst hl2;simp only [List.append_nil] at hl;rw [← hl] at ha;exact ⟨_, rfl, rfl, a, by rw [hl], ha, han, hE⟩
end Go.Proofs.YtejkelcaljmnoaaGreatDoor
namespace Go.Lo
open Go.Conc Go.Hx
def strv (l : List Int) : Value := .string ⟨(l.map fun n => UInt8.ofNat n.toNat).toArray⟩
def Byt (l : List Int) : Prop := ∀ n ∈ l, 0 ≤ n ∧ n < 256
section
variable {P : Program} {N : Nat} {ε : Env} {L : Frag} {d : Option Tmp} {ty : TypeId} {ps : String} {af : Array Edge} {g : Option (Nat × Bool)} {x y : Operand} {t u : TypeId} {New : Obj → Prop}
theorem vm (l m : List Int) : (⟨(l.map fun n => UInt8.ofNat n.toNat).toArray⟩ : ByteArray) ++ ⟨(m.map fun n => UInt8.ofNat n.toNat).toArray⟩ = ⟨((l ++ m).map fun n => UInt8.ofNat n.toNat).toArray⟩ := by
 apply ByteArray.ext;simp
theorem pN {l m : List Int} (hx : ev ε x = some (strv l) := by rfl) (hy : ev ε y = some (strv m) := by rfl) (hl : l.length + m.length < 1000000 := by first | exact of_decide_eq_true rfl | omega | (simp; done) | (simp; omega)) : EY P N ε L ⟨d, .binOp .add t x y u, ty, ps, af, g⟩ (strv (l ++ m)) := fun a ha => by
 refine cF (fun _ => rfl) fun K hK => ?_;rw [ha.ev hx, ha.ev hy];have e1 : eqGuard .add t x y (strv l) (strv m) = pure () := by simp [eqGuard]
 show wpQ P (eqGuard .add t x y (strv l) (strv m) >>= fun _ => binOp .add t (strv l) (strv m)) K L;rw [e1];show wpQ P (Op.stringOp .add _ _) K L;unfold Op.stringOp;simp only;have hmax : IntKind.i64.max = 9223372036854775807 := rfl;rw [if_neg (by rw [hmax]; simp [ByteArray.size]; omega)];rw [vm];exact hK
theorem AG {l m : List Int} (hx : ev ε x = some (strv l) := by rfl) (hy : ev ε y = some (strv m) := by rfl) (hl : Byt l) (hm : Byt m) : EY P N ε L ⟨d, .binOp .eql t x y u, ty, ps, af, g⟩ (.bool (decide (l = m))) := fun a ha => by
 refine cF (fun _ => rfl) fun K hK => ?_;rw [ha.ev hx, ha.ev hy];have e1 : eqGuard .eql t x y (strv l) (strv m) = pure () := by unfold eqGuard strv; rfl
 show wpQ P (eqGuard .eql t x y (strv l) (strv m) >>= fun _ => binOp .eql t (strv l) (strv m)) K L;rw [e1];show K (.bool _);have e2 : ∀ l : List Int, (⟨(l.map fun n => UInt8.ofNat n.toNat).toArray⟩ : ByteArray).toList = l.map fun n => UInt8.ofNat n.toNat := fun l => by
   rw [ByteArray.toList_eq]
 rw [e2, e2];have e3 : (l.map (fun n => UInt8.ofNat n.toNat) == m.map (fun n => UInt8.ofNat n.toNat)) = decide (l = m) := by
   rw [Bool.eq_iff_iff];simp only [beq_iff_eq, decide_eq_true_eq];refine ⟨fun h => ?_, fun h => by rw [h]⟩;have h1 := congrArg (List.map fun u : UInt8 => (u.toNat : Int)) h;simp only [List.map_map] at h1;have e4 : ∀ l : List Int, Byt l → l.map ((fun u : UInt8 => (u.toNat : Int)) ∘ fun n => UInt8.ofNat n.toNat) = l := fun l hl => by
     have : l.map ((fun u : UInt8 => (u.toNat : Int)) ∘ fun n => UInt8.ofNat n.toNat) = l.map id := List.map_congr_left fun n hn => by
       have := hl n hn;simp only [Function.comp, UInt8.toNat_ofNat', id];omega
     rw [this, List.map_id]
   rw [e4 l hl, e4 m hm] at h1;exact h1
 rw [e3];exact hK
theorem AH {k k' : IntKind} {a n : Int} (hx : ev ε x = some (.int k a) := by rfl) (hy : ev ε y = some (.int k' n) := by rfl) (hn : 0 ≤ n := by decide) : EY P N ε L ⟨d, .binOp .shr t x y u, ty, ps, af, g⟩ (.int k (a.fdiv (2 ^ min n.toNat k.bits))) := fun a' ha => by
 refine cF (fun _ => rfl) fun K hK => ?_;rw [ha.ev hx, ha.ev hy, i8];show wpQ P (Op.shift .shr k a k' n) K L;unfold Op.shift;rw [if_neg (by omega)];exact hK
theorem jj (f : Value → ByteArray → Sem (ForInStep ByteArray)) (hf : ∀ (n : Int) (r : ByteArray), f (.int .u8 n) r = pure (.yield (r.push (UInt8.ofNat n.toNat)))) :
   ∀ (l : List Int) (s : ByteArray), forIn (l.map (Value.int .u8)) s f = (pure ⟨s.data ++ (l.map fun n => UInt8.ofNat n.toNat).toArray⟩ : Sem ByteArray)
 | [], s => by simp
 | n :: l, s => by
   simp only [List.map_cons, List.forIn_cons];rw [hf];show forIn (l.map (Value.int .u8)) (s.push (UInt8.ofNat n.toNat)) f = _;rw [jj f hf l];congr 1;apply ByteArray.ext;apply Array.ext';simp
theorem vn {l : List Int} {b o len cap : Nat} {cs : Array Value} {e e' : TypeId} {fr : Nat × Nat} {fl : Bool} (hx : ev ε x = some (.slice (some ⟨b, o, none⟩) len cap) := by rfl) (ht : P.underlying t = some (.slice e)) (he : P.underlying e = some (.int .u8)) (hu : P.underlying u = some .string) (hm : (b, fl, .cells cs e' fr) ∈ L) (hc : o + len ≤ cs.size) (hl : cs.extract o (o + len) = (l.map (Value.int .u8)).toArray) : EY P N ε L ⟨d, .convert t u x, ty, ps, af, g⟩ (strv l) := fun a ha => by
 refine cF (fun _ => rfl) fun K hK => ?_;unfold convert;rw [ha.ev hx, ax, aL ht, ax, aL hu];simp only;rw [ax, aL he];show wpQ P (Conv.bytesToString _) K L;unfold Conv.bytesToString;simp only;rw [ax];refine eD hm hc ?_;rw [hl, List.forIn_toArray, jj _ (fun n r => rfl)];have e1 : (⟨ByteArray.empty.data ++ (l.map fun n => UInt8.ofNat n.toNat).toArray⟩ : ByteArray) = ⟨(l.map fun n => UInt8.ofNat n.toNat).toArray⟩ := by apply ByteArray.ext; simp
 rw [e1];exact hK
theorem zi {e : TypeId} {n m : Nat} (hx : ev ε x = some (.slice none n m) := by rfl) (ht : P.underlying t = some (.slice e)) (he : P.underlying e = some (.int .u8)) (hu : P.underlying u = some .string) : EY P N ε L ⟨d, .convert t u x, ty, ps, af, g⟩ (strv []) := fun a ha => by
 refine cF (fun _ => rfl) fun K hK => ?_;unfold convert;rw [ha.ev hx, ax, aL ht, ax, aL hu];simp only;rw [ax, aL he];exact hK
theorem vo {l : List Int} {e : TypeId} (hl : Byt l) (hN : ∀ cs, New (.cells cs e)) (hF : Fun L) (hx : ev ε x = some (strv l) := by rfl) (ht : P.underlying t = some .string) (hu : P.underlying u = some (.slice e)) (he : P.underlying e = some (.int .u8)) :
   EO P New N ε L ⟨d, .convert t u x, ty, ps, af, g⟩ (fun r L' => ∃ b cap junk fr, r = .slice (some ⟨b, 0, none⟩) l.length cap ∧ Add L b (.cells (l.map (Value.int .u8) ++ junk).toArray e fr) L') := fun a ha => by
 show wpS P New (convert t u (a.eval x) >>= fun v => pure (Next.value v)) _ L;unfold convert;rw [ha.ev hx, au, au, aQ ht, au, aQ hu];simp only [strv];rw [au, aQ he];show wpS P New (Conv.stringToBytes e _) _ L;unfold Conv.stringToBytes;rw [au];refine ⟨fun h => by simp [Question.forced] at h, fun _ tp => ?_⟩;generalize Question.cut _ tp = cap;rw [iO];simp only [newRow, au];refine b8 (hN _) fun b hb => ?_;rw [bm];unfold markStringish;rw [au];refine ⟨true, _, List.mem_cons_self, ?_⟩;simp only [shapeOf];show wpS P New (freeze _ 1) _ _;refine ⟨0, _, _, _, rfl, ?_⟩;have e1 : (Array.map (fun b : UInt8 => Value.int .u8 (b.toNat : Nat)) (l.map fun n => UInt8.ofNat n.toNat).toArray) = (l.map (Value.int .u8)).toArray := by
   apply Array.ext';simp only [List.map_toArray, List.map_map];refine List.map_congr_left fun n hn => ?_;have := hl n hn;simp only [Function.comp, UInt8.toNat_ofNat'];congr 1;omega
 rw [e1];have e2 : (l.map (Value.int .u8)).toArray ++ Array.replicate (cap - ByteArray.size ⟨(l.map fun n => UInt8.ofNat n.toNat).toArray⟩) (Value.int .u8 0) = (l.map (Value.int .u8) ++ List.replicate (cap - ByteArray.size ⟨(l.map fun n => UInt8.ofNat n.toNat).toArray⟩) (Value.int .u8 0)).toArray := by
   apply Array.ext'; simp
 rw [e2];refine ⟨b, cap, _, _, ?_, de hF hb⟩;simp [ByteArray.size]
end
end Go.Lo
namespace Go.Proofs.YtejkelcaljmnoaaGreatDoor
open Go.Conc Go.Hx Go.Lo
def I64 (c : Int) : Prop := -9223372036854775808 ≤ c ∧ c ≤ 9223372036854775807
def pickN (c : Int) (n : Nat) : Nat := (if c < 0 then -(c + 1) else c).toNat % n
theorem vq {a : Int} {n : Nat} (h : 0 ≤ a) : a.tmod (n : Int) = ((a.toNat % n : Nat) : Int) := by
 rw [Int.tmod_eq_emod_of_nonneg h];obtain ⟨m, rfl⟩ := Int.eq_ofNat_of_zero_le h;simp
theorem vr : ∃ n, ∀ {σ} {F : Fam σ} {Δ : DM F} {main s} (L : Frag) (c : Int) (k : Nat), I64 c → 0 < k →
   CallsL Δ Tryz.prog main 15 [.int .i64 c, .int .i64 (k : Nat)].toArray n s L (fun s' v L' => s = s' ∧ v = .int .i64 (pickN c k : Nat) ∧ L = L') := by
 apply Exists.intro;intro σ F Δ main s L c k hc hk;obtain ⟨hc1, hc2⟩ := hc;co_applyP aB 13 Tryz.func15 Tryz.ntmps15;co_applyP ai;co_applyP oy rfl aj;co_applyP aa;co_applyP dP (fun s'' ε'' L'' => s = s'' ∧ L = L'' ∧ kn ε'' [(0, .int .i64 (if c < 0 then -(c + 1) else c)), (1, .int .i64 (k : Nat))]);co_applyP ai;co_applyP oy rfl ah;co_applyP oy rfl ci;co_applyP aa;co_applyP bi rfl;intro hn;co_applyP ay;co_applyP oy rfl ah;co_applyP oy rfl a8;co_applyP oy rfl zN;co_applyP oy rfl aj;co_applyP aa;change _ = _ ∧ _ = _ ∧ kn _ _
 · have hn' : c < 0 := by simpa using hn
   have w1 : IntKind.i64.wrap (c + 1) = c + 1 := by simp [IntKind.wrap_i64]; omega
   have w2 : IntKind.i64.wrap (0 - (c + 1)) = -(c + 1) := by simp [IntKind.wrap_i64]; omega
   rw [w1, w2, if_pos hn'];exact ⟨rfl, rfl, rfl⟩
 intro hn;co_applyP aC;change _ = _ ∧ _ = _ ∧ kn _ _;have hn' : ¬ c < 0 := by simpa using hn
 rw [if_neg hn'];exact ⟨rfl, rfl, rfl⟩;rintro s'' ε'' L'' ⟨rfl, rfl, he⟩;co_applyP a0 he;co_applyP ai;co_applyP oy rfl ah;co_applyP oy rfl ah;co_applyP oy rfl gX;co_applyP oy rfl aj;co_applyP aa;co_applyP aI;change ∃ v, resE .. = some v ∧ _;refine ⟨_, rfl, rfl, ?_, rfl⟩;unfold pickN;rw [vq (by split <;> omega)]
def insn (op a k : Int) : List Int := [op % 256, a % 256, k % 256, (k / 256) % 256]
section
variable {New : Obj → Prop} {N : Nat} {ε : Env} {L : Frag} {d : Option Tmp} {ty : TypeId} {ps : String} {af : Array Edge} {g : Option (Nat × Bool)} {P : Program}
theorem AI {t e : TypeId} {x0 x1 x2 x3 : Operand} {v0 v1 v2 v3 z : Value} (hN : New (.cells #[v0, v1, v2, v3] e)) (h0 : ev ε x0 = some v0 := by rfl) (h1 : ev ε x1 = some v1 := by rfl) (h2 : ev ε x2 = some v2 := by rfl) (h3 : ev ε x3 = some v3 := by rfl) (hu : P.underlying t = some (.slice e)) (hs : sizeAt P e = some 1) (hz : zeroAt P e = some z) (hzp : plainV z = true := by rfl) (p0 : plainV v0 = true := by rfl) (p1 : plainV v1 = true := by rfl) (p2 : plainV v2 = true := by rfl) (p3 : plainV v3 = true := by rfl) :
   EO P New N ε L ⟨d, .buildSlice t 4 #[(0, x0), (1, x1), (2, x2), (3, x3)], ty, ps, af, g⟩ (fun r L'' => ∃ b, (∀ t ∈ L, t.1 ≠ b) ∧ r = .slice (some ⟨b, 0, none⟩) 4 4 ∧ L'' = (b, true, .cells #[v0, v1, v2, v3] e) :: L) := by
 intro a ha;simp only [execOp, List.map_toArray, List.map_cons, List.map_nil];unfold Instr.buildSlice newRow;have h : Instr.fill (fun i => some (i * 1, 1)) ((Array.range (4 * 1)).map (#[z][· % #[z].size]!)) [(0, v0), (1, v1), (2, v2), (3, v3)] = some #[v0, v1, v2, v3] := by
   have e1 : (Array.range (4 * 1)).map (#[z][· % #[z].size]!) = #[z, z, z, z] := by
     have : Array.range (4 * 1) = #[0, 1, 2, 3] := by decide
     rw [this]; simp
   rw [e1];simp [Instr.fill, bR p0, bR p1, bR p2, bR p3]
 rw [au, au, aQ hu, ha.ev h0, ha.ev h1, ha.ev h2, ha.ev h3];simp only [];rw [au, bM hs];simp only [Nat.mul_one, gt_iff_lt, Nat.reduceLT, Nat.reducePow, if_false, Nat.reduceEqDiff, reduceCtorEq, show ¬ (4 = 0) by decide];rw [au, cx hz, au, bm, bR hzp];simp only [Nat.mul_one] at h;simp only [h, au];exact b8 hN fun b hb => ⟨b, hb, rfl, rfl⟩
end
theorem zk : ∃ n, ∀ {σ} {F : Fam σ} {Δ : DM F} {main s} (L : Frag) (op a k : Int), (∀ s o, (Δ s).New o) → Fun L →
   CallsL Δ Tryz.prog main 16 [.int .i64 op, .int .i64 a, .int .i64 k].toArray n s L (fun s' v L' => s = s' ∧ v = strv (insn op a k) ∧ Ext L L') := by
 apply Exists.intro;intro σ F Δ main s L op a k hN hF;co_applyP aB 18 Tryz.func16 Tryz.ntmps16;co_applyP ai;co_applyP oy rfl aj;co_applyP aa;co_applyP ai;co_applyP oy rfl ah;co_applyP oy rfl (b9 (hs := U3) (ht := U5));co_applyP oy rfl ah;co_applyP oy rfl (b9 (hs := U3) (ht := U5));co_applyP oy rfl ah;co_applyP oy rfl (b9 (hs := U3) (ht := U5));co_applyP oy rfl ah;co_applyP oy rfl AH;co_applyP oy rfl (b9 (hs := U3) (ht := U5));co_applyP bI rfl (AI (hN _ _) (hu := U44) (hs := d9) (hz := ux));intro b L1 hA;have e1 : k.fdiv (2 ^ min (8 : Int).toNat IntKind.i64.bits) = k / 256 := by
   rw [show (2 : Int) ^ min (8 : Int).toNat IntKind.i64.bits = 256 from rfl, Int.fdiv_eq_ediv_of_nonneg _ (by decide)]
 co_applyP oy rfl (vn (l := insn op a k) (ht := U44) (he := U5) (hu := U9) (hm := hA.self) (hc := by show 0 + 4 ≤ 4; decide) (hl := by rw [e1]; simp [insn, IntKind.wrap_u8]));co_applyP oy rfl aj;co_applyP aa;co_applyP aI;change ∃ v, resE .. = some v ∧ _;exact ⟨_, rfl, rfl, rfl, hA.fn, hA.sub⟩
def cfgf (a b c : Int) : Nat → Int := fun i => if i = 0 then ((1 + pickN a 10 : Nat) : Int) else if i = 1 then ((1 + pickN b 10 : Nat) : Int) else ((1 + pickN c 10 : Nat) : Int)
def cfgb (bo : Int) : Int := ((1 + pickN bo 60 : Nat) : Int)
theorem cN (c : Int) {n : Nat} (h : 0 < n) : pickN c n < n := Nat.mod_lt _ h
theorem mJ (a b c bo : Int) : okc (cfgf a b c) (cfgb bo) = true := by
 have h1 := cN a (n := 10) (by decide);have h2 := cN b (n := 10) (by decide);have h3 := cN c (n := 10) (by decide);have h4 := cN bo (n := 60) (by decide);unfold okc cfgf cfgb;simp;omega
theorem AJ (a b c : Int) : evR Tryz.prog (Instr.build 24 [(0, .int .i64 a), (1, .int .i64 b), (2, .int .i64 c)].toArray) [] = some (.agg #[.int .i64 a, .int .i64 b, .int .i64 c], []) := by kernel_rfl
theorem AK (a b c e : Int) : evR Tryz.prog (Instr.build 26 [(0, .agg #[.int .i64 a, .int .i64 b, .int .i64 c]), (1, .int .i64 e)].toArray) [] = some (.agg #[.int .i64 a, .int .i64 b, .int .i64 c, .int .i64 e], []) := by kernel_rfl
theorem kE : ∃ n, ∀ {σ} {F : Fam σ} {Δ : DM F} {main s} (L : Frag) (a b c bo : Int), (∀ s o, (Δ s).New o) → Fun L → I64 a → I64 b → I64 c → I64 bo →
   CallsM Δ Tryz.prog main 18 [.int .i64 a, .int .i64 b, .int .i64 c, .int .i64 bo].toArray n s L (fun s' v L' => s = s' ∧ v = cfgv (cfgf a b c) (cfgb bo) ∧ Ext L L') := by
 obtain ⟨n1, g1⟩ := vr;apply Exists.intro;intro σ F Δ main s L a b c bo hN hF ha hb hc hbo;have h1 := cN a (n := 10) (by decide);have h2 := cN b (n := 10) (by decide);have h3 := cN c (n := 10) (by decide);have h4 := cN bo (n := 60) (by decide);have w : ∀ m : Nat, m < 100 → IntKind.i64.wrap (1 + (m : Int)) = ((1 + m : Nat) : Int) := fun m hm => by simp [IntKind.wrap_i64]; omega
 co_applyP mm 23 Tryz.func18 Tryz.ntmps18;co_applyP ai;co_applyP bI rfl (dL (z := cfgv (fun _ => 0) 0) (hN _ _));intro xr L1 hA;co_applyP aa;co_applyP ai;co_applyP oy rfl ah;co_applyP oc rfl rfl rfl (g1 L1 a 10 ha (by decide));rintro _ _ _ ⟨rfl, rfl, rfl⟩;co_applyP oy rfl a8;co_applyP oy rfl ah;rw [w _ (by omega)];co_applyP oc rfl rfl rfl (g1 L1 b 10 hb (by decide));rintro _ _ _ ⟨rfl, rfl, rfl⟩;co_applyP oy rfl a8;co_applyP oy rfl ah;rw [w _ (by omega)];co_applyP oc rfl rfl rfl (g1 L1 c 10 hc (by decide));rintro _ _ _ ⟨rfl, rfl, rfl⟩;co_applyP oy rfl a8;rw [w _ (by omega)];co_applyP oy rfl (bl (AJ _ _ _));co_applyP oy rfl ah;co_applyP oc rfl rfl rfl (g1 L1 bo 60 hbo (by decide));rintro _ _ _ ⟨rfl, rfl, rfl⟩;co_applyP oy rfl a8;rw [w _ (by omega)];co_applyP oy rfl (bl (AK _ _ _ _));co_applyP oeN rfl (fun hnd => eY (hs := fq) (vs := [.int .i64 ((1 + pickN a 10 : Nat) : Int), .int .i64 ((1 + pickN b 10 : Nat) : Int), .int .i64 ((1 + pickN c 10 : Nat) : Int), .int .i64 ((1 + pickN bo 60 : Nat) : Int)]) (hnd := hnd) (hm := hA.self) (hi := Nat.le_refl _));rintro _ L3 ⟨rfl, hU⟩;co_applyP aa;co_applyP aI;change ∃ v, resM _ _ _ _ v ∧ _;exact ⟨_, ⟨_, _, xr, 0, 4, true, _, _, rfl, rfl, jb, fq, hU.self, Nat.le_refl _, rfl⟩, rfl, rfl, hU.fn, fun t ht => hU.ne _ (hA.sub _ ht) (hA.new _ ht)⟩
theorem vt : ∃ n, ∀ {σ} {F : Fam σ} {Δ : DM F} {main s} (L : Frag) (c : Nat → Int) (bo : Int) (l : List Int), (∀ s o, (Δ s).New o) → Fun L → Byt l → okc c bo = true → oki l.length = false →
   CallsL Δ Tryz.prog main 17 [cfgv c bo, strv l].toArray n s L (fun s' v L' => s = s' ∧ v = .pointer none ∧ Ext L L') := by
 obtain ⟨n1, g1⟩ := AE;apply Exists.intro;intro σ F Δ main s L c bo l hN hF hl hok hoi;co_applyP aB 17 Tryz.func17 Tryz.ntmps17;co_applyP ai;co_applyP bI rfl (bS (hN _ _));intro b L1 hA;co_applyP oy rfl aj;co_applyP aa;co_applyP ai;co_applyP oy rfl (a5 (ht := jb) (hs := fq) (hm := hA.self) (hi := by show 0 + 4 ≤ 4; decide));co_applyP oy rfl ah;rw [show (Value.agg (((cfgv c bo).cells).extract 0 (0 + 4))) = cfgv c bo from rfl];co_applyP oe rfl (vo hl (fun _ => hN _ _) hA.fn (ht := U9) (hu := U44) (he := U5));rintro _ _ ⟨ib, cap, junk, fr, rfl, hA2⟩;rename_i L2;co_applyP oc rfl rfl rfl (g1 L2 c bo _ _ _ hN hA2.fn hok hoi);rintro _ _ _ ⟨rfl, rfl, hE⟩;co_applyP oy rfl ah;co_applyP oy rfl bB;co_applyP oy rfl bB;co_applyP oy rfl aj;co_applyP oy rfl aj;co_applyP aa;co_applyP ar (n₂ := 0);co_applyP ai;co_applyP oy rfl ah;co_applyP oy rfl dZ;co_applyP aa;co_applyP aS rfl;co_applyP ai;co_applyP oy rfl aj;co_applyP aa;co_applyP aI;change ∃ v, resE .. = some v ∧ _;exact ⟨_, rfl, rfl, rfl, hE.f, fun t ht => hE.s _ (hA2.sub _ (hA.sub _ ht))⟩
def St.fresh (c : Nat → Int) (bo : Int) (l : List Int) (b : Nat) : St := (St.bare c bo (l.length / 4) (fun i => l.getD i 0)).adopt b PS.zero
theorem ox : ∃ n, ∀ {σ} {F : Fam σ} {Δ : DM F} {main s} (L : Frag) (c : Nat → Int) (bo : Int) (l : List Int), (∀ s o, (Δ s).New o) → Fun L → Byt l → okc c bo = true → oki l.length = true →
   CallsL Δ Tryz.prog main 17 [cfgv c bo, strv l].toArray n s L (fun s' v L' => s = s' ∧ ∃ K A b, v = ptr K ∧ Rep K A (St.fresh c bo l b) L L') := by
 obtain ⟨n1, g1⟩ := AF;apply Exists.intro;intro σ F Δ main s L c bo l hN hF hl hok hoi;co_applyP aB 17 Tryz.func17 Tryz.ntmps17;co_applyP ai;co_applyP bI rfl (bS (hN _ _));intro b L1 hA;co_applyP oy rfl aj;co_applyP aa;co_applyP ai;co_applyP oy rfl (a5 (ht := jb) (hs := fq) (hm := hA.self) (hi := by show 0 + 4 ≤ 4; decide));co_applyP oy rfl ah;rw [show (Value.agg (((cfgv c bo).cells).extract 0 (0 + 4))) = cfgv c bo from rfl];co_applyP oe rfl (vo hl (fun _ => hN _ _) hA.fn (ht := U9) (hu := U44) (he := U5));rintro _ _ ⟨ib, cap, junk, fr, rfl, hA2⟩;rename_i L2;have hat : ∀ i, i < l.length → At L2 ib (0 + i) (.int .u8 (l.getD i 0)) := fun i hi => by
   refine ⟨true, _, _, _, hA2.self, ?_⟩;rw [Nat.zero_add, List.getElem?_toArray, List.getElem?_append_left (by simpa using hi)];simp [hi, List.getD_eq_getElem?_getD]
 co_applyP oc rfl rfl rfl (g1 L2 c bo ib 0 l.length cap (fun i => l.getD i 0) hN hA2.fn hok hoi hat);rintro _ _ _ ⟨rfl, K, A, pbk, rfl, hR⟩;co_applyP oy rfl ah;co_applyP oy rfl bB;co_applyP oy rfl bB;co_applyP oy rfl aj;co_applyP oy rfl aj;co_applyP aa;co_applyP ar;co_applyP ai;co_applyP oy rfl ah;co_applyP oy rfl dZ;co_applyP aa;co_applyP ak rfl;co_applyP aC;co_applyP ai;co_applyP oy rfl ah;co_applyP oy rfl aj;co_applyP aa;co_applyP aI;change ∃ v, resE .. = some v ∧ _;exact ⟨_, rfl, rfl, K, A, pbk, rfl, hR.less fun t ht => hA2.sub _ (hA.sub _ ht)⟩
def PS.one : PS := { PS.zero with id := 1, st := 1 }
section
variable {c : Nat → Int} {bo : Int} {l : List Int} {b : Nat}
theorem kF : (St.fresh c bo l b).ps = [(b, PS.one)] := by simp [St.fresh, St.adopt, St.taken, St.wake1, St.setP, St.setRow, St.setPs, St.bare, PS.one, PS.zero]
theorem pO : (St.fresh c bo l b).rows = put (fun _ => []) 0 [b] := rfl
theorem kG : St.fresh c bo l b = ⟨c, bo, l.length / 4, fun i j => l.getD (4 * i + j) 0, [(b, PS.one)], 1, put (fun _ => []) 0 [b], fun _ => [], [], 0⟩ := by
 have := kF (c := c) (bo := bo) (l := l) (b := b);have e : St.fresh c bo l b = { St.fresh c bo l b with ps := (St.fresh c bo l b).ps } := rfl;rw [e, this];rfl
theorem zt : (St.fresh c bo l b).map (fun _ => 1) = St.fresh c bo l 1 := by
 rw [kG, kG];unfold St.map mapW;congr 1
 funext i
 show (put (fun _ => ([] : List Nat)) 0 [b] i).map (fun _ => 1) = put (fun _ => []) 0 [1] i;unfold put
 split <;> rfl
theorem oz (hc : okc c bo = true) (hl : oki l.length = true) (hB : Byt l) : TI (fun _ => 1) (St.fresh c bo l b) := by
 have hc' : ((1 ≤ c 0 ∧ c 0 ≤ 10) ∧ (1 ≤ c 1 ∧ c 1 ≤ 10) ∧ (1 ≤ c 2 ∧ c 2 ≤ 10)) ∧ 1 ≤ bo ∧ bo ≤ 1000 := by unfold okc at hc; exact of_decide_eq_true hc
 have hl' : 0 < l.length ∧ l.length % 4 = 0 ∧ l.length ≤ 1024 := by unfold oki at hl; exact of_decide_eq_true hl
 rw [kG];have one : ∀ q ∈ [(b, PS.one)], q = (b, PS.one) := fun q hq => List.mem_singleton.1 hq;have row : ∀ i c, c ∈ put (fun _ => ([] : List Nat)) 0 [b] i → i = 0 ∧ c = b := fun i c hc => by
   unfold put at hc
   split at hc
   · rename_i h; exact ⟨h, List.mem_singleton.1 hc⟩
   · cases hc
 refine ⟨⟨⟨⟨?_, ?_, ?_, ?_, ?_, ?_⟩, ?_, ?_, ?_, ?_, ?_, ?_, ?_, ?_, ?_⟩, ?_, ⟨?_, ?_, ?_, ?_, ?_, ?_, ?_⟩⟩, ⟨?_, ?_⟩, ?_, ?_⟩
 · simp
 · simp
 · intro q hq; rw [one q hq]; show (0 : Nat) < 3; decide
 · intro i _;show (put (fun _ => ([] : List Nat)) 0 [b] i).Nodup;unfold put
   split <;> simp
 · intro i _ d hd;obtain ⟨rfl, rfl⟩ := row i d hd;exact ⟨PS.one, List.mem_singleton.2 rfl, rfl, rfl⟩
 · intro q hq _; rw [one q hq]; show b ∈ put (fun _ => ([] : List Nat)) 0 [b] 0; simp [put]
 · intro q hq; rw [one q hq]; exact ⟨fun i _ => ⟨Int.le_refl 0, by show (0 : Int) < 65536; decide⟩, fun i _ => ⟨Int.le_refl 0, by show (0 : Int) < 256; decide⟩⟩
 · intro q hq i _; rw [one q hq]; exact .inl rfl
 · intro i _; exact Nat.zero_le _
 · intro i _ v hv; cases hv
 · simp
 · intro e he; cases he
 · intro e he; cases he
 · intro e he; cases he
 · intro e he; cases he
 · intro e he; cases he
 · intro q hq; rw [one q hq]; exact Nat.le_refl _
 · intro q hq r hr _; rw [one q hq, one r hr]
 · intro q hq; rw [one q hq]; exact ⟨Nat.le_refl 1, Nat.le_refl 1⟩
 · exact ⟨(b, PS.one), List.mem_singleton.2 rfl, rfl⟩
 · intro q hq; rw [one q hq]; exact ⟨fun _ => rfl, fun _ => rfl⟩
 · intro i hi;show put (fun _ => ([] : List Nat)) 0 [b] i = [];unfold put;rw [if_neg (by omega)]
 · intro q hq; rw [one q hq]; rfl
 · show l.length / 4 ≤ 256; omega
 · intro i hi j hj;have hi' : i < l.length / 4 := hi;show 0 ≤ l.getD (4 * i + j) 0 ∧ l.getD (4 * i + j) 0 < 256;have hlt : 4 * i + j < l.length := by omega
   rw [List.getD_eq_getElem?_getD, List.getElem?_eq_getElem hlt];exact hB _ (List.getElem_mem hlt)
 · show bo ≠ 0; omega
 · exact Nat.le_refl 1
theorem oA (hc : okc c bo = true) (hl : oki l.length = true) (hB : Byt l) : Ab (St.fresh c bo l b) (St.fresh c bo l 1) := ⟨_, oz hc hl hB, zt.symm⟩
end
theorem gb (S : St) (c : Nat) : (S.tickU c).now = S.now := by
 unfold St.tickU;cases S.lead.first with
 | none => exact (bK S).now
 | some b =>
   simp only;cases S.lead.get b with
   | none => exact (bK S).now
   | some x =>
     simp only;have h1 := (ff S.lead b x c).1.now;have h2 : ((S.lead.runS b x c).after b).now = (S.lead.runS b x c).now := (eQ _ _).now;rw [h2, h1];exact (bK S).now
theorem Ab.now {S T : St} (h : Ab S T) : S.now = T.now := by
 obtain ⟨N, _, rfl⟩ := h.ex;rfl
end Go.Proofs.YtejkelcaljmnoaaGreatDoor
namespace Go.Proofs.YtejkelcaljmnoaaGreatDoor
open Go.Conc Go.ConcX Go.Hx Go.Lo
theorem mK {P : Program} {b : Frame} {a : Act} {w : World} {fn : Func} {todo : List Item} {v : Value} (hn : b.kind = .normal) (hd : a.defers = []) (hf : P.funcs[b.fn]? = some fn) (hi : P.inits.idxOf? b.fn = none)
   (hr : (results fn a.tmps).run P w = .ok v w) : ∃ es, stepG P true (G { b.at a todo with mode := .returning } []) w = .ended (.done v) w es ∧ ∀ e ∈ es, e ∈ (results fn a.tmps).events P w #[] :=
 ⟨_, by simp [G, stepG, unwind, doReturn, Frame.at, hn, hd, hf, hi, hr, GStep.after]; rfl, fun _ he => mem_seen (by simpa using he)⟩
theorem AL [Payload] {P : Program} {Fin : Value → World → Prop} (hFin : ∀ v w w₁, AtRel w w₁ → Fin v w → Fin v w₁) {f : FuncId} {args : Array Value} {n N : Nat} {W : World} (hi : P.inits.idxOf? f = none)
   (h : CallsX (FZ P Fin) P true f args n (N, []) W fun s' v w' => s'.1 = 0 ∧ Fin v w') : ∃ m, Goes P true AtRel (D0 (Shs [])) (StopZ P Fin N []) m (G (Frame.enter P f args .normal) []) W := by
 obtain ⟨g, c, hf, hname, hbody, hwp⟩ := h
 have hleave : ∀ (s' : Nat × List Nat) (a' : Act) (w' : World) (todo : List Item), (a'.defers = [] ∧ ∃ v, ResultsC P g a'.tmps v ∧ s'.1 = 0 ∧ Fin v w') →
     Goes P true AtRel (D0 (Shs s'.2)) (StopZ P Fin s'.1 s'.2) 0 (G { (base f).at a' todo with mode := .returning } []) w' := by
   rintro ⟨q, s'⟩ a' w' todo ⟨hd, v, hr, h0, hp⟩;simp only at h0;subst h0;refine Goes.stop fun w₁ h₁ => ?_;obtain ⟨es, h2, h3⟩ := mK (P := P) (b := base f) (todo := todo) rfl hd hf hi (hr w₁).1;refine ⟨rfl, v, es, h2, fun e he => ?_, hFin _ _ _ h₁ hp⟩;have := h3 e he;rw [(hr w₁).2] at this;simp at this
 refine ⟨1 + n, ?_⟩;rw [enter_at args hf hbody];refine hwp (base f) [] [] 1 rfl (by simp [base]) fun s' e a' w' q => ?_;cases e with
 | normal => exact Goes.step rfl fun w₁ h₁ => by rw [stepG_end]; exact ⟨((FZ P Fin).terms s').idle _, (hleave s' a' w' [] q).rely ((FZ P Fin).terms s').trans h₁⟩
 | ret => exact fun todo => (hleave s' a' w' todo q).more
 | exit id => exact q.elim
 | goto l => exact q.elim
 | panic ch => exact q.elim
 | outgrown => exact q.elim
def base0 (W : World) : Frag := (List.range W.heap.size).map fun b => (b, false, W.heap.getD b default)
theorem lI {W : World} {b : Nat} {o : Obj} (h : W.heap[b]? = some o) : (b, false, o) ∈ base0 W := by
 obtain ⟨hb, e⟩ := Array.getElem?_eq_some_iff.1 h;refine List.mem_map.2 ⟨b, List.mem_range.2 hb, ?_⟩;simp [Array.getD_eq_getD_getElem?, h]
theorem oB {W : World} {b i : Nat} {v : Value} (h : W.cell? ⟨b, i, none⟩ = some v) : At (base0 W) b i v := by
 unfold World.cell? at h
 split at h
 · rename_i c t f hh;exact ⟨false, c, t, f, lI hh, by simpa using h⟩
 · cases h
theorem oC (W : World) : ((base0 W).map (·.1)).Nodup := by
 unfold base0;rw [List.map_map];have : ((fun t : Nat × Bool × Obj => t.1) ∘ fun b => (b, false, W.heap.getD b default)) = id := rfl;rw [this, List.map_id];exact List.nodup_range
theorem sM (W : World) : Own0 (Shs []) W W.heap.size (base0 W) W where
 has t ht := by
   obtain ⟨b, hb, rfl⟩ := List.mem_map.1 ht;have hb' := List.mem_range.1 hb;simp [Array.getD_eq_getD_getElem?, hb']
 ap t ht l hl hs := hs
 own t ht hf := by
   obtain ⟨b, hb, rfl⟩ := List.mem_map.1 ht;cases hf
 nd := oC W
 low l b hs := hs.elim
 old := ⟨rfl, rfl, rfl, Nat.le_refl _, fun _ _ => rfl⟩
def FinT (W : World) (v : Value) (w' : World) : Prop := v = .bool true ∧ W.grownBy w' none
theorem yg {P : Program} {f : FuncId} {args : Array Value} {n N : Nat} {W : World} (hi : P.inits.idxOf? f = none)
   (h : CallsL (F := FZ P (FinT W)) (fun s => dom0 (Shs s.2) W W.heap.size) P true f args n (N, []) (base0 W) fun s' v L' => s'.1 = 0 ∧ v = .bool true) :
   ∃ k last o w' t', runNT P (k + 1) (solo (G (Frame.enter P f args .normal) []) W) #[] = (.ended o w', t') ∧ runN P k (solo (G (Frame.enter P f args .normal) []) W) = .next last ∧ step P last = .ended o w' ∧ Conc.Good P (FinT W) last o w' t' := by
 have hFin : ∀ v w w₁, AtRel w w₁ → FinT W v w → FinT W v w₁ := fun v w w₁ hr h => by
   obtain ⟨d, rfl⟩ := hr;exact ⟨h.1, h.2.os, h.2.tape, h.2.output, h.2.size, h.2.block⟩
 obtain ⟨m, hG⟩ := AL hFin hi (fC (h W (sM W)) fun s' v w' ⟨L', hL, h1, h2⟩ => ⟨h1, h2, by
   have ho : OldW W W.heap.size w' := (show Own0 (Shs s'.2) W W.heap.size L' w' from hL).old;exact ⟨ho.o, ho.t, ho.u, ho.z, fun k hk _ => ho.b k hk⟩⟩)
 exact k7 N [] #[G (Frame.enter P f args .normal) []] _ W none #[] (fun _ => 0) m rfl (leavers_one P _) rh hG
end Go.Proofs.YtejkelcaljmnoaaGreatDoor
