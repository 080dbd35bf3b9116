/-
  Part 5 of the proof.
  No condition but those that each statement names.
-/
import Derived.Test.YtejkelcaljmnoaaGreatDoorHy04
import Derived.Test.YtejkelcaljmnoaaGreatDoorHy03
import Derived.Test.YtejkelcaljmnoaaGreatDoorHy02
import Derived.Laws.StructEq
set_option maxRecDepth 100000
set_option maxHeartbeats 4000000
set_option linter.unusedVariables false
set_option linter.unusedSimpArgs false
set_option linter.unusedSectionVars false
namespace Go.Proofs.YtejkelcaljmnoaaGreatDoor
open Go.Conc Go.Hx Go.Lo
theorem lj {S : St} {b : Nat} {x : PS} (hn : (S.ps.map (·.1)).Nodup) (h : (b, x) ∈ S.ps) : S.setP b x = S := by
 have : (S.ps.map fun q => if q.1 = b then (b, x) else q) = S.ps := by
   conv => rhs; rw [← List.map_id S.ps]
   apply List.map_congr_left;rintro ⟨c, y⟩ hq;by_cases e : c = b
   · subst e; simp [aT hn h hq]
   · simp [e]
 unfold St.setP; rw [this]
def errv (e0 e1 e10 : Value) : Nat → Value
 | 0 => e0
 | 1 => e1
 | _ => e10
theorem Bf : ∃ n, ∀ {σ} {F : Fam σ} {Δ : DM F} {main s} (K : Nat) (A : Lay) (S : St) (Fr L : Frag) (b : Nat) (x : PS) (op ia ib ic : Int) (e0 e1 e10 : Value), (∀ cs, (Δ s).New (.cells cs 158)) → Rep K A S Fr L → (b, x) ∈ S.ps → WF x → x.at_ < 256 → 0 ≤ ia ∧ ia < 256 → 0 ≤ ib ∧ ib < 256 → 0 ≤ ic ∧ ic < 256 → (∀ i ∈ [0, 1, 10], ∃ fl cs ty fr, (i, fl, Obj.cells cs ty fr) ∈ Fr ∧ cs[0]? = some (errv e0 e1 e10 i)) → (∃ t w, e10 = .iface t w) →
   CallsL Δ Tryz.prog main 96 [ptr b, insnv op ia ib ic].toArray n s L (fun s' v L' => s = s' ∧ match x.do op ia ib ic with
     | .ok x' => v = .nilIface ∧ Rep K A (S.setP b x') Fr L'
     | .error e => v = errv e0 e1 e10 e ∧ Rep K A S Fr L') := by
 obtain ⟨n1, g1⟩ := k_s;obtain ⟨n2, g2⟩ := wC;apply Exists.intro;intro σ F Δ main s K A S Fr L b x op ia ib ic e0 e1 e10 hN hR hb hx hat ha hib hic hg hi10;have gl : ∀ (L : Frag), Rep K A S Fr L → ∀ i ∈ [0, 1, 10], At L i 0 (errv e0 e1 e10 i) := fun L h i hi => by
   obtain ⟨fl, cs, ty, fr, h1, h2⟩ := hg i hi;exact ⟨fl, cs, ty, fr, h.fr _ h1, h2⟩
 obtain ⟨ra, hra⟩ : ∃ ra, ra = (ia % 8).toNat := ⟨_, rfl⟩;obtain ⟨rb, hrb⟩ : ∃ rb, rb = (ib % 8).toNat := ⟨_, rfl⟩;have hra8 : ra < 8 := by omega
 have hrb8 : rb < 8 := by omega
 have ea : (IntKind.i64.wrap ia).tmod 8 = (ra : Int) := by
   have : IntKind.i64.wrap ia = ia := by simp [IntKind.wrap_i64]; omega
   rw [this, Int.tmod_eq_emod_of_nonneg (by omega)]; omega
 have eb : (IntKind.i64.wrap ib).tmod 8 = (rb : Int) := by
   have : IntKind.i64.wrap ib = ib := by simp [IntKind.wrap_i64]; omega
   rw [this, Int.tmod_eq_emod_of_nonneg (by omega)]; omega
 have en : IntKind.i64.wrap ((x.at_ : Int) + 1) = ((x.at_ + 1 : Nat) : Int) := by simp [IntKind.wrap_i64]; omega
 have wra := hx.r ra hra8;have wrb := hx.r rb hrb8;co_applyP aB 130 Tryz.func96 Tryz.ntmps96;co_applyP ai;co_applyP bI rfl (bS (hN _));intro nb L1 hA;have hR1 := hR.add hA;have hbm := hA.self;have hb0 : ∀ i v, (#[Value.int .u8 op, .int .u8 ia, .int .u8 ib, .int .u8 ic])[i]? = some v → At L1 nb i v := fun i v h => ⟨true, _, _, _, hbm, h⟩;have hc0 := hb0 0 _ rfl;have hc1 := hb0 1 _ rfl;have hc2 := hb0 2 _ rfl;have hc3 := hb0 3 _ rfl;have hb1 : At L1 b (7 + ((IntKind.i64.wrap ib).tmod 8).toNat) (.int .u16 (x.r rb)) := by
   rw [eb]; exact hR1.pat hb (bg x hrb8)
 have hb4 : At L1 b 4 (.int .i64 (x.at_ : Int)) := hR1.pat hb (i := 4) rfl;co_applyP oy rfl aj;co_applyP aa;co_applyP ar;co_applyP bk aZ;co_applyP tr (i := 0) rfl ah pI;co_applyP tr (i := 1) rfl (av (hf := jT)) pI;co_applyP tr (i := 2) rfl (aG (ht := fp)) pI;co_applyP tr (i := 3) rfl (b9 (hs := U5) (ht := U3)) pI;co_applyP tr (i := 4) rfl gX pI;co_applyP tr (i := 5) rfl aK pI;co_applyP tr (i := 6) rfl (av (hf := aD)) pI;co_applyP tr (i := 7) rfl (av (hf := aX)) pI;co_applyP tr (i := 8) rfl (aW U47 a6) pI;co_applyP tr (i := 9) rfl aj pI;co_applyP td (by kernel_rfl);co_applyP ar;co_applyP bk aZ;co_applyP tr (i := 0) rfl ah pI;co_applyP tr (i := 1) rfl (av (hf := nw)) pI;co_applyP tr (i := 2) rfl (aG (ht := fp)) pI;co_applyP tr (i := 3) rfl (b9 (hs := U5) (ht := U3)) pI;co_applyP tr (i := 4) rfl gX pI;co_applyP tr (i := 5) rfl aK pI;co_applyP tr (i := 6) rfl (av (hf := aD)) pI;co_applyP tr (i := 7) rfl (av (hf := aX)) pI;co_applyP tr (i := 8) rfl (aW U47 a6) pI;co_applyP tr (i := 9) rfl (aG (ht := cn)) pI;co_applyP tr (i := 10) rfl aj pI;co_applyP td (by kernel_rfl);co_applyP ai;co_applyP oy rfl ah;co_applyP oy rfl aK;co_applyP oy rfl (av (hf := aD));co_applyP oy rfl (av (hf := cw));co_applyP oy rfl (aG (ht := aY));co_applyP oy rfl a8;co_applyP oy rfl aj;co_applyP aa;co_applyP a0 (ε' := [(0, ptr b), (3, ptr nb), (5, .pointer (some ⟨b, 7 + ra, none⟩)), (6, .int .u16 (x.r rb)), (7, .int .i64 ((x.at_ + 1 : Nat) : Int))]) (by rw [← en]; unfold kn; simp only [ea, eb, Int.toNat_natCast]; rfl);clear hb1 hb4;have har : At L1 b (7 + ra) (.int .u16 (x.r ra)) := hR1.pat hb (bg x hra8);have ek : IntKind.i64.wrap ((ib + 256 * ic) % 65536) = ((((ib + 256 * ic) % 65536).toNat : Nat) : Int) := by simp [IntKind.wrap_i64]; omega
 have hself : S.setP b x = S := lj hR.pn hb;co_applyP dP (fun s' ε' L' => s = s' ∧ ∃ (y : PS) (nx : Nat), Rep K A (S.setP b y) Fr L' ∧ kn ε' [(0, ptr b), (7, .int .i64 (nx : Int))] ∧ x.do op ia ib ic = .ok { y with at_ := nx });co_applyP ai;co_applyP oy rfl (av (hf := ig));co_applyP oy rfl (aG (ht := fp));co_applyP aa;co_applyP aJ;co_applyP ai;co_applyP oy rfl aA;co_applyP oy rfl aj;co_applyP aa;co_applyP bi rfl;intro c1;co_applyP ay;co_applyP oy rfl ah
 · have h1 : op = 1 := by simpa using c1
   co_applyP oy rfl (a5 (ht := gG) (hs := cU) (hm := hbm) (hi := Nat.le_refl _));co_applyP oc rfl rfl rfl (g1 L1 op ia ib ic hN hib hic);rintro _ _ _ ⟨rfl, rfl, hF2, hs2⟩;have hR2 := hR1.of hF2 hs2;co_applyP oy rfl aK;co_applyP osm rfl (hs := a6) (hm := hR2.p _ hb) (hi := by first | decide | (rw [bd]; omega) | (rw [bw]; omega));intro L2 hU2;rw [dA x hra8] at hU2;have hRr := hR2.setP (x' := { x with r := put x.r ra ((ib + 256 * ic) % 65536) }) hb hU2;co_applyP aa;change _ = _ ∧ ∃ (y : PS) (nx : Nat), _;exact ⟨rfl, { x with r := put x.r ra ((ib + 256 * ic) % 65536) }, x.at_ + 1, hRr, rfl, by unfold PS.do; simp [h1, hra, hrb]⟩
 intro c1;co_applyP ai;co_applyP oy rfl aA;co_applyP oy rfl aj;co_applyP aa;change wpE ..;have n1 : ¬ op = 1 := by simpa using c1
 co_applyP bi rfl;intro c2;co_applyP ay;co_applyP oy rfl ah;co_applyP oy rfl ah;co_applyP oy rfl aK
 · have h2 : op = 2 := by simpa using c2
   co_applyP osm rfl (hs := a6) (hm := hR1.p _ hb) (hi := by first | decide | (rw [bd]; omega) | (rw [bw]; omega));intro L2 hU2;rw [dA x hra8] at hU2;have hRr := hR1.setP (x' := { x with r := put x.r ra (x.r rb) }) hb hU2;co_applyP aa;change _ = _ ∧ ∃ (y : PS) (nx : Nat), _;exact ⟨rfl, { x with r := put x.r ra (x.r rb) }, x.at_ + 1, hRr, rfl, by unfold PS.do; simp [h2, hra, hrb]⟩
 intro c2;co_applyP ai;co_applyP oy rfl aA;co_applyP oy rfl aj;co_applyP aa;change wpE ..;have n2 : ¬ op = 2 := by simpa using c2
 co_applyP bi rfl;intro c3;co_applyP ay;co_applyP oy rfl ah;co_applyP oy rfl aK;co_applyP oy rfl (aG (ht := cn));co_applyP oy rfl ah;co_applyP oy rfl a8;co_applyP oy rfl aK
 · have h3 : op = 3 := by simpa using c3
   co_applyP osm rfl (hs := a6) (hm := hR1.p _ hb) (hi := by first | decide | (rw [bd]; omega) | (rw [bw]; omega));intro L2 hU2;rw [cJ, dA x hra8] at hU2;have hRr := hR1.setP (x' := { x with r := put x.r ra ((x.r ra + x.r rb) % 65536) }) hb hU2;co_applyP aa;change _ = _ ∧ ∃ (y : PS) (nx : Nat), _;exact ⟨rfl, { x with r := put x.r ra ((x.r ra + x.r rb) % 65536) }, x.at_ + 1, hRr, rfl, by unfold PS.do; simp [h3, hra, hrb]⟩
 intro c3;co_applyP ai;co_applyP oy rfl aA;co_applyP oy rfl aj;co_applyP aa;change wpE ..;have n3 : ¬ op = 3 := by simpa using c3
 co_applyP bi rfl;intro c4;co_applyP ay;co_applyP oy rfl ah;co_applyP oy rfl aK;co_applyP oy rfl (aG (ht := cn));co_applyP oy rfl ah;co_applyP oy rfl xI;co_applyP oy rfl aK
 · have h4 : op = 4 := by simpa using c4
   co_applyP osm rfl (hs := a6) (hm := hR1.p _ hb) (hi := by first | decide | (rw [bd]; omega) | (rw [bw]; omega));intro L2 hU2;rw [cJ, dA x hra8] at hU2;have hRr := hR1.setP (x' := { x with r := put x.r ra ((x.r ra - x.r rb) % 65536) }) hb hU2;co_applyP aa;change _ = _ ∧ ∃ (y : PS) (nx : Nat), _;exact ⟨rfl, { x with r := put x.r ra ((x.r ra - x.r rb) % 65536) }, x.at_ + 1, hRr, rfl, by unfold PS.do; simp [h4, hra, hrb]⟩
 intro c4;co_applyP ai;co_applyP oy rfl aA;co_applyP oy rfl aj;co_applyP aa;change wpE ..;have n4 : ¬ op = 4 := by simpa using c4
 co_applyP bi rfl;intro c5;co_applyP ai;co_applyP oy rfl ah;co_applyP oy rfl aK;co_applyP oy rfl (aG (ht := cn));co_applyP oy rfl aA;co_applyP aa;change wpE ..
 · have h5 : op = 5 := by simpa using c5
   co_applyP bi rfl;intro cz;co_applyP ay;co_applyP oy rfl (a5 (ht := gG) (hs := cU) (hm := hbm) (hi := Nat.le_refl _));co_applyP oc rfl rfl rfl (g1 L1 op ia ib ic hN hib hic);rintro _ _ _ ⟨rfl, rfl, hF2, hs2⟩;have hR2 := hR1.of hF2 hs2;co_applyP oy rfl (b9 (hs := U32) (ht := U3));co_applyP oy rfl aj;co_applyP aa;change _ = _ ∧ ∃ (y : PS) (nx : Nat), _;rw [ek];exact ⟨rfl, x, ((ib + 256 * ic) % 65536).toNat, by rw [hself]; exact hR2, rfl, by unfold PS.do; simp [h5, hra, hrb, show x.r (ia % 8).toNat = 0 from by rw [← hra]; simpa using cz]⟩;intro cz;co_applyP aC;change _ = _ ∧ ∃ (y : PS) (nx : Nat), _;exact ⟨rfl, x, x.at_ + 1, by rw [hself]; exact hR1, rfl, by unfold PS.do; simp [h5, hra, hrb, show ¬ x.r (ia % 8).toNat = 0 from by rw [← hra]; simpa using cz]⟩
 intro c5;co_applyP ai;co_applyP oy rfl aA;co_applyP oy rfl aj;co_applyP aa;change wpE ..;have n5 : ¬ op = 5 := by simpa using c5
 co_applyP bi rfl;intro c6;co_applyP ay
 · have h6 : op = 6 := by simpa using c6
   co_applyP oy rfl (a5 (ht := gG) (hs := cU) (hm := hbm) (hi := Nat.le_refl _));co_applyP oc rfl rfl rfl (g1 L1 op ia ib ic hN hib hic);rintro _ _ _ ⟨rfl, rfl, hF2, hs2⟩;have hR2 := hR1.of hF2 hs2;co_applyP oy rfl (b9 (hs := U32) (ht := U3));co_applyP oy rfl aj;co_applyP aa;change _ = _ ∧ ∃ (y : PS) (nx : Nat), _;rw [ek];exact ⟨rfl, x, ((ib + 256 * ic) % 65536).toNat, by rw [hself]; exact hR2, rfl, by unfold PS.do; simp [h6, hra, hrb]⟩
 intro c6;co_applyP ai;co_applyP oy rfl aA;co_applyP oy rfl aj;co_applyP aa;change wpE ..;have n6 : ¬ op = 6 := by simpa using c6
 co_applyP bi rfl;intro c7;co_applyP ai;co_applyP oy rfl ah;co_applyP oy rfl ah;co_applyP oy rfl (av (hf := jU));co_applyP oy rfl (aG (ht := fp))
 · have h7 : op = 7 := by simpa using c7
   co_applyP oc rfl rfl rfl (g2 L1 (ptr b) (x.r rb) ic e10 wrb hic (gl L1 hR1 10 (by simp)));rintro _ _ _ ⟨rfl, rfl, rfl⟩;co_applyP oy rfl ah;co_applyP oy rfl bB;co_applyP oy rfl bB;co_applyP oy rfl aj;co_applyP oy rfl aj;co_applyP aa;co_applyP ar;co_applyP ai;co_applyP oy rfl ah;co_applyP oy rfl (dq (v := if x.r rb + ic < 64 then .nilIface else e10) (c := decide (x.r rb + ic < 64)) (hv := by by_cases hm : x.r rb + ic < 64; exact .inl ⟨by rw [if_pos hm], by simp [hm]⟩; obtain ⟨t, w, e⟩ := hi10; exact .inr ⟨t, w, by rw [if_neg hm, e], by simp [hm]⟩) (hu := Tryz.underlying168));co_applyP aa;co_applyP bi rfl;intro cm;co_applyP ai;co_applyP oy rfl ah;co_applyP oy rfl aj;co_applyP aa;co_applyP aI;change ∃ v, resE .. = some v ∧ _;have hm : ¬ x.r rb + ic < 64 := by simpa using cm
   refine ⟨_, rfl, rfl, ?_⟩;have hdo : x.do op ia ib ic = .error 10 := by unfold PS.do; simp [h7, hra, hrb, show ¬ x.r (ib % 8).toNat + ic < 64 from by rw [← hrb]; exact hm]
   rw [hdo];refine ⟨?_, hR1⟩;show (if x.r rb + ic < 64 then Value.nilIface else e10) = e10;rw [if_neg hm];intro cm;have hm : x.r rb + ic < 64 := by simpa using cm
   have hm' : x.r (ib % 8).toNat + ic < 64 := by rw [← hrb]; exact hm
   simp only [if_pos hm];have hmm : At L1 b (15 + (x.r rb + ic).toNat) (.int .u8 (x.m (x.r rb + ic).toNat)) := hR1.pat hb (ui x (by omega));have hmw := hx.m (x.r rb + ic).toNat (by omega);have e16 : IntKind.u16.wrap (x.m (x.r rb + ic).toNat) = x.m (x.r rb + ic).toNat := by rw [cJ]; omega
   co_applyP aC;co_applyP ay;co_applyP oy rfl ah;co_applyP oy rfl ah;co_applyP oy rfl ah;co_applyP oy rfl aK;co_applyP oy rfl (av (hf := fN));co_applyP oy rfl (aW Tryz.underlying94 d9);co_applyP oy rfl (aG (ht := fp));co_applyP oy rfl (b9 (hs := U5) (ht := U32));co_applyP oy rfl aK;rw [e16];co_applyP osm rfl (hs := a6) (hm := hR1.p _ hb) (hi := by first | decide | (rw [bd]; omega) | (rw [bw]; omega));intro L2 hU2;rw [dA x hra8] at hU2;have hRr := hR1.setP (x' := { x with r := put x.r ra (x.m (x.r rb + ic).toNat) }) hb hU2;co_applyP aa;change _ = _ ∧ ∃ (y : PS) (nx : Nat), _;exact ⟨rfl, { x with r := put x.r ra (x.m (x.r rb + ic).toNat) }, x.at_ + 1, hRr, rfl, by unfold PS.do; simp [h7, hra, hrb, hm']⟩
 intro c7;co_applyP ai;co_applyP oy rfl aA;co_applyP oy rfl aj;co_applyP aa;change wpE ..;have n7 : ¬ op = 7 := by simpa using c7
 co_applyP bi rfl;intro c8;co_applyP ai;co_applyP oy rfl ah;co_applyP oy rfl ah;co_applyP oy rfl (av (hf := jU));co_applyP oy rfl (aG (ht := fp))
 · have h8 : op = 8 := by simpa using c8
   co_applyP oc rfl rfl rfl (g2 L1 (ptr b) (x.r rb) ic e10 wrb hic (gl L1 hR1 10 (by simp)));rintro _ _ _ ⟨rfl, rfl, rfl⟩;co_applyP oy rfl ah;co_applyP oy rfl bB;co_applyP oy rfl bB;co_applyP oy rfl aj;co_applyP oy rfl aj;co_applyP aa;co_applyP ar;co_applyP ai;co_applyP oy rfl ah;co_applyP oy rfl (dq (v := if x.r rb + ic < 64 then .nilIface else e10) (c := decide (x.r rb + ic < 64)) (hv := by by_cases hm : x.r rb + ic < 64; exact .inl ⟨by rw [if_pos hm], by simp [hm]⟩; obtain ⟨t, w, e⟩ := hi10; exact .inr ⟨t, w, by rw [if_neg hm, e], by simp [hm]⟩) (hu := Tryz.underlying168));co_applyP aa;co_applyP bi rfl;intro cm;co_applyP ai;co_applyP oy rfl ah;co_applyP oy rfl aj;co_applyP aa;co_applyP aI;change ∃ v, resE .. = some v ∧ _;have hm : ¬ x.r rb + ic < 64 := by simpa using cm
   refine ⟨_, rfl, rfl, ?_⟩;have hdo : x.do op ia ib ic = .error 10 := by unfold PS.do; simp [h8, hra, hrb, show ¬ x.r (ib % 8).toNat + ic < 64 from by rw [← hrb]; exact hm]
   rw [hdo];refine ⟨?_, hR1⟩;show (if x.r rb + ic < 64 then Value.nilIface else e10) = e10;rw [if_neg hm];intro cm;have hm : x.r rb + ic < 64 := by simpa using cm
   have hm' : x.r (ib % 8).toNat + ic < 64 := by rw [← hrb]; exact hm
   simp only [if_pos hm];co_applyP aC;co_applyP bj [] 9 (nf := 0) aZ;co_applyP tr (i := 0) rfl ah (ae (by simp));co_applyP tr (i := 1) rfl ah (ae (by simp));co_applyP tr (i := 2) rfl ah (ae (by simp));co_applyP tr (i := 3) rfl aK (ae (by simp));co_applyP t0 (i := 4) rfl (aG (ht := cn)) (ae (by simp));co_applyP tr (i := 5) rfl (b9 (hs := U32) (ht := U5)) (ae (by simp));co_applyP tr (i := 6) rfl aK (ae (by simp));co_applyP tr (i := 7) rfl (av (hf := fN)) (ae (by simp));co_applyP tr (i := 8) rfl (aW Tryz.underlying94 d9) (ae (by simp));co_applyP a7;intro hnd;co_applyP te (i := 9) rfl (eW (hnd := hnd) (hm := hR1.p _ hb) (hi := by rw [bd]; omega) (hs := d9));rintro _ _ ⟨rfl, hU2⟩;refine ⟨aE (by simp), ?_⟩;rw [mj, uj x (by omega)] at hU2;have hRr := hR1.setP (x' := { x with m := put x.m (x.r rb + ic).toNat (x.r ra % 256) }) hb hU2;co_applyP td (by kernel_rfl);change _ = _ ∧ ∃ (y : PS) (nx : Nat), _;exact ⟨rfl, { x with m := put x.m (x.r rb + ic).toNat (x.r ra % 256) }, x.at_ + 1, hRr, rfl, by unfold PS.do; simp [h8, hra, hrb, hm']⟩
 intro c8;have n8 : ¬ op = 8 := by simpa using c8
 have h1g := gl L1 hR1 1 (by simp);co_applyP ai;co_applyP oy rfl (aG (ht := bV));co_applyP oy rfl aj;co_applyP aa;co_applyP aI;change ∃ v, resE .. = some v ∧ _;refine ⟨_, rfl, rfl, ?_⟩;have hdo : x.do op ia ib ic = .error 1 := by unfold PS.do; simp [n1, n2, n3, n4, n5, n6, n7, n8]
 rw [hdo];exact ⟨rfl, hR1⟩;rintro s' ε' L' ⟨rfl, y, nx, hRy, hk, hdo⟩;co_applyP a0 hk;co_applyP ai;co_applyP oy rfl ah;co_applyP oy rfl ah;co_applyP oy rfl aK;co_applyP oy rfl (av (hf := aD));co_applyP oy rfl (av (hf := cw));co_applyP osm rfl (hs := cG) (hm := hRy.p _ (aq hb)) (hi := by first | decide | (rw [bd]; omega) | (rw [bw]; omega));intro L3 hU3;have hR3 := hRy.setP (x' := { y with at_ := nx }) (aq hb) hU3;rw [dz] at hR3;co_applyP aa;co_applyP ai;co_applyP oy rfl aj;co_applyP aa;co_applyP aI;change ∃ v, resE .. = some v ∧ _;refine ⟨_, rfl, rfl, ?_⟩;rw [hdo];exact ⟨rfl, hR3⟩
theorem yF (k : Int) (e : Nat × Nat) : evR Tryz.prog (Instr.build 210 [(0, .int .i64 k), (1, .iface 255 (ptq e))].toArray) [] = some (.agg #[.int .i64 k, .iface 255 (ptq e)], []) := by kernel_rfl
abbrev erv (eb : Nat → Nat × Nat) (i : Nat) : Value := .iface 255 (ptq (eb i))
structure NewE {R : World → World → Prop} {D : World → World → Array Event → Prop} (Δ : Dom R D) : Prop where
 a : ∀ cs, Δ.New (.cells cs 180)
 b : ∀ cs, Δ.New (.cells cs 182)
 c : ∀ cs, Δ.New (.cells cs 196)
 d : ∀ cs, Δ.New (.cells cs 210)
theorem pf : ∃ n, ∀ {σ} {F : Fam σ} {Δ : DM F} {main s} (L : Frag) (eb : Nat → Nat × Nat) (b : Nat) (e : Nat × Nat), NewE (Δ s) → Ers eb L →
   CallsL Δ Tryz.prog main 93 [ptr b, .iface 255 (ptq e)].toArray n s L (fun s' v L' => s = s' ∧ v = .bool false ∧ Fun L' ∧ ∀ t ∈ L, t ∈ L') := by
 obtain ⟨n1, g1⟩ := Bb;apply Exists.intro;intro σ F Δ main s L eb b e hN hE;have hi182 : ∀ ms : Array (String × TypeId), TypeDesc.pointer 180 ≠ .interface ms := fun _ => by simp
 co_applyP aB 17 Tryz.func93 Tryz.ntmps93;co_applyP ai;co_applyP oy rfl aj;co_applyP aa;co_applyP ai;co_applyP bI rfl (dL (z := .pointer none) (hN.a _));intro t L1 hA;co_applyP aa;co_applyP ar (n₂ := 0);co_applyP ai;co_applyP oy rfl ah;co_applyP oy rfl (gY hi182 (ht := Tryz.underlying182));co_applyP oc rfl rfl rfl (g1 L1 e t hN.c hN.b (hE.mono hA.sub).t);rintro _ _ _ ⟨rfl, rfl, hF, hs⟩;co_applyP oy rfl bY;co_applyP aa;co_applyP aS rfl;co_applyP ai;co_applyP oy rfl aj;co_applyP aa;co_applyP aI;change ∃ v, resE .. = some v ∧ _;exact ⟨_, rfl, rfl, rfl, hF, fun x hx => hs _ (hA.sub _ hx)⟩
theorem j0 : ∃ n, ∀ {σ} {F : Fam σ} {Δ : DM F} {main s} (K : Nat) (A : Lay) (S : St) (Fr L : Frag) (eb : Nat → Nat × Nat) (b : Nat) (x : PS) (r i : Nat), NewE (Δ s) → Rep K A S Fr L → Ers eb Fr → (b, x) ∈ S.ps → At L r 1 (erv eb i) → i < 11 → i ≠ 2 →
   CallsL Δ Tryz.prog main 93 [ptr b, .iface 180 (ptr r)].toArray n s L (fun s' v L' => s = s' ∧ v = .bool true ∧ Rep K A (S.setP b { x with r := put x.r 0 (ansOf i) }) Fr L') := by
 obtain ⟨n1, g1⟩ := Bc;obtain ⟨n2, g2⟩ := uf;apply Exists.intro;intro σ F Δ main s K A S Fr L eb b x r i hN hR hE hb hr hi hi2;have hi182 : ∀ ms : Array (String × TypeId), TypeDesc.pointer 180 ≠ .interface ms := fun _ => by simp
 co_applyP aB 17 Tryz.func93 Tryz.ntmps93;co_applyP ai;co_applyP oy rfl aj;co_applyP aa;co_applyP ai;co_applyP bI rfl (dL (z := .pointer none) (hN.a _));intro t L1 hA;co_applyP aa;co_applyP ar;co_applyP ai;co_applyP oy rfl ah;co_applyP oy rfl (gY hi182 (ht := Tryz.underlying182));co_applyP oc rfl rfl rfl (g1 L1 r t (.pointer none) hN.c hN.b ((hE.mono hR.fr).mono hA.sub).t hN.a hA.self);rintro _ _ _ ⟨rfl, rfl, L2, hF, hs, hU⟩;co_applyP oy rfl bY;co_applyP aa;change wpE ..;rename_i L3;have hs3 : ∀ x ∈ L, x ∈ L3 := fun x hx => hU.ne _ (hs _ (hA.sub _ hx)) (hA.new _ hx);have hR3 := hR.of hU.fn hs3;have hE3 := hE.mono hR3.fr;have hr3 := jt hr hs3;have ht3 : At L3 t 0 (ptr r) := ⟨true, _, _, _, hU.self, rfl⟩;co_applyP ak rfl;co_applyP aC;co_applyP ar;co_applyP bj [] 2 aZ;co_applyP tr (i := 0) rfl ah (ae (by simp));co_applyP t0 (i := 1) rfl (aG (ht := yA)) (ae (by simp));co_applyP tr (i := 3) rfl aK (ae (by simp));co_applyP tr (i := 4) rfl (av (hf := aD)) (ae (by simp));co_applyP tr (i := 5) rfl (av (hf := aX)) (ae (by simp));co_applyP tc (i := 2) rfl rfl rfl (g2 L3 eb r i hE3 hi hi2 hr3);rintro _ _ _ ⟨rfl, rfl, rfl⟩;refine ⟨aE (by simp), ?_⟩;co_applyP to (i := 6) rfl ((aW U47 a6)) (aE (by simp));co_applyP a7;intro hnd;co_applyP te (i := 7) rfl (eW (hnd := hnd) (hm := hR3.p _ hb) (hi := by rw [bd]; omega) (hs := a6));rintro _ _ ⟨rfl, hU4⟩;refine ⟨aE (by simp), ?_⟩;co_applyP td (by kernel_rfl);co_applyP ai;co_applyP oy rfl aj;co_applyP aa;co_applyP aI;change ∃ v, resE .. = some v ∧ _;refine ⟨_, rfl, rfl, rfl, ?_⟩;have h7 : (pcells x).setIfInBounds (7 + 0) (.int .u16 (ansOf i)) = pcells { x with r := put x.r 0 (ansOf i) } := dA x (by omega) _;exact hR3.setP hb (x' := { x with r := put x.r 0 (ansOf i) }) (h7 ▸ hU4)
theorem uk : ∃ n, ∀ {σ} {F : Fam σ} {Δ : DM F} {main s} (L : Frag) (k : Int),
   CallsL Δ Tryz.prog main 111 [.int .i64 k, .nilIface].toArray n s L (fun s' v L' => s = s' ∧ L = L' ∧ v = .nilIface) := by
 apply Exists.intro;intro σ F Δ main s L k;co_applyP aB 12 Tryz.func111 Tryz.ntmps111;co_applyP ai;co_applyP oy rfl aj;co_applyP aa;co_applyP ar (n₂ := 0);co_applyP ai;co_applyP oy rfl ah;co_applyP oy rfl (dq (v := .nilIface) (c := true) (hv := .inl ⟨rfl, rfl⟩) (hu := Tryz.underlying168));co_applyP aa;co_applyP aS rfl;co_applyP ai;co_applyP oy rfl aj;co_applyP aa;co_applyP aI;change ∃ v, resE .. = some v ∧ _;exact ⟨_, rfl, rfl, rfl, rfl⟩
theorem nI : ∃ n, ∀ {σ} {F : Fam σ} {Δ : DM F} {main s} (L : Frag) (k : Int) (e : Nat × Nat), (∀ cs, (Δ s).New (.cells cs 210)) →
   CallsL Δ Tryz.prog main 111 [.int .i64 k, .iface 255 (ptq e)].toArray n s L (fun s' v L' => s = s' ∧ ∃ r, v = .iface 180 (ptr r) ∧ Add L r (.cells #[.int .i64 k, .iface 255 (ptq e)] 210) L') := by
 apply Exists.intro;intro σ F Δ main s L k e hN;have hi180 : ∀ ms : Array (String × TypeId), TypeDesc.pointer 210 ≠ .interface ms := fun _ => by simp
 co_applyP aB 12 Tryz.func111 Tryz.ntmps111;co_applyP ai;co_applyP oy rfl aj;co_applyP aa;co_applyP ar;co_applyP ai;co_applyP oy rfl ah;co_applyP oy rfl (dq (v := .iface 255 (ptq e)) (c := false) (hv := .inr ⟨_, _, rfl, rfl⟩) (hu := Tryz.underlying168));co_applyP aa;co_applyP ak rfl;co_applyP aC;co_applyP ai;co_applyP oy rfl ah;co_applyP oy rfl ah;co_applyP oy rfl (bl (yF k e));co_applyP bI rfl (bS (hN _));intro r L1 hA;co_applyP oy rfl (gY hi180 (ht := o7));co_applyP oy rfl aj;co_applyP aa;co_applyP aI;change ∃ v, resE .. = some v ∧ _;exact ⟨_, rfl, rfl, r, rfl, hA⟩
end Go.Proofs.YtejkelcaljmnoaaGreatDoor
namespace Go.Hx
open Go.Conc
theorem ml {P : Program} {main : Bool} {b : Frame} {a : Act} {cs : List Frame} {w : World} {fn : Func} {todo : List Item} {c : Frame} {v : Value} (hn : b.kind = .normal) (hd : a.defers = []) (hf : P.funcs[b.fn]? = some fn)
   (hr : (results fn a.tmps).run P w = .ok v w) : ∃ es, stepG P main (G { b.at a todo with mode := .returning } (c :: cs)) w = .go (G (c.finish v) cs) w es ∧ ∀ e ∈ es, e ∈ (results fn a.tmps).events P w #[] :=
 ⟨_, by simp [G, stepG, unwind, doReturn, Frame.at, hn, hd, hf, hr, GStep.after]; rfl, fun _ he => mem_seen he⟩
end Go.Hx
namespace Go.Lo
open Go.Conc Go.Hx
def bodyLM {σ : Type} (P : Program) (g : Func) (Post : σ → Value → Frag → Prop) : σ → Exit → Act → Frag → Prop
 | s, .normal, a, L | s, .ret, a, L => a.defers = [] ∧ ∃ v, wpQ P (results g a.tmps) (· = v) L ∧ Post s v L
 | _, _, _, _ => False
def CallsM {σ : Type} {F : Fam σ} (Δ : ∀ s, Dom (F.R s) (F.D s)) (P : Program) (main : Bool) (f : FuncId) (args : Array Value) (n : Nat) (s : σ) (L : Frag) (Post : σ → Value → Frag → Prop) : Prop :=
 ∃ g c, P.funcs[f]? = some g ∧ (g.name == "runtime.NumGoroutine") = false ∧ g.body = some c ∧ wpL Δ P main f c n s (bodyLM P g Post) { tmps := args ++ Array.replicate (g.ntmps - args.size) undef, defers := [] } L
section
variable {σ : Type} {F : Fam σ} {Δ : ∀ s, Dom (F.R s) (F.D s)} {P : Program} {main : Bool} {fn : FuncId} {s : σ} {a : Act} {L : Frag}
theorem pi {Q : σ → Exit → Act → Frag → Prop} {ops : Array Oper} {i : Nat} {rest : List Nat} {o : Oper} {f : FuncId} {args : Array Operand} {ats : Array TypeId} {nf n : Nat} {Post : σ → Value → Frag → Prop}
   (ho : ops[i]? = some o) (hw : Region.wanted o (yielded ops a.tmps) = true) (hop : o.op = .call { callee := .value (.func f), args, argTypes := ats }) (hcall : CallsM Δ P main f (args.map a.eval) nf s L Post) (hnext : ∀ s' v L', Post s' v L' → OpsL Δ P main fn ops rest n s' Q (a.put o.dst v) L') : OpsL Δ P main fn ops (i :: rest) (n + nf + 3) s Q a L := by
 intro w hO b k cs m hb hk hc;obtain ⟨g, c, hf, hname, hbody, hwp⟩ := hcall;have hfin : ∀ v, (b.at a (.inRegion ops (i :: rest) :: k)).finish v = b.at (a.put o.dst v) (.inRegion ops rest :: k) := fun v => by rw [Frame.finish_at, ho]; rfl
 have hleave : ∀ (s' : σ) (a' : Act) (w' : World) (todo : List Item), (∃ L', (Δ s').Own L' w' ∧ a'.defers = [] ∧ ∃ v, wpQ P (results g a'.tmps) (· = v) L' ∧ Post s' v L') →
     Goes P main (F.R s') (F.D s') (F.Stop s') (m + n + 1) (G { (base f).at a' todo with mode := .returning } (b.at a (.inRegion ops (i :: rest) :: k) :: cs)) w' := by
   rintro s' a' w' todo ⟨L', hL, hd, v, hr, hp⟩;refine Goes.step rfl fun w₁ h₁ => ?_;obtain ⟨q1, q2⟩ := lU (Δ s') ((Δ s').rely hL h₁) hr;obtain ⟨es, hes, hm⟩ := ml (main := main) (cs := cs) (todo := todo) (c := b.at a (.inRegion ops (i :: rest) :: k)) (b := base f) rfl hd hf q1;rw [hes, hfin];exact ⟨(Δ s').dd ((Δ s').gr w₁) fun e he => q2 e (hm e he), (hnext s' v L' hp w' hL b k cs m hb hk hc).rely (F.terms s').trans h₁⟩
 have hbodyG : Goes P main (F.R s) (F.D s) (F.Stop s) (m + n + 2 + nf) (G ((base f).at { tmps := args.map a.eval ++ Array.replicate (g.ntmps - (args.map a.eval).size) undef, defers := [] } [.code c]) (b.at a (.inRegion ops (i :: rest) :: k) :: cs)) w := by
   refine hwp w hO (base f) [] _ (m + n + 2) rfl (by simp [base]) fun s' e a' w' q => ?_;obtain ⟨L', hL, q⟩ := q;cases e with
   | normal => exact Goes.step rfl fun w₁ h₁ => by rw [stepG_end]; exact ⟨(F.terms s').idle _, (hleave s' a' w' [] ⟨L', hL, q⟩).rely (F.terms s').trans h₁⟩
   | ret => exact fun todo => (hleave s' a' w' todo ⟨L', hL, q⟩).more
   | exit id => exact q.elim
   | goto l => exact q.elim
   | panic ch => exact q.elim
   | outgrown => exact q.elim
 have e : m + (n + nf + 3) = (m + n + 2 + nf) + 1 := by omega
 rw [e];exact Goes.step rfl fun w₁ h₁ => goes_call ho hw hk hop hf hname hbody ⟨(F.terms s).idle _, hbodyG.rely (F.terms s).trans h₁⟩
end
def resM (P : Program) (g : Func) (ε : Env) (L : Frag) (v : Value) : Prop := ∃ t ty b i n fl cs e, g.results.toList = [.cell t ty] ∧ look ε t = some (.pointer (some ⟨b, i, none⟩)) ∧ aggAt P ty = some true ∧ sizeAt P ty = some n ∧ (b, fl, Obj.cells cs e) ∈ L ∧ i + n ≤ cs.size ∧ v = .agg (cs.extract i (i + n))
def bodyM {σ : Type} (P : Program) (g : Func) (Post : σ → Value → Frag → Prop) : σ → Exit → Env → Frag → Prop
 | s, .normal, ε, L | s, .ret, ε, L => ∃ v, resM P g ε L v ∧ Post s v L
 | _, _, _, _ => False
section
variable {σ : Type} {F : Fam σ} {Δ : ∀ s, Dom (F.R s) (F.D s)} {P : Program} {main : Bool} {fn : FuncId} {N : Nat} {Q : σ → Exit → Env → Frag → Prop} {s : σ} {ε : Env} {L : Frag}
theorem wD {g : Func} {a : Act} {v : Value} (hf : Fits N ε a) (h : resM P g ε L v) : wpQ P (results g a.tmps) (· = v) L := by
 obtain ⟨t, ty, b, i, n, fl, cs, e, h1, h2, h3, h4, h5, h6, rfl⟩ := h;have h1' : g.results = #[.cell t ty] := Array.ext' h1;have e1 := (hf.at_ _ _ h2).2;have e0 : results g a.tmps = (asAddr (a.tmps.getD t undef) >>= fun x => loadVar ty x) := by simp [results, h1']
 rw [e0, e1, ax];show wpQ P (loadVar ty ⟨b, i, none⟩) _ L;unfold loadVar;rw [ax, fJ h3];simp only [if_true];rw [ax, cI h4, ax];exact eD h5 h6 rfl
theorem mm (N : Nat) {f : FuncId} {g : Func} {c : Code} {vs : List Value} {n : Nat} {Post : σ → Value → Frag → Prop} (hf : P.funcs[f]? = some g) (hN : g.ntmps = N)  (hname : (g.name == "runtime.NumGoroutine") = false := by rfl) (hb : g.body = some c := by rfl) (hl : Nat.ble vs.length N = true := by rfl) (h : wpE Δ P main f N c n s (bodyM P g Post) (args vs) L) : CallsM Δ P main f vs.toArray n s L Post := by
 have hl := Nat.le_of_ble_eq_true hl;subst hN;refine ⟨g, c, hf, hname, hb, cY (h _ ⟨by simp; omega, rfl, fun t v ht => ?_⟩) fun s' e a' L' ⟨ε', hf, q⟩ => ?_⟩
 · obtain ⟨_, h2⟩ := fL vs 0 t v ht;have hlt := (List.getElem?_eq_some_iff.1 h2).1;simp only [Nat.sub_zero] at h2 hlt;refine ⟨by omega, ?_⟩;simp only [Array.getD_eq_getD_getElem?, Array.getElem?_append, List.size_toArray, hlt, if_true, List.getElem?_toArray, h2, Option.getD_some]
 · cases e <;> first | exact ⟨hf.df, q.choose, wD hf q.choose_spec.1, q.choose_spec.2⟩ | exact q
theorem ocm {ops : Array Oper} {i : Nat} {rest : List Nat} {d : Option Tmp} {k : Op} {ot : TypeId} {ps : String} {af : Array Edge} {g : Option (Nat × Bool)} {f : FuncId} {args : Array Operand} {ats : Array TypeId} {vs : List Value} {nf n : Nat} {Post : σ → Value → Frag → Prop}
   (ho : ops[i]? = some ⟨d, k, ot, ps, af, g⟩) (hop : k = .call { callee := .value (.func f), args, argTypes := ats }) (ha : args.toList.map (ev ε) = vs.map some) (hcall : CallsM Δ P main f vs.toArray nf s L Post)
    (hw : wantedE ops N ε g = some true := by rfl) (hd : dstOk N d = true := by rfl) (h : ∀ s' v L', Post s' v L' → OpsE Δ P main fn N ops rest n s' Q (putE d v ε) L') : OpsE Δ P main fn N ops (i :: rest) (n + nf + 3) s Q ε L := by
 intro a hfa;have e1 : args.map a.eval = vs.toArray := by apply Array.ext'; simpa using dW hfa _ _ ha
 subst hop;exact pi ho (hfa.wanted hw) rfl (by rw [e1]; exact hcall) fun s' v L' hp => h s' v L' hp _ (hfa.put hd v)
end
end Go.Lo
namespace Go.Proofs.YtejkelcaljmnoaaGreatDoor
open Go.Conc Go.Hx Go.Lo
theorem pj (x : PS) {i : Nat} (hi : i < 6) : (pcells x).extract (79 + 2 * i) (79 + 2 * i + 2) = #[.int .i64 (x.f i).1, .int .i64 (x.f i).2] := by
 have : i = 0 ∨ i = 1 ∨ i = 2 ∨ i = 3 ∨ i = 4 ∨ i = 5 := by omega
 rcases this with rfl | rfl | rfl | rfl | rfl | rfl <;> rfl
theorem pk (x : PS) {i : Nat} (hi : i < 6) (k : Nat × Nat) : puts (pcells x) (79 + 2 * i) [.int .i64 k.1, .int .i64 k.2] = pcells { x with f := put x.f i k } := by
 have : i = 0 ∨ i = 1 ∨ i = 2 ∨ i = 3 ∨ i = 4 ∨ i = 5 := by omega
 rcases this with rfl | rfl | rfl | rfl | rfl | rfl <;> rfl
def PS.file (x : PS) (n : Int) : Nat × Nat := if n < 6 then x.f n.toNat else (0, 0)
theorem ul : evR Tryz.prog (Instr.build 96 ([] : List (Nat × Value)).toArray) [] = some (keyv (0, 0), []) := by kernel_rfl
theorem j1 : ∃ n, ∀ {σ} {F : Fam σ} {Δ : DM F} {main s} (K : Nat) (A : Lay) (S : St) (Fr L : Frag) (b : Nat) (x : PS) (k : Int), (∀ cs, (Δ s).New (.cells cs 96)) → Rep K A S Fr L → (b, x) ∈ S.ps → 0 ≤ k ∧ k < 65536 →
   CallsM Δ Tryz.prog main 106 [ptr b, .int .u16 k].toArray n s L (fun s' v L' => s = s' ∧ v = keyv (x.file k) ∧ Fun L' ∧ ∀ t ∈ L, t ∈ L') := by
 apply Exists.intro;intro σ F Δ main s K A S Fr L b x k hN hR hb hk;have hw : IntKind.i64.wrap k = k := by simp [IntKind.wrap_i64]; omega
 co_applyP mm 15 Tryz.func106 Tryz.ntmps106;co_applyP ai;co_applyP bI rfl (dL (z := keyv (0, 0)) (hN _));intro nb L1 hA;have hR1 := hR.add hA;co_applyP aa;co_applyP ar;co_applyP ai;co_applyP oy rfl ah;co_applyP oy rfl (b9 (hs := U32) (ht := U3));co_applyP oy rfl d8;co_applyP aa;change wpE ..;simp only [hw];co_applyP bi rfl;intro hc;co_applyP ai
 · have h6 : ¬ k < 6 := by simpa using hc
   co_applyP oy rfl (bl ul);co_applyP oeN rfl (fun hnd => eY (hs := bh) (vs := [.int .i64 (0 : Nat), .int .i64 (0 : Nat)]) (hnd := hnd) (hm := hA.self) (hi := Nat.le_refl _));rintro _ L2 ⟨rfl, hU⟩;co_applyP aa;co_applyP aI;change ∃ v, resM _ _ _ _ v ∧ _;refine ⟨_, ⟨_, _, nb, 0, 2, true, _, _, rfl, rfl, bH, bh, hU.self, Nat.le_refl _, rfl⟩, rfl, by simp [PS.file, h6]; rfl, hU.fn, fun t ht => hU.ne _ (hA.sub _ ht) (hA.new _ ht)⟩
 intro hc;have h6 : k < 6 := by simpa using hc
 co_applyP aC;co_applyP ai;co_applyP oy rfl ah;co_applyP oy rfl ah;co_applyP oy rfl aK;co_applyP oy rfl (av (hf := dR));co_applyP oy rfl (aW Tryz.underlying97 bh);co_applyP oy rfl (a5 (ht := bH) (hs := bh) (hm := hR1.p _ hb) (hi := by rw [bd]; omega));co_applyP oeN rfl (fun hnd => eY (hs := bh) (vs := [.int .i64 (x.f k.toNat).1, .int .i64 (x.f k.toNat).2]) (hy := by rw [show 0 + 79 + k.toNat * 2 = 79 + 2 * k.toNat by omega, pj x (by omega)]; rfl) (hnd := hnd) (hm := hA.self) (hi := Nat.le_refl _));rintro _ L2 ⟨rfl, hU⟩;co_applyP aa;co_applyP aI;change ∃ v, resM _ _ _ _ v ∧ _;refine ⟨_, ⟨_, _, nb, 0, 2, true, _, _, rfl, rfl, bH, bh, hU.self, Nat.le_refl _, rfl⟩, rfl, by simp [PS.file, h6]; rfl, hU.fn, fun t ht => hU.ne _ (hA.sub _ ht) (hA.new _ ht)⟩
end Go.Proofs.YtejkelcaljmnoaaGreatDoor
namespace Go.Lo
open Go.Conc Go.Hx
section
variable {P : Program} {New : Obj → Prop} {L : Frag}
theorem gI {d : Nat} {t : TypeId} {xs ys : Array Value} {fs : Array Field} {K : Bool → Prop} (ht : P.underlying t = some (.struct fs)) (hp : P.stoodInHeld t = false) (h : wpQ P (Op.eqFields d xs ys fs.toList) K L) : wpQ P (Op.equalIn (d + 1) t (.agg xs) (.agg ys)) K L := by
 rw [Op.equalIn.eq_def];rw [ax, aL ht];simp only;rw [ax];show wpQ P (if P.stoodInHeld t = true then _ else _) K L;rw [hp];simp only [Bool.false_eq_true, if_false];rw [← Array.forIn_toList];generalize fs.toList = l at h ⊢;clear ht
 induction l with
 | nil => exact h
 | cons f l ih =>
   simp only [Op.eqFields] at h;simp only [List.forIn_cons, ax]
   split
   · rename_i hn;rw [if_pos hn] at h;simp only [ax] at h ⊢;refine cP ?_ (fun _ h => h) _ h;intro a h;refine cP ?_ (fun _ h => h) _ h;intro b h;refine cP ?_ (fun _ h => h) _ h;intro r h;cases r with
     | false => exact h
     | true =>
       have := ih h;simpa [ax, bP] using this
   · rename_i hn;rw [if_neg hn] at h;have := ih h;simpa [ax, bP] using this
theorem fh {d : Nat} {t : TypeId} {k k' : IntKind} {a b : Int} {K : Bool → Prop} (h : P.underlying t = some (.int k')) (hK : K (a == b)) : wpQ P (Op.equalIn (d + 1) t (.int k a) (.int k b)) K L := by
 rw [Op.equalIn.eq_def, ax, aL h];simpa [bP] using hK
abbrev kv (k : Nat × Nat) : Value := .agg #[.int .i64 k.1, .int .i64 k.2]
structure FldAt (P : Program) (f : Field) (off : Nat) : Prop where
 n : f.name ≠ "_"
 o : f.offset = off
 a : aggAt P f.type = some false
 u : ∃ k, P.underlying f.type = some (.int k)
structure Key2 (P : Program) (t : TypeId) : Prop where
 ex : ∃ f0 f1, P.underlying t = some (.struct #[f0, f1]) ∧ FldAt P f0 0 ∧ FldAt P f1 1
 hp : P.stoodInHeld t = false
 ck : ∀ e a b, evR P (Instr.checkKey e 10000 t (.agg #[.int .i64 a, .int .i64 b])) [] = some ((), [])
theorem ll {t : TypeId} (H : Key2 P t) {k k' : Nat × Nat} {K : Bool → Prop} (hK : K (decide (k = k'))) : wpQ P (Op.equal t (kv k) (kv k')) K L := by
 obtain ⟨f0, f1, hu, h0, h1⟩ := H.ex;obtain ⟨k0, u0⟩ := h0.u;obtain ⟨k1, u1⟩ := h1.u;rw [dv];refine gI hu H.hp ?_;simp only [Op.eqFields, if_pos h0.n, if_pos h1.n, ax];refine eJ h0.a (v := .int .i64 k.1) (by rw [h0.o]; rfl) ?_;refine eJ h0.a (v := .int .i64 k'.1) (by rw [h0.o]; rfl) ?_;refine fh (d := 9998) u0 ?_;by_cases e0 : k.1 = k'.1
 · simp only [e0, beq_self_eq_true, Bool.not_true, Bool.false_eq_true, if_false, ax];refine eJ h1.a (v := .int .i64 k.2) (by rw [h1.o]; rfl) ?_;refine eJ h1.a (v := .int .i64 k'.2) (by rw [h1.o]; rfl) ?_;refine fh (d := 9998) u1 ?_;by_cases e1 : k.2 = k'.2
   · have e : k = k' := Prod.ext e0 e1;simpa [e, bP] using hK
   · have e : ¬ k = k' := fun e => e1 (by rw [e]);have e2 : ((k.2 : Int) == (k'.2 : Int)) = false := by simp; omega
     rw [e2];simpa [e, bP] using hK
 · have e : ¬ k = k' := fun e => e0 (by rw [e]);have e2 : ((k.1 : Int) == (k'.1 : Int)) = false := by simp; omega
   rw [e2];simpa [e, bP] using hK
abbrev Ents := List ((Nat × Nat) × Value × Nat)
def ent (e : (Nat × Nat) × Value × Nat) : MapEntry := ⟨kv e.1, e.2.1, e.2.2⟩
def mapO (l : Ents) (clock : Nat) : Obj := .map (l.map ent).toArray clock
def lk (k : Nat × Nat) : Ents → Nat → Option (Nat × Value)
 | [], _ => none
 | e :: l, i => if k = e.1 then some (i, e.2.1) else lk k l (i + 1)
theorem j2 {t : TypeId} (H : Key2 P t) {k : Nat × Nat} {K : Option (Nat × Value) → Prop} : ∀ (l : Ents) (i : Nat), K (lk k l i) → wpQ P (Instr.findAsking t (kv k) (l.map ent) i) K L := by
 intro l
 induction l with
 | nil => exact fun i h => h
 | cons e l ih =>
   intro i h;simp only [List.map_cons, Instr.findAsking, ax];refine ll H ?_;simp only [lk] at h;by_cases e1 : k = e.1
   · rw [if_pos e1] at h;simp only [decide_eq_true e1, if_true];exact h
   · rw [if_neg e1] at h;simp only [decide_eq_false e1, Bool.false_eq_true, if_false];exact ih _ h
theorem dM {t : TypeId} (H : Key2 P t) {k : Nat × Nat} {K : Option (Nat × Value) → Prop} (l : Ents) (h : K (lk k l 0)) : wpQ P (Instr.findKey t (kv k) (l.map ent)) K L := by
 obtain ⟨f0, f1, hu, h0, h1⟩ := H.ex;unfold Instr.findKey;rw [ax, aL hu];cases l with
 | nil => exact h
 | cons e l => exact j2 H (e :: l) 0 h
def upk (k : Nat × Nat) (v : Value) (l : Ents) (clock : Nat) : Obj := match lk k l 0 with
 | some (i, _) => mapO (l.modify i fun e => (k, v, e.2.2)) clock
 | none => mapO (l ++ [(k, v, clock)]) (clock + 1)
def dlk (k : Nat × Nat) (l : Ents) : Ents := match lk k l 0 with
 | some (i, _) => l.eraseIdx i
 | none => l
theorem um {k : Nat × Nat} : ∀ {l : Ents} {j i : Nat} {v : Value}, lk k l j = some (i, v) → ∃ e, j ≤ i ∧ l[i - j]? = some e ∧ e.1 = k ∧ e.2.1 = v
 | [], _, _, _, h => by cases h
 | e :: l, j, i, v, h => by
   simp only [lk] at h
   split at h
   · rename_i e1;simp only [Option.some.injEq, Prod.mk.injEq] at h;obtain ⟨rfl, rfl⟩ := h;exact ⟨e, Nat.le_refl _, by simp, e1.symm, rfl⟩
   · obtain ⟨e', h1, h2, h3⟩ := um h;refine ⟨e', by omega, ?_, h3⟩;rw [show i - j = (i - (j + 1)) + 1 by omega];simpa using h2
end
section
variable {P : Program} {New : Obj → Prop} {N : Nat} {ε : Env} {L : Frag} {d : Option Tmp} {ty : TypeId} {ps : String} {af : Array Edge} {g : Option (Nat × Bool)}
theorem nJ {x ix : Operand} {t kt et : TypeId} {r clock : Nat} {k : Nat × Nat} {l : Ents} {z : Value} {fl : Bool} (H : Key2 P kt) (hu : P.underlying t = some (.map kt et)) (hz : zeroAt P et = some z) (hm : (r, fl, mapO l clock) ∈ L) (hx : ev ε x = some (.map (some r)) := by rfl) (hi : ev ε ix = some (kv k) := by rfl) :
   EY P N ε L ⟨d, .lookup t x ix false, ty, ps, af, g⟩ (match lk k l 0 with | some (_, v) => v | none => z) := fun a ha => by
 refine cF (fun _ => rfl) fun K hK => ?_;rw [ha.ev hx, ha.ev hi];unfold Instr.lookup;rw [ax, aL hu];simp only [ax];refine oU hm rfl ?_;simp only [mapO];rw [ax, bP, ax];refine a9 (H.ck _ _ _) ?_;rw [ax];refine dM H l ?_;cases hl : lk k l 0 with
 | some p =>
   rw [hl] at hK;exact hK
 | none =>
   rw [hl] at hK;simp only [ax, gj hz];exact hK
theorem Bg {x ix y : Operand} {t kt et : TypeId} {r clock : Nat} {k : Nat × Nat} {v : Value} {l : Ents} (hnd : (L.map (·.1)).Nodup) (H : Key2 P kt) (hu : P.underlying t = some (.map kt et)) (hm : (r, true, mapO l clock) ∈ L) (hx : ev ε x = some (.map (some r)) := by rfl) (hi : ev ε ix = some (kv k) := by rfl) (hy : ev ε y = some v := by rfl) :
   EO P New N ε L ⟨d, .mapUpdate t x ix y, ty, ps, af, g⟩ (fun r' L'' => r' = undef ∧ Upd L r (upk k v l clock) L'') := by
 intro a ha;obtain ⟨n, hn⟩ := List.getElem?_of_mem hm;show wpS P New (Instr.mapUpdate t (a.eval x) (a.eval ix) (a.eval y) >>= fun _ => pure Next.skip) _ L;rw [ha.ev hx, ha.ev hi, ha.ev hy, au];unfold Instr.mapUpdate;rw [au, aQ hu];simp only [au];refine dY hm rfl ?_;simp only [mapO, au];refine bC (K := (· = ())) (fun _ _ => ?_) _ (a9 (H.ck _ _ _) rfl);refine bC (K := (· = lk k l 0)) (fun _ e => ?_) _ (dM H l rfl);subst e;cases hl : lk k l 0 with
 | some p =>
   obtain ⟨i, w⟩ := p;obtain ⟨e, _, h2, h3, _⟩ := um hl;simp only [Nat.sub_zero] at h2;have hkey : ((((l.map ent).toArray[i]?).map (·.key)).getD (kv k)) = kv k := by simp [h2, ent, h3]
   simp only [au, hkey];have hs : Instr.keyThatStays (kv k) (kv k) = pure (kv k) := by
     unfold Instr.keyThatStays;have : Instr.sameBits 10000 (kv k) (kv k) = true := by simp [Instr.sameBits]
     rw [this]; rfl
   rw [hs, bm];refine cT hn rfl rfl ⟨trivial, ?_⟩;have he : (l.map ent).toArray.modify i (fun e => { e with key := kv k, val := v }) = ((l.modify i fun e => (k, v, e.2.2)).map ent).toArray := by
     apply Array.ext';simp only [Array.toList_modify];apply List.ext_getElem?;intro j;simp only [List.getElem?_modify, List.getElem?_map];cases l[j]? with
     | none => rfl
     | some e => simp only [Option.map_some]; split <;> rfl
   rw [he];have hu : upk k v l clock = mapO (l.modify i fun e => (k, v, e.2.2)) clock := by unfold upk; rw [hl]
   rw [hu];exact cB hnd hn
 | none =>
   refine cT hn rfl rfl ⟨trivial, ?_⟩;have he : (l.map ent).toArray.push ⟨kv k, v, clock⟩ = ((l ++ [(k, v, clock)]).map ent).toArray := by apply Array.ext'; simp [ent]
   rw [he];have hu : upk k v l clock = mapO (l ++ [(k, v, clock)]) (clock + 1) := by unfold upk; rw [hl]
   rw [hu];exact cB hnd hn
theorem xV {x ix : Operand} {ats : Array TypeId} {t kt et : TypeId} {r clock : Nat} {k : Nat × Nat} {l : Ents} (hnd : (L.map (·.1)).Nodup) (H : Key2 P kt) (hu : P.underlying t = some (.map kt et)) (hm : (r, true, mapO l clock) ∈ L) (hx : ev ε x = some (.map (some r)) := by rfl) (hi : ev ε ix = some (kv k) := by rfl) (ha' : ats[0]? = some t := by rfl) :
   EO P New N ε L ⟨d, .call ⟨.builtin .delete, #[x, ix], ats⟩, ty, ps, af, g⟩ (fun r' L'' => r' = .tuple #[] ∧ Upd L r (mapO (dlk k l) clock) L'') := by
 intro a ha;obtain ⟨n, hn⟩ := List.getElem?_of_mem hm;refine cu (s := Builtin.delete_ ats ty #[.map (some r), kv k]) (fun _ => by simp [builtin, ha.ev hx, ha.ev hi]) ?_;unfold Builtin.delete_;simp only [ha', List.getElem?_toArray, List.getElem?_cons_zero, List.getElem?_cons_succ];rw [au, aQ hu];simp only [au];refine dY hm rfl ?_;simp only [mapO, au];refine bC (K := (· = ())) (fun _ _ => ?_) _ (a9 (H.ck _ _ _) rfl);refine bC (K := (· = lk k l 0)) (fun _ e => ?_) _ (dM H l rfl);subst e;cases hl : lk k l 0 with
 | some p =>
   obtain ⟨i, w⟩ := p;obtain ⟨e, _, h2, h3, _⟩ := um hl;simp only [Nat.sub_zero] at h2;simp only [au];refine cT hn rfl rfl ?_;refine ⟨by first | rfl | trivial, ?_⟩;have hlt := (List.getElem?_eq_some_iff.1 h2).1;have he : (l.map ent).toArray.eraseIdxIfInBounds i = ((dlk k l).map ent).toArray := by
     unfold dlk; rw [hl];apply Array.ext';simp [Array.eraseIdxIfInBounds, hlt, List.eraseIdx_eq_take_drop_succ]
   rw [he];exact cB hnd hn
 | none =>
   simp only [au];refine cT hn rfl rfl ?_;refine ⟨by first | rfl | trivial, ?_⟩;have he : dlk k l = l := by unfold dlk; rw [hl]
   rw [he];exact cB hnd hn
end
end Go.Lo
namespace Go.Proofs.YtejkelcaljmnoaaGreatDoor
open Go.Conc Go.Hx Go.Lo
structure Ext (L L' : Frag) : Prop where
 f : Fun L'
 s : ∀ t ∈ L, t ∈ L'
theorem Ext.trans {L L' L'' : Frag} (h : Ext L L') (k : Ext L' L'') : Ext L L'' := ⟨k.f, fun t ht => k.s t (h.s t ht)⟩
theorem Ext.at {L L' : Frag} (h : Ext L L') {b i : Nat} {v : Value} (ha : At L b i v) : At L' b i v := jt ha h.s
theorem Rep.ext {K : Nat} {A : Lay} {S : St} {F L L' : Frag} (h : Rep K A S F L) (e : Ext L L') : Rep K A S F L' := h.of e.f e.s
def idxF (test : Nat → Bool) (xs : List Nat) : Int := match xs.findIdx? test with
 | some i => i
 | none => -1
theorem eA (nf : Nat) : ∃ n, ∀ {σ} {F : Fam σ} {Δ : DM F} {main s} (L0 : Frag) (f : FuncId) (gf : Func) (c1 c2 : List Value) (xs : List Nat) (test : Nat → Bool) (base : Option Addr) (cap : Nat),
   (∀ i v, (xs.map ptr)[i]? = some v → ∃ b, base = some ⟨b, 0, none⟩ ∧ At L0 b i v) → xs.length ≤ 8 → Tryz.prog.funcs[f]? = some gf → (gf.name == "runtime.NumGoroutine") = false → gf.body.isNone = false →
   (∀ c ∈ xs, ∀ L, Ext L0 L → CallsL Δ Tryz.prog main f (c1 ++ [ptr c] ++ c2).toArray nf s L (fun s' v L' => s = s' ∧ v = .bool (test c) ∧ Ext L L')) →
   CallsL Δ Tryz.prog main 146 [.slice base xs.length cap, .func (.func f) c1.toArray c2.toArray].toArray n s L0 (fun s' v L' => s = s' ∧ v = .int .i64 (idxF test xs) ∧ Ext L0 L') := by
 apply Exists.intro;intro σ F Δ main s L0 f gf c1 c2 xs test base cap hat h8 hf hname hb hc;co_applyP aB 19 Tryz.func146 Tryz.ntmps146;co_applyP gZ;intro hF0;co_applyP ai;co_applyP oy rfl aj;co_applyP aa;co_applyP ar;co_applyP ai;co_applyP oy rfl ah;co_applyP oy rfl (bt (hu := U91));co_applyP oy rfl ah;co_applyP aa;co_applyP aJ;co_applyP bF (fun k s' ε' L' => s' = s ∧ Ext L0 L' ∧ ∃ l1 l2, xs = l1 ++ l2 ∧ (∀ q ∈ l1, test q = false) ∧ k + l1.length = 8 ∧ kn ε' [(8, .int .i64 l1.length), (7, .int .i64 xs.length), (0, .slice base xs.length cap), (1, .func (.func f) c1.toArray c2.toArray)]) 8
 · exact ⟨rfl, ⟨hF0, fun _ h => h⟩, [], xs, rfl, by simp, rfl, rfl⟩
 rintro k s' ε' L' ⟨rfl, hE, l1, l2, hl, hn, hk, he⟩;co_applyP a0 he;have hlen := congrArg List.length hl;simp only [List.length_append] at hlen;co_applyP ai;co_applyP oy rfl ci;co_applyP aa;co_applyP ar;co_applyP bi rfl;intro hlt
 · cases l2 with
   | nil => simp at hlt hlen; omega
   | cons q l2 =>
     simp at hlen;obtain ⟨b, rfl, hav⟩ := hat l1.length (ptr q) (by rw [hl]; simp);have hav' := hE.at hav;co_applyP aC;co_applyP ar;co_applyP aJ;co_applyP ai;co_applyP oy rfl ah;co_applyP oy rfl aj;co_applyP aa;co_applyP ai;co_applyP oy rfl ah;co_applyP oy rfl ah;co_applyP oy rfl ah;co_applyP oy rfl (bu U91 bG);co_applyP oy rfl (aG (ht := cW));co_applyP ov rfl (vs := [ptr q]) (hf := hf) (hname := hname) (hb := hb) (hcall := hc q (by rw [hl]; simp) L' hE);rintro _ _ _ ⟨rfl, rfl, hE2⟩;co_applyP aa;co_applyP bi rfl;intro ht;co_applyP ai;co_applyP oy rfl ah;co_applyP oy rfl aj;co_applyP aa;co_applyP aI;change ∃ v, resE .. = some v ∧ _
     · have e1 : idxF test xs = l1.length := by
         unfold idxF;have : xs.findIdx? test = some l1.length := by
           rw [hl, List.findIdx?_append, List.findIdx?_eq_none_iff.2 (fun x hx => by simpa using hn x hx)];have ht' : test q = true := by simpa using ht
           simp [List.findIdx?_cons, ht']
         rw [this]
       refine ⟨_, rfl, rfl, by rw [e1], hE.trans hE2⟩
     intro ht;co_applyP aC;co_applyP ay;co_applyP oy rfl a8;co_applyP oy rfl ah;co_applyP aa;change ∃ k', k' < _ ∧ _;have elen : IntKind.i64.wrap ((l1.length : Int) + 1) = ((l1 ++ [q]).length : Int) := by simp [IntKind.wrap_i64]; omega
     refine ⟨k - 1, by omega, rfl, hE.trans hE2, l1 ++ [q], l2, by simp [hl], ?_, by simp; omega, ?_⟩
     · intro x hx;rcases List.mem_append.1 hx with h | h
       · exact hn x h
       · simp at h; subst h; simpa using ht
     · rw [← elen]; rfl
 intro hlt;co_applyP bN;co_applyP ai;co_applyP oy rfl aj;co_applyP aa;co_applyP aI;change ∃ v, resE .. = some v ∧ _;cases l2 with
 | nil =>
   have e : l1 = xs := by rw [hl]; simp
   subst e;have e1 : idxF test l1 = -1 := by
     unfold idxF;rw [List.findIdx?_eq_none_iff.2 (fun x hx => by simpa using hn x hx)]
   exact ⟨_, rfl, rfl, by rw [e1], hE⟩
 | cons q l2 => simp at hlt hlen; omega
structure ExtQ (Q : Nat) (L L' : Frag) : Prop where
 f : Fun L'
 s : ∀ t ∈ L, t.1 ≠ Q → t ∈ L'
theorem Ext.q {Q : Nat} {L L' : Frag} (h : Ext L L') : ExtQ Q L L' := ⟨h.f, fun t ht _ => h.s t ht⟩
theorem ExtQ.trans {Q : Nat} {L L' L'' : Frag} (h : ExtQ Q L L') (k : ExtQ Q L' L'') : ExtQ Q L L'' := ⟨k.f, fun t ht hn => k.s t (h.s t ht hn) hn⟩
theorem _root_.Go.Lo.Upd.q {Q : Nat} {L L' : Frag} {o : Obj} (h : Upd L Q o L') : ExtQ Q L L' := ⟨h.fn, fun t ht hn => h.ne t ht hn⟩
theorem yG (A M B C : List Value) (q : Value) : (A ++ M ++ q :: B ++ C).toArray[A.length + M.length]? = some q := by
 rw [List.getElem?_toArray];have : A ++ M ++ q :: B ++ C = (A ++ M) ++ (q :: (B ++ C)) := by simp
 rw [this, List.getElem?_append_right (by simp)];simp
theorem yH (A M B C : List Value) (m q : Value) : (A ++ (m :: M) ++ q :: B ++ C).toArray.setIfInBounds A.length q = ((A ++ [q]) ++ (M ++ [q]) ++ B ++ C).toArray := by
 rw [List.setIfInBounds_toArray];have : A ++ (m :: M) ++ q :: B ++ C = A ++ (m :: (M ++ q :: (B ++ C))) := by simp
 rw [this, List.set_append_right _ _ (Nat.le_refl _)];simp
theorem yI (A M C : List Value) (z : Value) : puts (A ++ M ++ ([] : List Value) ++ C).toArray A.length (List.replicate M.length z) = (A ++ (List.replicate M.length z ++ C)).toArray := by
 rw [bX _ _ _ (by simp)];congr 1;simp [List.take_append_of_le_length, List.drop_append]
theorem mn (nf : Nat) : ∃ n, ∀ {σ} {F : Fam σ} {Δ : DM F} {main s} (L0 : Frag) (f : FuncId) (gf : Func) (c1 c2 : List Value) (xs : List Nat) (test : Nat → Bool) (Q : Nat) (junk : List Value),
   (Q, true, Obj.cells (xs.map ptr ++ junk).toArray 93) ∈ L0 → xs.length ≤ 8 → Tryz.prog.funcs[f]? = some gf → (gf.name == "runtime.NumGoroutine") = false → gf.body.isNone = false →
   (∀ c ∈ xs, ∀ L, ExtQ Q L0 L → CallsL Δ Tryz.prog main f (c1 ++ [ptr c] ++ c2).toArray nf s L (fun s' v L' => s = s' ∧ v = .bool (test c) ∧ Ext L L')) →
   CallsL Δ Tryz.prog main 124 [.slice (some ⟨Q, 0, none⟩) xs.length (xs.length + junk.length), .func (.func f) c1.toArray c2.toArray].toArray n s L0 (fun s' v L' => s = s' ∧ ∃ jk, v = .slice (some ⟨Q, 0, none⟩) (xs.filter fun c => !test c).length (xs.length + junk.length) ∧ ExtQ Q L0 L' ∧ (Q, true, Obj.cells ((xs.filter fun c => !test c).map ptr ++ jk).toArray 93) ∈ L' ∧ (xs.filter fun c => !test c).length + jk.length = xs.length + junk.length) := by
 obtain ⟨n1, g1⟩ := eA nf;apply Exists.intro;intro σ F Δ main s L0 f gf c1 c2 xs test Q junk hQ h8 hf hname hb hc;co_applyP aB 42 Tryz.func124 Tryz.ntmps124;co_applyP ai;co_applyP oy rfl aj;co_applyP aa;co_applyP ai;co_applyP oy rfl ah;co_applyP oy rfl ah;co_applyP oc rfl rfl rfl (g1 L0 f gf c1 c2 xs test (some ⟨Q, 0, none⟩) (xs.length + junk.length) (fun i v hv => ⟨Q, rfl, true, _, _, _, hQ, by rw [List.getElem?_toArray, List.getElem?_append_left (List.getElem?_eq_some_iff.1 hv).1]; exact hv⟩) h8 hf hname hb (fun c hcx L hE => hc c hcx L hE.q));rintro _ _ _ ⟨rfl, rfl, hE1⟩;rename_i L1;co_applyP oy rfl aj;co_applyP aa;co_applyP ar;co_applyP ai;co_applyP oy rfl ah;co_applyP oy rfl aA;co_applyP aa;co_applyP bi rfl;intro hi
 · have hnone : xs.findIdx? test = none := by
     cases h : xs.findIdx? test with
     | none => rfl
     | some i => unfold idxF at hi; rw [h] at hi; simp at hi
   have hall := List.findIdx?_eq_none_iff.1 hnone;have hys : (xs.filter fun c => !test c) = xs := List.filter_eq_self.2 fun c hcx => by simpa using hall c hcx
   co_applyP ai;co_applyP oy rfl ah;co_applyP oy rfl aj;co_applyP aa;co_applyP aI;change ∃ v, resE .. = some v ∧ _;exact ⟨_, rfl, rfl, junk, by rw [hys], hE1.q, by rw [hys]; exact hE1.s _ hQ, by rw [hys]⟩
 intro hi;obtain ⟨i, hsome⟩ : ∃ i, xs.findIdx? test = some i := by
   cases h : xs.findIdx? test with
   | none => unfold idxF at hi; rw [h] at hi; simp at hi
   | some i => exact ⟨i, rfl⟩
 have hidx : idxF test xs = i := by unfold idxF; rw [hsome]
 obtain ⟨hil, hti, hbef⟩ := List.findIdx?_eq_some_iff_getElem.1 hsome;have ei : IntKind.i64.wrap ((i : Int) + 1) = ((i + 1 : Nat) : Int) := by simp [IntKind.wrap_i64]; omega
 rw [hidx];co_applyP aC;co_applyP ar;co_applyP ai;co_applyP oy rfl ah;co_applyP oy rfl a8;co_applyP oy rfl aj;co_applyP aa;co_applyP aJ;rw [ei];have hfi : ((xs.take (i + 1)).filter fun c => !test c) = xs.take i := by
   rw [List.take_add_one, List.filter_append];have h1 : ((xs.take i).filter fun c => !test c) = xs.take i := List.filter_eq_self.2 fun c hcx => by
     obtain ⟨j, hj⟩ := List.getElem?_of_mem hcx;rw [List.getElem?_take] at hj
     split at hj
     · rename_i hlt;obtain ⟨hl, he⟩ := List.getElem?_eq_some_iff.1 hj;have := hbef j hlt;rw [he] at this;simpa using this
     · cases hj
   rw [h1];have h2 : xs[i]?.toList.filter (fun c => !test c) = [] := by simp [hil, hti]
   rw [h2]; simp
 co_applyP bF (fun k s' ε' L' => s' = s ∧ ExtQ Q L0 L' ∧ ∃ l1 l2 mid, xs = l1 ++ l2 ∧ mid.length + (l1.filter fun c => !test c).length = l1.length ∧ 0 < mid.length ∧ l2.length ≤ k ∧ (Q, true, Obj.cells ((l1.filter fun c => !test c).map ptr ++ mid ++ l2.map ptr ++ junk).toArray 93) ∈ L' ∧ kn ε' [(6, .int .i64 l1.length), (5, .int .i64 (l1.filter fun c => !test c).length), (0, .slice (some ⟨Q, 0, none⟩) xs.length (xs.length + junk.length)), (1, .func (.func f) c1.toArray c2.toArray)]) 8
 · refine ⟨rfl, hE1.q, xs.take (i + 1), xs.drop (i + 1), [ptr xs[i]], by simp, by rw [hfi]; simp; omega, by simp, by simp; omega, ?_, ?_⟩
   · rw [hfi];have e0 : (xs.take i).map ptr ++ [ptr xs[i]] ++ (xs.drop (i + 1)).map ptr = xs.map ptr := by
       rw [← List.map_singleton (f := ptr), ← List.map_append, ← List.map_append];congr 1;simp
     rw [e0];exact hE1.s _ hQ
   · have e1 : (xs.take (i + 1)).length = i + 1 := by simp; omega
     have e2 : (xs.take i).length = i := by simp; omega
     rw [hfi, e1, e2]; rfl
 rintro k s' ε' L' ⟨rfl, hE, l1, l2, mid, hl, hm, hm0, hk, hQ', he⟩;co_applyP a0 he;have hlen := congrArg List.length hl;simp only [List.length_append] at hlen;co_applyP ar;co_applyP ai;co_applyP oy rfl ah;co_applyP oy rfl ah;co_applyP oy rfl (bt (hu := U91));co_applyP oy rfl ci;co_applyP aa;co_applyP bi rfl;intro hlt
 · cases l2 with
   | nil => simp at hlt hlen; omega
   | cons q l2 =>
     simp at hlen hk;obtain ⟨m, M, rfl⟩ : ∃ m M, mid = m :: M := by
       cases mid with
       | nil => simp at hm0
       | cons m M => exact ⟨m, M, rfl⟩
     simp only [List.length_cons] at hm;have hav : At L' Q l1.length (ptr q) := by
       refine ⟨true, _, _, _, hQ', ?_⟩;have := yG ((l1.filter fun c => !test c).map ptr) (m :: M) (l2.map ptr) junk (ptr q);rw [show ((l1.filter fun c => !test c).map ptr).length + (m :: M).length = l1.length by rw [List.length_map, List.length_cons]; omega] at this;exact this
     have elen : IntKind.i64.wrap ((l1.length : Int) + 1) = ((l1 ++ [q]).length : Int) := by simp [IntKind.wrap_i64]; omega
     co_applyP aC;co_applyP ar;co_applyP aJ;co_applyP ai;co_applyP oy rfl ah;co_applyP oy rfl ah;co_applyP oy rfl (bu U91 bG);co_applyP oy rfl (aG (ht := cW));co_applyP oy rfl aj;co_applyP aa;co_applyP ai;co_applyP oy rfl ah;co_applyP oy rfl ah;co_applyP ov rfl (vs := [ptr q]) (hf := hf) (hname := hname) (hb := hb) (hcall := hc q (by rw [hl]; simp) L' hE);rintro _ _ _ ⟨rfl, rfl, hE2⟩;co_applyP oy rfl bY;co_applyP aa;change wpE ..;have hQ2 := hE2.s _ hQ';co_applyP bi rfl;intro ht;co_applyP ai;co_applyP oy rfl ah;co_applyP oy rfl ah;co_applyP oy rfl ah;co_applyP oy rfl (bu U91 bG)
     · have ht' : test q = false := by simpa using ht
       co_applyP oeN rfl (fun hnd => eW (hs := bG) (hnd := hnd) (hm := hQ2) (hi := by simp));rintro _ L3 ⟨rfl, hU⟩;co_applyP aa;co_applyP ay;co_applyP oy rfl ah;co_applyP oy rfl a8;co_applyP oy rfl aj;co_applyP aa;co_applyP ay;co_applyP oy rfl ah;co_applyP oy rfl a8;co_applyP oy rfl aj;co_applyP aa;change ∃ k', k' < _ ∧ _;have hfl : ((l1 ++ [q]).filter fun c => !test c) = (l1.filter fun c => !test c) ++ [q] := by simp [ht']
       have elen2 : IntKind.i64.wrap (((l1.filter fun c => !test c).length : Int) + 1) = (((l1 ++ [q]).filter fun c => !test c).length : Int) := by rw [hfl]; simp [IntKind.wrap_i64]; omega
       refine ⟨k - 1, by omega, rfl, (hE.trans hE2.q).trans hU.q, l1 ++ [q], l2, M ++ [ptr q], by simp [hl], by rw [hfl]; simp; omega, by simp, by omega, ?_, ?_⟩
       · have e1 := yH ((l1.filter fun c => !test c).map ptr) M (l2.map ptr) junk m (ptr q);rw [List.length_map] at e1;have := hU.self;rw [hfl, List.map_append];exact (e1 ▸ this)
       · rw [← elen, ← elen2]; rfl
     intro ht;co_applyP aC;co_applyP ay;co_applyP oy rfl ah;co_applyP oy rfl a8;co_applyP oy rfl aj;co_applyP aa;change ∃ k', k' < _ ∧ _;have ht' : test q = true := by simpa using ht
     have hfl : ((l1 ++ [q]).filter fun c => !test c) = (l1.filter fun c => !test c) := by simp [ht']
     refine ⟨k - 1, by omega, rfl, hE.trans hE2.q, l1 ++ [q], l2, (m :: M) ++ [ptr q], by simp [hl], by rw [hfl]; simp; omega, by simp, by omega, ?_, ?_⟩
     · rw [hfl];have e0 : (l1.filter fun c => !test c).map ptr ++ ((m :: M) ++ [ptr q]) ++ l2.map ptr ++ junk = (l1.filter fun c => !test c).map ptr ++ (m :: M) ++ (q :: l2).map ptr ++ junk := by simp
       rw [e0]; exact hQ2
     · rw [← elen, hfl]; rfl
 intro hlt;cases l2 with
 | cons q l2 => simp at hlt hlen; omega
 | nil =>
 have e : l1 = xs := by rw [hl]; simp
 subst e;co_applyP bN;co_applyP ai;co_applyP oy rfl ah;co_applyP oy rfl ah;co_applyP oy rfl (tP U91 bG);have ecut : cutAt 0 (((l1.filter fun c => !test c).length : Nat) : Int).toNat (l1.length + junk.length) 1 = (l1.filter fun c => !test c).length := by unfold cutAt; split <;> omega
 have ecut0 : cutAt 0 0 (l1.length + junk.length) 1 = 0 := by unfold cutAt; split <;> omega
 have en : l1.length - (((l1.filter fun c => !test c).length : Nat) : Int).toNat = mid.length := by omega
 rw [ecut, en];co_applyP oeN rfl (fun hnd => tS (hnd := hnd) (hu := U91) (hz0 := ii) (hzp := rfl) (hm := hQ') (ho := by simp));rintro _ L3 ⟨rfl, hU⟩;co_applyP aa;co_applyP ai;co_applyP oy rfl ah;co_applyP oy rfl ah;co_applyP oy rfl (tO U91 bG);co_applyP oy rfl aj;co_applyP aa;co_applyP aI;change ∃ v, resE .. = some v ∧ _;have e1 := yI ((l1.filter fun c => !test c).map ptr) mid junk (.pointer none);rw [List.length_map] at e1;refine ⟨_, rfl, rfl, List.replicate mid.length (.pointer none) ++ junk, by rw [ecut0]; rfl, hE.trans hU.q, ?_, by simp; omega⟩;have := hU.self;exact (e1 ▸ this)
abbrev Wt := List ((Nat × Nat) × List Nat)
def entsOf (A : Lay) (l : Wt) (bs : List Nat) : Ents := (l.zip bs).map fun e => (e.1.1, slv (A.a (slot e.1.1)) e.1.2.length, e.2)
theorem cp (A : Lay) (S : St) : wobj A S = mapO (entsOf A S.wt A.born) A.clock := by
 unfold wobj mapO entsOf;rw [List.map_map]; rfl
theorem cf (A : Lay) {l1 l2 : Wt} {b1 b2 : List Nat} (h : l1.length = b1.length) : entsOf A (l1 ++ l2) (b1 ++ b2) = entsOf A l1 b1 ++ entsOf A l2 b2 := by
 unfold entsOf; rw [List.zip_append h, List.map_append]
theorem dB (A : Lay) {l : Wt} {b : List Nat} (h : l.length = b.length) : (entsOf A l b).length = l.length := by
 unfold entsOf; simp [h]
theorem jv {k : Nat × Nat} : ∀ {l m : Ents} {i : Nat}, (∀ e ∈ l, e.1 ≠ k) → lk k (l ++ m) i = lk k m (i + l.length)
 | [], m, i, _ => rfl
 | e :: l, m, i, h => by
   have h1 := h e List.mem_cons_self;simp only [List.cons_append, lk, if_neg (Ne.symm h1), List.length_cons];rw [jv fun e he => h e (List.mem_cons_of_mem _ he)];congr 1; omega
theorem il {k : Nat × Nat} {l : Ents} {i : Nat} (h : ∀ e ∈ l, e.1 ≠ k) : lk k l i = none := by
 have := jv (m := []) (i := i) h;rw [List.append_nil] at this;rw [this]; rfl
theorem dC {A : Lay} {l : Wt} {bs : List Nat} {k : Nat × Nat} (h : ∀ e ∈ l, e.1 ≠ k) : ∀ e ∈ entsOf A l bs, e.1 ≠ k := by
 intro e he;unfold entsOf at he;obtain ⟨p, hp, rfl⟩ := List.mem_map.1 he;exact h _ (List.of_mem_zip hp).1
theorem dS {A A' : Lay} {l : Wt} {bs : List Nat} (h : ∀ e ∈ l, A'.a (slot e.1) = A.a (slot e.1)) : entsOf A' l bs = entsOf A l bs := by
 unfold entsOf;apply List.map_congr_left;intro e he;rw [h _ (List.of_mem_zip he).1]
def okKey (k : Nat × Nat) : Prop := k.2 < 10
theorem j3 {k k' : Nat × Nat} (h : okKey k) (h' : okKey k') (e : slot k = slot k') : k = k' := by
 unfold slot at e; unfold okKey at h h';exact Prod.ext (by omega) (by omega)
def Lay.setW (A : Lay) (k : Nat × Nat) (a' : Sl) (born : List Nat) (clock : Nat) : Lay := { A with a := put A.a (slot k) a', born := born, clock := clock }
def St.setW (S : St) (wt : Wt) : St := { S with wt := wt }
structure WLay (A A' : Lay) : Prop where
 a : ∀ i, i < 100 → A'.a i = A.a i
 y : A'.y = A.y
 w : A'.wt = A.wt
 g : A'.g = A.g ∧ A'.gcap = A.gcap ∧ A'.gc = A.gc
theorem WLay.refl (A : Lay) : WLay A A := ⟨fun _ _ => rfl, rfl, rfl, ⟨rfl, rfl, rfl⟩⟩
theorem WLay.set (A : Lay) (k : Nat × Nat) (a' : Sl) (born : List Nat) (clock : Nat) : WLay A (A.setW k a' born clock) := ⟨fun i hi => by simp [Lay.setW, put]; intro e; unfold slot at e; omega, rfl, rfl, ⟨rfl, rfl, rfl⟩⟩
section
variable {K : Nat} {A : Lay} {S : St} {F L L' : Frag}
theorem Rep.setWait (h : Rep K A S F L) {k : Nat × Nat} {a' : Sl} {wt' : Wt} {born' : List Nat} {clock' : Nat} (hf : Fun L') (hs : ∀ t ∈ L, t.1 ≠ A.wt → (A.a (slot k)).b ≠ some t.1 → t ∈ L') (hw : (A.wt, true, mapO (entsOf (A.setW k a' born' clock') wt' born') clock') ∈ L') (hl : born'.length = wt'.length) (hbn : born'.Nodup) (hbc : ∀ x ∈ born', x < clock')
   (ha : ∀ e ∈ wt', (e.1 = k ∧ slOk a' (e.2.map ptr) 93 L') ∨ (e ∈ S.wt ∧ slot e.1 ≠ slot k)) (hal : ∀ b, a'.b = some b → ∃ xs, (b, true, Obj.cells xs 93) ∈ L')
   (hd : ∀ b, a'.b = some b → (A.a (slot k)).b = some b ∨ ((∀ i, (A.a i).b ≠ some b) ∧ ∀ t ∈ F, t.1 ≠ b)) : Rep K (A.setW k a' born' clock') (S.setW wt') F L' := by
 have ty : ∀ {b : Nat} {fl : Bool} {o : Obj}, (b, fl, o) ∈ L → (∀ c, o ≠ Obj.cells c 93) → (A.a (slot k)).b ≠ some b := fun hm ho hb => by
   obtain ⟨xs, hx⟩ := h.al _ _ hb;exact ho _ (h.fn _ _ _ _ _ hm hx).2
 have arr : ∀ (a : Sl) (xs : List Value) (e : TypeId), (∀ b, a.b = some b → (A.a (slot k)).b ≠ some b) → slOk a xs e L → slOk a xs e L' := fun a xs e hne ha => by
   refine ha.mono fun c hc o ho => hs _ ho ?_ (hne c hc);exact h.fn.ne (ha.mem hc) h.w (by simp [wobj])
 have hdn : ∀ i, i ≠ slot k → ∀ b, (A.a i).b = some b → (A.a (slot k)).b ≠ some b := fun i hi b hb e => h.d i (slot k) hi (by rw [hb]; simp) (by rw [hb, e]);have pA : ∀ i, i ≠ slot k → (A.setW k a' born' clock').a i = A.a i := fun i hi => by simp [Lay.setW, put, hi]
 have pS : (A.setW k a' born' clock').a (slot k) = a' := by simp [Lay.setW, put]
 have low : ∀ i, i < 100 → i ≠ slot k := fun i hi e => by unfold slot at e; omega
 have ek : kcells (kst (A.setW k a' born' clock') (S.setW wt')) = kcells (kst A S) := by
   unfold kcells kst;simp only [pA 0 (low 0 (by omega)), pA (0 + 1) (low _ (by omega)), pA (1 + 1) (low _ (by omega)), pA (2 + 1) (low _ (by omega))];rfl
 exact { h with
   fn := hf
   k := by unfold kb; rw [ek]; exact hs _ h.k (h.fn.ne h.k h.w (by simp [wobj])) (ty h.k fun c => aF (by decide))
   g := hs _ h.g (h.fn.ne h.g h.w (by simp [wobj])) (ty h.g fun c => aF (by decide))
   p := fun q hq => hs _ (h.p q hq) (h.fn.ne (h.p q hq) h.w (by simp [wobj])) (ty (h.p q hq) fun c => aF (by decide))
   pa := by rw [pA 0 (low 0 (by omega))]; exact arr _ _ _ (hdn 0 (low 0 (by omega))) h.pa
   rw := fun l hl => by rw [pA _ (low _ (by omega))]; exact arr _ _ _ (hdn _ (low _ (by omega))) (h.rw l hl)
   ya := fun i hi => arr _ _ _ (fun b hb => ty ((h.ya i hi).mem hb) fun c => aF (by decide)) (h.ya i hi)
   w := by rw [cp]; exact hw
   wl := hl
   bn := hbn
   bc := hbc
   wa := fun e he => by
     rcases ha e he with ⟨h1, h2⟩ | ⟨h1, h2⟩
     · rw [h1, pS]; exact h2
     · rw [pA _ h2]; exact arr _ _ _ (hdn _ h2) (h.wa e h1)
   al := fun i c hc => by
     by_cases ei : i = slot k
     · subst ei; rw [pS] at hc; exact hal c hc
     · rw [pA i ei] at hc;obtain ⟨xs, hx⟩ := h.al i c hc;exact ⟨xs, hs _ hx (h.fn.ne hx h.w (by simp [wobj])) (hdn i ei c hc)⟩
   yl := fun i c hc => by
     obtain ⟨xs, hx⟩ := h.yl i c hc;exact ⟨xs, hs _ hx (h.fn.ne hx h.w (by simp [wobj])) (ty hx fun c => aF (by decide))⟩
   d := fun i j hij hi => by
     by_cases ei : i = slot k
     · subst ei;rw [pA j (Ne.symm hij), pS];rw [pS] at hi;intro e;cases hb : a'.b with
       | none => exact hi hb
       | some b =>
         rcases hd b hb with h1 | h1
         · exact h.d (slot k) j hij (by rw [h1]; simp) (by rw [h1, ← e, hb])
         · exact h1.1 j (by rw [← e, hb])
     · rw [pA i ei];rw [pA i ei] at hi;by_cases ej : j = slot k
       · subst ej;rw [pS];intro e;cases hb : a'.b with
         | none => rw [hb] at e; exact hi e
         | some b =>
           rcases hd b hb with h1 | h1
           · exact h.d i (slot k) ei hi (by rw [h1, e, hb])
           · exact h1.1 i (by rw [e, hb])
       · rw [pA j ej]; exact h.d i j hij hi
   fr := fun t ht => hs _ (h.fr t ht) (h.fd t ht).2.2.2.2 ((h.fd t ht).2.2.1 _)
   fd := fun t ht => by
     refine ⟨(h.fd t ht).1, (h.fd t ht).2.1, fun i => ?_, (h.fd t ht).2.2.2⟩;by_cases ei : i = slot k
     · subst ei;rw [pS];intro e;rcases hd _ e with h1 | h1
       · exact (h.fd t ht).2.2.1 _ h1
       · exact h1.2 t ht rfl
     · rw [pA i ei]; exact (h.fd t ht).2.2.1 i }
end
structure WGood (S : St) : Prop where
 kn : (S.wt.map (·.1)).Nodup
 kk : ∀ e ∈ S.wt, okKey e.1
 rl : ∀ e ∈ S.wt, e.2.length ≤ 8
 ne : ∀ e ∈ S.wt, e.2 ≠ []
 rm : ∀ e ∈ S.wt, ∀ c ∈ e.2, ∃ y, (c, y) ∈ S.ps
def departW (b : Nat) (k : Nat × Nat) (l : Wt) : Wt := l.filterMap fun e => if e.1 = k then (if (e.2.filter fun c => !decide (c = b)).length = 0 then none else some (k, e.2.filter fun c => !decide (c = b))) else some e
def St.depart (S : St) (b : Nat) (k : Nat × Nat) : St := S.setW (departW b k S.wt)
theorem dT {b : Nat} {k : Nat × Nat} {l : Wt} (h : ∀ e ∈ l, e.1 ≠ k) : departW b k l = l := by
 unfold departW
 induction l with
 | nil => rfl
 | cons e l ih =>
   rw [List.filterMap_cons_some (by rw [if_neg (h e List.mem_cons_self)])];rw [ih fun e he => h e (List.mem_cons_of_mem _ he)]
theorem j4 {b : Nat} {k : Nat × Nat} {l1 l2 : Wt} {xs : List Nat} (h1 : ∀ e ∈ l1, e.1 ≠ k) (h2 : ∀ e ∈ l2, e.1 ≠ k) : departW b k (l1 ++ (k, xs) :: l2) = l1 ++ ((if (xs.filter fun c => !decide (c = b)).length = 0 then [] else [(k, xs.filter fun c => !decide (c = b))]) ++ l2) := by
 have e1 := dT (b := b) h1;have e2 := dT (b := b) h2;unfold departW at *;rw [List.filterMap_append, e1, List.filterMap_cons, if_pos rfl]
 split
 · rename_i h; split at h
   · rw [if_pos ‹_›, e2]; rfl
   · cases h
 · rename_i h; split at h
   · cases h
   · rw [if_neg ‹_›, e2]; simp at h; rw [← h]; rfl
theorem cr {l : Wt} {k : Nat × Nat} (hn : (l.map (·.1)).Nodup) (h : k ∈ l.map (·.1)) : ∃ l1 xs l2, l = l1 ++ (k, xs) :: l2 ∧ (∀ e ∈ l1, e.1 ≠ k) ∧ ∀ e ∈ l2, e.1 ≠ k := by
 obtain ⟨⟨k', xs⟩, he, rfl⟩ := List.mem_map.1 h;obtain ⟨l1, l2, rfl⟩ := List.append_of_mem he;rw [List.map_append, List.map_cons] at hn;obtain ⟨h1, h2, h3⟩ := List.nodup_append.1 hn;refine ⟨l1, xs, l2, rfl, fun e he e1 => ?_, fun e he e1 => ?_⟩
 · exact h3 e.1 (List.mem_map.2 ⟨e, he, rfl⟩) k' (by simp) e1
 · exact (List.nodup_cons.1 h2).1 (List.mem_map.2 ⟨e, he, e1⟩)
theorem j5 {α : Type} (f : α → α) (e : α) (Y : List α) : ∀ (X : List α), (X ++ e :: Y).modify X.length f = X ++ f e :: Y
 | [] => by simp
 | x :: X => by simp [j5 f e Y X]
theorem eq : Key2 Tryz.prog 96 := by
 refine ⟨⟨_, _, Tryz.underlying96, ⟨by decide, rfl, aY, _, U3⟩, ⟨by decide, rfl, aY, _, U3⟩⟩, by kernel_rfl, fun e a b => by kernel_rfl⟩
theorem io : zeroAt Tryz.prog 91 = some (.slice none 0 0) := by kernel_rfl
theorem upd_same {L L' : Frag} {b : Nat} {o : Obj} (hF : Fun L) (h : (b, true, o) ∈ L) (u : Upd L b o L') : Ext L L' := ⟨u.fn, fun t ht => by
 by_cases e : t.1 = b
 · obtain ⟨b', fl, o'⟩ := t;have e' : b' = b := e;subst e';obtain ⟨rfl, rfl⟩ := hF _ _ _ _ _ ht h;exact u.self
 · exact u.ne t ht e⟩
theorem jm : ∃ n, ∀ {σ} {F : Fam σ} {Δ : DM F} {main s} (L : Frag) (c b x : Nat) (cs cs' : Array Value) (ty ty' : TypeId), At L x 0 (ptr b) → (c, true, Obj.cells cs ty) ∈ L → (b, true, Obj.cells cs' ty') ∈ L →
   CallsL Δ Tryz.prog main 125 [ptr c, ptr x].toArray n s L (fun s' v L' => s = s' ∧ v = .bool (decide (c = b)) ∧ Ext L L') := by
 apply Exists.intro;intro σ F Δ main s L c b x cs cs' ty ty' hx hc hb;co_applyP aB 7 Tryz.func125 Tryz.ntmps125;co_applyP gZ;intro hF;co_applyP ai;co_applyP oy rfl aj;co_applyP aa;co_applyP ai;co_applyP oy rfl ah;co_applyP oy rfl (aG (ht := cW));co_applyP oy rfl (xK hc hb (hu := U93) (hs := xN));co_applyP oy rfl aj;co_applyP aa;co_applyP aI;change ∃ v, resE .. = some v ∧ _;exact ⟨_, rfl, rfl, by simp, hF, fun _ h => h⟩
theorem mq : ∃ n, ∀ {σ} {F : Fam σ} {Δ : DM F} {main s} (L0 : Frag) (f : FuncId) (gf : Func) (c1 c2 : List Value), Tryz.prog.funcs[f]? = some gf → (gf.name == "runtime.NumGoroutine") = false → gf.body.isNone = false →
   CallsL Δ Tryz.prog main 124 [.slice none 0 0, .func (.func f) c1.toArray c2.toArray].toArray n s L0 (fun s' v L' => s = s' ∧ v = .slice none 0 0 ∧ Ext L0 L') := by
 obtain ⟨n1, g1⟩ := eA 0;apply Exists.intro;intro σ F Δ main s L0 f gf c1 c2 hf hname hb;co_applyP aB 42 Tryz.func124 Tryz.ntmps124;co_applyP ai;co_applyP oy rfl aj;co_applyP aa;co_applyP ai;co_applyP oy rfl ah;co_applyP oy rfl ah;co_applyP oc rfl rfl rfl (g1 L0 f gf c1 c2 [] (fun _ => false) none 0 (fun i v hv => by simp at hv) (by simp) hf hname hb (fun c hcx => by simp at hcx));rintro _ _ _ ⟨rfl, rfl, hE1⟩;co_applyP oy rfl aj;co_applyP aa;co_applyP ar (n₂ := 0);co_applyP ai;co_applyP oy rfl ah;co_applyP oy rfl aA;co_applyP aa;co_applyP aS rfl;co_applyP ai;co_applyP oy rfl ah;co_applyP oy rfl aj;co_applyP aa;co_applyP aI;change ∃ v, resE .. = some v ∧ _;exact ⟨_, rfl, rfl, rfl, hE1⟩
theorem uo : ∃ n, ∀ {σ} {F : Fam σ} {Δ : DM F} {main s} (K : Nat) (A : Lay) (S : St) (Fr L : Frag) (b : Nat) (k : Nat × Nat), (∀ cs, (Δ s).New (.cells cs 93)) → (∀ cs, (Δ s).New (.cells cs 96)) → Rep K A S Fr L → (∀ e ∈ S.wt, e.1 ≠ k) →
   CallsL Δ Tryz.prog main 105 [ptr K, ptr b, keyv k].toArray n s L (fun s' v L' => s = s' ∧ v = .tuple #[] ∧ Rep K A S Fr L') := by
 obtain ⟨n1, g1⟩ := mq;apply Exists.intro;intro σ F Δ main s K A S Fr L b k hN hN2 hR hk;co_applyP aB 29 Tryz.func105 Tryz.ntmps105;co_applyP ai;co_applyP bI rfl (bS (hN _));intro xb L1 hA1;co_applyP bI rfl (bS (hN2 _));intro xk L2 hA2;have hR2 := (hR.add hA1).add hA2;have hkx : At L2 K 15 (.map (some A.wt)) := hR2.kat rfl;have hw2 := hR2.w;rw [cp] at hw2;have hkey := dC (A := A) (bs := A.born) hk;co_applyP aa;co_applyP ar;co_applyP bj [] 7 aZ;co_applyP tr (i := 0) rfl ah (ae (by simp));co_applyP tr (i := 1) rfl aK (ae (by simp));co_applyP tr (i := 2) rfl (av (hf := co)) (ae (by simp));co_applyP t0 (i := 3) rfl (aG (ht := dx)) (ae (by simp));co_applyP tr (i := 6) rfl lY (ae (by simp));co_applyP t0 (i := 4) rfl (a5 (ht := bH) (hs := bh) (hm := hA2.self) (hi := Nat.le_refl _)) (ae (by simp));co_applyP t0 (i := 5) rfl (nJ (k := k) eq Tryz.underlying110 io hw2) (ae (by simp));rw [il hkey];co_applyP tc (i := 7) rfl rfl rfl (g1 L2 125 _ [] [ptr xb] Tryz.func125 rfl rfl);rintro _ _ _ ⟨rfl, rfl, hE⟩;refine ⟨aE (by simp), ?_⟩;rename_i L3;have hR3 := hR2.ext hE;have hkx3 := hE.at hkx;have hw3 := hE.s _ hw2;have hk3 := hE.s _ hA2.self;co_applyP to (i := 8) rfl (aj) (aE (by simp));co_applyP td (by kernel_rfl);co_applyP ar (n₂ := 0);co_applyP ai;co_applyP oy rfl ah;co_applyP oy rfl (bt (hu := U91));co_applyP oy rfl aA;co_applyP aa;co_applyP aS rfl;co_applyP ar;co_applyP bj [] 5 (nf := 0) aZ;co_applyP tr (i := 0) rfl ah (ae (by simp));co_applyP tr (i := 1) rfl aK (ae (by simp));co_applyP tr (i := 2) rfl (av (hf := co)) (ae (by simp));co_applyP t0 (i := 3) rfl (aG (ht := dx)) (ae (by simp));co_applyP t0 (i := 4) rfl (a5 (ht := bH) (hs := bh) (hm := hk3) (hi := Nat.le_refl _)) (ae (by simp));co_applyP a7;intro hnd;co_applyP te (i := 5) rfl (xV (k := k) hnd eq Tryz.underlying110 hw3);rintro _ _ ⟨rfl, hU⟩;refine ⟨aE (by simp), ?_⟩;co_applyP td (by kernel_rfl);co_applyP aI;change ∃ v, resE .. = some v ∧ _;have hd : dlk k (entsOf A S.wt A.born) = entsOf A S.wt A.born := by unfold dlk; rw [il hkey]
 rw [hd] at hU;exact ⟨_, rfl, rfl, rfl, hR3.ext (upd_same hR3.fn hw3 hU)⟩
theorem uq : ∃ n, ∀ {σ} {F : Fam σ} {Δ : DM F} {main s} (K : Nat) (A : Lay) (S : St) (Fr L : Frag) (b : Nat) (x : PS) (k : Nat × Nat) (l1 l2 : Wt) (xs : List Nat), (∀ cs, (Δ s).New (.cells cs 93)) → (∀ cs, (Δ s).New (.cells cs 96)) → Rep K A S Fr L → WGood S → (b, x) ∈ S.ps → S.wt = l1 ++ (k, xs) :: l2 → (∀ e ∈ l1, e.1 ≠ k) → (∀ e ∈ l2, e.1 ≠ k) →
   CallsL Δ Tryz.prog main 105 [ptr K, ptr b, keyv k].toArray n s L (fun s' v L' => s = s' ∧ v = .tuple #[] ∧ ∃ A', WLay A A' ∧ Rep K A' (S.depart b k) Fr L') := by
 obtain ⟨n0, g0⟩ := jm;obtain ⟨n1, g1⟩ := mn n0;apply Exists.intro;intro σ F Δ main s K A S Fr L b x k l1 l2 xs hN hN2 hR hW hb hwt hl1 hl2;have hin : (k, xs) ∈ S.wt := by rw [hwt]; simp
 have hkk : okKey k := hW.kk _ hin;have hslot : ∀ e ∈ S.wt, e.1 ≠ k → slot e.1 ≠ slot k := fun e he hne h => hne (j3 (hW.kk e he) hkk h);obtain ⟨b1, c0, b2, hborn, hbl⟩ : ∃ b1 c0 b2, A.born = b1 ++ c0 :: b2 ∧ l1.length = b1.length := by
   have hl := hR.wl;rw [hwt] at hl;simp at hl;refine ⟨A.born.take l1.length, A.born[l1.length]'(by omega), A.born.drop (l1.length + 1), by simp, by simp; omega⟩
 have hbl2 : l2.length = b2.length := by
   have hl := hR.wl;rw [hwt, hborn] at hl;simp at hl;omega
 have hents : entsOf A S.wt A.born = entsOf A l1 b1 ++ (k, slv (A.a (slot k)) xs.length, c0) :: entsOf A l2 b2 := by
   rw [hwt, hborn, cf A hbl]; rfl
 have hlk : lk k (entsOf A S.wt A.born) 0 = some (l1.length, slv (A.a (slot k)) xs.length) := by
   rw [hents, jv (dC hl1), dB A hbl];simp [lk]
 obtain ⟨Q, hQ⟩ : ∃ Q, (A.a (slot k)).b = some Q := by
   cases h : (A.a (slot k)).b with
   | some Q => exact ⟨Q, rfl⟩
   | none =>
     have := hR.wa _ hin;unfold slOk at this;rw [h] at this;have h2 := hW.ne _ hin;simp at this;exact absurd this.1 h2
 have hslv : slv (A.a (slot k)) xs.length = .slice (some ⟨Q, 0, none⟩) xs.length (xs.length + (A.a (slot k)).junk.length) := by unfold slv; rw [hQ]
 rw [hslv] at hlk;co_applyP aB 29 Tryz.func105 Tryz.ntmps105;co_applyP ai;co_applyP bI rfl (bS (hN _));intro xb L1 hA1;co_applyP bI rfl (bS (hN2 _));intro xk L2 hA2;have hR2 := (hR.add hA1).add hA2;have hkx : At L2 K 15 (.map (some A.wt)) := hR2.kat rfl;have hw2 := hR2.w;rw [cp] at hw2;have hQ2 := (hR2.wa _ hin).mem hQ;have hxb : (xb, true, Obj.cells #[ptr b] 93) ∈ L2 := hA2.sub _ hA1.self;have hQ1 : (Q, true, Obj.cells (xs.map ptr ++ (A.a (slot k)).junk).toArray 93) ∈ L1 := ((hR.add hA1).wa _ hin).mem hQ;have hxQ : xb ≠ Q := fun e => hA1.new _ ((hR.wa _ hin).mem hQ) e.symm;have hkQ : xk ≠ Q := fun e => hA2.new _ hQ1 e.symm;have pne : ∀ c y, (c, y) ∈ S.ps → c ≠ Q := fun c y hc => hR2.fn.ne (hR2.p _ hc) hQ2 (aF (by decide));have hKQ : K ≠ Q := hR2.fn.ne hR2.k hQ2 (aF (by decide));have hwQ : A.wt ≠ Q := hR2.fn.ne hw2 hQ2 (by simp [mapO]);co_applyP aa;co_applyP ar;co_applyP bj [] 7 aZ;co_applyP tr (i := 0) rfl ah (ae (by simp));co_applyP tr (i := 1) rfl aK (ae (by simp));co_applyP tr (i := 2) rfl (av (hf := co)) (ae (by simp));co_applyP t0 (i := 3) rfl (aG (ht := dx)) (ae (by simp));co_applyP tr (i := 6) rfl lY (ae (by simp));co_applyP t0 (i := 4) rfl (a5 (ht := bH) (hs := bh) (hm := hA2.self) (hi := Nat.le_refl _)) (ae (by simp));co_applyP t0 (i := 5) rfl (nJ (k := k) eq Tryz.underlying110 io hw2) (ae (by simp));rw [hlk];co_applyP tc (i := 7) rfl rfl rfl (g1 L2 125 _ [] [ptr xb] xs (fun c => decide (c = b)) Q (A.a (slot k)).junk hQ2 (hW.rl _ hin) Tryz.func125 rfl rfl (fun c hc L hE => by obtain ⟨y, hy⟩ := hW.rm _ hin c hc; exact g0 L c b xb _ _ _ _ ⟨true, _, _, _, hE.s _ hxb hxQ, rfl⟩ (hE.s _ (hR2.p _ hy) (pne _ _ hy)) (hE.s _ (hR2.p _ hb) (pne _ _ hb))));rintro _ _ _ ⟨rfl, jk, rfl, hE, hQ3, hjk⟩;refine ⟨aE (by simp), ?_⟩;rename_i L3;have hk3 := hE.s _ hA2.self hkQ;have hw3 := hE.s _ hw2 hwQ;have hkx3 : At L3 K 15 (.map (some A.wt)) := ⟨true, _, _, _, hE.s _ hR2.k hKQ, rfl⟩;have hdep : S.depart b k = S.setW (l1 ++ ((if (xs.filter fun c => !decide (c = b)).length = 0 then [] else [(k, xs.filter fun c => !decide (c = b))]) ++ l2)) := by unfold St.depart; rw [hwt, j4 hl1 hl2]
 have hAs : ∀ (a' : Sl) (bo : List Nat) (cl : Nat) (l : Wt) (bs : List Nat), (∀ e ∈ l, e ∈ S.wt ∧ e.1 ≠ k) → entsOf (A.setW k a' bo cl) l bs = entsOf A l bs := fun a' bo cl l bs h => dS fun e he => by
   have := hslot e (h e he).1 (h e he).2;simp [Lay.setW, put, this]
 have hi1 : ∀ e ∈ l1, e ∈ S.wt ∧ e.1 ≠ k := fun e he => ⟨by rw [hwt]; simp [he], hl1 e he⟩;have hi2 : ∀ e ∈ l2, e ∈ S.wt ∧ e.1 ≠ k := fun e he => ⟨by rw [hwt]; simp [he], hl2 e he⟩;co_applyP to (i := 8) rfl (aj) (aE (by simp));co_applyP td (by kernel_rfl);co_applyP ar;co_applyP ai;co_applyP oy rfl ah;co_applyP oy rfl (bt (hu := U91));co_applyP oy rfl aA;co_applyP aa;co_applyP bi rfl;intro hc;co_applyP ar
 · have hz : (xs.filter fun c => !decide (c = b)).length = 0 := by simpa using hc
   co_applyP bj [] 5 (nf := 0) aZ;co_applyP tr (i := 0) rfl ah (ae (by simp));co_applyP tr (i := 1) rfl aK (ae (by simp));co_applyP tr (i := 2) rfl (av (hf := co)) (ae (by simp));co_applyP t0 (i := 3) rfl (aG (ht := dx)) (ae (by simp));co_applyP t0 (i := 4) rfl (a5 (ht := bH) (hs := bh) (hm := hk3) (hi := Nat.le_refl _)) (ae (by simp));co_applyP a7;intro hnd;co_applyP te (i := 5) rfl (xV (k := k) hnd eq Tryz.underlying110 hw3);rintro _ _ ⟨rfl, hU⟩;refine ⟨aE (by simp), ?_⟩;co_applyP td (by kernel_rfl);co_applyP aI;change ∃ v, resE .. = some v ∧ _;have hd : dlk k (entsOf A S.wt A.born) = entsOf A (l1 ++ l2) (b1 ++ b2) := by
     unfold dlk; rw [hlk, hents, cf A hbl];simp only;rw [List.eraseIdx_append_of_length_le (by rw [dB A hbl]; omega), dB A hbl];simp
   rw [hd] at hU;refine ⟨_, rfl, rfl, rfl, A.setW k ⟨none, []⟩ (b1 ++ b2) A.clock, WLay.set A k _ _ _, ?_⟩;rw [hdep, if_pos hz, List.nil_append];have hbs : (b1 ++ b2).Sublist A.born := by rw [hborn]; exact List.Sublist.append (List.Sublist.refl _) (List.sublist_cons_self _ _)
   refine hR2.setWait hU.fn (fun t ht h1 h2 => hU.ne _ (hE.s _ ht (fun e => h2 (by rw [hQ, e]))) h1) ?_ (by simp; omega) (hR.bn.sublist hbs) (fun x hx => hR.bc x (hbs.subset hx)) ?_ (fun b hb => by cases hb) (fun b hb => by cases hb)
   · rw [hAs _ _ _ _ _ (fun e he => (List.mem_append.1 he).elim (hi1 e) (hi2 e))];exact hU.self
   · intro e he;have := (List.mem_append.1 he).elim (hi1 e) (hi2 e);exact .inr ⟨this.1, hslot e this.1 this.2⟩
 intro hc;co_applyP aC;change wpE ..;have hz : ¬ (xs.filter fun c => !decide (c = b)).length = 0 := by simpa using hc
 co_applyP bj [] 6 (nf := 0) aZ;co_applyP tr (i := 0) rfl ah (ae (by simp));co_applyP tr (i := 1) rfl aK (ae (by simp));co_applyP tr (i := 2) rfl (av (hf := co)) (ae (by simp));co_applyP t0 (i := 3) rfl (aG (ht := dx)) (ae (by simp));co_applyP tr (i := 5) rfl ah (ae (by simp));co_applyP t0 (i := 4) rfl (a5 (ht := bH) (hs := bh) (hm := hk3) (hi := Nat.le_refl _)) (ae (by simp));co_applyP a7;intro hnd;co_applyP te (i := 6) rfl (Bg (k := k) hnd eq Tryz.underlying110 hw3);rintro _ _ ⟨rfl, hU⟩;refine ⟨aE (by simp), ?_⟩;co_applyP td (by kernel_rfl);change ∃ v, resE .. = some v ∧ _;have hnew : upk k (.slice (some ⟨Q, 0, none⟩) (xs.filter fun c => !decide (c = b)).length (xs.length + (A.a (slot k)).junk.length)) (entsOf A S.wt A.born) A.clock = mapO (entsOf (A.setW k ⟨some Q, jk⟩ A.born A.clock) (l1 ++ (k, xs.filter fun c => !decide (c = b)) :: l2) A.born) A.clock := by
   unfold upk; rw [hlk, hents, hborn, cf _ hbl];simp only;congr 1;rw [← dB A hbl, j5, hAs _ _ _ _ _ hi1];congr 1;show _ = (k, slv ((A.setW k ⟨some Q, jk⟩ (b1 ++ c0 :: b2) A.clock).a (slot k)) _, c0) :: entsOf (A.setW k ⟨some Q, jk⟩ (b1 ++ c0 :: b2) A.clock) l2 b2;rw [hAs _ _ _ _ _ hi2];have e1 : (A.setW k ⟨some Q, jk⟩ (b1 ++ c0 :: b2) A.clock).a (slot k) = ⟨some Q, jk⟩ := by simp [Lay.setW, put]
   rw [e1];unfold slv;simp only;rw [hjk]
 rw [hnew] at hU;refine ⟨_, rfl, rfl, rfl, A.setW k ⟨some Q, jk⟩ A.born A.clock, WLay.set A k _ _ _, ?_⟩;rw [hdep, if_neg hz, List.singleton_append];refine hR2.setWait hU.fn (fun t ht h1 h2 => hU.ne _ (hE.s _ ht (fun e => h2 (by rw [hQ, e]))) h1) hU.self (by rw [hR.wl, hwt]; simp) hR.bn hR.bc ?_ (fun b hb => ?_) (fun b hb => .inl (by rw [hQ]; exact hb))
 · intro e he;rcases List.mem_append.1 he with h | h
   · exact .inr ⟨(hi1 e h).1, hslot e (hi1 e h).1 (hi1 e h).2⟩
   · rcases List.mem_cons.1 h with rfl | h
     · exact .inl ⟨rfl, hU.ne _ hQ3 (Ne.symm hwQ)⟩
     · exact .inr ⟨(hi2 e h).1, hslot e (hi2 e h).1 (hi2 e h).2⟩
 · obtain rfl : Q = b := by simpa using hb
   exact ⟨_, hU.ne _ hQ3 (Ne.symm hwQ)⟩
end Go.Proofs.YtejkelcaljmnoaaGreatDoor
namespace Go.Lo
open Go.Conc Go.Hx
section
variable {P : Program} {New : Obj → Prop} {N : Nat} {ε : Env} {L : Frag} {d : Option Tmp} {ty : TypeId} {ps : String} {af : Array Edge} {g : Option (Nat × Bool)}
theorem Ai {t : TypeId} {x : Operand} {w v : Value} (hv : evR P (Instr.sliceAt t w none none none) [] = some (v, [])) (hx : ev ε x = some w := by rfl) : EY P N ε L ⟨d, .slice t x none none none, ty, ps, af, g⟩ v := fun a ha => by
 refine cF (fun _ => rfl) fun K hK => ?_;show wpQ P (Instr.sliceAt t (a.eval x) none none none) K L;rw [ha.ev hx];exact a9 hv hK
theorem xW {t u : TypeId} {x y : Operand} {k k' : Nat × Nat} (H : Key2 P t) (hg : ∀ x y, evR P (eqGuard .eql t x y (kv k) (kv k')) [] = some ((), [])) (hx : ev ε x = some (kv k) := by rfl) (hy : ev ε y = some (kv k') := by rfl) : EY P N ε L ⟨d, .binOp .eql t x y u, ty, ps, af, g⟩ (.bool (decide (k = k'))) := fun a ha => by
 refine cF (fun _ => rfl) fun K hQ => ?_;rw [ha.ev hx, ha.ev hy, ax];refine a9 (hg _ _) ?_;show wpQ P (do pure (.bool (← Op.equal t (kv k) (kv k')))) K L;rw [ax];exact ll H hQ
end
end Go.Lo
namespace Go.Proofs.YtejkelcaljmnoaaGreatDoor
open Go.Conc Go.Hx Go.Lo
theorem xX (k k' : Nat × Nat) (x y : Operand) : evR Tryz.prog (eqGuard .eql 96 x y (kv k) (kv k')) [] = some ((), []) := by kernel_rfl
theorem Bh (b : Nat) : evR Tryz.prog (Instr.sliceAt 97 (.pointer (some ⟨b, 79, none⟩)) none none none) [] = some (.slice (some ⟨b, 79, none⟩) 6 6, []) := by kernel_rfl
def PS.idxE (x : PS) (k : Nat × Nat) : Int := match (List.range 6).findIdx? fun i => decide (k = x.f i) with
 | some i => i
 | none => -1
def PS.has (x : PS) (k : Nat × Nat) : Bool := (List.range 6).any fun i => decide (k = x.f i)
theorem ur (x : PS) (k : Nat × Nat) : decide (0 ≤ x.idxE k) = x.has k := by
 unfold PS.idxE PS.has;cases h : (List.range 6).findIdx? fun i => decide (k = x.f i) with
 | none =>
   have := List.findIdx?_eq_none_iff.1 h;rw [List.any_eq_false.2 fun i hi => by simpa using this i hi];rfl
 | some i =>
   obtain ⟨h1, h2, _⟩ := List.findIdx?_eq_some_iff_getElem.1 h;rw [List.any_eq_true.2 ⟨_, List.getElem_mem h1, h2⟩];simp
theorem ut : ∃ n, ∀ {σ} {F : Fam σ} {Δ : DM F} {main s} (L : Frag) (b : Nat) (x : PS) (k : Nat × Nat), (∀ cs, (Δ s).New (.cells cs 96)) → pb b x ∈ L →
   CallsL Δ Tryz.prog main 173 [.slice (some ⟨b, 79, none⟩) 6 6, keyv k].toArray n s L (fun s' v L' => s = s' ∧ v = .int .i64 (x.idxE k) ∧ Ext L L') := by
 apply Exists.intro;intro σ F Δ main s L b x k hN hb;co_applyP aB 19 Tryz.func173 Tryz.ntmps173;co_applyP ai;co_applyP bI rfl (bS (hN _));intro xk L1 hA;have hb1 := hA.sub _ hb;co_applyP oy rfl aj;co_applyP aa;co_applyP ar;co_applyP ai;co_applyP oy rfl ah;co_applyP oy rfl (bt (hu := Tryz.underlying250));co_applyP oy rfl ah;co_applyP aa;co_applyP aJ;co_applyP bF (fun c s' ε' L' => s' = s ∧ L' = L1 ∧ ∃ i, i ≤ 6 ∧ (∀ j, j < i → k ≠ x.f j) ∧ c + i = 6 ∧ kn ε' [(8, .int .i64 (i : Nat)), (7, .int .i64 6), (0, .slice (some ⟨b, 79, none⟩) 6 6), (3, ptr xk)]) 6
 · exact ⟨rfl, rfl, 0, by omega, fun j hj => by omega, rfl, rfl⟩
 rintro c s' ε' L' ⟨rfl, rfl, i, hi, hn, hc, he⟩;co_applyP a0 he;co_applyP ai;co_applyP oy rfl ci;co_applyP aa;co_applyP ar;co_applyP bi rfl;intro hlt
 · have hi6 : i < 6 := by simp at hlt; omega
   have ei : IntKind.i64.wrap ((i : Int) + 1) = ((i + 1 : Nat) : Int) := by simp [IntKind.wrap_i64]; omega
   have eo : 79 + i * 2 = 79 + 2 * i := by omega
   co_applyP aC;co_applyP ar;co_applyP aJ;co_applyP ai;co_applyP oy rfl ah;co_applyP oy rfl aj;co_applyP aa;co_applyP ar;co_applyP bk aZ;co_applyP tr (i := 0) rfl (a5 (ht := bH) (hs := bh) (hm := hA.self) (hi := Nat.le_refl _)) pI;co_applyP tr (i := 1) rfl ah pI;co_applyP tr (i := 2) rfl ah pI;co_applyP tr (i := 3) rfl (bu Tryz.underlying250 bh) pI;co_applyP tr (i := 4) rfl (a5 (ht := bH) (hs := bh) (hm := hb1) (hi := by rw [bd]; omega)) pI;rw [eo, pj x hi6];co_applyP tr (i := 5) rfl (xW (k := k) (k' := x.f i) eq (xX k (x.f i))) pI;co_applyP td (by kernel_rfl);co_applyP bi rfl;intro ht;co_applyP ai;co_applyP oy rfl ah;co_applyP oy rfl aj;co_applyP aa;co_applyP aI;change ∃ v, resE .. = some v ∧ _
   · have ht' : k = x.f i := by simpa using ht
     have e1 : x.idxE k = i := by
       unfold PS.idxE;have : ((List.range 6).findIdx? fun i => decide (k = x.f i)) = some i := by
         rw [List.findIdx?_eq_some_iff_getElem];refine ⟨by simpa using hi6, by simpa using ht', fun j hj => by simpa using hn j hj⟩
       rw [this]
     exact ⟨_, rfl, rfl, by rw [e1], hA.fn, hA.sub⟩
   intro ht;co_applyP aC;co_applyP ay;co_applyP oy rfl a8;co_applyP oy rfl ah;co_applyP aa;change ∃ k', k' < _ ∧ _;have ht' : ¬ k = x.f i := by simpa using ht
   refine ⟨c - 1, by omega, rfl, rfl, i + 1, by omega, fun j hj => ?_, by omega, by rw [← ei]; rfl⟩;by_cases e : j = i
   · rw [e]; exact ht'
   · exact hn j (by omega)
 intro hlt;co_applyP bN;co_applyP ai;co_applyP oy rfl aj;co_applyP aa;co_applyP aI;change ∃ v, resE .. = some v ∧ _;have hi6 : i = 6 := by simp at hlt; omega
 subst hi6;have e1 : x.idxE k = -1 := by
   unfold PS.idxE;rw [List.findIdx?_eq_none_iff.2 fun j hj => by simpa using hn j (by simpa using hj)]
 exact ⟨_, rfl, rfl, by rw [e1], hA.fn, hA.sub⟩
theorem nK : ∃ n, ∀ {σ} {F : Fam σ} {Δ : DM F} {main s} (L : Frag) (b : Nat) (x : PS) (k : Nat × Nat), (∀ cs, (Δ s).New (.cells cs 96)) → pb b x ∈ L →
   CallsL Δ Tryz.prog main 168 [.slice (some ⟨b, 79, none⟩) 6 6, keyv k].toArray n s L (fun s' v L' => s = s' ∧ v = .bool (x.has k) ∧ Ext L L') := by
 obtain ⟨n1, g1⟩ := ut;apply Exists.intro;intro σ F Δ main s L b x k hN hb;co_applyP aB 9 Tryz.func168 Tryz.ntmps168;co_applyP ai;co_applyP bI rfl (bS (hN _));intro xk L1 hA;co_applyP oy rfl aj;co_applyP aa;co_applyP ai;co_applyP oy rfl ah;co_applyP oy rfl (a5 (ht := bH) (hs := bh) (hm := hA.self) (hi := Nat.le_refl _));co_applyP oc rfl rfl rfl (g1 L1 b x k hN (hA.sub _ hb));rintro _ _ _ ⟨rfl, rfl, hE⟩;co_applyP oy rfl d8;co_applyP oy rfl aj;co_applyP aa;co_applyP aI;change ∃ v, resE .. = some v ∧ _;exact ⟨_, rfl, rfl, by rw [← ur], Ext.trans ⟨hA.fn, hA.sub⟩ hE⟩
theorem kY : ∃ n, ∀ {σ} {F : Fam σ} {Δ : DM F} {main s} (L : Frag) (b xk : Nat) (x : PS) (k : Nat × Nat), (∀ cs, (Δ s).New (.cells cs 96)) → pb b x ∈ L → (xk, true, Obj.cells (keyv k).cells 96) ∈ L →
   CallsL Δ Tryz.prog main 167 [ptr b, ptr xk].toArray n s L (fun s' v L' => s = s' ∧ v = .bool (x.has k) ∧ Ext L L') := by
 obtain ⟨n1, g1⟩ := nK;apply Exists.intro;intro σ F Δ main s L b xk x k hN hb hk;co_applyP aB 10 Tryz.func167 Tryz.ntmps167;co_applyP ai;co_applyP oy rfl aj;co_applyP aa;co_applyP ar;co_applyP bj [] 5 aZ;co_applyP tr (i := 0) rfl ah (ae (by simp));co_applyP tr (i := 1) rfl aK (ae (by simp));co_applyP tr (i := 2) rfl (av (hf := dR)) (ae (by simp));co_applyP tr (i := 3) rfl (Ai (Bh b)) (ae (by simp));co_applyP t0 (i := 4) rfl (a5 (ht := bH) (hs := bh) (hm := hk) (hi := Nat.le_refl _)) (ae (by simp));co_applyP tc (i := 5) rfl rfl rfl (g1 L b x k hN hb);rintro _ _ _ ⟨rfl, rfl, hE⟩;refine ⟨aE (by simp), ?_⟩;co_applyP to (i := 6) rfl (aj) (aE (by simp));co_applyP td (by kernel_rfl);co_applyP aI;change ∃ v, resE .. = some v ∧ _;exact ⟨_, rfl, rfl, rfl, hE⟩
theorem uv (test : Nat → Bool) (xs : List Nat) : decide (0 ≤ idxF test xs) = xs.any test := by
 unfold idxF;cases h : xs.findIdx? test with
 | none =>
   have := List.findIdx?_eq_none_iff.1 h;rw [List.any_eq_false.2 fun i hi => by simpa using this i hi];rfl
 | some i =>
   obtain ⟨h1, h2, _⟩ := List.findIdx?_eq_some_iff_getElem.1 h;rw [List.any_eq_true.2 ⟨_, List.getElem_mem h1, h2⟩];simp
theorem di (nf : Nat) : ∃ n, ∀ {σ} {F : Fam σ} {Δ : DM F} {main s} (L0 : Frag) (f : FuncId) (gf : Func) (c1 c2 : List Value) (xs : List Nat) (test : Nat → Bool) (base : Option Addr) (cap : Nat),
   (∀ i v, (xs.map ptr)[i]? = some v → ∃ b, base = some ⟨b, 0, none⟩ ∧ At L0 b i v) → xs.length ≤ 8 → Tryz.prog.funcs[f]? = some gf → (gf.name == "runtime.NumGoroutine") = false → gf.body.isNone = false →
   (∀ c ∈ xs, ∀ L, Ext L0 L → CallsL Δ Tryz.prog main f (c1 ++ [ptr c] ++ c2).toArray nf s L (fun s' v L' => s = s' ∧ v = .bool (test c) ∧ Ext L L')) →
   CallsL Δ Tryz.prog main 149 [.slice base xs.length cap, .func (.func f) c1.toArray c2.toArray].toArray n s L0 (fun s' v L' => s = s' ∧ v = .bool (xs.any test) ∧ Ext L0 L') := by
 obtain ⟨n1, g1⟩ := eA nf;apply Exists.intro;intro σ F Δ main s L0 f gf c1 c2 xs test base cap hat h8 hf hname hb hc;co_applyP aB 9 Tryz.func149 Tryz.ntmps149;co_applyP ai;co_applyP oy rfl aj;co_applyP aa;co_applyP ai;co_applyP oy rfl ah;co_applyP oy rfl ah;co_applyP oc rfl rfl rfl (g1 L0 f gf c1 c2 xs test base cap hat h8 hf hname hb hc);rintro _ _ _ ⟨rfl, rfl, hE⟩;co_applyP oy rfl d8;co_applyP oy rfl aj;co_applyP aa;co_applyP aI;change ∃ v, resE .. = some v ∧ _;exact ⟨_, rfl, rfl, by rw [← uv], hE⟩
def St.isOpen (S : St) (k : Nat × Nat) : Bool := S.ps.any fun q => q.2.has k
def St.testB (S : St) (p : PS → Bool) (c : Nat) : Bool := match S.get c with
 | some y => p y
 | none => false
theorem fO {S : St} (hn : (S.ps.map (·.1)).Nodup) (p : PS → Bool) : (S.ps.map (·.1)).any (S.testB p) = S.ps.any fun q => p q.2 := by
 rw [List.any_map];rw [Bool.eq_iff_iff, List.any_eq_true, List.any_eq_true];constructor
 · rintro ⟨q, hq, h⟩;refine ⟨q, hq, ?_⟩;simpa [Function.comp, St.testB, bf hn (b := q.1) (x := q.2) hq] using h
 · rintro ⟨q, hq, h⟩;refine ⟨q, hq, ?_⟩;simpa [Function.comp, St.testB, bf hn (b := q.1) (x := q.2) hq] using h
theorem ip : ∃ n, ∀ {σ} {F : Fam σ} {Δ : DM F} {main s} (K : Nat) (A : Lay) (S : St) (Fr L : Frag) (k : Nat × Nat), (∀ cs, (Δ s).New (.cells cs 96)) → Rep K A S Fr L →
   CallsL Δ Tryz.prog main 161 [ptr K, keyv k].toArray n s L (fun s' v L' => s = s' ∧ v = .bool (S.isOpen k) ∧ Ext L L') := by
 obtain ⟨n0, g0⟩ := kY;obtain ⟨n1, g1⟩ := di n0;apply Exists.intro;intro σ F Δ main s K A S Fr L k hN hR;co_applyP aB 11 Tryz.func161 Tryz.ntmps161;co_applyP ai;co_applyP bI rfl (bS (hN _));intro xk L1 hA;have hR1 := hR.add hA;obtain ⟨base, cap, hv, hat0⟩ := br hR1.pa;simp only [List.length_map] at hv;have h5 : At L1 K 5 (.slice base (S.ps.map (·.1)).length cap) := by rw [List.length_map, ← hv]; exact hR1.kat rfl
 co_applyP oy rfl aj;co_applyP aa;co_applyP ai;co_applyP oy rfl ah;co_applyP oy rfl aK;co_applyP oy rfl (av (hf := bJ));co_applyP oy rfl (aG (ht := cV));co_applyP oy rfl lY;have hcl : ∀ c ∈ S.ps.map (·.1), ∀ L, Ext L1 L → CallsL Δ Tryz.prog main 167 ([] ++ [ptr c] ++ [ptr xk]).toArray n0 s L (fun s' v L' => s = s' ∧ v = .bool (S.testB (fun y => y.has k) c) ∧ Ext L L') := by
   intro c hc L hE;obtain ⟨q, hq, rfl⟩ := List.mem_map.1 hc;have e : S.testB (fun y => y.has k) q.1 = q.2.has k := by simp [St.testB, bf hR1.pn (b := q.1) (x := q.2) hq]
   rw [e];exact g0 L q.1 xk q.2 k hN (hE.s _ (hR1.p _ hq)) (hE.s _ hA.self)
 co_applyP oc rfl rfl rfl (g1 L1 167 _ [] [ptr xk] (S.ps.map (·.1)) (S.testB fun y => y.has k) base cap (fun i v hv => by obtain ⟨b, _, h2, h3⟩ := hat0 i v (by simpa using hv); exact ⟨b, h2, h3⟩) (by simpa using hR1.p8) Tryz.func167 rfl rfl hcl);rintro _ _ _ ⟨rfl, rfl, hE⟩;co_applyP oy rfl aj;co_applyP aa;co_applyP aI;change ∃ v, resE .. = some v ∧ _;exact ⟨_, rfl, rfl, by rw [fO hR1.pn]; rfl, Ext.trans ⟨hA.fn, hA.sub⟩ hE⟩
theorem j6 : ∃ n, ∀ {σ} {F : Fam σ} {Δ : DM F} {main s} (K : Nat) (A : Lay) (S : St) (Fr L : Frag) (b : Nat) (x : PS) (k : Nat × Nat), (∀ cs, (Δ s).New (.cells cs 93)) → (∀ cs, (Δ s).New (.cells cs 96)) → Rep K A S Fr L → WGood S → (b, x) ∈ S.ps →
   CallsL Δ Tryz.prog main 105 [ptr K, ptr b, keyv k].toArray n s L (fun s' v L' => s = s' ∧ v = .tuple #[] ∧ ∃ A', WLay A A' ∧ Rep K A' (S.depart b k) Fr L') := by
 obtain ⟨n0, g0⟩ := uo;obtain ⟨n1, g1⟩ := uq;refine ⟨n0 + n1, fun {σ F Δ main s} K A S Fr L b x k hN hN2 hR hW hb => aO (∀ e ∈ S.wt, e.1 ≠ k) (fun h => ?_) fun h => ?_⟩
 · refine aR (g0 K A S Fr L b k hN hN2 hR h) fun s' v L' ⟨h1, h2, h3⟩ => ⟨h1, h2, A, WLay.refl A, ?_⟩;have e : S.depart b k = S := by unfold St.depart; rw [dT h]; rfl
   rw [e]; exact h3
 · have hk : k ∈ S.wt.map (·.1) := by
     refine Decidable.byContradiction fun hn => h fun e he e1 => hn (List.mem_map.2 ⟨e, he, e1⟩)
   obtain ⟨l1, xs, l2, h1, h2, h3⟩ := cr hW.kn hk;exact g1 K A S Fr L b x k l1 l2 xs hN hN2 hR hW hb h1 h2 h3
theorem dj (a b : Int) : evR Tryz.prog (Instr.build 96 [(0, .int .i64 a), (1, .int .i64 b)].toArray) [] = some (.agg #[.int .i64 a, .int .i64 b], []) := by kernel_rfl
def otherE (k : Nat × Nat) : Nat × Nat := if k.2 = 4 then (k.1, 5) else (k.1, 4)
theorem mr : ∃ n, ∀ {σ} {F : Fam σ} {Δ : DM F} {main s} (L : Frag) (k : Nat × Nat), (∀ cs, (Δ s).New (.cells cs 96)) →
   CallsM Δ Tryz.prog main 171 [keyv k].toArray n s L (fun s' v L' => s = s' ∧ v = keyv (otherE k) ∧ Ext L L') := by
 apply Exists.intro;intro σ F Δ main s L k hN;co_applyP mm 12 Tryz.func171 Tryz.ntmps171;co_applyP ai;co_applyP bI rfl (bS (hN _));intro xk L1 hA1;co_applyP bI rfl (dL (z := keyv (0, 0)) (hN _));intro xr L2 hA2;have hk2 := hA2.sub _ hA1.self;have h0 : At L2 xk 0 (.int .i64 (k.1 : Nat)) := ⟨true, _, _, _, hk2, rfl⟩;have h1 : At L2 xk 1 (.int .i64 (k.2 : Nat)) := ⟨true, _, _, _, hk2, rfl⟩;co_applyP aa;co_applyP ar;co_applyP ai;co_applyP oy rfl (av (hf := ie));co_applyP oy rfl (aG (ht := aY));co_applyP oy rfl aA;co_applyP aa;co_applyP bi rfl;intro hc;co_applyP ai;co_applyP oy rfl (av (hf := dF));co_applyP oy rfl (aG (ht := aY))
 · have h4 : k.2 = 4 := by have : (k.2 : Int) = 4 := by simpa using hc
                           omega
   co_applyP oy rfl (bl (dj _ _));co_applyP oeN rfl (fun hnd => eY (hs := bh) (vs := [.int .i64 (k.1 : Nat), .int .i64 5]) (hnd := hnd) (hm := hA2.self) (hi := Nat.le_refl _));rintro _ L3 ⟨rfl, hU⟩;co_applyP aa;co_applyP aI;change ∃ v, resM _ _ _ _ v ∧ _;refine ⟨_, ⟨_, _, xr, 0, 2, true, _, _, rfl, rfl, bH, bh, hU.self, Nat.le_refl _, rfl⟩, rfl, by simp [otherE, h4]; rfl, hU.fn, fun t ht => hU.ne _ (hA2.sub _ (hA1.sub _ ht)) (hA2.new _ (hA1.sub _ ht))⟩
 intro hc;co_applyP aC;co_applyP ai;co_applyP oy rfl (av (hf := dF));co_applyP oy rfl (aG (ht := aY))
 have h4 : ¬ k.2 = 4 := by have : ¬ (k.2 : Int) = 4 := by simpa using hc
                           omega
 co_applyP oy rfl (bl (dj _ _));co_applyP oeN rfl (fun hnd => eY (hs := bh) (vs := [.int .i64 (k.1 : Nat), .int .i64 4]) (hnd := hnd) (hm := hA2.self) (hi := Nat.le_refl _));rintro _ L3 ⟨rfl, hU⟩;co_applyP aa;co_applyP aI;change ∃ v, resM _ _ _ _ v ∧ _;refine ⟨_, ⟨_, _, xr, 0, 2, true, _, _, rfl, rfl, bH, bh, hU.self, Nat.le_refl _, rfl⟩, rfl, by simp [otherE, h4]; rfl, hU.fn, fun t ht => hU.ne _ (hA2.sub _ (hA1.sub _ ht)) (hA2.new _ (hA1.sub _ ht))⟩
def St.canBeDone (S : St) (x : PS) (k : Nat × Nat) : Bool := if S.isOpen (otherE k) then (if k.2 = 4 then decide (0 < (S.by_ k.1).length) else decide (((S.by_ k.1).length : Int) + x.r 2 ≤ 8)) else true
theorem qt (k : KS) {i : Nat} (hi : i < 5) : (kcells k)[10 + i]? = some (k.by_ i) := by
 rcases i with _ | _ | _ | _ | _ | i
 · rfl
 · rfl
 · rfl
 · rfl
 · rfl
 · omega
theorem fx : ∃ n, ∀ {σ} {F : Fam σ} {Δ : DM F} {main s} (K : Nat) (A : Lay) (S : St) (Fr L : Frag) (b : Nat) (x : PS) (k : Nat × Nat), (∀ cs, (Δ s).New (.cells cs 96)) → Rep K A S Fr L → (b, x) ∈ S.ps → WF x → k.1 < 5 → (S.by_ k.1).length ≤ 8 →
   CallsL Δ Tryz.prog main 165 [ptr K, ptr b, keyv k].toArray n s L (fun s' v L' => s = s' ∧ v = .bool (S.canBeDone x k) ∧ Ext L L') := by
 obtain ⟨n0, g0⟩ := mr;obtain ⟨n1, g1⟩ := ip;apply Exists.intro;intro σ F Δ main s K A S Fr L b x k hN hR hb hx hk5 h8;obtain ⟨base, cap, hv, _⟩ : ∃ base cap, slv (A.y k.1) (S.by_ k.1).length = .slice base (S.by_ k.1).length cap ∧ True := by
   obtain ⟨base, cap, h, _⟩ := br (hR.ya k.1 hk5);simp only [List.length_map] at h;exact ⟨base, cap, h, trivial⟩
 have wx := hx.r 2 (by omega);co_applyP aB 38 Tryz.func165 Tryz.ntmps165;co_applyP ai;co_applyP bI rfl (bS (hN _));intro xk L1 hA1;have hR1 := hR.add hA1;have h0 : At L1 xk 0 (.int .i64 (k.1 : Nat)) := ⟨true, _, _, _, hA1.self, rfl⟩;have hky : At L1 K (10 + k.1) (.slice base (S.by_ k.1).length cap) := by rw [← hv]; exact hR1.kat (qt _ hk5)
 have hE1 : Ext L L1 := ⟨hA1.fn, hA1.sub⟩;co_applyP oy rfl aj;co_applyP aa;co_applyP ar;co_applyP bk aZ;co_applyP tr (i := 0) rfl ah pI;co_applyP tr (i := 1) rfl (av (hf := dF)) pI;co_applyP tr (i := 2) rfl (aG (ht := aY)) pI;co_applyP tr (i := 3) rfl aK pI;co_applyP tr (i := 4) rfl (av (hf := eh)) pI;co_applyP tr (i := 5) rfl (aW o6 gx) pI;co_applyP tr (i := 6) rfl (aG (ht := qg)) pI;co_applyP tr (i := 7) rfl (bt (hu := U44)) pI;co_applyP tr (i := 8) rfl aj pI;co_applyP td (by kernel_rfl);co_applyP aJ;co_applyP ai;co_applyP oy rfl ah;co_applyP oy rfl (a5 (ht := bH) (hs := bh) (hm := hA1.self) (hi := Nat.le_refl _));co_applyP ocm rfl rfl rfl (g0 L1 k hN);rintro _ _ _ ⟨rfl, rfl, hE2⟩;rename_i L2;co_applyP oc rfl rfl rfl (g1 K A S Fr L2 (otherE k) hN (hR1.ext hE2));rintro _ _ _ ⟨rfl, rfl, hE3⟩;co_applyP oy rfl bY;co_applyP oy rfl aj;co_applyP aa;change wpE ..;rename_i L3;have hR3 := (hR1.ext hE2).ext hE3;have h1 : At L3 xk 1 (.int .i64 (k.2 : Nat)) := ⟨true, _, _, _, hE3.s _ (hE2.s _ hA1.self), rfl⟩;have h2 : At L3 b 9 (.int .u16 (x.r 2)) := hR3.pat hb (bg x (i := 2) (by omega));have w2 : IntKind.i64.wrap (x.r 2) = x.r 2 := by simp [IntKind.wrap_i64]; omega
 have w3 : IntKind.i64.wrap (((S.by_ k.1).length : Int) + x.r 2) = ((S.by_ k.1).length : Int) + x.r 2 := by simp [IntKind.wrap_i64]; omega
 co_applyP bi rfl;intro ho;co_applyP ai;co_applyP oy rfl aj;co_applyP aa;co_applyP aI;change ∃ v, resE .. = some v ∧ _
 · have ho' : S.isOpen (otherE k) = false := by simpa using ho
   exact ⟨_, rfl, rfl, by simp [St.canBeDone, ho'], hE1.trans (hE2.trans hE3)⟩
 intro ho;co_applyP ai;co_applyP oy rfl (av (hf := ie));co_applyP oy rfl (aG (ht := aY));co_applyP oy rfl aA;co_applyP oy rfl aj;co_applyP aa;change wpE ..;have ho' : S.isOpen (otherE k) = true := by simpa using ho
 co_applyP bi rfl;intro hc;co_applyP ai;co_applyP oy rfl ah;co_applyP oy rfl dK;co_applyP oy rfl aj;co_applyP aa;co_applyP aI;change ∃ v, resE .. = some v ∧ _
 · have h4 : k.2 = 4 := by have : (k.2 : Int) = 4 := by simpa using hc
                           omega
   exact ⟨_, rfl, rfl, by simp [St.canBeDone, ho', h4], hE1.trans (hE2.trans hE3)⟩
 intro hc;co_applyP ai;co_applyP oy rfl ah;co_applyP oy rfl ah;co_applyP oy rfl aK;co_applyP oy rfl (av (hf := aD));co_applyP oy rfl (av (hf := aX));co_applyP oy rfl (aW U47 a6);co_applyP oy rfl (aG (ht := cn));co_applyP oy rfl (b9 (hs := U32) (ht := U3));co_applyP oy rfl a8;co_applyP oy rfl np;co_applyP oy rfl aj;co_applyP aa;co_applyP aI;change ∃ v, resE .. = some v ∧ _
 have h4 : ¬ k.2 = 4 := by have : ¬ (k.2 : Int) = 4 := by simpa using hc
                           omega
 exact ⟨_, rfl, rfl, by rw [w2, w3]; simp [St.canBeDone, ho', h4], hE1.trans (hE2.trans hE3)⟩
theorem yJ (a b : Nat) : ((a : Int) == (b : Int)) = decide (a = b) := by rw [Bool.eq_iff_iff]; simp; omega
theorem dk : ∃ n, ∀ {σ} {F : Fam σ} {Δ : DM F} {main s} (L : Frag) (p c : Nat) (x y : PS), pb p x ∈ L → pb c y ∈ L →
   CallsL Δ Tryz.prog main 128 [ptr p, ptr c].toArray n s L (fun s' v L' => s = s' ∧ L = L' ∧ v = .bool (decide (y.par = x.id))) := by
 apply Exists.intro;intro σ F Δ main s L p c x y hp hc;have h1 : At L c 1 (.int .i64 y.par) := ⟨true, _, _, _, hc, rfl⟩;have h2 : At L p 0 (.int .i64 x.id) := ⟨true, _, _, _, hp, rfl⟩;co_applyP aB 16 Tryz.func128 Tryz.ntmps128;co_applyP ai;co_applyP oy rfl aj;co_applyP aa;co_applyP ar;co_applyP bk aZ;co_applyP tr (i := 0) rfl ah pI;co_applyP tr (i := 1) rfl aK pI;co_applyP tr (i := 2) rfl (av (hf := aD)) pI;co_applyP tr (i := 3) rfl (av (hf := qh)) pI;co_applyP tr (i := 4) rfl (aG (ht := aY)) pI;co_applyP tr (i := 5) rfl ah pI;co_applyP tr (i := 6) rfl aK pI;co_applyP tr (i := 7) rfl (av (hf := aD)) pI;co_applyP tr (i := 8) rfl (av (hf := dg)) pI;co_applyP tr (i := 9) rfl (aG (ht := aY)) pI;co_applyP tr (i := 10) rfl aA pI;co_applyP tr (i := 11) rfl aj pI;co_applyP td (by kernel_rfl);co_applyP aI;change ∃ v, resE .. = some v ∧ _;exact ⟨_, rfl, rfl, rfl, by rw [yJ]⟩
theorem iS : ∃ n, ∀ {σ} {F : Fam σ} {Δ : DM F} {main s} (L : Frag) (p c xb : Nat) (x y : PS), pb p x ∈ L → pb c y ∈ L → At L xb 0 (ptr p) →
   CallsL Δ Tryz.prog main 148 [ptr c, ptr xb].toArray n s L (fun s' v L' => s = s' ∧ v = .bool (decide (y.par = x.id ∧ y.st = 6)) ∧ Ext L L') := by
 obtain ⟨n1, g1⟩ := dk;apply Exists.intro;intro σ F Δ main s L p c xb x y hp hc hb;have h1 : At L c 2 (.int .i64 y.st) := ⟨true, _, _, _, hc, rfl⟩;co_applyP aB 15 Tryz.func148 Tryz.ntmps148;co_applyP gZ;intro hF;co_applyP ai;co_applyP oy rfl aj;co_applyP aa;co_applyP ai;co_applyP oy rfl (aG (ht := cW));co_applyP oy rfl ah;co_applyP oc rfl rfl rfl (g1 L p c x y hp hc);rintro _ _ _ ⟨rfl, rfl, rfl⟩;co_applyP oy rfl ah;co_applyP qm (y.par = x.id);intro hpar
 · rw [decide_eq_true hpar];co_applyP oy rfl (ah);co_applyP oy rfl (aK);co_applyP oy rfl ((av (hf := aD)));co_applyP oy rfl ((av (hf := cv)));co_applyP oy rfl ((aG (ht := aY)));co_applyP oy rfl (aA);co_applyP oy rfl aN;co_applyP oy rfl aj;co_applyP aa;co_applyP aI;change ∃ v, resE .. = some v ∧ _;refine ⟨_, rfl, rfl, ?_, hF, fun _ h => h⟩;have e : ((y.st : Int) == 6) = decide (y.par = x.id ∧ y.st = 6) := by rw [Bool.eq_iff_iff]; simp [hpar]; omega
   rw [← e]; rfl
 intro hpar;rw [decide_eq_false hpar];co_applyP ou rfl;co_applyP ou rfl;co_applyP ou rfl;co_applyP ou rfl;co_applyP ou rfl;co_applyP ou rfl;co_applyP oy rfl aN;co_applyP oy rfl aj;co_applyP aa;co_applyP aI;change ∃ v, resE .. = some v ∧ _;refine ⟨_, rfl, rfl, ?_, hF, fun _ h => h⟩;have e : false = decide (y.par = x.id ∧ y.st = 6) := by simp [hpar]
 rw [← e]; rfl
def St.orphs (S : St) (id : Nat) : List Nat → St
 | [] => S
 | b :: bs => St.orphs (match S.get b with
   | some y => if y.par = id then S.setP b { y with par := 1 } else S
   | none => S) id bs
theorem mt (S : St) (id : Nat) (l m : List Nat) : S.orphs id (l ++ m) = (S.orphs id l).orphs id m := by
 induction l generalizing S with
 | nil => rfl
 | cons b l ih => simp only [List.cons_append, St.orphs]; exact ih _
structure ORel (S S' : St) : Prop where
 f : S'.ps.map (·.1) = S.ps.map (·.1)
 v : ∀ b y, (b, y) ∈ S.ps → ∃ z, (b, z) ∈ S'.ps ∧ { z with par := y.par } = y
 r : S'.rows = S.rows ∧ S'.by_ = S.by_ ∧ S'.wt = S.wt ∧ S'.now = S.now ∧ S'.last = S.last
theorem ORel.refl (S : St) : ORel S S := ⟨rfl, fun b y h => ⟨y, h, rfl⟩, rfl, rfl, rfl, rfl, rfl⟩
theorem ORel.step {S S' : St} (h : ORel S S') (hn : (S'.ps.map (·.1)).Nodup) {b : Nat} {y : PS} (hb : (b, y) ∈ S'.ps) : ORel S (S'.setP b { y with par := 1 }) := by
 refine ⟨by rw [aU]; exact h.f, fun c w hc => ?_, h.r⟩;obtain ⟨z, hz, he⟩ := h.v c w hc;by_cases e : c = b
 · subst e;obtain rfl := aT hn hb hz;exact ⟨_, aq hz, by simpa using he⟩
 · exact ⟨z, by simp only [St.setP, List.mem_map]; exact ⟨(c, z), hz, by simp [e]⟩, he⟩
theorem uw : ∃ n, ∀ {σ} {F : Fam σ} {Δ : DM F} {main s} (K : Nat) (A : Lay) (S : St) (Fr L : Frag) (b : Nat) (x : PS), Rep K A S Fr L → (b, x) ∈ S.ps →
   CallsL Δ Tryz.prog main 109 [ptr K, ptr b].toArray n s L (fun s' v L' => s = s' ∧ v = .tuple #[] ∧ ORel S (S.orphs x.id (S.ps.map (·.1))) ∧ Rep K A (S.orphs x.id (S.ps.map (·.1))) Fr L') := by
 obtain ⟨n1, g1⟩ := dk;apply Exists.intro;intro σ F Δ main s K A S Fr L b x hR hb;obtain ⟨base, cap, hv, hat0⟩ := br hR.pa;simp only [List.length_map] at hv;have h5 : At L K 5 (.slice base S.ps.length cap) := by rw [← hv]; exact hR.kat rfl
 co_applyP aB 23 Tryz.func109 Tryz.ntmps109;co_applyP ai;co_applyP oy rfl ah;co_applyP oy rfl aK;co_applyP oy rfl (av (hf := bJ));co_applyP oy rfl (aG (ht := cV));co_applyP oy rfl (bt (hu := U91));co_applyP oy rfl ah;co_applyP aa;co_applyP aJ;co_applyP bF (fun k s' ε' L' => s' = s ∧ ∃ l1 l2, S.ps = l1 ++ l2 ∧ Rep K A (S.orphs x.id (l1.map (·.1))) Fr L' ∧ ORel S (S.orphs x.id (l1.map (·.1))) ∧ k + l1.length = 8 ∧ kn ε' [(11, .int .i64 l1.length), (10, .int .i64 S.ps.length), (9, .slice base S.ps.length cap), (1, ptr b), (0, ptr K)]) 8
 · exact ⟨rfl, [], S.ps, rfl, hR, ORel.refl S, rfl, rfl⟩
 rintro k s' ε' L' ⟨rfl, l1, l2, hl, hR', hO, hk, he⟩;co_applyP a0 he;have hlen := congrArg List.length hl;simp only [List.length_append] at hlen;have h8 := hR.p8;co_applyP ai;co_applyP oy rfl ci;co_applyP aa;co_applyP ar;co_applyP bi rfl;intro hlt
 · cases l2 with
   | nil => simp at hlt hlen; omega
   | cons q l2 =>
     have hat : ∃ ab, base = some ⟨ab, 0, none⟩ ∧ At L' ab l1.length (ptr q.1) := by
       obtain ⟨ab, hb1, hb2, _⟩ := hat0 l1.length (ptr q.1) (by rw [hl]; simp);obtain ⟨base', cap', _, hat'⟩ := br hR'.pa;have e1 : (S.orphs x.id (l1.map (·.1))).ps.map (fun q => ptr q.1) = S.ps.map fun q => ptr q.1 := by
         have := congrArg (List.map ptr) hO.f;rw [List.map_map, List.map_map] at this;exact this
       obtain ⟨b', hb1', _, hv'⟩ := hat' l1.length (ptr q.1) (by rw [e1, hl]; simp);rw [hb1] at hb1';obtain rfl : ab = b' := by simpa using hb1'
       exact ⟨ab, hb2, hv'⟩
     obtain ⟨ab, rfl, hav⟩ := hat;simp at hlen;obtain ⟨z, hz, hze⟩ := hO.v q.1 q.2 (by rw [hl]; simp);obtain ⟨w, hw, hwe⟩ := hO.v b x hb;have hwid : w.id = x.id := by have := congrArg PS.id hwe; exact this
     have hget := bf hR'.pn hz;have elen : IntKind.i64.wrap ((l1.length : Int) + 1) = ((l1 ++ [q]).length : Int) := by simp [IntKind.wrap_i64]; omega
     have hnext : S.orphs x.id ((l1 ++ [q]).map (·.1)) = if z.par = x.id then (S.orphs x.id (l1.map (·.1))).setP q.1 { z with par := 1 } else S.orphs x.id (l1.map (·.1)) := by
       rw [List.map_append, mt];show St.orphs (match (S.orphs x.id (l1.map (·.1))).get q.1 with | some y => _ | none => _) x.id [] = _;rw [hget]; rfl
     co_applyP aC;co_applyP ar;co_applyP aJ;co_applyP ai;co_applyP oy rfl (bu U91 bG);co_applyP oy rfl (aG (ht := cW));co_applyP oy rfl aj;co_applyP aa;co_applyP ai;co_applyP oy rfl ah;co_applyP oy rfl ah;co_applyP oc rfl rfl rfl (g1 L' b q.1 w z (hR'.p _ hw) (hR'.p _ hz));rintro _ _ _ ⟨rfl, rfl, rfl⟩;co_applyP aa;co_applyP bi rfl;intro hc;co_applyP ay;co_applyP oy rfl ah;co_applyP oy rfl aK;co_applyP oy rfl (av (hf := aD));co_applyP oy rfl (av (hf := qh))
     · have hp : z.par = x.id := by rw [← hwid]; simpa using hc
       co_applyP osm rfl (hs := cG) (hm := hR'.p _ hz) (hi := by first | decide | (rw [bd]; omega) | (rw [bw]; omega));intro L2 hU;have hR2 := hR'.setP hz (x' := { z with par := 1 }) hU;co_applyP aa;co_applyP ay;co_applyP oy rfl a8;co_applyP oy rfl ah;co_applyP aa;change ∃ k', k' < _ ∧ _;rw [if_pos hp] at hnext;exact ⟨k - 1, by omega, rfl, l1 ++ [q], l2, by simp [hl], by rw [hnext]; exact hR2, by rw [hnext]; exact hO.step hR'.pn hz, by simp; omega, by rw [← elen]; rfl⟩
     intro hc;co_applyP aC;co_applyP ay;co_applyP oy rfl a8;co_applyP oy rfl ah;co_applyP aa;change ∃ k', k' < _ ∧ _;have hp : ¬ z.par = x.id := by rw [← hwid]; simpa using hc
     rw [if_neg hp] at hnext;exact ⟨k - 1, by omega, rfl, l1 ++ [q], l2, by simp [hl], by rw [hnext]; exact hR', by rw [hnext]; exact hO, by simp; omega, by rw [← elen]; rfl⟩
 intro hlt;co_applyP bN;change ∃ v, resE .. = some v ∧ _;cases l2 with
 | nil =>
   have e : l1 = S.ps := by rw [hl]; simp
   subst e;exact ⟨_, rfl, rfl, rfl, hO, hR'⟩
 | cons q l2 => simp at hlt hlen; omega
def St.setPs (S : St) (ps : List (Nat × PS)) : St := { S with ps := ps }
section
variable {K : Nat} {A : Lay} {S : St} {F L L' : Frag}
theorem Rep.setPs (h : Rep K A S F L) {a' : Sl} {ps' : List (Nat × PS)} {ls : Nat} (hf : Fun L') (hk : kb K (kst (A.setA 0 a') { S.setPs ps' with last := ls }) ∈ L') (hs : ∀ t ∈ L, t.1 ≠ K → (A.a 0).b ≠ some t.1 → t ∈ L') (ha : slOk a' (ps'.map fun q => ptr q.1) 93 L')
   (hp : ∀ q ∈ ps', pb q.1 q.2 ∈ L') (hpn : (ps'.map (·.1)).Nodup) (hp8 : ps'.length ≤ 8) (hpF : ∀ t ∈ F, ∀ q ∈ ps', t.1 ≠ q.1)
   (hd : ∀ b, a'.b = some b → (A.a 0).b = some b ∨ ((∀ i, (A.a i).b ≠ some b) ∧ ∀ t ∈ F, t.1 ≠ b)) : Rep K (A.setA 0 a') { S.setPs ps' with last := ls } F L' := by
 have hal : ∀ b, (A.a 0).b = some b → (b, true, Obj.cells ((S.ps.map fun q => ptr q.1) ++ (A.a 0).junk).toArray 93) ∈ L := fun b hb => h.pa.mem hb;have ty : ∀ {b : Nat} {fl : Bool} {o : Obj}, (b, fl, o) ∈ L → (∀ c, o ≠ Obj.cells c 93) → (A.a 0).b ≠ some b := fun hm ho hb => ho _ (h.fn _ _ _ _ _ hm (hal _ hb)).2;have arr : ∀ (a : Sl) (xs : List Value) (e : TypeId), e ≠ 115 → (∀ b, a.b = some b → (A.a 0).b ≠ some b) → slOk a xs e L → slOk a xs e L' := fun a xs e he hne ha => by
   refine ha.mono fun c hc o ho => hs _ ho ?_ (hne c hc);exact h.fn.ne (ha.mem hc) h.k (aF he)
 have hdn : ∀ i, i ≠ 0 → ∀ b, (A.a i).b = some b → (A.a 0).b ≠ some b := fun i hi b hb e => h.d i 0 hi (by rw [hb]; simp) (by rw [hb, e]);have pA : ∀ i, i ≠ 0 → (A.setA 0 a').a i = A.a i := fun i hi => by simp [Lay.setA, put, hi]
 have p0 : (A.setA 0 a').a 0 = a' := by simp [Lay.setA, put]
 exact { h with
   fn := hf
   k := hk
   g := hs _ h.g (h.fn.ne h.g h.k (aF (by decide))) (ty h.g fun c => aF (by decide))
   p := hp
   pn := hpn
   p8 := hp8
   pa := by rw [p0]; exact ha
   rw := fun l hl => by rw [pA _ (by omega)]; exact arr _ _ _ (by decide) (hdn _ (by omega)) (h.rw l hl)
   ya := fun i hi => arr _ _ _ (by decide) (fun b hb => ty ((h.ya i hi).mem hb) fun c => aF (by decide)) (h.ya i hi)
   w := by
     have : wobj (A.setA 0 a') { S.setPs ps' with last := ls } = wobj A S := by
       rw [cp, cp];show mapO (entsOf (A.setA 0 a') S.wt A.born) A.clock = _;rw [dS fun e _ => pA _ (by unfold slot; omega)]
     rw [this];exact hs _ h.w (h.fn.ne h.w h.k (by simp [wobj])) (ty h.w fun c => by simp [wobj])
   wa := fun e he => by rw [pA _ (by unfold slot; omega)]; exact arr _ _ _ (by decide) (hdn _ (by unfold slot; omega)) (h.wa e he)
   al := fun i c hc => by
     by_cases ei : i = 0
     · subst ei;rw [p0] at hc;exact ⟨_, ha.mem hc⟩
     · rw [pA i ei] at hc;obtain ⟨xs, hx⟩ := h.al i c hc;exact ⟨xs, hs _ hx (h.fn.ne hx h.k (aF (by decide))) (hdn i ei c hc)⟩
   yl := fun i c hc => by
     obtain ⟨xs, hx⟩ := h.yl i c hc;exact ⟨xs, hs _ hx (h.fn.ne hx h.k (aF (by decide))) (ty hx fun c => aF (by decide))⟩
   d := fun i j hij hi => by
     by_cases ei : i = 0
     · subst ei;rw [pA j (Ne.symm hij), p0];rw [p0] at hi;intro e;cases hb : a'.b with
       | none => exact hi hb
       | some b =>
         rcases hd b hb with h1 | h1
         · exact h.d 0 j hij (by rw [h1]; simp) (by rw [h1, ← e, hb])
         · exact h1.1 j (by rw [← e, hb])
     · rw [pA i ei];rw [pA i ei] at hi;by_cases ej : j = 0
       · subst ej;rw [p0];intro e;cases hb : a'.b with
         | none => rw [hb] at e; exact hi e
         | some b =>
           rcases hd b hb with h1 | h1
           · exact h.d i 0 ei hi (by rw [h1, e, hb])
           · exact h1.1 i (by rw [e, hb])
       · rw [pA j ej]; exact h.d i j hij hi
   fr := fun t ht => hs _ (h.fr t ht) (h.fd t ht).1 ((h.fd t ht).2.2.1 _)
   fd := fun t ht => by
     refine ⟨(h.fd t ht).1, hpF t ht, fun i => ?_, (h.fd t ht).2.2.2⟩;by_cases ei : i = 0
     · subst ei;rw [p0];intro e;rcases hd _ e with h1 | h1
       · exact (h.fd t ht).2.2.1 _ h1
       · exact h1.2 t ht rfl
     · rw [pA i ei]; exact (h.fd t ht).2.2.1 i }
theorem Rep.beside (h : Rep K A S F L) {c : Nat} {y : PS} (hm : pb c y ∈ L) (hp : ∀ q ∈ S.ps, c ≠ q.1) : Rep K A S (pb c y :: F) L :=
 { h with
   fr := fun t ht => by
     rcases List.mem_cons.1 ht with rfl | ht
     · exact hm
     · exact h.fr t ht
   fd := fun t ht => by
     rcases List.mem_cons.1 ht with rfl | ht
     · refine ⟨h.fn.ne hm h.k (aF (by decide)), hp, fun i e => ?_, fun i e => ?_, h.fn.ne hm h.w (by simp [wobj])⟩
       · obtain ⟨xs, hx⟩ := h.al i _ e;exact aF (by decide) (h.fn _ _ _ _ _ hm hx).2
       · obtain ⟨xs, hx⟩ := h.yl i _ e;exact aF (by decide) (h.fn _ _ _ _ _ hm hx).2
     · exact h.fd t ht }
theorem j7 (k : KS) (v : Value) : (kcells k).setIfInBounds 5 v = kcells { k with procs := v } := rfl
theorem rW (A : Lay) (S : St) (a' : Sl) (ps' : List (Nat × PS)) : kcells (kst (A.setA 0 a') { S.setPs ps' with last := S.last }) = kcells { kst A S with procs := slv a' ps'.length } := by
 unfold kcells kst Lay.setA put St.setPs;simp
end
def isChildEnded (x : PS) (y : PS) : Bool := decide (y.par = x.id ∧ y.st = 6)
def St.childAt (S : St) (x : PS) : Option Nat := S.ps.findIdx? fun q => isChildEnded x q.2
def told (x y : PS) : PS := { x with r := put (put x.r 0 ((y.id : Int) % 65536)) 1 (y.stat % 65536) }
theorem pl {S : St} (hn : (S.ps.map (·.1)).Nodup) (p : PS → Bool) : (S.ps.map (·.1)).findIdx? (S.testB p) = S.ps.findIdx? fun q => p q.2 := by
 rw [List.findIdx?_map];have : ∀ q ∈ S.ps, (S.testB p ∘ (·.1)) q = p q.2 := fun q hq => by simp [St.testB, bf hn (b := q.1) (x := q.2) hq]
 generalize S.ps = l at this ⊢
 induction l with
 | nil => rfl
 | cons q l ih =>
   rw [List.findIdx?_cons, List.findIdx?_cons, this q List.mem_cons_self, ih fun q hq => this q (List.mem_cons_of_mem _ hq)]
theorem iT : ∃ n, ∀ {σ} {F : Fam σ} {Δ : DM F} {main s} (K : Nat) (A : Lay) (S : St) (Fr L : Frag) (b : Nat) (x : PS), (∀ cs, (Δ s).New (.cells cs 93)) → Rep K A S Fr L → (b, x) ∈ S.ps → x.st ≠ 6 →
   CallsL Δ Tryz.prog main 130 [ptr K, ptr b].toArray n s L (fun s' v L' => s = s' ∧ match S.childAt x with
     | none => v = .bool false ∧ Rep K A S Fr L'
     | some i => v = .bool true ∧ ∃ c y a', S.ps[i]? = some (c, y) ∧ Rep K (A.setA 0 a') ({ S.setPs (S.ps.eraseIdx i) with last := S.last }.setP b (told x y)) (pb c y :: Fr) L') := by
 obtain ⟨n0, g0⟩ := iS;obtain ⟨n1, g1⟩ := eA n0;obtain ⟨n2, g2⟩ := nG;apply Exists.intro;intro σ F Δ main s K A S Fr L b x hN hR hb hx6;co_applyP aB 55 Tryz.func130 Tryz.ntmps130;co_applyP ai;co_applyP bI rfl (bS (hN _));intro xb L1 hA1;have hR1 := hR.add hA1;have hxb : At L1 xb 0 (ptr b) := ⟨true, _, _, _, hA1.self, rfl⟩;obtain ⟨base, cap, hv, hat0⟩ := br hR1.pa;simp only [List.length_map] at hv;have h5 : At L1 K 5 (.slice base (S.ps.map (·.1)).length cap) := by rw [List.length_map, ← hv]; exact hR1.kat rfl
 have hcl : ∀ c ∈ S.ps.map (·.1), ∀ L, Ext L1 L → CallsL Δ Tryz.prog main 148 ([] ++ [ptr c] ++ [ptr xb]).toArray n0 s L (fun s' v L' => s = s' ∧ v = .bool (S.testB (isChildEnded x) c) ∧ Ext L L') := by
   intro c hc L hE;obtain ⟨q, hq, rfl⟩ := List.mem_map.1 hc;have e : S.testB (isChildEnded x) q.1 = decide (q.2.par = x.id ∧ q.2.st = 6) := by simp [St.testB, bf hR1.pn (b := q.1) (x := q.2) hq, isChildEnded]
   rw [e];exact g0 L b q.1 xb x q.2 (hE.s _ (hR1.p _ hb)) (hE.s _ (hR1.p _ hq)) (hE.at hxb)
 co_applyP oy rfl aj;co_applyP aa;co_applyP ai;co_applyP oy rfl ah;co_applyP oy rfl aK;co_applyP oy rfl (av (hf := bJ));co_applyP oy rfl (aG (ht := cV));co_applyP oy rfl lY;co_applyP oc rfl rfl rfl (g1 L1 148 _ [] [ptr xb] (S.ps.map (·.1)) (S.testB (isChildEnded x)) base cap (fun i v hv => by obtain ⟨b, _, h2, h3⟩ := hat0 i v (by simpa using hv); exact ⟨b, h2, h3⟩) (by simpa using hR1.p8) Tryz.func148 rfl rfl hcl);rintro _ _ _ ⟨rfl, rfl, hE⟩;co_applyP oy rfl aj;co_applyP aa;co_applyP ar;co_applyP ai;co_applyP oy rfl ah;co_applyP oy rfl ci;co_applyP aa;change wpE ..;rename_i L2;have hR2 := hR1.ext hE;have hidx := pl hR.pn (isChildEnded x);co_applyP bi rfl;intro hc
 · have hnone : S.childAt x = none := by
     cases h : S.childAt x with
     | none => rfl
     | some i => unfold St.childAt at h; unfold idxF at hc; rw [hidx, h] at hc; simp at hc; omega
   co_applyP ai;co_applyP oy rfl aj;co_applyP aa;co_applyP aI;change ∃ v, resE .. = some v ∧ _;rw [hnone];exact ⟨_, rfl, rfl, rfl, hR2⟩
 intro hc;obtain ⟨i, hsome⟩ : ∃ i, S.childAt x = some i := by
   cases h : S.childAt x with
   | none => unfold St.childAt at h; unfold idxF at hc; rw [hidx, h] at hc; simp at hc
   | some i => exact ⟨i, rfl⟩
 have hi : idxF (S.testB (isChildEnded x)) (S.ps.map (·.1)) = i := by unfold idxF; unfold St.childAt at hsome; rw [hidx, hsome]
 obtain ⟨hil, hti, _⟩ := List.findIdx?_eq_some_iff_getElem.1 hsome;rw [hi, hsome];generalize hcy : S.ps[i] = cy at hti;obtain ⟨c, y⟩ := cy;have hcy' : S.ps[i]? = some (c, y) := by rw [List.getElem?_eq_getElem hil, hcy]
 have hcm : (c, y) ∈ S.ps := List.mem_of_getElem? hcy';obtain ⟨ab, hab, hbase, hav⟩ := hat0 i (ptr c) (by simp [hcy']);subst hbase;have hav2 := hE.at hav;have h52 := hE.at h5;rw [List.length_map] at h52;have h8 := hR.p8;have ei : IntKind.i64.wrap ((i : Int) + 1) = (i : Int) + 1 := by simp [IntKind.wrap_i64]; omega
 have hcap : cap = S.ps.length + (A.a 0).junk.length := by
   unfold slv at hv; rw [hab] at hv;simp only [Value.slice.injEq, true_and] at hv;exact hv.symm
 subst hcap;have hpa2 := hR2.pa.mem hab;have hKab : K ≠ ab := hR2.fn.ne hR2.k hpa2 (aF (by decide));have pab : ∀ q ∈ S.ps, q.1 ≠ ab := fun q hq => hR2.fn.ne (hR2.p _ hq) hpa2 (aF (by decide));have hxab : xb ≠ ab := fun e => hA1.new _ (hR.pa.mem hab) e.symm;have hxp : ∀ q ∈ S.ps, q.1 ≠ xb := fun q hq => hA1.new _ (hR.p _ hq);have hxK : K ≠ xb := hA1.new _ hR.k;have g2' := g2 (Δ := Δ) (main := main) (s := s) L2 ab (S.ps.map fun q => ptr q.1) (A.a 0).junk i (by simpa using hil) (by simp; omega) (by simp [plainV]) hpa2;rw [List.length_map] at g2';co_applyP aC;co_applyP ai;co_applyP oy rfl ah;co_applyP oy rfl aK;co_applyP oy rfl (av (hf := bJ));co_applyP oy rfl (aG (ht := cV));co_applyP oy rfl ah;co_applyP oy rfl (bu U91 bG);co_applyP oy rfl (aG (ht := cW));co_applyP oy rfl aj;co_applyP aa;co_applyP ai;co_applyP oy rfl ah;co_applyP oy rfl ah;co_applyP oy rfl aK;co_applyP oy rfl (av (hf := bJ));co_applyP oy rfl (aG (ht := cV));co_applyP oy rfl ah;co_applyP oy rfl ah;co_applyP oy rfl a8;rw [ei];co_applyP oc rfl rfl rfl (g2');rintro _ _ _ ⟨rfl, rfl, hU3⟩;co_applyP oy rfl aK;co_applyP oy rfl (av (hf := bJ));rename_i L3;have hK3 := hU3.ne _ hR2.k hKab;co_applyP oeN rfl (fun hnd => eW (hs := ee) (hnd := hnd) (hm := hK3) (hi := by rw [bw]; omega));rintro _ L4 ⟨rfl, hU4⟩;co_applyP aa;co_applyP ar;have hlen' : (S.ps.eraseIdx i).length = S.ps.length - 1 := by rw [List.length_eraseIdx]; simp [hil]
 have hemap : (S.ps.eraseIdx i).map (fun q => ptr q.1) = (S.ps.map fun q => ptr q.1).eraseIdx i := by simp [List.eraseIdx_eq_take_drop_succ]
 have hesub : ∀ q ∈ S.ps.eraseIdx i, q ∈ S.ps := fun q hq => List.mem_of_mem_eraseIdx hq;have keep4 : ∀ t ∈ L2, t.1 ≠ K → t.1 ≠ ab → t ∈ L4 := fun t ht h1 h2 => hU4.ne _ (hU3.ne _ ht h2) h1;have hR4 : Rep K (A.setA 0 ⟨some ab, .pointer none :: (A.a 0).junk⟩) { S.setPs (S.ps.eraseIdx i) with last := S.last } Fr L4 := by
   refine hR2.setPs hU4.fn ?_ (fun t ht h1 h2 => keep4 t ht h1 fun e => h2 (by rw [hab, e])) ?_ (fun q hq => keep4 _ (hR2.p _ (hesub q hq)) (hR2.fn.ne (hR2.p _ (hesub q hq)) hR2.k (aF (by decide))) (pab _ (hesub q hq))) ?_ (by omega) (fun t ht q hq => (hR2.fd t ht).2.1 q (hesub q hq)) (fun b hb => .inl (by rw [hab]; exact hb))
   · have := hU4.self;rw [j7] at this;unfold kb;rw [rW];have e1 : slv ⟨some ab, .pointer none :: (A.a 0).junk⟩ (S.ps.eraseIdx i).length = .slice (some ⟨ab, 0, none⟩) (S.ps.length - 1) (S.ps.length + (A.a 0).junk.length) := by
       unfold slv; simp only [hlen', List.length_cons]; congr 1; omega
     rw [e1]; exact this
   · rw [hemap];exact hU4.ne _ hU3.self (Ne.symm hKab)
   · rw [show (S.ps.eraseIdx i).map (·.1) = (S.ps.map (·.1)).eraseIdx i by simp [List.eraseIdx_eq_take_drop_succ]];exact hR2.pn.sublist (List.eraseIdx_sublist _ _)
 have hcb : c ≠ b := fun e => by
   subst e;obtain rfl := aT hR.pn hcm hb;have : isChildEnded y y = true := hti;simp [isChildEnded] at this;exact hx6 this.2
 have hb4 : (b, x) ∈ S.ps.eraseIdx i := by
   obtain ⟨j, hj⟩ := List.getElem?_of_mem hb;have hji : j ≠ i := fun e => by subst e; rw [hj] at hcy'; simp at hcy'; exact hcb hcy'.1.symm
   rw [List.mem_eraseIdx_iff_getElem?];exact ⟨j, hji, hj⟩
 have hpc4 : pb c y ∈ L4 := keep4 _ (hR2.p _ hcm) (hR2.fn.ne (hR2.p _ hcm) hR2.k (aF (by decide))) (pab _ hcm);have hcn : ∀ q ∈ S.ps.eraseIdx i, c ≠ q.1 := fun q hq e => by
   obtain ⟨j, hji, hj⟩ := List.mem_eraseIdx_iff_getElem?.1 hq;have hq' := List.mem_of_getElem? hj;obtain ⟨qc, qy⟩ := q;have e' : c = qc := e;subst e';have e1 : (S.ps.map (·.1))[j]? = some c := by simp [hj]
   have e2 : (S.ps.map (·.1))[i]? = some c := by simp [hcy']
   obtain ⟨hj1, hj2⟩ := List.getElem?_eq_some_iff.1 e1;obtain ⟨hi1, hi2⟩ := List.getElem?_eq_some_iff.1 e2;rcases Nat.lt_or_gt_of_ne hji with g | g
   · exact absurd (hj2.trans hi2.symm) (List.pairwise_iff_getElem.1 hR.pn j i hj1 hi1 g)
   · exact absurd (hi2.trans hj2.symm) (List.pairwise_iff_getElem.1 hR.pn i j hi1 hj1 g)
 replace hR4 := hR4.beside hpc4 hcn;have hxb4 : (xb, true, Obj.cells #[ptr b] 93) ∈ L4 := keep4 _ (hE.s _ hA1.self) (Ne.symm hxK) hxab;have hx4 : At L4 xb 0 (ptr b) := ⟨true, _, _, _, hxb4, rfl⟩;have hc40 : At L4 c 0 (.int .i64 (y.id : Nat)) := ⟨true, _, _, _, hpc4, rfl⟩;have hc43 : At L4 c 3 (.int .i64 y.stat) := ⟨true, _, _, _, hpc4, rfl⟩;have hxbm : ∀ (L : Frag), (xb, true, Obj.cells #[ptr b] 93) ∈ L → ∀ t ∈ [(xb, true, Obj.cells #[ptr b] 93)], t ∈ L := fun L h t ht => by simp at ht; rw [ht]; exact h
 have hbx : b ≠ xb := hxp _ hb;co_applyP bj [(xb, true, Obj.cells #[ptr b] 93)] 18 (nf := 0) aZ;co_applyP t0 (i := 0) rfl (aG (ht := cW)) (ae (hxbm _ hxb4));co_applyP tr (i := 1) rfl (aG (ht := cW)) (ae (hxbm _ hxb4));co_applyP tr (i := 2) rfl ah (ae (hxbm _ hxb4));co_applyP tr (i := 3) rfl aK (ae (hxbm _ hxb4));co_applyP tr (i := 4) rfl (av (hf := aD)) (ae (hxbm _ hxb4));co_applyP tr (i := 5) rfl (av (hf := dg)) (ae (hxbm _ hxb4));co_applyP t0 (i := 6) rfl (aG (ht := aY)) (ae (hxbm _ hxb4));co_applyP tr (i := 7) rfl (b9 (hs := U3) (ht := U32)) (ae (hxbm _ hxb4));co_applyP tr (i := 8) rfl ah (ae (hxbm _ hxb4));co_applyP tr (i := 9) rfl aK (ae (hxbm _ hxb4));co_applyP tr (i := 10) rfl (av (hf := aD)) (ae (hxbm _ hxb4));co_applyP tr (i := 11) rfl (av (hf := qi)) (ae (hxbm _ hxb4));co_applyP t0 (i := 12) rfl (aG (ht := aY)) (ae (hxbm _ hxb4));co_applyP tr (i := 13) rfl (b9 (hs := U3) (ht := U32)) (ae (hxbm _ hxb4));co_applyP tr (i := 14) rfl aK (ae (hxbm _ hxb4));co_applyP tr (i := 15) rfl (av (hf := aD)) (ae (hxbm _ hxb4));co_applyP tr (i := 16) rfl (av (hf := aX)) (ae (hxbm _ hxb4));co_applyP tr (i := 17) rfl (aW U47 a6) (ae (hxbm _ hxb4));co_applyP tr (i := 19) rfl aK (ae (hxbm _ hxb4));co_applyP tr (i := 20) rfl (av (hf := aD)) (ae (hxbm _ hxb4));co_applyP tr (i := 21) rfl (av (hf := aX)) (ae (hxbm _ hxb4));co_applyP a7;intro hnd;co_applyP te (i := 18) rfl (eW (hnd := hnd) (hm := hR4.p _ hb4) (hi := by rw [bd]; omega) (hs := a6));rintro _ _ ⟨rfl, hU5⟩;refine ⟨aE (hxbm _ (hU5.ne _ hxb4 (Ne.symm hbx))), ?_⟩;rename_i L5;rw [cJ] at hU5;have h7 : (pcells x).setIfInBounds (7 + 0) (.int .u16 ((y.id : Int) % 65536)) = pcells { x with r := put x.r 0 ((y.id : Int) % 65536) } := dA x (by omega) _;have hR5 := hR4.setP hb4 (x' := { x with r := put x.r 0 ((y.id : Int) % 65536) }) (h7 ▸ hU5);have hb5 : (b, { x with r := put x.r 0 ((y.id : Int) % 65536) }) ∈ ({ S.setPs (S.ps.eraseIdx i) with last := S.last }.setP b { x with r := put x.r 0 ((y.id : Int) % 65536) }).ps := aq hb4;have hxb5 := hU5.ne _ hxb4 (Ne.symm hbx);co_applyP to (i := 22) rfl ((aW U47 a6)) (aE (hxbm _ hxb5));co_applyP a7;intro hnd';co_applyP te (i := 23) rfl (eW (hnd := hnd') (hm := hR5.p _ hb5) (hi := by rw [bd]; omega) (hs := a6));rintro _ _ ⟨rfl, hU6⟩;refine ⟨aE (hxbm _ (hU6.ne _ hxb5 (Ne.symm hbx))), ?_⟩;rw [cJ] at hU6;co_applyP td (by kernel_rfl);co_applyP ai;co_applyP oy rfl aj;co_applyP aa;co_applyP aI;change ∃ v, resE .. = some v ∧ _;have h8' : (pcells { x with r := put x.r 0 ((y.id : Int) % 65536) }).setIfInBounds (7 + 1) (.int .u16 (y.stat % 65536)) = pcells (told x y) := dA _ (by omega) _
 have hR6 := hR5.setP hb5 (x' := told x y) (h8' ▸ hU6);refine ⟨_, rfl, rfl, rfl, c, y, ⟨some ab, .pointer none :: (A.a 0).junk⟩, hcy', ?_⟩;have e6 : ({ S.setPs (S.ps.eraseIdx i) with last := S.last }.setP b { x with r := put x.r 0 ((y.id : Int) % 65536) }).setP b (told x y) = ({ S.setPs (S.ps.eraseIdx i) with last := S.last } : St).setP b (told x y) := by
   unfold St.setP;simp only [List.map_map];congr 1;apply List.map_congr_left;intro q _;simp only [Function.comp]
   split
   · simp
   · rename_i h; simp [h]
 rw [e6] at hR6;exact hR6
end Go.Proofs.YtejkelcaljmnoaaGreatDoor
namespace Go.Lo
open Go.Conc Go.Hx
section
variable {P : Program} {New : Obj → Prop} {N : Nat} {ε : Env} {L : Frag} {d : Option Tmp} {ty : TypeId} {ps : String} {af : Array Edge} {g : Option (Nat × Bool)}
theorem Aj {t u e : TypeId} {x y : Operand} {base : Option Addr} {len cap : Nat} (hu : P.underlying t = some (.slice e)) (hx : ev ε x = some (.slice base len cap) := by rfl) (hy : ev ε y = some (.slice none 0 0) := by rfl) : EY P N ε L ⟨d, .binOp .eql t x y u, ty, ps, af, g⟩ (.bool base.isNone) := fun a ha => by
 refine cF (fun _ => rfl) fun K hQ => ?_;rw [ha.ev hx, ha.ev hy];show wpQ P (do pure (.bool (← Op.equal t (.slice base len cap) (.slice none 0 0)))) K L;rw [ax, dv, Op.equalIn.eq_def, ax, aL hu];cases base <;> exact hQ
theorem Ak {t e : TypeId} {sz : Nat} (hN : New (.cells #[] e)) (hu : P.underlying t = some (.slice e)) (hs : sizeAt P e = some sz) :
   EO P New N ε L ⟨d, .buildSlice t 0 #[], ty, ps, af, g⟩ (fun r L'' => ∃ b, (∀ t ∈ L, t.1 ≠ b) ∧ r = .slice (some ⟨b, 0, none⟩) 0 0 ∧ L'' = (b, true, .cells #[] e) :: L) := by
 intro a ha;simp only [execOp, List.map_toArray, List.map_nil];rw [au];unfold Instr.buildSlice newRow;rw [au, aQ hu];simp only [au, bM hs, Nat.zero_mul];have e0 : Array.map (fun x => (#[] : Array Value)[x % (#[] : Array Value).size]!) (Array.range 0) = #[] := by simp
 simp only [gt_iff_lt, Nat.not_lt_zero, if_false, if_true, bm, au, e0];have h0 : Instr.fill (fun i => some (i * sz, sz)) (#[] : Array Value) [] = some #[] := by simp [Instr.fill]
 simp only [h0, au];exact b8 hN fun b hb => ⟨b, hb, rfl, rfl⟩
end
end Go.Lo
namespace Go.Proofs.YtejkelcaljmnoaaGreatDoor
open Go.Conc Go.Hx Go.Lo
theorem wE : ∃ n, ∀ {σ} {F : Fam σ} {Δ : DM F} {main s} (L : Frag) (Q : Nat) (xs junk : List Value), (∀ cs, (Δ s).New (.cells cs 93)) → (Q, true, Obj.cells (xs ++ junk).toArray 93) ∈ L → 0 < xs.length → xs.length ≤ 8 →
   CallsL Δ Tryz.prog main 129 [.slice (some ⟨Q, 0, none⟩) xs.length (xs.length + junk.length)].toArray n s L (fun s' v L' => s = s' ∧ ∃ b cap jk, v = .slice (some ⟨b, 0, none⟩) xs.length cap ∧ Ext L L' ∧ (∀ t ∈ L, t.1 ≠ b) ∧ (b, true, Obj.cells (xs ++ jk).toArray 93) ∈ L') := by
 apply Exists.intro;intro σ F Δ main s L Q xs junk hN hQ h0 h8;co_applyP aB 8 Tryz.func129 Tryz.ntmps129;co_applyP gZ;intro hF;co_applyP ai;co_applyP oy rfl aj;co_applyP aa;co_applyP ar;co_applyP ai;co_applyP oy rfl ah;co_applyP oy rfl (Aj U91);co_applyP aa;co_applyP ak rfl;co_applyP aC;co_applyP ai;co_applyP bI rfl (Ak (hN _) U91 bG);intro nb L1 hA;co_applyP oy rfl ah;have hQ1 := hA.sub _ hQ;have hw : Reads Tryz.prog L1 1 0 (.slice (some ⟨nb, 0, none⟩) 0 0) #[] := by
   have := bZ (P := Tryz.prog) (sz := 1) (n := 0) (len := 0) (cap := 0) (o := 0) hA.self (by simp);simpa using this
 have hr : Reads Tryz.prog L1 1 xs.length (.slice (some ⟨Q, 0, none⟩) xs.length (xs.length + junk.length)) xs.toArray := by
   have := bZ (P := Tryz.prog) (sz := 1) (n := xs.length) (len := xs.length) (cap := xs.length + junk.length) (o := 0) hQ1 (by simp);simpa using this
 co_applyP oeN rfl (fun hnd => lg (by_ := 7) (hF := hA.fn) (hu := U91) (hv := U91) (hs := bG) (hb := pd) (hz0 := ii) (hw := hw) (hr := hr) (hc := by omega) (hbig := by omega) (hN := hN));rintro _ L2 ⟨b, cap, h1, h2, rfl, hA2⟩;co_applyP oy rfl aj;co_applyP aa;co_applyP aI;change ∃ v, resE .. = some v ∧ _;have e1 : #[] ++ xs.toArray ++ Builtin.zeroCells (Value.pointer none).cells (cap - (0 + xs.length)) = (xs ++ List.replicate (cap - (0 + xs.length)) (Value.pointer none)).toArray := by
   rw [ep rfl]; apply Array.ext'; simp
 rw [e1] at hA2;exact ⟨_, rfl, rfl, b, cap, _, by simp, ⟨hA2.fn, fun t ht => hA2.sub _ (hA.sub _ ht)⟩, fun t ht => hA2.new _ (hA.sub _ ht), hA2.self⟩
section
variable {S : St}
theorem Good.like (h : Good S) {b : Nat} {x x' : PS} (hb : (b, x) ∈ S.ps) (hs : x'.st = x.st) (hl : x'.lv = x.lv) : Good (S.setP b x') := by
 refine ⟨by rw [aU]; exact h.pn, by rw [eK]; exact h.p8, fun q hq => ?_, h.rn, fun l hl' c hc => ?_, fun q hq h1 => ?_⟩
 · rcases aP hq with rfl | ⟨h1, _⟩
   · rw [hl]; exact h.lv _ hb
   · exact h.lv q h1
 · obtain ⟨y, hy, h1, h2⟩ := h.rm l hl' c hc;by_cases e : c = b
   · subst e;obtain rfl := aT h.pn hb hy;exact ⟨x', aq hb, by rw [hl]; exact h1, by rw [hs]; exact h2⟩
   · exact ⟨y, by simp only [St.setP, List.mem_map]; exact ⟨(c, y), hy, by simp [e]⟩, h1, h2⟩
 · rcases aP hq with rfl | ⟨h2, _⟩
   · have := h.rr _ hb (by rw [← hs]; exact h1);show b ∈ S.rows x'.lv;rw [hl]; exact this
   · exact h.rr q h2 h1
theorem Good.erase (h : Good S) {i c : Nat} {y : PS} (hi : S.ps[i]? = some (c, y)) (hy : y.st ≠ 1) {ls : Nat} : Good { S.setPs (S.ps.eraseIdx i) with last := ls } := by
 refine ⟨?_, ?_, fun q hq => h.lv q (List.mem_of_mem_eraseIdx hq), h.rn, fun l hl c' hc => ?_, fun q hq h1 => h.rr q (List.mem_of_mem_eraseIdx hq) h1⟩
 · show ((S.ps.eraseIdx i).map (·.1)).Nodup;rw [show (S.ps.eraseIdx i).map (·.1) = (S.ps.map (·.1)).eraseIdx i by simp [List.eraseIdx_eq_take_drop_succ]];exact h.pn.sublist (List.eraseIdx_sublist _ _)
 · show (S.ps.eraseIdx i).length ≤ 8;have := List.length_eraseIdx_le S.ps i;have := h.p8;omega
 · obtain ⟨z, hz, h1, h2⟩ := h.rm l hl c' hc;refine ⟨z, ?_, h1, h2⟩;show (c', z) ∈ S.ps.eraseIdx i;obtain ⟨j, hj⟩ := List.getElem?_of_mem hz;have hji : j ≠ i := fun e => by subst e; rw [hj] at hi; simp at hi; exact hy (by rw [← hi.2]; exact h2)
   rw [List.mem_eraseIdx_iff_getElem?];exact ⟨j, hji, hj⟩
end
def St.take (S : St) (b : Nat) (x : PS) (i : Nat) : St := match S.ps[i]? with
 | some q => ({ S.setPs (S.ps.eraseIdx i) with last := S.last } : St).setP b (told x q.2)
 | none => S
def St.parent1 (S : St) (b : Nat) : St := match S.get b with
 | some x => if x.st = 2 then (match S.childAt x with
   | some i => match S.ps[i]? with
     | some q => (S.take b x i).wake1 b (told x q.2)
     | none => S
   | none => S) else S
 | none => S
def St.parents (S : St) : List Nat → St
 | [] => S
 | b :: bs => (S.parent1 b).parents bs
theorem j8 (S : St) (l m : List Nat) : S.parents (l ++ m) = (S.parents l).parents m := by
 induction l generalizing S with
 | nil => rfl
 | cons b l ih => simp only [List.cons_append, St.parents]; exact ih _
theorem Rep.fresh {K : Nat} {A : Lay} {S : St} {F L L' : Frag} (h : Rep K A S F L) (e : Ext L L') {b : Nat} {o : Obj} (hn : ∀ t ∈ L, t.1 ≠ b) (hm : (b, true, o) ∈ L') : Rep K A S ((b, true, o) :: F) L' :=
 { h.ext e with
   fr := fun t ht => by
     rcases List.mem_cons.1 ht with rfl | ht
     · exact hm
     · exact e.s _ (h.fr t ht)
   fd := fun t ht => by
     rcases List.mem_cons.1 ht with rfl | ht
     · exact ⟨fun e => hn _ h.k e.symm, fun q hq e => hn _ (h.p q hq) e.symm, fun i e => let ⟨_, hx⟩ := h.al i _ e; hn _ hx rfl, fun i e => let ⟨_, hx⟩ := h.yl i _ e; hn _ hx rfl, fun e => hn _ h.w e.symm⟩
     · exact h.fd t ht }
end Go.Proofs.YtejkelcaljmnoaaGreatDoor
