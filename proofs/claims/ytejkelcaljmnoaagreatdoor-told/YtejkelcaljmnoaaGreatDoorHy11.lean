/-
  Part 11 of the proof.
  No condition but those that each statement names.
-/
import Derived.Test.YtejkelcaljmnoaaGreatDoorHy10
import Derived.Test.YtejkelcaljmnoaaGreatDoorHy07
set_option maxRecDepth 100000
set_option linter.unusedVariables false
set_option linter.unusedSimpArgs false
set_option linter.unusedSectionVars false
namespace Go.Proofs.YtejkelcaljmnoaaGreatDoor
open Go.Conc Go.Hx Go.Lo
def St.stop1 (S : St) (b : Nat) (x : PS) (s : Nat) : St := (S.setP b { x with st := s }).setRow x.lv ((S.rows x.lv).erase b)
section
variable {S S' : St} {b : Nat} {x x' : PS} {k : Nat × Nat}
theorem bW {c : Nat} {y : PS} (h : (c, y) ∈ S.ps) (hne : c ≠ b) : (c, y) ∈ (S.setP b x').ps := by
 simp only [St.setP, List.mem_map];exact ⟨(c, y), h, by rw [if_neg hne]⟩
theorem Good.stop1 (h : Good S) (hb : (b, x) ∈ S.ps) {s : Nat} (hs : s ≠ 1) : Good (S.stop1 b x s) := by
 have hlv := h.lv _ hb;have rows : ∀ l, (S.stop1 b x s).rows l = if l = x.lv then (S.rows x.lv).erase b else S.rows l := fun l => rfl;refine ⟨by unfold St.stop1 St.setRow; rw [aX]; exact h.pn, by unfold St.stop1 St.setRow; rw [eP]; exact h.p8, fun q hq => ?_, fun l hl => ?_, fun l hl c hc => ?_, fun q hq h1 => ?_⟩
 · rcases a5 hq with rfl | ⟨h1, _⟩
   · exact hlv
   · exact h.lv q h1
 · rw [rows]
   split
   · exact (h.rn _ hlv).sublist List.erase_sublist
   · exact h.rn l hl
 · rw [rows] at hc;have old : c ≠ b → c ∈ S.rows l → ∃ y, (c, y) ∈ (S.stop1 b x s).ps ∧ y.lv = l ∧ y.st = 1 := fun hne hc' => by
     obtain ⟨y, hy, h1, h2⟩ := h.rm l hl c hc';exact ⟨y, bW hy hne, h1, h2⟩
   split at hc
   · rename_i e;subst e;refine old (fun e => ?_) (List.mem_of_mem_erase hc);rw [e] at hc;exact (List.Nodup.not_mem_erase (h.rn _ hlv)) hc
   · rename_i e;refine old (fun e' => ?_) hc;obtain ⟨y, hy, h1, h2⟩ := h.rm l hl c hc;rw [e'] at hy;rw [bp h.pn hb hy] at e;exact e h1.symm
 · rw [rows];rcases a5 hq with rfl | ⟨h2, h3⟩
   · exact absurd h1 hs
   · have := h.rr q h2 h1
     split
     · rename_i e; rw [e] at this; exact (List.mem_erase_of_ne h3).2 this
     · exact this
theorem Inv.stop1 (h : Inv S) (hb : (b, x) ∈ S.ps) (ho : S.out b) {s : Nat} (hs : s ≠ 1) : Inv (S.stop1 b x s) where
 g := h.g.stop1 hb hs
 wf := fun q hq => by
   rcases a5 hq with rfl | ⟨h1, _⟩
   · exact ⟨(h.wf _ hb).r, (h.wf _ hb).m⟩
   · exact h.wf q h1
 fl := fun q hq => by
   rcases a5 hq with rfl | ⟨h1, _⟩
   · exact h.fl (b, x) hb
   · exact h.fl q h1
 y8 := h.y8
 yb := h.yb
 kn := h.kn
 ne := h.ne
 nd := h.nd
 ke := h.ke
 rm := fun e he c hc => by
   obtain ⟨y, hy, ha⟩ := h.rm e he c hc;exact ⟨y, bW hy (by rintro rfl; exact ho e he hc), ha⟩
theorem Inv.alike (h : Inv S) (hb : (b, x) ∈ S.ps) (hs : x'.st = x.st) (hl : x'.lv = x.lv) (hr : x'.r = x.r) (hf : x'.f = x.f) (hm : x'.m = x.m) : Inv (S.setP b x') where
 g := h.g.like hb hs hl
 wf := fun q hq => by
   rcases a5 hq with rfl | ⟨h1, _⟩
   · exact ⟨by rw [hr]; exact (h.wf _ hb).r, by rw [hm]; exact (h.wf _ hb).m⟩
   · exact h.wf q h1
 fl := fun q hq => by
   rcases a5 hq with rfl | ⟨h1, _⟩
   · rw [hf]; exact h.fl (b, x) hb
   · exact h.fl q h1
 y8 := h.y8
 yb := h.yb
 kn := h.kn
 ne := h.ne
 nd := h.nd
 ke := h.ke
 rm := fun e he c hc => by
   obtain ⟨y, hy, ha⟩ := h.rm e he c hc;by_cases ecb : c = b
   · subst ecb;obtain rfl := bp h.g.pn hb hy;refine ⟨x', au hb, ?_, by rw [hr]; exact ha.a, by rw [hr]; exact ha.w, by rw [hs]; exact ha.s⟩;have := ha.f;unfold PS.file at *;rw [hr, hf]; exact this
   · exact ⟨y, bW hy ecb, ha⟩
theorem Inv.orphs (id : Nat) : ∀ (bs : List Nat) {S : St}, Inv S → Inv (S.orphs id bs) ∧ (S.orphs id bs).ps.map (·.1) = S.ps.map (·.1)
 | [], S, h => ⟨h, rfl⟩
 | b :: bs, S, h => by
   unfold St.orphs;cases hg : S.get b with
   | none => exact Inv.orphs id bs h
   | some y =>
     simp only
     split
     · have hb := bk hg;have := Inv.orphs id bs (h.alike (x' := { y with par := 1 }) hb rfl rfl rfl rfl rfl);exact ⟨this.1, by rw [this.2, aX]⟩
     · exact Inv.orphs id bs h
theorem Inv.erase (h : Inv S) {i c : Nat} {y : PS} (hi : S.ps[i]? = some (c, y)) (hy : y.st = 6) {ls : Nat} : Inv { S.setPs (S.ps.eraseIdx i) with last := ls } where
 g := h.g.erase hi (by omega)
 wf := fun q hq => h.wf q (List.mem_of_mem_eraseIdx hq)
 fl := fun q hq => h.fl q (List.mem_of_mem_eraseIdx hq)
 y8 := h.y8
 yb := h.yb
 kn := h.kn
 ne := h.ne
 nd := h.nd
 ke := h.ke
 rm := fun e he c' hc => by
   obtain ⟨z, hz, ha⟩ := h.rm e he c' hc;refine ⟨z, ?_, ha⟩;show (c', z) ∈ S.ps.eraseIdx i;obtain ⟨j, hj⟩ := List.getElem?_of_mem hz;have hji : j ≠ i := fun e' => by
     subst e';rw [hj] at hi;simp at hi;have h1 := ha.s;rw [hi.2] at h1;rcases (h.ke e he).2 with h2 | h2 <;> omega
   rw [List.mem_eraseIdx_iff_getElem?];exact ⟨j, hji, hj⟩
theorem vX (h : WF x) (y : PS) : WF (told x y) := ⟨fun i hi => by
 show 0 ≤ put (put x.r 0 ((y.id : Int) % 65536)) 1 (y.stat % 65536) i ∧ put (put x.r 0 ((y.id : Int) % 65536)) 1 (y.stat % 65536) i < 65536;unfold put;have := h.r i hi
 split
 · omega
 · split
   · omega
   · exact this, h.m⟩
end
def St.fin (S : St) (b : Nat) (x : PS) (status : Int) : St :=
 let S2 := ((S.depart b (x.file (x.r 0))).stop1 b x 6).setP b { x with st := 6, stat := status }
 let S3 := S2.shuts b x.f (List.range' 0 6)
 let S4 := S3.orphs x.id (S3.ps.map (·.1))
 S4.parents (S4.ps.map (·.1))
theorem uc : ∃ n, ∀ {p : Par} {Sh : Loc → Prop} {E Dn : Nat} {PostB : World → Prop} {Aft : Goroutine → World → Prop} {W : World} {O : Nat} {G0 : List (Nat × Obj)} {vs : List Value} (K : Nat) (A : Lay) (S : St) (Fr L : Frag) (eb : Nat → Nat × Nat) (b : Nat) (x : PS) (status : Int), (∀ s, NewK (domT Tryz.prog p Sh E Dn PostB Aft W O G0 s)) → Rep K A S Fr L → Ers eb Fr → Inv S → (b, x) ∈ S.ps →
   CallsL (domT Tryz.prog p Sh E Dn PostB Aft W O G0) Tryz.prog false 94 [ptr K, ptr b, .int .i64 status, .chan (some E)].toArray n (evt S.now 4 x.id status :: vs) L (fun s' v L' => vs = s' ∧ v = .tuple #[] ∧ ∃ A' G, (∀ q ∈ S.ps, (∃ z, (q.1, z) ∈ (S.fin b x status).ps) ∨ ∃ z, pb q.1 z ∈ G ∧ z.st = 6) ∧ Rep K A' (S.fin b x status) (G ++ Fr) L') := by
 obtain ⟨n1, g1⟩ := jZ;obtain ⟨n2, g2⟩ := j4;obtain ⟨n3, g3⟩ := jV;obtain ⟨n4, g4⟩ := mo;obtain ⟨n5, g5⟩ := rA;obtain ⟨n6, g6⟩ := tR;obtain ⟨n7, g7⟩ := ji;apply Exists.intro;intro p Sh E Dn PostB Aft W O G0 vs K A S Fr L eb b x status hN hR hE hI hb;have hx0 : At L b 7 (.int .u16 (x.r 0)) := hR.pat hb (bh x (i := 0) (by omega));have ho := hI.out_depart hb;have hI1 : Inv (S.depart b (x.file (x.r 0))) := hI.depart;have hb1 : (b, x) ∈ (S.depart b (x.file (x.r 0))).ps := hb;have hlv := hI.g.lv _ hb;have hI2 := hI1.stop1 hb1 ho (s := 6) (by decide);have hb2 : (b, { x with st := 6 }) ∈ ((S.depart b (x.file (x.r 0))).stop1 b x 6).ps := au hb1;have hI3 := hI2.alike (x' := { x with st := 6, stat := status }) hb2 rfl rfl rfl rfl rfl;have hb3 : (b, { x with st := 6, stat := status }) ∈ (((S.depart b (x.file (x.r 0))).stop1 b x 6).setP b { x with st := 6, stat := status }).ps := au hb2;have h4 := Shutting.all (b := b) (x := { x with st := 6, stat := status }) x.f (List.range' 0 6) ⟨hI3, rfl, ho, x.f, hb3⟩;obtain ⟨f', hb4⟩ := h4.m;have h5 := Inv.orphs x.id ((St.shuts (((S.depart b (x.file (x.r 0))).stop1 b x 6).setP b { x with st := 6, stat := status }) b x.f (List.range' 0 6)).ps.map (·.1)) h4.i;have hfst : (St.orphs (St.shuts (((S.depart b (x.file (x.r 0))).stop1 b x 6).setP b { x with st := 6, stat := status }) b x.f (List.range' 0 6)) x.id ((St.shuts (((S.depart b (x.file (x.r 0))).stop1 b x 6).setP b { x with st := 6, stat := status }) b x.f (List.range' 0 6)).ps.map (·.1))).ps.map (·.1) = S.ps.map (·.1) := by
   rw [h5.2, h4.f, aX];show ((S.depart b (x.file (x.r 0))).setP b _).ps.map (·.1) = _;rw [aX]; rfl
 have hne : (St.orphs (St.shuts (((S.depart b (x.file (x.r 0))).stop1 b x 6).setP b { x with st := 6, stat := status }) b x.f (List.range' 0 6)) x.id ((St.shuts (((S.depart b (x.file (x.r 0))).stop1 b x 6).setP b { x with st := 6, stat := status }) b x.f (List.range' 0 6)).ps.map (·.1))).ps ≠ [] := by
   intro e;rw [e] at hfst;have : b ∈ S.ps.map (·.1) := List.mem_map.2 ⟨(b, x), hb, rfl⟩;rw [← hfst] at this;simp at this
 co_applyP aB 44 Tryz.func94 Tryz.ntmps94;co_applyP ae;co_applyP aa;co_applyP oy rfl aj;co_applyP oy rfl aj;co_applyP oy rfl aj;co_applyP oy rfl aj;co_applyP oy rfl aL;co_applyP oy rfl (av (hf := aD));co_applyP oy rfl (av (hf := aY));co_applyP oy rfl (a0 Tryz.underlying47 a9);co_applyP oy rfl (aC (ht := cp));co_applyP ocm rfl rfl rfl (g1 K A S Fr L b x (x.r 0) (hN _).k hR hb ((hI.wf _ hb).r 0 (by omega)));rintro _ _ _ ⟨rfl, rfl, hF1, hs1⟩;rename_i L1;have hR1 := hR.of hF1 hs1;co_applyP oc rfl rfl rfl (g2 K A S Fr L1 b x (x.file (x.r 0)) (hN _).r (hN _).k hR1 hI.w hb);rintro _ _ _ ⟨rfl, rfl, A2, hw2, hR2⟩;co_applyP ah;change wpE ..;co_applyP ae;co_applyP aa;co_applyP oy rfl aj;co_applyP oy rfl aj;rename_i L2;co_applyP oc rfl rfl rfl (g3 K A2 _ Fr L2 b x 6 hR2 hb1 hlv (hI1.g.r8 hlv) (hI1.g.ex hlv) (fun e he => cI e.1 hlv));rintro _ _ _ ⟨rfl, rfl, A3, hw3, hR3⟩;co_applyP ah;change wpE ..;co_applyP ae;co_applyP aa;co_applyP oy rfl aj;co_applyP oy rfl aj;co_applyP oy rfl aL;co_applyP oy rfl (av (hf := aD));co_applyP oy rfl (av (hf := pN));rename_i L3;have hb2' := hb2;co_applyP osm rfl (hs := dm) (hm := hR3.p _ hb2) (hi := by first | decide | (rw [bg]; omega) | (rw [bC]; omega));intro L4 hU4;have hR4 := hR3.setP (x' := { x with st := 6, stat := status }) hb2 hU4;have hid : At L4 b 0 (.int .i64 (x.id : Nat)) := hR4.pat hb3 (i := 0) rfl;co_applyP ah;change wpE ..;co_applyP ae;co_applyP aa;co_applyP oy rfl aj;co_applyP oy rfl aj;co_applyP oy rfl aj;co_applyP oy rfl aL;co_applyP oy rfl (av (hf := aD));co_applyP oy rfl (av (hf := cn));co_applyP oy rfl (aC (ht := aV));co_applyP oy rfl aj;co_applyP oc rfl rfl rfl (g4 K A3 _ Fr L4 4 x.id status hR4);rintro _ _ _ ⟨rfl, rfl, rfl⟩;co_applyP ah;change wpE ..;co_applyP ae;co_applyP aa;co_applyP oy rfl aj;co_applyP oy rfl aj;co_applyP oc rfl rfl rfl (g5 K A3 _ Fr L4 eb b _ hN hR4 hE hI3 hb3 ho);rintro _ _ _ ⟨rfl, rfl, A5, hR5⟩;co_applyP ah;change wpE ..;co_applyP ae;co_applyP aa;co_applyP oy rfl aj;co_applyP oy rfl aj;rename_i L5;co_applyP oc rfl rfl rfl (g6 K A5 _ Fr L5 b _ hR5 hb4);rintro _ _ _ ⟨rfl, rfl, hrel, hR6⟩;co_applyP ah;change wpE ..;co_applyP aa;co_applyP oy rfl aj;rename_i L6;co_applyP oc rfl rfl rfl (g7 K A5 _ Fr L6 (hN _).r hR6 h5.1.g hne);rintro _ _ _ ⟨rfl, rfl, hG, A7, G, hall, hR7⟩;co_applyP ah;change ∃ v, resE .. = some v ∧ _;refine ⟨_, rfl, rfl, rfl, A7, G, fun q hq => ?_, hR7⟩;have hm : q.1 ∈ S.ps.map (·.1) := List.mem_map.2 ⟨q, hq, rfl⟩;rw [← hfst] at hm;obtain ⟨q', hq', e⟩ := List.mem_map.1 hm;have := hall q' hq';rw [e] at this;exact this
def PS.r0 (x : PS) (v : Int) : PS := { x with r := put x.r 0 v }
theorem dW (x : PS) (v : Int) : (pcells x).setIfInBounds (7 + 0) (.int .u16 v) = pcells (x.r0 v) := dF x (by omega) v
theorem ud (x : PS) (v : Int) : (pcells x).setIfInBounds 91 (.int .i64 v) = pcells { x with til := v } := by rfl
def St.sleep1 (S : St) (b : Nat) (x : PS) : St := if x.r 0 = 0 then S.setP b (x.r0 0) else (S.setP b { x.r0 0 with til := (S.now : Int) + x.r 0 }).stop1 b { x.r0 0 with til := (S.now : Int) + x.r 0 } 3
def St.yield1 (S : St) (b : Nat) (x : PS) : St :=
 let S2 := (S.setP b (x.r0 0)).setRow x.lv ((S.rows x.lv).erase b)
 S2.setRow x.lv (S2.rows x.lv ++ [b])
theorem vY : ∃ n, ∀ {σ : Type} {F : Fam σ} {Δ : ∀ s, Dom (F.R s) (F.D s)} {main : Bool} {s : σ} (K : Nat) (A : Lay) (S : St) (Fr L : Frag) (b : Nat) (x : PS), Rep K A S Fr L → Inv S → (b, x) ∈ S.ps → S.now < 4611686018427387904 → x.r 0 = 0 →
   CallsL Δ Tryz.prog main 134 [ptr K, ptr b].toArray n s L (fun s' v L' => s = s' ∧ v = .tuple #[] ∧ ∃ A', Rep K A' (S.sleep1 b x) Fr L') := by
 obtain ⟨n1, g1⟩ := jV;apply Exists.intro;intro σ F Δ main s K A S Fr L b x hR hI hb hnow h0;have hlv := hI.g.lv _ hb;have wx0 : 0 ≤ x.r 0 ∧ x.r 0 < 65536 := (hI.wf _ hb).r 0 (by omega);have w0 : IntKind.i64.wrap (x.r 0) = x.r 0 := by simp [IntKind.wrap_i64]; omega
 have w1 : IntKind.i64.wrap ((S.now : Int) + x.r 0) = (S.now : Int) + x.r 0 := by simp [IntKind.wrap_i64]; omega
 have hx0 : At L b 7 (.int .u16 (x.r 0)) := hR.pat hb (bh x (i := 0) (by omega));co_applyP aB 31 Tryz.func134 Tryz.ntmps134;co_applyP ae;co_applyP aa;co_applyP oy rfl aj;co_applyP oy rfl aL;co_applyP oy rfl (av (hf := aD));co_applyP oy rfl (av (hf := aY));co_applyP oy rfl (a0 Tryz.underlying47 a9);co_applyP oy rfl (aC (ht := cp));co_applyP oy rfl (cg (hs := Tryz.underlying32) (ht := Tryz.underlying3));co_applyP oy rfl ak;co_applyP ah;change wpE ..;co_applyP ae;co_applyP aa;co_applyP oy rfl aj;co_applyP oy rfl aL;co_applyP oy rfl (av (hf := aD));co_applyP oy rfl (av (hf := aY));co_applyP oy rfl (a0 Tryz.underlying47 a9);simp only [w0];co_applyP osm rfl (hs := a9) (hm := hR.p _ hb) (hi := by first | decide | (rw [bg]; omega) | (rw [bC]; omega));intro L1 hU1;have hR1 := hR.setP (x' := x.r0 0) hb (by rw [← dW]; exact hU1);have hb1 : (b, x.r0 0) ∈ (S.setP b (x.r0 0)).ps := au hb;have hn1 : At L1 K 16 (.int .i64 (S.now : Nat)) := hR1.kat rfl;have e0 : (x.r 0 == 0) = true := by simp [h0]
 co_applyP ah;change wpE ..;co_applyP ae (n₂ := 0);co_applyP ae;co_applyP aa;co_applyP oy rfl aj;co_applyP oy rfl ay;co_applyP ah;change wpE ..;rw [e0];co_applyP aW rfl;co_applyP aJ;change ∃ v, resE .. = some v ∧ _;exact ⟨_, rfl, rfl, rfl, A, by unfold St.sleep1; rw [if_pos h0]; exact hR1⟩
theorem vZ : ∃ n, ∀ {σ : Type} {F : Fam σ} {Δ : ∀ s, Dom (F.R s) (F.D s)} {main : Bool} {s : σ} (K : Nat) (A : Lay) (S : St) (Fr L : Frag) (b : Nat) (x : PS), Rep K A S Fr L → Inv S → (b, x) ∈ S.ps → S.now < 4611686018427387904 → x.r 0 ≠ 0 →
   CallsL Δ Tryz.prog main 134 [ptr K, ptr b].toArray n s L (fun s' v L' => s = s' ∧ v = .tuple #[] ∧ ∃ A', Rep K A' (S.sleep1 b x) Fr L') := by
 obtain ⟨n1, g1⟩ := jV;apply Exists.intro;intro σ F Δ main s K A S Fr L b x hR hI hb hnow h0;have hlv := hI.g.lv _ hb;have wx0 : 0 ≤ x.r 0 ∧ x.r 0 < 65536 := (hI.wf _ hb).r 0 (by omega);have w0 : IntKind.i64.wrap (x.r 0) = x.r 0 := by simp [IntKind.wrap_i64]; omega
 have w1 : IntKind.i64.wrap ((S.now : Int) + x.r 0) = (S.now : Int) + x.r 0 := by simp [IntKind.wrap_i64]; omega
 have hx0 : At L b 7 (.int .u16 (x.r 0)) := hR.pat hb (bh x (i := 0) (by omega));co_applyP aB 31 Tryz.func134 Tryz.ntmps134;co_applyP ae;co_applyP aa;co_applyP oy rfl aj;co_applyP oy rfl aL;co_applyP oy rfl (av (hf := aD));co_applyP oy rfl (av (hf := aY));co_applyP oy rfl (a0 Tryz.underlying47 a9);co_applyP oy rfl (aC (ht := cp));co_applyP oy rfl (cg (hs := Tryz.underlying32) (ht := Tryz.underlying3));co_applyP oy rfl ak;co_applyP ah;change wpE ..;co_applyP ae;co_applyP aa;co_applyP oy rfl aj;co_applyP oy rfl aL;co_applyP oy rfl (av (hf := aD));co_applyP oy rfl (av (hf := aY));co_applyP oy rfl (a0 Tryz.underlying47 a9);simp only [w0];co_applyP osm rfl (hs := a9) (hm := hR.p _ hb) (hi := by first | decide | (rw [bg]; omega) | (rw [bC]; omega));intro L1 hU1;have hR1 := hR.setP (x' := x.r0 0) hb (by rw [← dW]; exact hU1);have hb1 : (b, x.r0 0) ∈ (S.setP b (x.r0 0)).ps := au hb;have hn1 : At L1 K 16 (.int .i64 (S.now : Nat)) := hR1.kat rfl;have e0 : (x.r 0 == 0) = false := by simp [h0]
 co_applyP ah;change wpE ..;co_applyP ae;co_applyP ae;co_applyP aa;co_applyP oy rfl aj;co_applyP oy rfl ay;co_applyP ah;change wpE ..;rw [e0];co_applyP aq rfl;co_applyP aA;change wpE ..;co_applyP ae;co_applyP aa;co_applyP oy rfl aj;co_applyP oy rfl aj;co_applyP oy rfl aL;co_applyP oy rfl (av (hf := bZ));co_applyP oy rfl (aC (ht := aV));co_applyP oy rfl aj;co_applyP oy rfl a7;co_applyP oy rfl aL;co_applyP oy rfl (av (hf := pO));simp only [w1];co_applyP osm rfl (hs := dm) (hm := hR1.p _ hb1) (hi := by first | decide | (rw [bg]; omega) | (rw [bC]; omega));intro L2 hU2;have hR2 := hR1.setP (x' := { x.r0 0 with til := (S.now : Int) + x.r 0 }) hb1 (by rw [← ud]; exact hU2);rw [dE] at hR2;co_applyP ah;change wpE ..;co_applyP aa;co_applyP oy rfl aj;co_applyP oy rfl aj;co_applyP oc rfl rfl rfl (g1 K A _ Fr L2 b _ 3 hR2 (au hb) hlv (hI.g.r8 hlv) (fun c hc => ja (hI.g.ex hlv c hc)) (fun e he => cI e.1 hlv));rintro _ _ _ ⟨rfl, rfl, A3, hw3, hR3⟩;co_applyP ah;change ∃ v, resE .. = some v ∧ _;exact ⟨_, rfl, rfl, rfl, A3, by unfold St.sleep1; rw [if_neg h0]; exact hR3⟩
theorem wg : ∃ n, ∀ {σ : Type} {F : Fam σ} {Δ : ∀ s, Dom (F.R s) (F.D s)} {main : Bool} {s : σ} (K : Nat) (A : Lay) (S : St) (Fr L : Frag) (b : Nat) (x : PS), Rep K A S Fr L → Inv S → (b, x) ∈ S.ps → S.now < 4611686018427387904 →
   CallsL Δ Tryz.prog main 134 [ptr K, ptr b].toArray n s L (fun s' v L' => s = s' ∧ v = .tuple #[] ∧ ∃ A', Rep K A' (S.sleep1 b x) Fr L') := by
 obtain ⟨n0, g0⟩ := vY;obtain ⟨n1, g1⟩ := vZ;exact ⟨n0 + n1, fun {σ F Δ main s} K A S Fr L b x hR hI hb hnow => aS (x.r 0 = 0) (fun h => g0 K A S Fr L b x hR hI hb hnow h) fun h => g1 K A S Fr L b x hR hI hb hnow h⟩
theorem wh : ∃ n, ∀ {σ : Type} {F : Fam σ} {Δ : ∀ s, Dom (F.R s) (F.D s)} {main : Bool} {s : σ} (K : Nat) (A : Lay) (S : St) (Fr L : Frag) (b : Nat) (x : PS), (∀ cs, (Δ s).New (.cells cs 93)) → Rep K A S Fr L → Inv S → (b, x) ∈ S.ps →
   CallsL Δ Tryz.prog main 135 [ptr K, ptr b].toArray n s L (fun s' v L' => s = s' ∧ v = .tuple #[] ∧ ∃ A', Rep K A' (S.yield1 b x) Fr L') := by
 obtain ⟨n1, g1⟩ := lY;obtain ⟨n2, g2⟩ := oS;apply Exists.intro;intro σ F Δ main s K A S Fr L b x hN hR hI hb;have hlv := hI.g.lv _ hb;co_applyP aB 19 Tryz.func135 Tryz.ntmps135;co_applyP ae;co_applyP aa;co_applyP oy rfl aj;co_applyP oy rfl aL;co_applyP oy rfl (av (hf := aD));co_applyP oy rfl (av (hf := aY));co_applyP oy rfl (a0 Tryz.underlying47 a9);co_applyP osm rfl (hs := a9) (hm := hR.p _ hb) (hi := by first | decide | (rw [bg]; omega) | (rw [bC]; omega));intro L1 hU1;have hR1 := hR.setP (x' := x.r0 0) hb (by rw [← dW]; exact hU1);have hb1 : (b, x.r0 0) ∈ (S.setP b (x.r0 0)).ps := au hb;co_applyP ah;change wpE ..;co_applyP ae;co_applyP aa;co_applyP oy rfl aj;co_applyP oy rfl aL;co_applyP oy rfl (av (hf := dn));co_applyP oy rfl aj;co_applyP oc rfl rfl rfl (g1 K A _ Fr L1 b _ hR1 hb1 hlv (hI.g.r8 hlv) (fun c hc => ja (hI.g.ex hlv c hc)) (fun e he => cI e.1 hlv));rintro _ _ _ ⟨rfl, rfl, A2, hw2, hR2⟩;co_applyP ah;change wpE ..;co_applyP aa;co_applyP oy rfl aj;co_applyP oy rfl aL;co_applyP oy rfl (av (hf := dn));co_applyP oy rfl aj;rename_i L2;have h8 : (((S.setP b (x.r0 0)).setRow x.lv ((S.rows x.lv).erase b)).rows x.lv).length ≤ 8 := by
   have e : ((S.setP b (x.r0 0)).setRow x.lv ((S.rows x.lv).erase b)).rows x.lv = (S.rows x.lv).erase b := by simp [St.setRow, put]
   rw [e];exact Nat.le_trans List.length_erase_le (hI.g.r8 hlv)
 co_applyP oc rfl rfl rfl (g2 K A2 _ Fr L2 b (x.r0 0) hN hR2 hb1 hlv h8 (fun e he => cI e.1 hlv));rintro _ _ _ ⟨rfl, rfl, A3, hw3, hR3⟩;co_applyP ah;change ∃ v, resE .. = some v ∧ _;exact ⟨_, rfl, rfl, rfl, A3, hR3⟩
theorem ue : ∃ n, ∀ {σ : Type} {F : Fam σ} {Δ : ∀ s, Dom (F.R s) (F.D s)} {main : Bool} {s : σ} (L : Frag) (K b : Nat) (ch : Value),
   CallsL Δ Tryz.prog main 84 [ptr K, ptr b, .nilIface, ch].toArray n s L (fun s' v L' => s = s' ∧ L = L' ∧ v = .tuple #[]) := by
 apply Exists.intro;intro σ F Δ main s L K b ch;co_applyP aB 20 Tryz.func84 Tryz.ntmps84;co_applyP ae;co_applyP aa;co_applyP oy rfl aj;co_applyP oy rfl (dx (v := .nilIface) (c := true) (hv := .inl ⟨rfl, rfl⟩) (hu := Tryz.underlying168));co_applyP oy rfl aj;co_applyP ou rfl;co_applyP ou rfl;co_applyP ou rfl;co_applyP ou rfl;co_applyP oy rfl aN;co_applyP ah;change wpE ..;co_applyP aq rfl;co_applyP aA;change ∃ v, resE .. = some v ∧ _;exact ⟨_, rfl, rfl, rfl, rfl⟩
theorem uf : ∃ n, ∀ {σ : Type} {F : Fam σ} {Δ : ∀ s, Dom (F.R s) (F.D s)} {main : Bool} {s : σ} (K : Nat) (A : Lay) (S : St) (Fr L : Frag) (eb : Nat → Nat × Nat) (b : Nat) (x : PS) (r i : Nat) (ch : Value), NewK (Δ s) → Rep K A S Fr L → Ers eb Fr → (b, x) ∈ S.ps → At L r 1 (erv eb i) → i < 11 → i ≠ 2 →
   CallsL Δ Tryz.prog main 84 [ptr K, ptr b, .iface 180 (ptr r), ch].toArray n s L (fun s' v L' => s = s' ∧ v = .tuple #[] ∧ Rep K A (S.setP b (x.r0 (ansOf i))) Fr L') := by
 obtain ⟨n1, g1⟩ := jY;apply Exists.intro;intro σ F Δ main s K A S Fr L eb b x r i ch hN hR hE hb hr hi hi2;co_applyP aB 20 Tryz.func84 Tryz.ntmps84;co_applyP ae;co_applyP aa;co_applyP oy rfl aj;co_applyP oy rfl (dx (v := .iface 180 (ptr r)) (c := false) (hv := .inr ⟨_, _, rfl, rfl⟩) (hu := Tryz.underlying168));co_applyP oy rfl aj;co_applyP oy rfl (aj);co_applyP oy rfl (aj);co_applyP oc rfl rfl rfl (g1 K A S Fr L eb b x r i hN.toNewE hR hE hb hr hi hi2);rintro _ _ _ ⟨rfl, rfl, hR1⟩;co_applyP oy rfl (bY);co_applyP oy rfl aN;co_applyP ah;change wpE ..;co_applyP aq rfl;co_applyP aA;change ∃ v, resE .. = some v ∧ _;exact ⟨_, rfl, rfl, rfl, hR1⟩
theorem ug : ∃ n, ∀ {p : Par} {Sh : Loc → Prop} {E Dn : Nat} {PostB : World → Prop} {Aft : Goroutine → World → Prop} {W : World} {O : Nat} {G0 : List (Nat × Obj)} {vs : List Value} (K : Nat) (A : Lay) (S : St) (Fr L : Frag) (eb : Nat → Nat × Nat) (b : Nat) (x : PS) (e : Nat × Nat), (∀ s, NewK (domT Tryz.prog p Sh E Dn PostB Aft W O G0 s)) → Rep K A S Fr L → Ers eb Fr → Inv S → (b, x) ∈ S.ps →
   CallsL (domT Tryz.prog p Sh E Dn PostB Aft W O G0) Tryz.prog false 84 [ptr K, ptr b, .iface 255 (ptq e), .chan (some E)].toArray n (evt S.now 4 x.id 65281 :: vs) L (fun s' v L' => vs = s' ∧ v = .tuple #[] ∧ ∃ A' G, (∀ q ∈ S.ps, (∃ z, (q.1, z) ∈ (S.fin b x 65281).ps) ∨ ∃ z, pb q.1 z ∈ G ∧ z.st = 6) ∧ Rep K A' (S.fin b x 65281) (G ++ Fr) L') := by
 obtain ⟨n1, g1⟩ := oT;obtain ⟨n2, g2⟩ := uc;apply Exists.intro;intro p Sh E Dn PostB Aft W O G0 vs K A S Fr L eb b x e hN hR hE hI hb;co_applyP aB 20 Tryz.func84 Tryz.ntmps84;co_applyP ae;co_applyP aa;co_applyP oy rfl aj;co_applyP oy rfl (dx (v := .iface 255 (ptq e)) (c := false) (hv := .inr ⟨_, _, rfl, rfl⟩) (hu := Tryz.underlying168));co_applyP oy rfl aj;co_applyP oy rfl (aj);co_applyP oy rfl (aj);co_applyP oc rfl rfl rfl (g1 L eb b e (hN _).toNewE (hE.mono hR.fr));rintro _ _ _ ⟨rfl, rfl, hF1, hs1⟩;rename_i L1;have hR1 := hR.of hF1 hs1;co_applyP oy rfl (bY);co_applyP oy rfl aN;co_applyP ah;change wpE ..;co_applyP aW rfl;co_applyP aa;co_applyP oy rfl aj;co_applyP oy rfl aj;co_applyP oy rfl aj;co_applyP oc rfl rfl rfl (g2 K A S Fr L1 eb b x 65281 hN hR1 hE hI hb);rintro _ _ _ ⟨rfl, rfl, A2, G, hall, hR2⟩;co_applyP ah;change ∃ v, resE .. = some v ∧ _;exact ⟨_, rfl, rfl, rfl, A2, G, hall, hR2⟩
def erV (eb : Nat → Nat × Nat) : Option Nat → Value
 | none => .nilIface
 | some i => erv eb i
def Stays (b : Nat) (S : St) (G : Frag) : Prop := (∃ z, (b, z) ∈ S.ps) ∨ ∃ z, pb b z ∈ G ∧ z.st = 6
def St.hasChild (S : St) (x : PS) : Bool := S.ps.any fun q => decide (q.2.par = x.id)
def St.waitR (S : St) (b : Nat) (x : PS) : Option Nat × St := if S.hasChild x then (none, match S.childAt x with
 | some i => S.take b x i
 | none => S.stop1 b x 2) else (some 5, S)
theorem yn : ∃ n, ∀ {σ : Type} {F : Fam σ} {Δ : ∀ s, Dom (F.R s) (F.D s)} {main : Bool} {s : σ} (K : Nat) (A : Lay) (S : St) (Fr L : Frag) (eb : Nat → Nat × Nat) (b : Nat) (x : PS), Rep K A S Fr L → Ers eb Fr → (b, x) ∈ S.ps → S.hasChild x = false →
   CallsL Δ Tryz.prog main 132 [ptr K, ptr b].toArray n s L (fun s' v L' => s = s' ∧ v = erv eb 5 ∧ Rep K A S Fr L') := by
 obtain ⟨n0, g0⟩ := dr;obtain ⟨n1, g1⟩ := dp n0;apply Exists.intro;intro σ F Δ main s K A S Fr L eb b x hR hE hb hch;obtain ⟨base, cap, hv, hat0⟩ := bA hR.pa;simp only [List.length_map] at hv;have h5 : At L K 5 (.slice base (S.ps.map (·.1)).length cap) := by rw [List.length_map, ← hv]; exact hR.kat rfl
 have hcl : ∀ c ∈ S.ps.map (·.1), ∀ L', Ext L L' → CallsL Δ Tryz.prog main 128 ([ptr b] ++ [ptr c] ++ []).toArray n0 s L' (fun s' v L'' => s = s' ∧ v = .bool (S.testB (fun y => decide (y.par = x.id)) c) ∧ Ext L' L'') := by
   intro c hc L' hE';obtain ⟨q, hq, rfl⟩ := List.mem_map.1 hc;have e : S.testB (fun y => decide (y.par = x.id)) q.1 = decide (q.2.par = x.id) := by simp [St.testB, bt hR.pn (b := q.1) (x := q.2) hq]
   rw [e];refine aU (g0 L' b q.1 x q.2 (hE'.s _ (hR.p _ hb)) (hE'.s _ (hR.p _ hq))) fun s' v L'' ⟨h1, h2, h3⟩ => ⟨h1, h3, ?_⟩;subst h2;exact ⟨hE'.f, fun _ h => h⟩
 co_applyP aB 21 Tryz.func132 Tryz.ntmps132;co_applyP ae;co_applyP aa;co_applyP oy rfl ak;co_applyP ah;change wpE ..;co_applyP ae (n₂ := 0);co_applyP ae;co_applyP aa;co_applyP oy rfl aj;co_applyP oy rfl aL;co_applyP oy rfl (av (hf := bO));co_applyP oy rfl (aC (ht := cZ));co_applyP oy rfl aj;co_applyP oy rfl oN;co_applyP oc rfl rfl rfl (g1 L 128 _ [ptr b] [] (S.ps.map (·.1)) (S.testB fun y => decide (y.par = x.id)) base cap (fun i v hv => by obtain ⟨b, _, h2, h3⟩ := hat0 i v (by simpa using hv); exact ⟨b, h2, h3⟩) (by simpa using hR.p8) Tryz.func128 rfl rfl hcl);rintro _ _ _ ⟨rfl, rfl, hE1⟩;co_applyP oy rfl bY;co_applyP ah;change wpE ..;rename_i L1;have e1 : (S.ps.map (·.1)).any (S.testB fun y => decide (y.par = x.id)) = false := by rw [fP hR.pn]; exact hch
 have hR1 := hR.ext hE1;have hg := (hE.mono hR1.fr).g 5 (by decide) (by decide);rw [e1];co_applyP aW rfl;co_applyP ae;co_applyP aa;co_applyP oy rfl (aC (ht := b4));co_applyP oy rfl ak;co_applyP ah;change wpE ..;co_applyP aJ;change ∃ v, resE .. = some v ∧ _;exact ⟨_, rfl, rfl, rfl, hR1⟩
theorem yo : ∃ n, ∀ {σ : Type} {F : Fam σ} {Δ : ∀ s, Dom (F.R s) (F.D s)} {main : Bool} {s : σ} (K : Nat) (A : Lay) (S : St) (Fr L : Frag) (b : Nat) (x : PS), (∀ cs, (Δ s).New (.cells cs 93)) → Rep K A S Fr L → Inv S → (b, x) ∈ S.ps → x.st ≠ 6 → S.hasChild x = true → S.childAt x = none →
   CallsL Δ Tryz.prog main 132 [ptr K, ptr b].toArray n s L (fun s' v L' => s = s' ∧ v = .nilIface ∧ ∃ A', Rep K A' (S.stop1 b x 2) Fr L') := by
 obtain ⟨n0, g0⟩ := dr;obtain ⟨n1, g1⟩ := dp n0;obtain ⟨n2, g2⟩ := iP;obtain ⟨n3, g3⟩ := jV;apply Exists.intro;intro σ F Δ main s K A S Fr L b x hN hR hI hb hx6 hch hca;have hlv := hI.g.lv _ hb;obtain ⟨base, cap, hv, hat0⟩ := bA hR.pa;simp only [List.length_map] at hv;have h5 : At L K 5 (.slice base (S.ps.map (·.1)).length cap) := by rw [List.length_map, ← hv]; exact hR.kat rfl
 have hcl : ∀ c ∈ S.ps.map (·.1), ∀ L', Ext L L' → CallsL Δ Tryz.prog main 128 ([ptr b] ++ [ptr c] ++ []).toArray n0 s L' (fun s' v L'' => s = s' ∧ v = .bool (S.testB (fun y => decide (y.par = x.id)) c) ∧ Ext L' L'') := by
   intro c hc L' hE';obtain ⟨q, hq, rfl⟩ := List.mem_map.1 hc;have e : S.testB (fun y => decide (y.par = x.id)) q.1 = decide (q.2.par = x.id) := by simp [St.testB, bt hR.pn (b := q.1) (x := q.2) hq]
   rw [e];refine aU (g0 L' b q.1 x q.2 (hE'.s _ (hR.p _ hb)) (hE'.s _ (hR.p _ hq))) fun s' v L'' ⟨h1, h2, h3⟩ => ⟨h1, h3, ?_⟩;subst h2;exact ⟨hE'.f, fun _ h => h⟩
 co_applyP aB 21 Tryz.func132 Tryz.ntmps132;co_applyP ae;co_applyP aa;co_applyP oy rfl ak;co_applyP ah;change wpE ..;co_applyP ae;co_applyP ae;co_applyP aa;co_applyP oy rfl aj;co_applyP oy rfl aL;co_applyP oy rfl (av (hf := bO));co_applyP oy rfl (aC (ht := cZ));co_applyP oy rfl aj;co_applyP oy rfl oN;co_applyP oc rfl rfl rfl (g1 L 128 _ [ptr b] [] (S.ps.map (·.1)) (S.testB fun y => decide (y.par = x.id)) base cap (fun i v hv => by obtain ⟨b, _, h2, h3⟩ := hat0 i v (by simpa using hv); exact ⟨b, h2, h3⟩) (by simpa using hR.p8) Tryz.func128 rfl rfl hcl);rintro _ _ _ ⟨rfl, rfl, hE1⟩;co_applyP oy rfl bY;co_applyP ah;change wpE ..;rename_i L1;have e1 : (S.ps.map (·.1)).any (S.testB fun y => decide (y.par = x.id)) = true := by rw [fP hR.pn]; exact hch
 have hR1 := hR.ext hE1;rw [e1];co_applyP aq rfl;co_applyP aA;change wpE ..;co_applyP ae;co_applyP ae;co_applyP aa;co_applyP oy rfl aj;co_applyP oy rfl aj;co_applyP oc rfl rfl rfl (g2 K A S Fr L1 b x hN hR1 hb hx6);rintro _ _ _ ⟨rfl, hpost⟩;rename_i v2 L2;rw [hca] at hpost;obtain ⟨rfl, hR2⟩ := hpost;co_applyP oy rfl bY;co_applyP ah;change wpE ..;co_applyP aW rfl;co_applyP aa;co_applyP oy rfl aj;co_applyP oy rfl aj;co_applyP oc rfl rfl rfl (g3 K A S Fr L2 b x 2 hR2 hb hlv (hI.g.r8 hlv) (hI.g.ex hlv) (fun e he => cI e.1 hlv));rintro _ _ _ ⟨rfl, rfl, A3, hw3, hR3⟩;co_applyP ah;change wpE ..;co_applyP ae;co_applyP aa;co_applyP oy rfl ak;co_applyP ah;change wpE ..;co_applyP aJ;change ∃ v, resE .. = some v ∧ _;exact ⟨_, rfl, rfl, rfl, A3, hR3⟩
theorem yp : ∃ n, ∀ {σ : Type} {F : Fam σ} {Δ : ∀ s, Dom (F.R s) (F.D s)} {main : Bool} {s : σ} (K : Nat) (A : Lay) (S : St) (Fr L : Frag) (b : Nat) (x : PS) (i : Nat), (∀ cs, (Δ s).New (.cells cs 93)) → Rep K A S Fr L → Inv S → (b, x) ∈ S.ps → x.st ≠ 6 → S.hasChild x = true → S.childAt x = some i →
   CallsL Δ Tryz.prog main 132 [ptr K, ptr b].toArray n s L (fun s' v L' => s = s' ∧ v = .nilIface ∧ ∃ A', Rep K A' (S.take b x i) Fr L') := by
 obtain ⟨n0, g0⟩ := dr;obtain ⟨n1, g1⟩ := dp n0;obtain ⟨n2, g2⟩ := iP;apply Exists.intro;intro σ F Δ main s K A S Fr L b x i hN hR hI hb hx6 hch hca;obtain ⟨base, cap, hv, hat0⟩ := bA hR.pa;simp only [List.length_map] at hv;have h5 : At L K 5 (.slice base (S.ps.map (·.1)).length cap) := by rw [List.length_map, ← hv]; exact hR.kat rfl
 have hcl : ∀ c ∈ S.ps.map (·.1), ∀ L', Ext L L' → CallsL Δ Tryz.prog main 128 ([ptr b] ++ [ptr c] ++ []).toArray n0 s L' (fun s' v L'' => s = s' ∧ v = .bool (S.testB (fun y => decide (y.par = x.id)) c) ∧ Ext L' L'') := by
   intro c hc L' hE';obtain ⟨q, hq, rfl⟩ := List.mem_map.1 hc;have e : S.testB (fun y => decide (y.par = x.id)) q.1 = decide (q.2.par = x.id) := by simp [St.testB, bt hR.pn (b := q.1) (x := q.2) hq]
   rw [e];refine aU (g0 L' b q.1 x q.2 (hE'.s _ (hR.p _ hb)) (hE'.s _ (hR.p _ hq))) fun s' v L'' ⟨h1, h2, h3⟩ => ⟨h1, h3, ?_⟩;subst h2;exact ⟨hE'.f, fun _ h => h⟩
 co_applyP aB 21 Tryz.func132 Tryz.ntmps132;co_applyP ae;co_applyP aa;co_applyP oy rfl ak;co_applyP ah;change wpE ..;co_applyP ae;co_applyP ae;co_applyP aa;co_applyP oy rfl aj;co_applyP oy rfl aL;co_applyP oy rfl (av (hf := bO));co_applyP oy rfl (aC (ht := cZ));co_applyP oy rfl aj;co_applyP oy rfl oN;co_applyP oc rfl rfl rfl (g1 L 128 _ [ptr b] [] (S.ps.map (·.1)) (S.testB fun y => decide (y.par = x.id)) base cap (fun i v hv => by obtain ⟨b, _, h2, h3⟩ := hat0 i v (by simpa using hv); exact ⟨b, h2, h3⟩) (by simpa using hR.p8) Tryz.func128 rfl rfl hcl);rintro _ _ _ ⟨rfl, rfl, hE1⟩;co_applyP oy rfl bY;co_applyP ah;change wpE ..;rename_i L1;have e1 : (S.ps.map (·.1)).any (S.testB fun y => decide (y.par = x.id)) = true := by rw [fP hR.pn]; exact hch
 have hR1 := hR.ext hE1;rw [e1];co_applyP aq rfl;co_applyP aA;change wpE ..;co_applyP ae;co_applyP ae;co_applyP aa;co_applyP oy rfl aj;co_applyP oy rfl aj;co_applyP oc rfl rfl rfl (g2 K A S Fr L1 b x hN hR1 hb hx6);rintro _ _ _ ⟨rfl, hpost⟩;rename_i v2 L2;rw [hca] at hpost;obtain ⟨rfl, c, y, a', hcy, hR2⟩ := hpost;co_applyP oy rfl bY;co_applyP ah;change wpE ..;co_applyP aq rfl;co_applyP aA;change wpE ..;co_applyP ae;co_applyP aa;co_applyP oy rfl ak;co_applyP ah;change wpE ..;co_applyP aJ;change ∃ v, resE .. = some v ∧ _;refine ⟨_, rfl, rfl, rfl, A.setA 0 a', ?_⟩;unfold St.take;rw [hcy];exact hR2.less fun t ht => List.mem_cons_of_mem _ ht
theorem yq : ∃ n, ∀ {σ : Type} {F : Fam σ} {Δ : ∀ s, Dom (F.R s) (F.D s)} {main : Bool} {s : σ} (K : Nat) (A : Lay) (S : St) (Fr L : Frag) (eb : Nat → Nat × Nat) (b : Nat) (x : PS), (∀ cs, (Δ s).New (.cells cs 93)) → Rep K A S Fr L → Ers eb Fr → Inv S → (b, x) ∈ S.ps → x.st ≠ 6 →
   CallsL Δ Tryz.prog main 132 [ptr K, ptr b].toArray n s L (fun s' v L' => s = s' ∧ v = erV eb (S.waitR b x).1 ∧ ∃ A', Rep K A' (S.waitR b x).2 Fr L') := by
 obtain ⟨n0, g0⟩ := yn;obtain ⟨n1, g1⟩ := yo;obtain ⟨n2, g2⟩ := yp;refine ⟨n0 + (n1 + n2), fun {σ F Δ main s} K A S Fr L eb b x hN hR hE hI hb h6 => aS (S.hasChild x = false) (fun h => ?_) fun h => aS (S.childAt x = none) (fun hc => ?_) fun hc => ?_⟩
 · have e : S.waitR b x = (some 5, S) := by unfold St.waitR; rw [if_neg (by rw [h]; simp)]
   rw [e];exact aU (g0 K A S Fr L eb b x hR hE hb h) fun s' v L' ⟨h1, h2, h3⟩ => ⟨h1, h2, A, h3⟩
 · have h' : S.hasChild x = true := by simpa using h
   have e : S.waitR b x = (none, S.stop1 b x 2) := by unfold St.waitR; rw [if_pos h', hc]
   rw [e];exact g1 K A S Fr L b x hN hR hI hb h6 h' hc
 · have h' : S.hasChild x = true := by simpa using h
   obtain ⟨i, hi⟩ : ∃ i, S.childAt x = some i := by
     cases hh : S.childAt x with
     | none => exact absurd hh hc
     | some i => exact ⟨i, rfl⟩
   have e : S.waitR b x = (none, S.take b x i) := by unfold St.waitR; rw [if_pos h', hi]
   rw [e];exact g2 K A S Fr L b x i hN hR hI hb h6 h' hi
section
variable {K : Nat} {A : Lay} {S : St} {F G L L' : Frag}
theorem Rep.off (h : Rep K A S F L) {b : Nat} {o : Obj} (hk : K ≠ b) (hp : ∀ q ∈ S.ps, q.1 ≠ b) (ha : ∀ i, (A.a i).b ≠ some b) (hy : ∀ i, (A.y i).b ≠ some b) (hw : A.wt ≠ b) (hg : A.g ≠ b) (hF : ∀ t ∈ F, t.1 ≠ b) (u : Upd L b o L') : Rep K A S F L' := by
 have arr : ∀ (a : Sl) (xs : List Value) (e : TypeId), a.b ≠ some b → slOk a xs e L → slOk a xs e L' := fun a xs e hn ha => by
   refine ha.mono fun c hc o ho => u.ne _ ho ?_;show c ≠ b;rintro rfl;exact hn hc
 exact { h with
   fn := u.fn
   k := u.ne _ h.k hk
   g := u.ne _ h.g hg
   p := fun q hq => u.ne _ (h.p q hq) (hp q hq)
   pa := arr _ _ _ (ha 0) h.pa
   rw := fun l hl => arr _ _ _ (ha _) (h.rw l hl)
   ya := fun i hi => arr _ _ _ (hy i) (h.ya i hi)
   w := u.ne _ h.w hw
   wa := fun e he => arr _ _ _ (ha _) (h.wa e he)
   al := fun i c hc => by obtain ⟨xs, hx⟩ := h.al i c hc; exact ⟨xs, u.ne _ hx (by rintro rfl; exact ha i hc)⟩
   yl := fun i c hc => by obtain ⟨xs, hx⟩ := h.yl i c hc; exact ⟨xs, u.ne _ hx (by rintro rfl; exact hy i hc)⟩
   fr := fun t ht => u.ne _ (h.fr t ht) (hF t ht) }
theorem Rep.aside (h : Rep K A S (G ++ F) L) {b : Nat} {z z' : PS} (hm : pb b z ∈ G) (hF : ∀ t ∈ F, t.1 ≠ b) (u : Upd L b (.cells (pcells z') 99) L') : Rep K A S ((pb b z' :: G.filter fun t => !decide (t.1 = b)) ++ F) L' := by
 have hd := h.fd (pb b z) (List.mem_append_left _ hm);have hbL := h.fr (pb b z) (List.mem_append_left _ hm);have h1 : Rep K A S ((G.filter fun t => !decide (t.1 = b)) ++ F) L := h.less fun t ht => by
   rcases List.mem_append.1 ht with h | h
   · exact List.mem_append_left _ (List.mem_filter.1 h).1
   · exact List.mem_append_right _ h
 have h2 := h1.off (b := b) (Ne.symm hd.1) (fun q hq => Ne.symm (hd.2.1 q hq)) hd.2.2.1 hd.2.2.2.1 (Ne.symm hd.2.2.2.2) (h.fn.ne h.g hbL (aF (by decide))) (fun t ht => by
   rcases List.mem_append.1 ht with h | h
   · have := (List.mem_filter.1 h).2;simpa using this
   · exact hF t h) u
 exact h2.beside u.self hd.2.1
end
def St.r0 (S : St) (b : Nat) (v : Int) : St := match S.get b with
 | some z => S.setP b (z.r0 v)
 | none => S
theorem fC {S : St} {id : Int} {q : Nat × PS} (h : S.find id = some q) : q ∈ S.ps ∧ (q.2.id : Int) = id := by
 unfold St.find at h;exact ⟨List.mem_of_find?_eq_some h, by simpa using List.find?_some h⟩
theorem Rep.r0 {K : Nat} {A : Lay} {S : St} {F G L L' : Frag} (h : Rep K A S (G ++ F) L) {b : Nat} {z : PS} {v : Int} (hz : (b, z) ∈ S.ps ∨ (pb b z ∈ G ∧ z.st = 6)) (hF : ∀ t ∈ F, t.1 ≠ b) (u : Upd L b (.cells (pcells (z.r0 v)) 99) L') : ∃ G', Stays b (S.r0 b v) G' ∧ Rep K A (S.r0 b v) (G' ++ F) L' := by
 rcases hz with hz | ⟨hz, h6⟩
 · have e : S.r0 b v = S.setP b (z.r0 v) := by unfold St.r0; rw [bt h.pn hz]
   rw [e];exact ⟨G, .inl ⟨_, au hz⟩, h.setP hz u⟩
 · have hd := h.fd (pb b z) (List.mem_append_left _ hz);have e : S.r0 b v = S := by unfold St.r0; rw [ik fun r hr => Ne.symm (hd.2.1 r hr)]
   rw [e];exact ⟨_, .inr ⟨z.r0 v, List.mem_cons_self, h6⟩, h.aside hz hF u⟩
theorem Stays.at {K : Nat} {A : Lay} {S : St} {F G L : Frag} (h : Rep K A S (G ++ F) L) {b : Nat} (hs : Stays b S G) : ∃ z, pb b z ∈ L ∧ ((b, z) ∈ S.ps ∨ (pb b z ∈ G ∧ z.st = 6)) := by
 rcases hs with ⟨z, hz⟩ | ⟨z, hz, h6⟩
 · exact ⟨z, h.p _ hz, .inl hz⟩
 · exact ⟨z, h.fr _ (List.mem_append_left _ hz), .inr ⟨hz, h6⟩⟩
theorem yr : ∃ n, ∀ {σ : Type} {F : Fam σ} {Δ : ∀ s, Dom (F.R s) (F.D s)} {main : Bool} {s : σ} (K : Nat) (A : Lay) (S : St) (Fr L : Frag) (eb : Nat → Nat × Nat) (b : Nat) (x : PS) (ch : Value), Rep K A S Fr L → Ers eb Fr → Inv S → (b, x) ∈ S.ps → S.find (x.r 0) = none →
   CallsL Δ Tryz.prog main 133 [ptr K, ptr b, ch].toArray n s L (fun s' v L' => s = s' ∧ L = L' ∧ v = erv eb 6) := by
 obtain ⟨n1, g1⟩ := lW;apply Exists.intro;intro σ F Δ main s K A S Fr L eb b x ch hR hE hI hb hf;have wx0 : 0 ≤ x.r 0 ∧ x.r 0 < 65536 := (hI.wf _ hb).r 0 (by omega);have w0 : IntKind.i64.wrap (x.r 0) = x.r 0 := by simp [IntKind.wrap_i64]; omega
 have hx0 : At L b 7 (.int .u16 (x.r 0)) := hR.pat hb (bh x (i := 0) (by omega));have hg := (hE.mono hR.fr).g 6 (by decide) (by decide);co_applyP aB 37 Tryz.func133 Tryz.ntmps133;co_applyP ae;co_applyP aa;co_applyP oy rfl ak;co_applyP ah;change wpE ..;co_applyP ae;co_applyP aa;co_applyP oy rfl aj;co_applyP oy rfl aj;co_applyP oy rfl aL;co_applyP oy rfl (av (hf := aD));co_applyP oy rfl (av (hf := aY));co_applyP oy rfl (a0 Tryz.underlying47 a9);co_applyP oy rfl (aC (ht := cp));co_applyP oy rfl (cg (hs := Tryz.underlying32) (ht := Tryz.underlying3));simp only [w0];co_applyP oc rfl rfl rfl (g1 K A S Fr L (x.r 0) hR);rintro _ _ _ ⟨rfl, rfl, rfl⟩;rw [hf];co_applyP oy rfl ak;co_applyP ah;change wpE ..;co_applyP ae (n₂ := 0);co_applyP ae;co_applyP aa;co_applyP oy rfl aj;co_applyP oy rfl (gj (hu := Tryz.underlying93));co_applyP oy rfl aj;co_applyP ou rfl;co_applyP ou rfl;co_applyP ou rfl;co_applyP ou rfl;co_applyP ou rfl;co_applyP ou rfl;co_applyP oy rfl aN;co_applyP ah;change wpE ..;co_applyP aW rfl;co_applyP ae;co_applyP aa;co_applyP oy rfl (aC (ht := b4));co_applyP oy rfl ak;co_applyP ah;change wpE ..;co_applyP aJ;change ∃ v, resE .. = some v ∧ _;exact ⟨_, rfl, rfl, rfl, rfl⟩
theorem yt : ∃ n, ∀ {σ : Type} {F : Fam σ} {Δ : ∀ s, Dom (F.R s) (F.D s)} {main : Bool} {s : σ} (K : Nat) (A : Lay) (S : St) (Fr L : Frag) (eb : Nat → Nat × Nat) (b : Nat) (x : PS) (ch : Value) (c : Nat) (y : PS), Rep K A S Fr L → Ers eb Fr → Inv S → (b, x) ∈ S.ps → S.find (x.r 0) = some (c, y) → y.st = 6 →
   CallsL Δ Tryz.prog main 133 [ptr K, ptr b, ch].toArray n s L (fun s' v L' => s = s' ∧ L = L' ∧ v = erv eb 6) := by
 obtain ⟨n1, g1⟩ := lW;apply Exists.intro;intro σ F Δ main s K A S Fr L eb b x ch c y hR hE hI hb hf h6;have wx0 : 0 ≤ x.r 0 ∧ x.r 0 < 65536 := (hI.wf _ hb).r 0 (by omega);have w0 : IntKind.i64.wrap (x.r 0) = x.r 0 := by simp [IntKind.wrap_i64]; omega
 have hx0 : At L b 7 (.int .u16 (x.r 0)) := hR.pat hb (bh x (i := 0) (by omega));have hg := (hE.mono hR.fr).g 6 (by decide) (by decide);have hc := (fC hf).1;have hy2 : At L c 2 (.int .i64 (y.st : Nat)) := hR.pat hc (i := 2) rfl;co_applyP aB 37 Tryz.func133 Tryz.ntmps133;co_applyP ae;co_applyP aa;co_applyP oy rfl ak;co_applyP ah;change wpE ..;co_applyP ae;co_applyP aa;co_applyP oy rfl aj;co_applyP oy rfl aj;co_applyP oy rfl aL;co_applyP oy rfl (av (hf := aD));co_applyP oy rfl (av (hf := aY));co_applyP oy rfl (a0 Tryz.underlying47 a9);co_applyP oy rfl (aC (ht := cp));co_applyP oy rfl (cg (hs := Tryz.underlying32) (ht := Tryz.underlying3));simp only [w0];co_applyP oc rfl rfl rfl (g1 K A S Fr L (x.r 0) hR);rintro _ _ _ ⟨rfl, rfl, rfl⟩;rw [hf];co_applyP oy rfl ak;co_applyP ah;change wpE ..;co_applyP ae (n₂ := 0);co_applyP ae;co_applyP aa;co_applyP oy rfl aj;co_applyP oy rfl (gj (hu := Tryz.underlying93));co_applyP oy rfl aj;co_applyP oy rfl (aj);co_applyP oy rfl (aL);co_applyP oy rfl ((av (hf := aD)));co_applyP oy rfl ((av (hf := cA)));co_applyP oy rfl ((aC (ht := aV)));co_applyP oy rfl (ay);co_applyP oy rfl aN;co_applyP ah;change wpE ..;rw [h6];co_applyP aW rfl;co_applyP ae;co_applyP aa;co_applyP oy rfl (aC (ht := b4));co_applyP oy rfl ak;co_applyP ah;change wpE ..;co_applyP aJ;change ∃ v, resE .. = some v ∧ _;exact ⟨_, rfl, rfl, rfl, rfl⟩
theorem yu : ∃ n, ∀ {p : Par} {Sh : Loc → Prop} {E Dn : Nat} {PostB : World → Prop} {Aft : Goroutine → World → Prop} {W : World} {O : Nat} {G0 : List (Nat × Obj)} {vs : List Value} (K : Nat) (A : Lay) (S : St) (Fr L : Frag) (eb : Nat → Nat × Nat) (b : Nat) (x : PS) (c : Nat) (y : PS), (∀ s, NewK (domT Tryz.prog p Sh E Dn PostB Aft W O G0 s)) → Rep K A S Fr L → Ers eb Fr → Inv S → (b, x) ∈ S.ps → S.find (x.r 0) = some (c, y) → y.st ≠ 6 →
   CallsL (domT Tryz.prog p Sh E Dn PostB Aft W O G0) Tryz.prog false 133 [ptr K, ptr b, .chan (some E)].toArray n (evt S.now 4 y.id 65280 :: vs) L (fun s' v L' => vs = s' ∧ v = .nilIface ∧ ∃ A' G, Stays b ((S.fin c y 65280).r0 b 0) G ∧ Rep K A' ((S.fin c y 65280).r0 b 0) (G ++ Fr) L') := by
 obtain ⟨n1, g1⟩ := lW;obtain ⟨n2, g2⟩ := uc;apply Exists.intro;intro p Sh E Dn PostB Aft W O G0 vs K A S Fr L eb b x c y hN hR hE hI hb hf h6;have wx0 : 0 ≤ x.r 0 ∧ x.r 0 < 65536 := (hI.wf _ hb).r 0 (by omega);have w0 : IntKind.i64.wrap (x.r 0) = x.r 0 := by simp [IntKind.wrap_i64]; omega
 have hx0 : At L b 7 (.int .u16 (x.r 0)) := hR.pat hb (bh x (i := 0) (by omega));have hc := (fC hf).1;have hy2 : At L c 2 (.int .i64 (y.st : Nat)) := hR.pat hc (i := 2) rfl;have e6 : ((y.st : Int) == 6) = false := by simp; omega
 have hFb : ∀ t ∈ Fr, t.1 ≠ b := fun t ht => (hR.fd t ht).2.1 _ hb;co_applyP aB 37 Tryz.func133 Tryz.ntmps133;co_applyP ae;co_applyP aa;co_applyP oy rfl ak;co_applyP ah;change wpE ..;co_applyP ae;co_applyP aa;co_applyP oy rfl aj;co_applyP oy rfl aj;co_applyP oy rfl aL;co_applyP oy rfl (av (hf := aD));co_applyP oy rfl (av (hf := aY));co_applyP oy rfl (a0 Tryz.underlying47 a9);co_applyP oy rfl (aC (ht := cp));co_applyP oy rfl (cg (hs := Tryz.underlying32) (ht := Tryz.underlying3));simp only [w0];co_applyP oc rfl rfl rfl (g1 K A S Fr L (x.r 0) hR);rintro _ _ _ ⟨rfl, rfl, rfl⟩;rw [hf];co_applyP oy rfl ak;co_applyP ah;change wpE ..;co_applyP ae;co_applyP ae;co_applyP aa;co_applyP oy rfl aj;co_applyP oy rfl (gj (hu := Tryz.underlying93));co_applyP oy rfl aj;co_applyP oy rfl (aj);co_applyP oy rfl (aL);co_applyP oy rfl ((av (hf := aD)));co_applyP oy rfl ((av (hf := cA)));co_applyP oy rfl ((aC (ht := aV)));co_applyP oy rfl (ay);co_applyP oy rfl aN;co_applyP ah;change wpE ..;rw [e6];co_applyP aq rfl;co_applyP aA;change wpE ..;co_applyP ae;co_applyP aa;co_applyP oy rfl aj;co_applyP oy rfl aj;co_applyP oy rfl aj;co_applyP oc rfl rfl rfl (g2 K A S Fr L eb c y 65280 hN hR hE hI hc);rintro _ _ _ ⟨rfl, rfl, A2, G, hall, hR2⟩;co_applyP ah;change wpE ..;co_applyP ae;co_applyP aa;co_applyP oy rfl aj;co_applyP oy rfl aL;co_applyP oy rfl (av (hf := aD));co_applyP oy rfl (av (hf := aY));co_applyP oy rfl (a0 Tryz.underlying47 a9);rename_i L2;obtain ⟨z, hzL, hz⟩ := Stays.at hR2 (hall _ hb);co_applyP osm rfl (hs := a9) (hm := hzL) (hi := by first | decide | (rw [bg]; omega) | (rw [bC]; omega));intro L3 hU3;rw [dW] at hU3;obtain ⟨G', hst, hR3⟩ := hR2.r0 hz hFb hU3;co_applyP ah;change wpE ..;co_applyP ae;co_applyP aa;co_applyP oy rfl ak;co_applyP ah;change wpE ..;co_applyP aJ;change ∃ v, resE .. = some v ∧ _;exact ⟨_, rfl, rfl, rfl, A2, G', hst, hR3⟩
def St.closeR (S : St) (b : Nat) (x : PS) : Option Nat × St := if x.file (x.r 0) = (0, 0) then (some 3, S) else (none, (S.shut b (x.r 0).toNat).r0 b 0)
theorem wk : ∃ n, ∀ {σ : Type} {F : Fam σ} {Δ : ∀ s, Dom (F.R s) (F.D s)} {main : Bool} {s : σ} (K : Nat) (A : Lay) (S : St) (Fr L : Frag) (eb : Nat → Nat × Nat) (b : Nat) (x : PS), (∀ cs, (Δ s).New (.cells cs 96)) → Rep K A S Fr L → Ers eb Fr → Inv S → (b, x) ∈ S.ps → x.file (x.r 0) = (0, 0) →
   CallsL Δ Tryz.prog main 137 [ptr K, ptr b].toArray n s L (fun s' v L' => s = s' ∧ v = erv eb 3 ∧ Rep K A S Fr L') := by
 obtain ⟨n0, g0⟩ := jZ;obtain ⟨n1, g1⟩ := il;apply Exists.intro;intro σ F Δ main s K A S Fr L eb b x hN hR hE hI hb hf;have wx0 : 0 ≤ x.r 0 ∧ x.r 0 < 65536 := (hI.wf _ hb).r 0 (by omega);have hx0 : At L b 7 (.int .u16 (x.r 0)) := hR.pat hb (bh x (i := 0) (by omega));co_applyP aB 27 Tryz.func137 Tryz.ntmps137;co_applyP ae;co_applyP aa;co_applyP oy rfl ak;co_applyP ah;change wpE ..;co_applyP ae;co_applyP aa;co_applyP oy rfl aj;co_applyP oy rfl aL;co_applyP oy rfl (av (hf := aD));co_applyP oy rfl (av (hf := aY));co_applyP oy rfl (a0 Tryz.underlying47 a9);co_applyP oy rfl (aC (ht := cp));co_applyP oy rfl ak;co_applyP ah;change wpE ..;co_applyP ae (n₂ := 0);co_applyP ae;co_applyP aa;co_applyP oy rfl aj;co_applyP oy rfl aj;co_applyP ocm rfl rfl rfl (g0 K A S Fr L b x (x.r 0) hN hR hb wx0);rintro _ _ _ ⟨rfl, rfl, hF1, hs1⟩;rename_i L1;co_applyP oc rfl rfl rfl (g1 L1 (x.file (x.r 0)) hN);rintro _ _ _ ⟨rfl, rfl, hE2⟩;co_applyP ah;change wpE ..;rename_i L2;have hR2 := (hR.of hF1 hs1).ext hE2;have hg := (hE.mono hR2.fr).g 3 (by decide) (by decide);rw [decide_eq_true hf];co_applyP aW rfl;co_applyP ae;co_applyP aa;co_applyP oy rfl (aC (ht := b4));co_applyP oy rfl ak;co_applyP ah;change wpE ..;co_applyP aJ;change ∃ v, resE .. = some v ∧ _;exact ⟨_, rfl, rfl, rfl, hR2⟩
theorem wm : ∃ n, ∀ {σ : Type} {F : Fam σ} {Δ : ∀ s, Dom (F.R s) (F.D s)} {main : Bool} {s : σ} (K : Nat) (A : Lay) (S : St) (Fr L : Frag) (eb : Nat → Nat × Nat) (b : Nat) (x : PS), (∀ s, NewK (Δ s)) → Rep K A S Fr L → Ers eb Fr → Inv S → (b, x) ∈ S.ps → S.out b → x.file (x.r 0) ≠ (0, 0) →
   CallsL Δ Tryz.prog main 137 [ptr K, ptr b].toArray n s L (fun s' v L' => s = s' ∧ v = .nilIface ∧ ∃ A', Rep K A' ((S.shut b (x.r 0).toNat).r0 b 0) Fr L') := by
 obtain ⟨n0, g0⟩ := jZ;obtain ⟨n1, g1⟩ := il;obtain ⟨n2, g2⟩ := ua;apply Exists.intro;intro σ F Δ main s K A S Fr L eb b x hN hR hE hI hb ho hf;have wx0 : 0 ≤ x.r 0 ∧ x.r 0 < 65536 := (hI.wf _ hb).r 0 (by omega);have hx0 : At L b 7 (.int .u16 (x.r 0)) := hR.pat hb (bh x (i := 0) (by omega));have h6 : x.r 0 < 6 := by
   refine Decidable.byContradiction fun h => hf ?_;unfold PS.file;rw [if_neg h]
 have w0 : IntKind.i64.wrap (x.r 0) = ((x.r 0).toNat : Nat) := by simp [IntKind.wrap_i64]; omega
 co_applyP aB 27 Tryz.func137 Tryz.ntmps137;co_applyP ae;co_applyP aa;co_applyP oy rfl ak;co_applyP ah;change wpE ..;co_applyP ae;co_applyP aa;co_applyP oy rfl aj;co_applyP oy rfl aL;co_applyP oy rfl (av (hf := aD));co_applyP oy rfl (av (hf := aY));co_applyP oy rfl (a0 Tryz.underlying47 a9);co_applyP oy rfl (aC (ht := cp));co_applyP oy rfl ak;co_applyP ah;change wpE ..;co_applyP ae;co_applyP ae;co_applyP aa;co_applyP oy rfl aj;co_applyP oy rfl aj;co_applyP ocm rfl rfl rfl (g0 K A S Fr L b x (x.r 0) (hN _).k hR hb wx0);rintro _ _ _ ⟨rfl, rfl, hF1, hs1⟩;rename_i L1;co_applyP oc rfl rfl rfl (g1 L1 (x.file (x.r 0)) (hN _).k);rintro _ _ _ ⟨rfl, rfl, hE2⟩;co_applyP ah;change wpE ..;rename_i L2;have hR2 := (hR.of hF1 hs1).ext hE2;rw [decide_eq_false hf];co_applyP aq rfl;co_applyP aA;change wpE ..;co_applyP ae;co_applyP aa;co_applyP oy rfl aj;co_applyP oy rfl aj;co_applyP oy rfl aj;co_applyP oy rfl (cg (hs := Tryz.underlying32) (ht := Tryz.underlying3));rw [w0];co_applyP oc rfl rfl rfl (g2 K A S Fr L2 eb b x (x.r 0).toNat hN hR2 hE hI hb ho (by omega));rintro _ _ _ ⟨rfl, rfl, A3, hR3⟩;co_applyP ah;change wpE ..;co_applyP ae;co_applyP aa;co_applyP oy rfl aj;co_applyP oy rfl aL;co_applyP oy rfl (av (hf := aD));co_applyP oy rfl (av (hf := aY));co_applyP oy rfl (a0 Tryz.underlying47 a9);rename_i L3;have hl := hI.shut hb ho (x.r 0).toNat;have hb3 := hl.m b _ ho (au hb);co_applyP osm rfl (hs := a9) (hm := hR3.p _ hb3) (hi := by first | decide | (rw [bg]; omega) | (rw [bC]; omega));intro L4 hU4;rw [dW] at hU4;have hR4 := hR3.setP hb3 hU4;co_applyP ah;change wpE ..;co_applyP ae;co_applyP aa;co_applyP oy rfl ak;co_applyP ah;change wpE ..;co_applyP aJ;change ∃ v, resE .. = some v ∧ _;refine ⟨_, rfl, rfl, rfl, A3, ?_⟩;unfold St.r0;rw [bt hl.i.g.pn hb3];exact hR4
theorem wo : ∃ n, ∀ {σ : Type} {F : Fam σ} {Δ : ∀ s, Dom (F.R s) (F.D s)} {main : Bool} {s : σ} (K : Nat) (A : Lay) (S : St) (Fr L : Frag) (eb : Nat → Nat × Nat) (b : Nat) (x : PS), (∀ s, NewK (Δ s)) → Rep K A S Fr L → Ers eb Fr → Inv S → (b, x) ∈ S.ps → S.out b →
   CallsL Δ Tryz.prog main 137 [ptr K, ptr b].toArray n s L (fun s' v L' => s = s' ∧ v = erV eb (S.closeR b x).1 ∧ ∃ A', Rep K A' (S.closeR b x).2 Fr L') := by
 obtain ⟨n0, g0⟩ := wk;obtain ⟨n1, g1⟩ := wm;refine ⟨n0 + n1, fun {σ F Δ main s} K A S Fr L eb b x hN hR hE hI hb ho => aS (x.file (x.r 0) = (0, 0)) (fun h => ?_) fun h => ?_⟩
 · have e : S.closeR b x = (some 3, S) := by unfold St.closeR; rw [if_pos h]
   rw [e];exact aU (g0 K A S Fr L eb b x (hN _).k hR hE hI hb h) fun s' v L' ⟨h1, h2, h3⟩ => ⟨h1, h2, A, h3⟩
 · have e : S.closeR b x = (none, (S.shut b (x.r 0).toNat).r0 b 0) := by unfold St.closeR; rw [if_neg h]
   rw [e];exact g1 K A S Fr L eb b x hN hR hE hI hb ho h
theorem wp (xs : List Nat) (b : Nat) : decide (0 ≤ idx xs b) = decide (b ∈ xs) := by
 unfold idx;cases h : xs.findIdx? (· == b) with
 | none =>
   have := List.findIdx?_eq_none_iff.1 h;have hn : b ∉ xs := fun hm => by simpa using this b hm
   simp [hn]
 | some i =>
   obtain ⟨h1, h2, _⟩ := List.findIdx?_eq_some_iff_getElem.1 h;have hm : b ∈ xs := by
     have e : xs[i] = b := by simpa using h2
     rw [← e]; exact List.getElem_mem h1
   simp [hm]
theorem o7 : ∃ n, ∀ {σ : Type} {F : Fam σ} {Δ : ∀ s, Dom (F.R s) (F.D s)} {main : Bool} {s : σ} (L : Frag) (a : Sl) (xs : List Nat) (b : Nat), xs.length ≤ 8 → slOk a (xs.map ptr) 93 L → (∀ c ∈ xs, ∃ x, pb c x ∈ L) → (∃ x, pb b x ∈ L) →
   CallsL Δ Tryz.prog main 153 [slv a xs.length, ptr b].toArray n s L (fun s' v L' => s = s' ∧ L = L' ∧ v = .bool (decide (b ∈ xs))) := by
 obtain ⟨n1, g1⟩ := pV;apply Exists.intro;intro σ F Δ main s L a xs b h8 ha hc hb;co_applyP aB 9 Tryz.func153 Tryz.ntmps153;co_applyP ae;co_applyP aa;co_applyP oy rfl ak;co_applyP ah;change wpE ..;co_applyP ae;co_applyP aa;co_applyP oy rfl aj;co_applyP oy rfl aj;co_applyP oc rfl rfl rfl (g1 L a xs b h8 ha hc hb);rintro _ _ _ ⟨rfl, rfl, rfl⟩;co_applyP oy rfl d9;co_applyP oy rfl ak;co_applyP ah;change wpE ..;co_applyP aJ;change ∃ v, resE .. = some v ∧ _;exact ⟨_, rfl, rfl, rfl, by rw [← wp]⟩
def PS.checkUse (x : PS) (use most : Nat) : Option Nat := if (x.file (x.r 0)).2 ≠ use then some 3 else if x.r 2 = 0 ∨ (most : Int) < x.r 2 then some 9 else if 64 < x.r 1 + x.r 2 then some 8 else none
theorem kl : ∃ n, ∀ {σ : Type} {F : Fam σ} {Δ : ∀ s, Dom (F.R s) (F.D s)} {main : Bool} {s : σ} (K : Nat) (A : Lay) (S : St) (Fr L : Frag) (eb : Nat → Nat × Nat) (b : Nat) (x : PS) (use most : Nat), (∀ cs, (Δ s).New (.cells cs 96)) → Rep K A S Fr L → Ers eb Fr → Inv S → (b, x) ∈ S.ps →
   CallsL Δ Tryz.prog main 152 [ptr b, .int .i64 (use : Nat), .int .i64 (most : Nat)].toArray n s L (fun s' v L' => s = s' ∧ v = erV eb (x.checkUse use most) ∧ Ext L L') := by
 obtain ⟨n0, g0⟩ := jZ;apply Exists.intro;intro σ F Δ main s K A S Fr L eb b x use most hN hR hE hI hb;have wx0 : 0 ≤ x.r 0 ∧ x.r 0 < 65536 := (hI.wf _ hb).r 0 (by omega);have wx1 : 0 ≤ x.r 1 ∧ x.r 1 < 65536 := (hI.wf _ hb).r 1 (by omega);have wx2 : 0 ≤ x.r 2 ∧ x.r 2 < 65536 := (hI.wf _ hb).r 2 (by omega);have hx0 : At L b 7 (.int .u16 (x.r 0)) := hR.pat hb (bh x (i := 0) (by omega));have hx1 : At L b 8 (.int .u16 (x.r 1)) := hR.pat hb (bh x (i := 1) (by omega));have hx2 : At L b 9 (.int .u16 (x.r 2)) := hR.pat hb (bh x (i := 2) (by omega));have w1 : IntKind.i64.wrap (x.r 1) = x.r 1 := by simp [IntKind.wrap_i64]; omega
 have w2 : IntKind.i64.wrap (x.r 2) = x.r 2 := by simp [IntKind.wrap_i64]; omega
 have w3 : IntKind.i64.wrap (x.r 1 + x.r 2) = x.r 1 + x.r 2 := by simp [IntKind.wrap_i64]; omega
 co_applyP aB 51 Tryz.func152 Tryz.ntmps152;co_applyP ae;co_applyP aa;co_applyP oy rfl ak;co_applyP ah;change wpE ..;co_applyP ae;co_applyP bj aZ;co_applyP tr (i := 0) rfl aj pI;co_applyP tr (i := 1) rfl aL pI;co_applyP tr (i := 2) rfl (av (hf := aD)) pI;co_applyP tr (i := 3) rfl (av (hf := aY)) pI;co_applyP tr (i := 4) rfl (a0 Tryz.underlying47 a9) pI;co_applyP tr (i := 5) rfl (aC (ht := cp)) pI;co_applyP tr (i := 6) rfl (cg (hs := Tryz.underlying32) (ht := Tryz.underlying3)) pI;co_applyP tr (i := 7) rfl aj pI;co_applyP tr (i := 8) rfl aL pI;co_applyP tr (i := 9) rfl (av (hf := aD)) pI;co_applyP tr (i := 10) rfl (av (hf := aY)) pI;co_applyP tr (i := 11) rfl (a0 Tryz.underlying47 a9) pI;co_applyP tr (i := 12) rfl (aC (ht := cp)) pI;co_applyP tr (i := 13) rfl (cg (hs := Tryz.underlying32) (ht := Tryz.underlying3)) pI;co_applyP tr (i := 14) rfl ak pI;co_applyP tr (i := 15) rfl ak pI;co_applyP td (by kernel_rfl);change wpE ..;co_applyP ae;co_applyP aI;co_applyP ae;co_applyP aa;co_applyP oy rfl aj;co_applyP oy rfl aj;co_applyP oy rfl aL;co_applyP oy rfl (av (hf := aD));co_applyP oy rfl (av (hf := aY));co_applyP oy rfl (a0 Tryz.underlying47 a9);co_applyP oy rfl (aC (ht := cp));simp only [w1, w2];co_applyP ocm rfl rfl rfl (g0 K A S Fr L b x (x.r 0) hN hR hb wx0);rintro _ _ _ ⟨rfl, rfl, hF1, hs1⟩;co_applyP oy rfl (zo (hf := vz));co_applyP oy rfl aj;co_applyP oy rfl cY;co_applyP oy rfl ak;co_applyP ah;change wpE ..;rename_i L1;have hE1 : Ext L L1 := ⟨hF1, hs1⟩;have hR1 := hR.ext hE1;have hg3 := (hE.mono hR1.fr).g 3 (by decide) (by decide);have hg8 := (hE.mono hR1.fr).g 8 (by decide) (by decide);have hg9 := (hE.mono hR1.fr).g 9 (by decide) (by decide);co_applyP bl rfl;intro h1;co_applyP ae;co_applyP aa;co_applyP oy rfl (aC (ht := b4));co_applyP oy rfl ak;co_applyP ah;change wpE ..;co_applyP aJ;change ∃ v, resE .. = some v ∧ _
 · have h1' : (x.file (x.r 0)).2 ≠ use := by simp at h1; omega
   exact ⟨_, rfl, rfl, by unfold PS.checkUse; rw [if_pos h1']; rfl, hE1⟩
 intro h1;have h1' : ¬ (x.file (x.r 0)).2 ≠ use := by simp at h1; omega
 co_applyP bK (x.r 2 = 0);intro h0
 · have e0 : (x.r 2 == 0) = true := by simp [h0]
   co_applyP ae;co_applyP aa;co_applyP oy rfl aj;co_applyP oy rfl ay;co_applyP oy rfl aj;rw [e0];co_applyP ou rfl;co_applyP ou rfl;co_applyP ou rfl;co_applyP oy rfl aN;co_applyP oy rfl ak;co_applyP ah;change wpE ..;co_applyP aW rfl;co_applyP ae;co_applyP aa;co_applyP oy rfl (aC (ht := b4));co_applyP oy rfl ak;co_applyP ah;change wpE ..;co_applyP aJ;change ∃ v, resE .. = some v ∧ _;exact ⟨_, rfl, rfl, by unfold PS.checkUse; rw [if_neg h1', if_pos (.inl h0)]; rfl, hE1⟩
 intro h0;have e0 : (x.r 2 == 0) = false := by simp [h0]
 co_applyP ae;co_applyP aa;co_applyP oy rfl aj;co_applyP oy rfl ay;co_applyP oy rfl aj;rw [e0];co_applyP oy rfl (aj);co_applyP oy rfl (aj);co_applyP oy rfl (dj);co_applyP oy rfl aN;co_applyP oy rfl ak;co_applyP ah;change wpE ..;co_applyP bl rfl;intro h2;co_applyP ae;co_applyP aa;co_applyP oy rfl (aC (ht := b4));co_applyP oy rfl ak;co_applyP ah;change wpE ..;co_applyP aJ;change ∃ v, resE .. = some v ∧ _
 · have h2' : (most : Int) < x.r 2 := by simpa using h2
   exact ⟨_, rfl, rfl, by unfold PS.checkUse; rw [if_neg h1', if_pos (.inr h2')]; rfl, hE1⟩
 intro h2;co_applyP ae;co_applyP aa;co_applyP oy rfl aj;co_applyP oy rfl aj;co_applyP oy rfl a7;co_applyP oy rfl dj;co_applyP oy rfl ak;co_applyP ah;change wpE ..;have h2' : ¬ (x.r 2 = 0 ∨ (most : Int) < x.r 2) := fun h => h.elim h0 fun h => by simp at h2; omega
 simp only [w3];co_applyP bl rfl;intro h3;co_applyP ae;co_applyP aa;co_applyP oy rfl (aC (ht := b4));co_applyP oy rfl ak;co_applyP ah;change wpE ..;co_applyP aJ;change ∃ v, resE .. = some v ∧ _
 · have h3' : 64 < x.r 1 + x.r 2 := by simpa using h3
   exact ⟨_, rfl, rfl, by unfold PS.checkUse; rw [if_neg h1', if_neg h2', if_pos h3']; rfl, hE1⟩
 intro h3;co_applyP aA;change wpE ..;co_applyP ae;co_applyP aa;co_applyP oy rfl ak;co_applyP ah;change wpE ..;co_applyP aJ;change ∃ v, resE .. = some v ∧ _;have h3' : ¬ 64 < x.r 1 + x.r 2 := by simpa using h3
 exact ⟨_, rfl, rfl, by unfold PS.checkUse; rw [if_neg h1', if_neg h2', if_neg h3']; rfl, hE1⟩
end Go.Proofs.YtejkelcaljmnoaaGreatDoor
namespace Go.Lo
open Go.Conc Go.Hx
section
variable {P : Program} {New : Obj → Prop} {N : Nat} {ε : Env} {L : Frag} {d : Option Tmp} {ty : TypeId} {ps : String} {af : Array Edge} {g : Option (Nat × Bool)}
theorem zX {x ix : Operand} {t kt et : TypeId} {r clock i c : Nat} {k : Nat × Nat} {v : Value} {l : Ents} (hnd : (L.map (·.1)).Nodup) (H : Key2 P kt) (hu : P.underlying t = some (.map kt et)) (hm : (r, true, mapO l clock) ∈ L) (hl : lk k l 0 = some (i, v)) (hc : l[i]? = some (k, v, c)) (hx : ev ε x = some (.map (some r)) := by rfl) (hi : ev ε ix = some (kv k) := by rfl) :
   EO P New N ε L ⟨d, .mapEntry t x ix, ty, ps, af, g⟩ (fun r' L'' => r' = .tuple #[v, .int .i64 (c : Nat)] ∧ Upd L r (mapO l clock) L'') := by
 intro a ha;obtain ⟨n, hn⟩ := List.getElem?_of_mem hm;show wpS P New (Instr.mapEntry t (a.eval x) (a.eval ix) >>= fun v => pure (Next.value v)) _ L;rw [ha.ev hx, ha.ev hi, ar];unfold Instr.mapEntry;rw [ar, aT hu];simp only [ar];refine d8 hm rfl ?_;simp only [mapO, ar];refine bH (K := (· = ())) (fun _ _ => ?_) _ (bd (H.ck _ _ _) rfl);refine bH (K := (· = lk k l 0)) (fun _ e => ?_) _ (dO H l rfl);subst e;rw [hl];have hkey : ((((l.map ent).toArray[i]?).map (·.key)).getD (kv k)) = kv k := by simp [hc, ent]
 have hborn : ((((l.map ent).toArray[i]?).map (·.born)).getD 0) = c := by simp [hc, ent]
 simp only [ar, hkey, hborn];have hs : Instr.keyThatStays (kv k) (kv k) = pure (kv k) := by
   unfold Instr.keyThatStays;have : Instr.sameBits 10000 (kv k) (kv k) = true := by simp [Instr.sameBits]
   rw [this]; rfl
 rw [hs, br];have he : (l.map ent).toArray.modify i (fun e => { e with key := kv k }) = (l.map ent).toArray := by
   apply Array.ext';simp only [Array.toList_modify];apply List.ext_getElem?;intro j;simp only [List.getElem?_modify, List.getElem?_map];by_cases e : i = j
   · subst e; simp [hc, ent]
   · cases l[j]? with
     | none => rfl
     | some e' => simp [e]
 rw [he];refine cU hn rfl rfl ?_;rw [br, br];have hborn2 : ((((l.map ent).toArray[i]?).map (fun x => ((x.born : Nat) : Int))).getD 0) = (c : Nat) := by simp [hc, ent]
 refine ⟨?_, cH hnd hn⟩;rw [hborn2]; rfl
theorem zY {x ix : Operand} {t kt et : TypeId} {r clock : Nat} {k : Nat × Nat} {z : Value} {l : Ents} (hnd : (L.map (·.1)).Nodup) (H : Key2 P kt) (hu : P.underlying t = some (.map kt et)) (hz : zeroAt P et = some z) (hm : (r, true, mapO l clock) ∈ L) (hl : lk k l 0 = none) (hx : ev ε x = some (.map (some r)) := by rfl) (hi : ev ε ix = some (kv k) := by rfl) :
   EO P New N ε L ⟨d, .mapEntry t x ix, ty, ps, af, g⟩ (fun r' L'' => r' = .tuple #[z, .int .i64 (clock : Nat)] ∧ Upd L r (mapO (l ++ [(k, z, clock)]) (clock + 1)) L'') := by
 intro a ha;obtain ⟨n, hn⟩ := List.getElem?_of_mem hm;show wpS P New (Instr.mapEntry t (a.eval x) (a.eval ix) >>= fun v => pure (Next.value v)) _ L;rw [ha.ev hx, ha.ev hi, ar];unfold Instr.mapEntry;rw [ar, aT hu];simp only [ar];refine d8 hm rfl ?_;simp only [mapO, ar];refine bH (K := (· = ())) (fun _ _ => ?_) _ (bd (H.ck _ _ _) rfl);refine bH (K := (· = lk k l 0)) (fun _ e => ?_) _ (dO H l rfl);subst e;rw [hl];simp only [ar];refine bH (K := (· = z)) (fun z' e => ?_) _ (by rw [ge hz]);obtain rfl : z' = z := e;refine cU hn rfl rfl ?_;rw [br, br];refine ⟨rfl, ?_⟩;have he : (l.map ent).toArray.push ⟨kv k, z', clock⟩ = ((l ++ [(k, z', clock)]).map ent).toArray := by apply Array.ext'; simp [ent]
 rw [he];exact cH hnd hn
theorem zZ {x ix y : Operand} {t : TypeId} {r clock c : Nat} {k : Nat × Nat} {v v0 : Value} {l1 l2 : Ents} (hnd : (L.map (·.1)).Nodup) (hm : (r, true, mapO (l1 ++ (k, v0, c) :: l2) clock) ∈ L) (hc : ∀ e ∈ l1, e.2.2 ≠ c) (hx : ev ε x = some (.map (some r)) := by rfl) (hi : ev ε ix = some (.int .i64 (c : Nat)) := by rfl) (hy : ev ε y = some v := by rfl) :
   EO P New N ε L ⟨d, .entryStore t x ix y, ty, ps, af, g⟩ (fun r' L'' => r' = undef ∧ Upd L r (mapO (l1 ++ (k, v, c) :: l2) clock) L'') := by
 intro a ha;obtain ⟨n, hn⟩ := List.getElem?_of_mem hm;show wpS P New (Instr.entryStore t (a.eval x) (a.eval ix) (a.eval y) >>= fun _ => pure Next.skip) _ L;rw [ha.ev hx, ha.ev hi, ha.ev hy, ar];unfold Instr.entryStore;simp only [ar];refine d8 hm rfl ?_;simp only [mapO, ar];have hf : ((l1 ++ (k, v0, c) :: l2).map ent).toArray.findIdx? (fun e => (e.born : Int) == (c : Int)) = some l1.length := by
   rw [List.findIdx?_toArray, List.map_append, List.findIdx?_append, List.findIdx?_eq_none_iff.2 (by
     intro e he;obtain ⟨e', he', rfl⟩ := List.mem_map.1 he;have := hc e' he';simp [ent];omega)]
   simp [List.findIdx?_cons, ent]
 refine bH (K := (· = (c : Int))) (fun _ e => ?_) _ (by exact rfl);subst e;rw [hf];refine cU hn rfl rfl ?_;refine ⟨trivial, ?_⟩;have he : ((l1 ++ (k, v0, c) :: l2).map ent).toArray.modify l1.length (fun e => { e with val := v }) = ((l1 ++ (k, v, c) :: l2).map ent).toArray := by
   apply Array.ext';simp only [Array.toList_modify];apply List.ext_getElem?;intro j;simp only [List.getElem?_modify, List.getElem?_map];by_cases e : l1.length = j
   · subst e; simp [ent]
   · simp only [if_neg e];rcases Nat.lt_or_gt_of_ne (Ne.symm e) with h | h
     · rw [List.getElem?_append_left h, List.getElem?_append_left h]; simp
     · rw [List.getElem?_append_right (by omega), List.getElem?_append_right (by omega)];obtain ⟨m, hm⟩ : ∃ m, j - l1.length = m + 1 := ⟨j - l1.length - 1, by omega⟩;rw [hm]; simp
 rw [he];exact cH hnd hn
end
end Go.Lo
namespace Go.Proofs.YtejkelcaljmnoaaGreatDoor
open Go.Conc Go.Hx Go.Lo
def rowJoin (b : Nat) (k : Nat × Nat) (l : Wt) : Wt := if ∀ e ∈ l, e.1 ≠ k then l ++ [(k, [b])] else l.map fun e => if e.1 = k then (k, e.2 ++ [b]) else e
def St.joinW (S : St) (b : Nat) (k : Nat × Nat) : St := S.setW (rowJoin b k S.wt)
def St.askR (S : St) (b : Nat) (x : PS) (use most : Nat) : Option Nat × St := match x.checkUse use most with
 | some i => (some i, S)
 | none =>
   let S2 := (S.joinW b (x.file (x.r 0))).look (x.file (x.r 0)).1
   (none, if b ∈ S2.rowAt (x.file (x.r 0)) then (match S2.get b with
     | some z => S2.stop1 b z use
     | none => S2) else S2)
theorem ip {b : Nat} {k : Nat × Nat} {l1 l2 : Wt} {xs : List Nat} (h1 : ∀ e ∈ l1, e.1 ≠ k) (h2 : ∀ e ∈ l2, e.1 ≠ k) : rowJoin b k (l1 ++ (k, xs) :: l2) = l1 ++ (k, xs ++ [b]) :: l2 := by
 unfold rowJoin;rw [if_neg (fun h => h (k, xs) (by simp) rfl)];rw [List.map_append, List.map_cons, if_pos rfl];have e : ∀ l : Wt, (∀ e ∈ l, e.1 ≠ k) → l.map (fun e => if e.1 = k then (k, e.2 ++ [b]) else e) = l := fun l h => by
   conv => rhs; rw [← List.map_id l]
   apply List.map_congr_left;intro e he;rw [if_neg (h e he)]; rfl
 rw [e l1 h1, e l2 h2]
theorem fe {b : Nat} {k : Nat × Nat} {l : Wt} (h : ∀ e ∈ l, e.1 ≠ k) : rowJoin b k l = l ++ [(k, [b])] := by unfold rowJoin; rw [if_pos h]
theorem Inv.joinW {S : St} {b : Nat} {x : PS} {k : Nat × Nat} (h : Inv S) (hb : (b, x) ∈ S.ps) (ho : S.out b) (ha : Asks x k) (hk : okEnd k) : Inv (S.joinW b k) := by
 by_cases hn : ∀ e ∈ S.wt, e.1 ≠ k
 · have e : (S.joinW b k).wt = S.wt ++ [(k, [b])] := fe hn;have cs : ∀ e' ∈ (S.joinW b k).wt, e' ∈ S.wt ∨ e' = (k, [b]) := fun e' he => by rw [e] at he; simpa using he
   exact {
     g := ⟨h.g.pn, h.g.p8, h.g.lv, h.g.rn, h.g.rm, h.g.rr⟩
     wf := h.wf, fl := h.fl, y8 := h.y8, yb := h.yb
     kn := by
       rw [e, List.map_append];refine List.nodup_append.2 ⟨h.kn, by simp, fun a ha' c hc => ?_⟩;simp at hc;subst hc;rintro rfl;obtain ⟨e', he', e2⟩ := List.mem_map.1 ha';exact hn e' he' e2
     ne := fun e' he => (cs e' he).elim (h.ne e') fun e => by subst e; simp
     nd := fun e' he => (cs e' he).elim (h.nd e') fun e => by subst e; simp
     ke := fun e' he => (cs e' he).elim (h.ke e') fun e => by subst e; exact hk
     rm := fun e' he c hc => (cs e' he).elim (fun h' => h.rm e' h' c hc) fun e => by subst e; simp at hc; subst hc; exact ⟨x, hb, ha⟩ }
 · have hk' : k ∈ S.wt.map (·.1) := Decidable.byContradiction fun hn' => hn fun e he e1 => hn' (List.mem_map.2 ⟨e, he, e1⟩);obtain ⟨l1, ys, l2, hl, h1, h2⟩ := cu h.kn hk';have e : (S.joinW b k).wt = l1 ++ (k, ys ++ [b]) :: l2 := by show rowJoin b k S.wt = _; rw [hl, ip h1 h2]
   have hin : (k, ys) ∈ S.wt := by rw [hl]; simp
   have cs : ∀ e' ∈ (S.joinW b k).wt, e' ∈ S.wt ∨ e' = (k, ys ++ [b]) := fun e' he => by
     rw [e] at he;rcases List.mem_append.1 he with h' | h'
     · exact .inl (by rw [hl]; simp [h'])
     · rcases List.mem_cons.1 h' with h' | h'
       · exact .inr h'
       · exact .inl (by rw [hl]; simp [h'])
   exact {
     g := ⟨h.g.pn, h.g.p8, h.g.lv, h.g.rn, h.g.rm, h.g.rr⟩
     wf := h.wf, fl := h.fl, y8 := h.y8, yb := h.yb
     kn := by
       have := h.kn;rw [hl] at this;rw [e];simpa using this
     ne := fun e' he => (cs e' he).elim (h.ne e') fun e => by subst e; simp
     nd := fun e' he => (cs e' he).elim (h.nd e') fun e => by
       subst e;refine List.nodup_append.2 ⟨h.nd _ hin, by simp, fun a ha' c hc => ?_⟩;simp at hc;subst hc;rintro rfl;exact ho _ hin ha'
     ke := fun e' he => (cs e' he).elim (h.ke e') fun e => by subst e; exact hk
     rm := fun e' he c hc => (cs e' he).elim (fun h' => h.rm e' h' c hc) fun e => by
       subst e;rcases List.mem_append.1 hc with h' | h'
       · exact h.rm _ hin c h'
       · simp at h'; subst h'; exact ⟨x, hb, ha⟩ }
theorem z4 : ∃ n, ∀ {σ : Type} {F : Fam σ} {Δ : ∀ s, Dom (F.R s) (F.D s)} {main : Bool} {s : σ} (K : Nat) (A : Lay) (S : St) (Fr L : Frag) (eb : Nat → Nat × Nat) (b : Nat) (x : PS) (use most i : Nat), (∀ cs, (Δ s).New (.cells cs 96)) → Rep K A S Fr L → Ers eb Fr → Inv S → (b, x) ∈ S.ps → x.checkUse use most = some i →
   CallsL Δ Tryz.prog main 138 [ptr K, ptr b, .int .i64 (use : Nat), .int .i64 (most : Nat)].toArray n s L (fun s' v L' => s = s' ∧ v = erv eb i ∧ Rep K A S Fr L') := by
 obtain ⟨n0, g0⟩ := kl;apply Exists.intro;intro σ F Δ main s K A S Fr L eb b x use most i hN hR hE hI hb hc;co_applyP aB 53 Tryz.func138 Tryz.ntmps138;co_applyP ae;co_applyP aa;co_applyP oy rfl ak;co_applyP ah;change wpE ..;co_applyP ae (n₂ := 0);co_applyP ae;co_applyP aa;co_applyP oy rfl aj;co_applyP oy rfl aj;co_applyP oy rfl aj;co_applyP oc rfl rfl rfl (g0 K A S Fr L eb b x use most hN hR hE hI hb);rintro _ _ _ ⟨rfl, rfl, hE1⟩;rw [hc];co_applyP oy rfl ak;co_applyP ah;change wpE ..;co_applyP ae;co_applyP aa;co_applyP oy rfl aj;co_applyP oy rfl (dx (v := erv eb i) (c := false) (hv := .inr ⟨_, _, rfl, rfl⟩) (hu := Tryz.underlying168));co_applyP ah;change wpE ..;co_applyP aW rfl;co_applyP ae;co_applyP aa;co_applyP oy rfl aj;co_applyP oy rfl ak;co_applyP ah;change wpE ..;co_applyP aJ;change ∃ v, resE .. = some v ∧ _;exact ⟨_, rfl, rfl, rfl, hR.ext hE1⟩
theorem Rep.joinW1 {K : Nat} {A : Lay} {S : St} {F L L1 L' : Frag} (hR : Rep K A S F L) (hI : Inv S) {b : Nat} {k : Nat × Nat} {l1 l2 : Wt} {xs b1 b2 : List Nat} {c0 : Nat} {a' : Sl} (hwt : S.wt = l1 ++ (k, xs) :: l2) (h1 : ∀ e ∈ l1, e.1 ≠ k) (h2 : ∀ e ∈ l2, e.1 ≠ k) (hborn : A.born = b1 ++ c0 :: b2) (hbl : l1.length = b1.length) (hp : Ap1 L (A.a (slot k)) xs b a' L1) (hU : Upd L1 A.wt (mapO (entsOf A l1 b1 ++ (k, slv a' (xs.length + 1), c0) :: entsOf A l2 b2) A.clock) L') : Rep K (A.setW k a' A.born A.clock) (S.joinW b k) F L' := by
 have hin : (k, xs) ∈ S.wt := by rw [hwt]; simp
 have hkk : okKey k := (hI.ke _ hin).key;have hslot : ∀ e ∈ S.wt, e.1 ≠ k → slot e.1 ≠ slot k := fun e he hne h => hne (j1 (hI.ke e he).key hkk h);have hAs : ∀ (l : Wt) (bs : List Nat), (∀ e ∈ l, e ∈ S.wt ∧ e.1 ≠ k) → entsOf (A.setW k a' A.born A.clock) l bs = entsOf A l bs := fun l bs h => dU fun e he => by
   have := hslot e (h e he).1 (h e he).2;simp [Lay.setW, put, this]
 have hi1 : ∀ e ∈ l1, e ∈ S.wt ∧ e.1 ≠ k := fun e he => ⟨by rw [hwt]; simp [he], h1 e he⟩;have hi2 : ∀ e ∈ l2, e ∈ S.wt ∧ e.1 ≠ k := fun e he => ⟨by rw [hwt]; simp [he], h2 e he⟩;have e0 : S.joinW b k = S.setW (l1 ++ (k, xs ++ [b]) :: l2) := by unfold St.joinW; rw [hwt, ip h1 h2]
 have hwa : ∀ c, (A.a (slot k)).b = some c → c ≠ A.wt := fun c hc e => by
   obtain ⟨ys, hy⟩ := hR.al _ _ hc;rw [e] at hy;exact absurd (hR.fn _ _ _ _ _ hy hR.w).2 (by simp [wobj])
 have hwL1 : (A.a (slot k)).b ≠ some A.wt := fun e => hwa _ e rfl;have hne : ∀ c, a'.b = some c → c ≠ A.wt := fun c hc e => by
   rcases hp.d c hc with h | h
   · exact hwa c h e
   · exact h _ hR.w e.symm
 rw [e0];refine hR.setWait hU.fn (fun t ht g1 g2 => hU.ne _ (hp.sub _ ht g2) g1) ?_ (by rw [hR.wl, hwt]; simp) hR.bn hR.bc ?_ (fun c hc => ⟨_, hU.ne _ (hp.ok.mem hc) (hne c hc)⟩) (fun c hc => ?_)
 · have := hU.self;have e1 : entsOf (A.setW k a' A.born A.clock) (l1 ++ (k, xs ++ [b]) :: l2) A.born = entsOf A l1 b1 ++ (k, slv a' (xs.length + 1), c0) :: entsOf A l2 b2 := by
     conv => lhs; rw [hborn]
     rw [← hborn, hborn, ci _ hbl];show entsOf (A.setW k a' (b1 ++ c0 :: b2) A.clock) l1 b1 ++ (k, slv ((A.setW k a' (b1 ++ c0 :: b2) A.clock).a (slot k)) (xs ++ [b]).length, c0) :: entsOf (A.setW k a' (b1 ++ c0 :: b2) A.clock) l2 b2 = _;rw [← hborn, hAs _ _ hi1, hAs _ _ hi2];have e2 : (A.setW k a' A.born A.clock).a (slot k) = a' := by simp [Lay.setW, put]
     rw [e2]; simp
   rw [e1]; exact this
 · intro e he;rcases List.mem_append.1 he with h | h
   · exact .inr ⟨(hi1 e h).1, hslot e (hi1 e h).1 (hi1 e h).2⟩
   · rcases List.mem_cons.1 h with rfl | h
     · exact .inl ⟨rfl, hp.ok.mono fun c hc o ho => hU.ne _ ho (hne c hc)⟩
     · exact .inr ⟨(hi2 e h).1, hslot e (hi2 e h).1 (hi2 e h).2⟩
 · rcases hp.d c hc with h | h
   · exact .inl h
   · refine .inr ⟨fun i hi => ?_, fun t ht => h t (hR.fr t ht)⟩;obtain ⟨ys, hy⟩ := hR.al i c hi;exact h _ hy rfl
theorem Rep.joinW0 {K : Nat} {A : Lay} {S : St} {F L L0 L1 L' : Frag} (hR : Rep K A S F L) (hI : Inv S) {b : Nat} {k : Nat × Nat} {a' : Sl} {z : Value} (hk : okEnd k) (hn : ∀ e ∈ S.wt, e.1 ≠ k) (hU0 : Upd L A.wt (mapO (entsOf A S.wt A.born ++ [(k, z, A.clock)]) (A.clock + 1)) L0) (hp : Ap1 L0 ⟨none, []⟩ [] b a' L1) (hU : Upd L1 A.wt (mapO (entsOf A S.wt A.born ++ [(k, slv a' 1, A.clock)]) (A.clock + 1)) L') : Rep K (A.setW k a' (A.born ++ [A.clock]) (A.clock + 1)) (S.joinW b k) F L' := by
 have hslot : ∀ e ∈ S.wt, slot e.1 ≠ slot k := fun e he h => hn e he (j1 (hI.ke e he).key hk.key h);have e0 : S.joinW b k = S.setW (S.wt ++ [(k, [b])]) := by unfold St.joinW; rw [fe hn]
 have hnew : ∀ c, a'.b = some c → ∀ t ∈ L, t.1 ≠ c := fun c hc t ht e => by
   rcases hp.d c hc with h | h
   · cases h
   · by_cases ew : t.1 = A.wt
     · exact h _ hU0.self (by rw [← ew]; exact e)
     · exact h _ (hU0.ne _ ht ew) e
 have hne : ∀ c, a'.b = some c → c ≠ A.wt := fun c hc e => hnew c hc _ hR.w e.symm;rw [e0];refine hR.setWait hU.fn (fun t ht g1 g2 => hU.ne _ (hp.sub _ (hU0.ne _ ht g1) (by simp)) g1) ?_ (by simp [hR.wl]) ?_ ?_ ?_ (fun c hc => ⟨_, hU.ne _ (hp.ok.mem hc) (hne c hc)⟩) (fun c hc => ?_)
 · have e1 : entsOf (A.setW k a' (A.born ++ [A.clock]) (A.clock + 1)) (S.wt ++ [(k, [b])]) (A.born ++ [A.clock]) = entsOf A S.wt A.born ++ [(k, slv a' 1, A.clock)] := by
     rw [ci _ hR.wl.symm];have e2 : entsOf (A.setW k a' (A.born ++ [A.clock]) (A.clock + 1)) S.wt A.born = entsOf A S.wt A.born := dU fun e he => by
       have := hslot e he;simp [Lay.setW, put, this]
     rw [e2];congr 1;show [(k, slv ((A.setW k a' (A.born ++ [A.clock]) (A.clock + 1)).a (slot k)) 1, A.clock)] = _;have e3 : (A.setW k a' (A.born ++ [A.clock]) (A.clock + 1)).a (slot k) = a' := by simp [Lay.setW, put]
     rw [e3]
   rw [e1]; exact hU.self
 · refine List.nodup_append.2 ⟨hR.bn, by simp, fun x hx y hy => ?_⟩;have := hR.bc x hx;simp at hy;omega
 · intro x hx;rcases List.mem_append.1 hx with h | h
   · have := hR.bc x h; omega
   · simp at h; omega
 · intro e he;rcases List.mem_append.1 he with h | h
   · exact .inr ⟨h, hslot e h⟩
   · simp at h;subst h;exact .inl ⟨rfl, hp.ok.mono fun c hc o ho => hU.ne _ ho (hne c hc)⟩
 · refine .inr ⟨fun i hi => ?_, fun t ht => hnew c hc t (hR.fr t ht)⟩;obtain ⟨ys, hy⟩ := hR.al i c hi;exact hnew c hc _ hy rfl
end Go.Proofs.YtejkelcaljmnoaaGreatDoor
