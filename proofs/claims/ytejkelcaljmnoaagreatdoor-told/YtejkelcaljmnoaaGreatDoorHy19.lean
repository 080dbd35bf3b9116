/-
  Part 19 of the proof.
  No condition but those that each statement names.
-/
import Derived.Test.YtejkelcaljmnoaaGreatDoorHy18
import Derived.Test.YtejkelcaljmnoaaGreatDoorHy16
set_option maxRecDepth 100000
set_option linter.unusedVariables false
set_option linter.unusedSimpArgs false
set_option linter.unusedSectionVars false
namespace Go.Proofs.YtejkelcaljmnoaaGreatDoor
open Go.Conc Go.Hx Go.Lo
theorem sf {tk : Int} {G : Nat → Bool} {w : Wd} {s : Chk} (h : chk (tk, G) w = some s) : 0 ≤ w.2.2.1 ∧ w.2.2.1 < 700 ∧ (G 1 = true → w.1 = tk) ∧
   (((w.2.1 = 1 ∨ w.2.1 = 2) ∧ w.1 = tk + 1 ∧ (w.2.1 = 2 ↔ w.2.2.1 = 0) ∧ G w.2.2.1.toNat = false ∧ s = (tk + 1, G)) ∨ (w.2.1 = 3 ∧ w.1 = tk ∧ 0 ≤ w.2.2.2 ∧ w.2.2.2 ≤ 255 ∧ s = (tk, G)) ∨ (w.2.1 = 4 ∧ w.1 = tk ∧ G w.2.2.1.toNat = false ∧ w.2.2.1 ≠ 0 ∧ s = (tk, put G w.2.2.1.toNat true))) := by
 unfold chk at h;simp only at h
 split at h
 · cases h
 rename_i h1;have a1 : 0 ≤ w.2.2.1 := by omega
 have a2 : w.2.2.1 < 700 := by omega
 refine ⟨a1, a2, fun e => Classical.byContradiction fun e2 => h1 (.inr (.inr ⟨e, e2⟩)), ?_⟩
 split at h
 · rename_i h2
   split at h
   · rename_i h3;exact .inl ⟨h2, h3.1, h3.2.1, h3.2.2, (Option.some.inj h).symm⟩
   · cases h
 split at h
 · rename_i h2
   split at h
   · rename_i h3;exact .inr (.inl ⟨h2, h3.1, h3.2.1, h3.2.2, (Option.some.inj h).symm⟩)
   · cases h
 split at h
 · rename_i h2
   split at h
   · rename_i h3;exact .inr (.inr ⟨h2, h3.1, h3.2.1, h3.2.2, (Option.some.inj h).symm⟩)
   · cases h
 · cases h
theorem sg {ws : List Wd} {s0 s1 s : Chk} {i : Nat} {w : Wd} (h : chks ws s0 = some s1) (hw : ws[i]? = some w) (hi : chks (ws.take i) s0 = some s) : ∃ s', chk s w = some s' ∧ chks (ws.take (i + 1)) s0 = some s' := by
 have hl := (List.getElem?_eq_some_iff.1 hw).1;have e : ws = ws.take i ++ w :: ws.drop (i + 1) := by
   have h1 := (List.getElem?_eq_some_iff.1 hw).2;rw [← h1, ← List.drop_eq_getElem_cons hl, List.take_append_drop]
 rw [e, eG, hi] at h;change (chk s w).bind _ = some s1 at h;obtain ⟨s', h1, h2⟩ := Option.bind_eq_some_iff.1 h;refine ⟨s', h1, ?_⟩;rw [List.take_add_one, hw, Option.toList_some, eG, hi];show (chk s w).bind _ = _;rw [h1]; rfl
def gcs (G : Nat → Bool) : Array Value := ((List.range 700).map fun i => Value.bool (G i)).toArray
theorem iF (G : Nat → Bool) : (gcs G).size = 700 := by simp [gcs]
theorem mA {G : Nat → Bool} {i : Nat} (h : i < 700) : (gcs G)[i]? = some (.bool (G i)) := by
 unfold gcs;rw [List.getElem?_toArray, List.getElem?_map, List.getElem?_range h]; rfl
theorem xc {G : Nat → Bool} {i : Nat} (h : i < 700) : (gcs G).setIfInBounds i (.bool true) = gcs (put G i true) := by
 apply Array.ext_getElem?;intro j;rw [Array.getElem?_setIfInBounds, iF];by_cases hj : j < 700
 · rw [mA hj, mA hj];unfold put;by_cases e : i = j
   · subst e; simp [h]
   · rw [if_neg e, if_neg fun e2 => e e2.symm]
 · rw [Array.getElem?_eq_none (by rw [iF]; omega), Array.getElem?_eq_none (by rw [iF]; omega)];rw [if_neg (by omega)]
theorem Au : zeroAt Tryz.prog 66 = some (.agg (gcs fun _ => false)) := by kernel_rfl
theorem WL.turn {L L' : Frag} {base : Option Addr} {ws : List Wd} (h : WL L base ws) (hF : Fun L) {b : Nat} {cs : Array Value} {e : TypeId} (hm : (b, true, Obj.cells cs e) ∈ L) (he : e ≠ 51) (hs : ∀ t ∈ L, t.1 ≠ b → t ∈ L') : WL L' base ws := fun i w hw => by
 obtain ⟨g, ks, h1, h2, h3⟩ := h i w hw;refine ⟨g, ks, h1, hs _ h2 fun e2 => ?_, h3⟩;have e3 : g = b := e2;subst e3;exact absurd (hF _ _ _ _ _ hm h2).2 (aF he)
section
variable {P : Program} {N : Nat} {ε : Env} {L : Frag} {d : Option Tmp} {ty : TypeId} {ps : String} {af : Array Edge} {g : Option (Nat × Bool)} {x y : Operand} {t u : TypeId}
theorem xK {a b : Bool} (hu : P.underlying t = some .bool) (hx : ev ε x = some (.bool a) := by rfl) (hy : ev ε y = some (.bool b) := by rfl) : EY P N ε L ⟨d, .binOp .neq t x y u, ty, ps, af, g⟩ (.bool (a != b)) := fun ac ha => by
 refine cG (fun _ => rfl) fun K hK => ?_;rw [ha.ev hx, ha.ev hy];have e1 : eqGuard .neq t x y (.bool a) (.bool b) = pure () := by unfold eqGuard; rfl
 show wpQ P (eqGuard .neq t x y (.bool a) (.bool b) >>= fun _ => binOp .neq t (.bool a) (.bool b)) K L;rw [e1];show wpQ P (do pure (.bool (!(← Op.equal t (.bool a) (.bool b))))) K L;rw [ax, cX, Op.equalIn.eq_def, ax, aM hu];exact hK
theorem mB {l : List Int} {ats : Array TypeId} (hx : ev ε x = some (strv l) := by rfl) (hu : P.underlying t = some .string := by kernel_rfl) (ha' : ats[0]? = some t := by rfl) : EY P N ε L ⟨d, .call ⟨.builtin .len, #[x], ats⟩, ty, ps, af, g⟩ (.int .i64 (l.length : Nat)) := by
 have h := xY (P := P) (N := N) (L := L) (d := d) (ty := ty) (ps := ps) (af := af) (g := g) (s' := ⟨(l.map fun n => UInt8.ofNat n.toNat).toArray⟩) hx hu ha';have e : (⟨(l.map fun n => UInt8.ofNat n.toNat).toArray⟩ : ByteArray).size = l.length := by simp [ByteArray.size]
 rw [e] at h;exact h
end
set_option maxHeartbeats 1000000 in
theorem yV : ∃ k, ∀ {Fin : Value → World → Prop} {W : World} {O : Nat} (a b c d : Int) (l : List Int) (v5 : Value) (L : Frag) (eb : Nat → Nat × Nat), I64 a → I64 b → I64 c → I64 d → Byt l → oki l.length = false → Fun L → Ers eb L →
   CallsL (F := FZ Tryz.prog Fin) (fun s => dom0 (Shs s.2) W O) Tryz.prog true 11 [.int .i64 a, .int .i64 b, .int .i64 c, .int .i64 d, strv l, v5].toArray k (1, []) L (fun s' v L' => s'.1 = 0 ∧ v = .bool true) := by
 obtain ⟨n1, gn⟩ := qp;obtain ⟨n2, gc⟩ := kE;obtain ⟨n3, gk⟩ := uS;apply Exists.intro;intro Fin W O a b c d l v5 L eb ha hb hc hd hl hoi hF hE;have hN : ∀ (s : Nat × List Nat) (o : Obj), (dom0 (Shs s.2) W O).New o := fun _ _ => trivial;have hok := mw a b c d;co_applyP aB 261 Tryz.func11 Tryz.ntmps11;co_applyP ae;co_applyP aa;co_applyP oy rfl ak;co_applyP ah;change wpE ..;co_applyP ae;co_applyP aa;co_applyP oc rfl rfl rfl (gn 0 [] L eb hF hE);rintro _ _ _ ⟨N0, rfl, rfl, hE0⟩;co_applyP oy rfl ak;co_applyP ah;change wpE ..;co_applyP ae;co_applyP aa;co_applyP oy rfl aj;co_applyP oy rfl aj;co_applyP oy rfl aj;co_applyP oy rfl aj;rename_i L0;co_applyP ocm rfl rfl rfl (gc L0 a b c d hN hE0.f ha hb hc hd);rintro _ _ _ ⟨rfl, rfl, hE1⟩;co_applyP oy rfl aj;rename_i L1;co_applyP oc rfl rfl rfl (gk L1 (cfgf a b c) (cfgb d) l hN hE1.f hl hok hoi);rintro _ _ _ ⟨rfl, rfl, hE2⟩;co_applyP oy rfl ak;co_applyP ah;change wpE ..;co_applyP ae (n₂ := 0);co_applyP ae;co_applyP aa;co_applyP oy rfl aj;co_applyP oy rfl (gj (hu := Tryz.underlying35));co_applyP oy rfl aj;co_applyP ou rfl;co_applyP ou rfl;co_applyP oy rfl aN;co_applyP ah;change wpE ..;co_applyP aW rfl;co_applyP ae;have hoi' : ¬ (0 < l.length ∧ l.length % 4 = 0 ∧ l.length ≤ 1024) := by simpa [oki] using hoi
 co_applyP ft ([(12, .bool true)]);co_applyP aa;co_applyP oy rfl aj;co_applyP oy rfl aj
 · by_cases h0 : l.length = 0
   · have e0 : (((l.length : Nat) : Int) == 0) = true := by simp [h0]
     co_applyP oy rfl (aj);co_applyP oy rfl (mB);co_applyP oy rfl (ay);rw [e0];co_applyP oy rfl (aj);co_applyP ou rfl;co_applyP ou rfl;co_applyP ou rfl;co_applyP ou rfl;co_applyP oy rfl (aN);co_applyP oy rfl (aj);co_applyP ou rfl;co_applyP ou rfl;co_applyP ou rfl;co_applyP oy rfl (aN);co_applyP oy rfl aN;co_applyP oy rfl ak;co_applyP ah;change _ = _ ∧ _ = _ ∧ kn _ _;exact ⟨rfl, rfl, rfl⟩
   · have e0 : (((l.length : Nat) : Int) == 0) = false := by rw [beq_eq_false_iff_ne]; omega
     co_applyP oy rfl (aj);co_applyP oy rfl (mB);co_applyP oy rfl (ay);rw [e0];co_applyP oy rfl (aj);co_applyP oy rfl (aj);co_applyP oy rfl (mB);co_applyP oy rfl (gT);rw [show Int.tmod ((l.length : Nat) : Int) 4 = ((l.length % 4 : Nat) : Int) by rw [Int.tmod_eq_emod_of_nonneg (by omega)]; rfl];co_applyP oy rfl (cY);by_cases h4 : l.length % 4 = 0
     · have e4 : (((l.length % 4 : Nat) : Int) != 0) = false := by simp [h4]
       have e5 : decide ((1024 : Int) < ((l.length : Nat) : Int)) = true := by simp; omega
       rw [e4];co_applyP oy rfl (aN);co_applyP oy rfl (aj);co_applyP oy rfl (aj);co_applyP oy rfl (mB);co_applyP oy rfl (dj);rw [e5];co_applyP oy rfl (aN);co_applyP oy rfl aN;co_applyP oy rfl ak;co_applyP ah;change _ = _ ∧ _ = _ ∧ kn _ _;exact ⟨rfl, rfl, rfl⟩
     · have e4 : (((l.length % 4 : Nat) : Int) != 0) = true := by rw [bne_iff_ne]; omega
       rw [e4];co_applyP oy rfl (aN);co_applyP oy rfl (aj);co_applyP ou rfl;co_applyP ou rfl;co_applyP ou rfl;co_applyP oy rfl (aN);co_applyP oy rfl aN;co_applyP oy rfl ak;co_applyP ah;change _ = _ ∧ _ = _ ∧ kn _ _;exact ⟨rfl, rfl, rfl⟩
 co_applyP aJ;change ∃ v, resE .. = some v ∧ _;exact ⟨_, rfl, rfl, rfl⟩
theorem si {S T : St} (h : S.ps.map (·.2) = T.ps.map (·.2)) : S.sk = T.sk := by
 have e : ∀ S : St, S.sk = (S.ps.map (·.2)).map fun x => (x.id, x.par, decide (x.st = 6)) := fun S => by
   unfold St.sk; rw [List.map_map]; rfl
 rw [e, e, h]
theorem Ab.sk {S T : St} (h : Ab S T) : S.sk = T.sk := by
 obtain ⟨N, _, rfl⟩ := h.ex;exact si (by simp [St.map, Function.comp_def])
theorem jg {S : St} {i : Nat} {q : Nat × PS} (h : S.ps[i]? = some q) : S.sk[i]? = some (key q) := by unfold St.sk; rw [List.getElem?_map, h]; rfl
theorem KI.lt {l : List Key} {n : Nat} (h : KI l n) {i j : Nat} {e f : Key} (he : l[i]? = some e) (hf : l[j]? = some f) (hij : i < j) : e.1 < f.1 := by
 have h1 : (l.map (·.1))[i]? = some e.1 := by rw [List.getElem?_map, he]; rfl
 have h2 : (l.map (·.1))[j]? = some f.1 := by rw [List.getElem?_map, hf]; rfl
 obtain ⟨l1, g1⟩ := List.getElem?_eq_some_iff.1 h1;obtain ⟨l2, g2⟩ := List.getElem?_eq_some_iff.1 h2;have := List.pairwise_iff_getElem.1 h.asc i j l1 l2 hij;rw [g1, g2] at this;exact this
theorem KI.first {l : List Key} {n : Nat} (h : KI l n) {e : Key} (he : l[0]? = some e) : e.1 = 1 ∧ e.2.1 = 0 := by
 obtain ⟨f, hf, h1, h2⟩ := h.one;obtain ⟨j, hj⟩ := List.getElem?_of_mem hf;rcases Nat.eq_zero_or_pos j with rfl | h3
 · rw [he] at hj;obtain rfl : e = f := by simpa using hj
   exact ⟨h1, h2⟩
 · have h4 := h.lt he hj h3;have h5 := (h.rng e (List.mem_of_getElem? he)).1;omega
theorem fg {S : St} {a : Sl} {i j : Nat} {q : Nat × PS} {v : Value} {L : Frag} {g : Nat} (hm : (g, true, Obj.cells (heads S.ps ++ a.junk).toArray 49) ∈ L) (h : S.ps[i]? = some q) (hj : j < 15) (hv : (phead q.2)[j]? = some v) : At L g (i * 15 + j) v := ⟨true, _, _, _, hm, by
 have hi := (List.getElem?_eq_some_iff.1 h).1;rw [List.getElem?_toArray, List.getElem?_append_left (by rw [f9]; omega), oa _ h j hj];exact hv⟩
theorem vd {S : St} {j : Nat} {r : Nat × PS} (h : S.ps[j]? = some r) (p : Nat × PS → Bool) : (S.ps.take (j + 1)).any p = ((S.ps.take j).any p || p r) := by
 rw [List.take_add_one, h, Option.toList_some, List.any_append];simp
set_option maxHeartbeats 4000000 in
theorem yW : ∃ k, ∀ {Fin : Value → World → Prop} {W : World} {O : Nat} (a b c d : Int) (l : List Int) (ti : Int) (L : Frag) (eb : Nat → Nat × Nat), I64 a → I64 b → I64 c → I64 d → Byt l → oki l.length = true → I64 ti → Fun L → Ers eb L →
   CallsL (F := FZ Tryz.prog Fin) (fun s => dom0 (Shs s.2) W O) Tryz.prog true 11 [.int .i64 a, .int .i64 b, .int .i64 c, .int .i64 d, strv l, .int .i64 ti].toArray k (1 + 1, []) L (fun s' v L' => s'.1 = 0 ∧ v = .bool true) := by
 obtain ⟨n1, gn⟩ := qp;obtain ⟨n2, gc⟩ := kE;obtain ⟨n3, gk⟩ := nT;obtain ⟨n4, gpick⟩ := uR;obtain ⟨n5, gr⟩ := xF;obtain ⟨n6, gp⟩ := qn;apply Exists.intro;intro Fin W O a b c d l ti L eb ha hb hc hd hl hoi hti hF hE;have hN : ∀ (s : Nat × List Nat) (o : Obj), (dom0 (Shs s.2) W O).New o := fun _ _ => trivial;have hok := mw a b c d;co_applyP aB 261 Tryz.func11 Tryz.ntmps11;co_applyP ae;co_applyP aa;co_applyP oy rfl ak;co_applyP ah;change wpE ..;co_applyP ae;co_applyP aa;co_applyP oc rfl rfl rfl (gn 1 [] L eb hF hE);rintro _ _ _ ⟨N0, rfl, rfl, hE0⟩;co_applyP oy rfl ak;co_applyP ah;change wpE ..;co_applyP ae;co_applyP aa;co_applyP oy rfl aj;co_applyP oy rfl aj;co_applyP oy rfl aj;co_applyP oy rfl aj;rename_i L0;co_applyP ocm rfl rfl rfl (gc L0 a b c d hN hE0.f ha hb hc hd);rintro _ _ _ ⟨rfl, rfl, hE1⟩;co_applyP oy rfl aj;rename_i L1;co_applyP oc rfl rfl rfl (gk L1 (cfgf a b c) (cfgb d) l hN hE1.f hl hok hoi);rintro _ _ _ ⟨rfl, K, A0, b0, rfl, hR0⟩;co_applyP oy rfl ak;co_applyP ah;change wpE ..;co_applyP ae;co_applyP ae;rename_i L2;have hAb0 := nW (b := b0) hok hoi hl;obtain ⟨t1, t2, t3⟩ := pC hok hoi hl;have hT0 : (St.fresh (cfgf a b c) (cfgb d) l 1).now = 0 := rfl;have hTl : (St.fresh (cfgf a b c) (cfgb d) l 1).last = 1 := rfl;generalize St.fresh (cfgf a b c) (cfgb d) l 1 = T at hAb0 t1 t2 t3 hT0 hTl;have hEL : Ers eb L1 := hE.mono fun t h => hE1.s _ (hE0.s _ h);co_applyP aa;co_applyP oy rfl aj;co_applyP oy rfl (gj (hu := Tryz.underlying35));co_applyP oy rfl aj;co_applyP oy rfl (aj);co_applyP oy rfl (bY);co_applyP oy rfl aN;co_applyP ah;change wpE ..;co_applyP aq rfl;co_applyP aA;change wpE ..;co_applyP ae;co_applyP aa;co_applyP oy rfl aj;co_applyP oc rfl rfl rfl (gpick L2 ti 600 hti (by decide));rintro _ _ _ ⟨rfl, rfl, rfl⟩;have hn6 : pickN ti 600 < 600 := dv ti (by decide);generalize pickN ti 600 = n at hn6;co_applyP oy rfl ak;co_applyP ah;change wpE ..;co_applyP ae;co_applyP aa;co_applyP oy rfl aj;co_applyP oy rfl aj;co_applyP oc rfl rfl rfl (gr 0 [N0] K A0 _ T L1 _ eb n hR0 hEL hAb0 (by omega) (by show (0 : Nat) < _; decide));rintro _ _ _ ⟨N1, told, A1, S1, rfl, rfl, hAb1, hR1, hH⟩;rename_i L3;obtain ⟨ws, tke, Ge, w1, w2, w3, w4, w5, w6, w7⟩ := ol n T (fun _ => false) t1 t2 t3 (by omega);obtain ⟨ws', hws', hwl'⟩ := iz n T;obtain rfl : ws' = ws := py (hws'.symm.trans w1);rw [hT0] at w2 w6;rw [w1] at hH;obtain ⟨at2, rfl, hat2⟩ := nZ hH;obtain ⟨tb, tc, htv, htw⟩ := wU hat2;rw [htv];co_applyP oy rfl aj;co_applyP oy rfl bM;co_applyP oy rfl bM;co_applyP oy rfl ak;co_applyP oy rfl ak;co_applyP ah;change wpE ..;co_applyP ae;co_applyP ae;co_applyP aa;co_applyP oy rfl aj;co_applyP oy rfl cY;co_applyP ah;change wpE ..;co_applyP aq rfl;co_applyP aA;change wpE ..;co_applyP ae;co_applyP aa;co_applyP oy rfl ak
 co_applyP ah;change wpE ..;co_applyP ae;co_applyP aa;co_applyP oy rfl ak;co_applyP ah;change wpE ..;co_applyP ae;co_applyP aa;co_applyP bN rfl (dQ (z := .agg (gcs fun _ => false)) (hN _ _) Au);intro gb L4 hAg;co_applyP ah;change wpE ..;co_applyP ae;co_applyP ae;co_applyP aa;co_applyP oy rfl ak;co_applyP ah;change wpE ..;co_applyP aI;have hgL : ∀ t ∈ L1, t.1 ≠ gb := fun t ht => hAg.new _ (hR1.fr _ ht);co_applyP bG (fun k s' ε' L' => s' = (0, [N1, N0]) ∧ ∃ i tk G, k + i = 2000 ∧ i ≤ ws'.length ∧ chks (ws'.take i) (((0 : Nat) : Int) - 1, fun _ => false) = some (tk, G) ∧ -1 ≤ tk ∧ tk < i ∧ Rep K A1 S1 L1 L' ∧ WL L' tb ws' ∧ (gb, true, Obj.cells (gcs G) 66) ∈ L' ∧ kn ε' [(14, ptr K), (15, .int .i64 (n : Nat)), (16, .slice tb ws'.length tc), (18, .int .i64 tk), (19, .bool (G 1)), (20, ptr gb), (21, .int .i64 (i : Nat))]) 2000
 · exact ⟨rfl, 0, -1, fun _ => false, rfl, Nat.zero_le _, rfl, by omega, by omega, hR1.add hAg, htw.mono hAg.sub, hAg.self, rfl⟩
 rintro c0 s' ε' L5 ⟨rfl, i, tk, G, hci, hi, hchs, htk0, htki, hR5, hwL, hgm, he⟩;co_applyP a6 he;have ei : IntKind.i64.wrap ((i : Int) + 1) = ((i + 1 : Nat) : Int) := by simp [IntKind.wrap_i64]; omega
 co_applyP ae;co_applyP ae;co_applyP aa;co_applyP oy rfl aj;co_applyP oy rfl aj;co_applyP oy rfl (bz (hu := Tryz.underlying38));co_applyP oy rfl bX;co_applyP ah;change wpE ..;co_applyP bl rfl;intro hlt
 · have hlt' : i < ws'.length := by simpa using hlt
   obtain ⟨w, hw⟩ : ∃ w, ws'[i]? = some w := ⟨_, List.getElem?_eq_getElem hlt'⟩;obtain ⟨g1, k1, rfl, m1, z1, x1⟩ := hwL i w hw;obtain ⟨s1, hchk, hchs1⟩ := sg w2 hw hchs;obtain ⟨p0, p7, pov, hcase⟩ := sf hchk;co_applyP aA;change wpE ..;co_applyP ae;co_applyP aI;co_applyP ae;co_applyP aa;co_applyP oy rfl aj;co_applyP oy rfl aj;co_applyP oy rfl (bv Tryz.underlying38 fh);co_applyP oy rfl (a8 (ht := th) (hs := fh) (hm := m1) (hi := z1));rw [x1];co_applyP bN rfl (dQ (z := evt 0 0 0 0) (hN _ _));intro xb L6 hAx;co_applyP oeN rfl (fun hnd => fj (hs := fh) (vs := Wd.c w) (hnd := hnd) (hm := hAx.self) (hi := Nat.le_refl _));rintro _ L7 ⟨rfl, hUx⟩;co_applyP ah;change wpE ..;co_applyP ae;co_applyP ae;have hE7 : Ext L5 L7 := ⟨hUx.fn, fun t ht => hUx.ne _ (hAx.sub _ ht) (hAx.new _ ht)⟩;have y0 : At L7 xb 0 (.int .i64 w.1) := ⟨true, _, _, _, hUx.self, rfl⟩;have y1 : At L7 xb 1 (.int .i64 w.2.1) := ⟨true, _, _, _, hUx.self, rfl⟩;have y2 : At L7 xb 2 (.int .i64 w.2.2.1) := ⟨true, _, _, _, hUx.self, rfl⟩;have y3 : At L7 xb 3 (.int .i64 w.2.2.2) := ⟨true, _, _, _, hUx.self, rfl⟩;have hg7 := hE7.s _ hgm;have hpt : w.2.2.1.toNat < 700 := by omega
   have yg : At L7 gb w.2.2.1.toNat (.bool (G w.2.2.1.toNat)) := ⟨true, _, _, _, hg7, mA hpt⟩;have hR7 := hR5.ext hE7;have hw7 := hwL.mono hE7.s;have q0 : decide (w.2.2.1 < 0) = false := by simp; omega
   have q7 : decide ((700 : Int) ≤ w.2.2.1) = false := by simp; omega
   co_applyP ft ([(94, .bool false), (14, ptr K), (15, .int .i64 (n : Nat)), (16, .slice (some ⟨g1, 0, none⟩) ws'.length tc), (18, .int .i64 tk), (19, .bool (G 1)), (20, ptr gb), (21, .int .i64 (i : Nat)), (22, ptr xb)]);co_applyP aa;co_applyP oy rfl (av (hf := eB))
   · skip
     co_applyP oy rfl (aC (ht := aV) (hv := y2));co_applyP oy rfl bX;co_applyP oy rfl aj;rw [q0];co_applyP oy rfl ((av (hf := eB)));co_applyP oy rfl (aC (ht := aV) (hv := y2));co_applyP oy rfl (d9);co_applyP oy rfl aN;co_applyP oy rfl aj;rw [q7];co_applyP oy rfl (aj);co_applyP oy rfl (aj);cases hG1 : G 1 with
     | true =>
       have e1 : (w.1 != tk) = false := by rw [pov hG1]; simp
       co_applyP oy rfl ((av (hf := jp)));co_applyP oy rfl (aC (ht := aV) (hv := y0));co_applyP oy rfl (aj);co_applyP oy rfl (cY);rw [e1];co_applyP oy rfl (aN);co_applyP oy rfl aN;co_applyP ah;change _ = _ ∧ _ = _ ∧ kn _ _;exact ⟨rfl, rfl, rfl⟩
     | false =>
       co_applyP ou rfl;co_applyP ou rfl;co_applyP ou rfl;co_applyP ou rfl;co_applyP oy rfl (aN);co_applyP oy rfl aN;co_applyP ah;change _ = _ ∧ _ = _ ∧ kn _ _;exact ⟨rfl, rfl, rfl⟩
   co_applyP aq rfl;co_applyP aA;change wpE ..;co_applyP ae;co_applyP aa;co_applyP oy rfl (av (hf := jq));co_applyP oy rfl (aC (ht := aV) (hv := y1));co_applyP ah;change wpE ..;co_applyP aI;co_applyP dR (fun s'' ε'' L'' => s'' = (0, [N1, N0]) ∧ L'' = L7 ∧ kn ε'' [(97, .bool (decide (w.2.1 = 1 ∨ w.2.1 = 2))), (96, .int .i64 w.2.1), (14, ptr K), (15, .int .i64 (n : Nat)), (16, .slice (some ⟨g1, 0, none⟩) ws'.length tc), (18, .int .i64 tk), (19, .bool (G 1)), (20, ptr gb), (21, .int .i64 (i : Nat)), (22, ptr xb)]);co_applyP ae;co_applyP aa;co_applyP oy rfl ay;co_applyP oy rfl ak;co_applyP ah;change wpE ..;co_applyP bl rfl;intro h1;co_applyP aA;change _ = _ ∧ _ = _ ∧ kn _ _
   · have e1 : decide (w.2.1 = 1 ∨ w.2.1 = 2) = true := by simp at h1; simp [h1]
     rw [e1];refine ⟨rfl, rfl, ?_⟩;rw [← h1]; rfl
   intro h1;co_applyP aa;co_applyP oy rfl ay;co_applyP oy rfl ak;co_applyP ah;change _ = _ ∧ _ = _ ∧ kn _ _
   · have e1 : decide (w.2.1 = 1 ∨ w.2.1 = 2) = (w.2.1 == 2) := by simp at h1; rw [Bool.eq_iff_iff]; simp [h1]
     rw [e1];exact ⟨rfl, rfl, rfl⟩
   rintro s'' ε'' L8 ⟨rfl, rfl, he8⟩;co_applyP a6 he8;co_applyP bl rfl;intro h97;co_applyP ae;co_applyP aa;co_applyP oy rfl aj;co_applyP oy rfl a7;co_applyP oy rfl ak;co_applyP ah;change wpE ..;co_applyP ae
   · have h97' : w.2.1 = 1 ∨ w.2.1 = 2 := by simpa using h97
     obtain ⟨_, k1', k2', k3', rfl⟩ : (w.2.1 = 1 ∨ w.2.1 = 2) ∧ w.1 = tk + 1 ∧ (w.2.1 = 2 ↔ w.2.2.1 = 0) ∧ G w.2.2.1.toNat = false ∧ s1 = (tk + 1, G) := by
       rcases hcase with h | h | h
       · exact h
       · omega
       · omega
     have et : IntKind.i64.wrap (tk + 1) = tk + 1 := by simp [IntKind.wrap_i64]; omega
     have e1 : (w.1 != tk + 1) = false := by rw [k1']; simp
     have e2 : ((w.2.1 == 2) != (w.2.2.1 == 0)) = false := by
       by_cases h2 : w.2.1 = 2
       · rw [h2, k2'.1 h2]; rfl
       · have h3 : w.2.2.1 ≠ 0 := fun e => h2 (k2'.2 e);have x1 : (w.2.1 == 2) = false := by rw [beq_eq_false_iff_ne]; exact h2
         have x2 : (w.2.2.1 == 0) = false := by rw [beq_eq_false_iff_ne]; exact h3
         rw [x1, x2]; rfl
     rw [k3'] at yg;rw [et];co_applyP ft ([(120, .bool false), (14, ptr K), (15, .int .i64 (n : Nat)), (16, .slice (some ⟨g1, 0, none⟩) ws'.length tc), (18, .int .i64 (tk + 1)), (19, .bool (G 1)), (20, ptr gb), (21, .int .i64 (i : Nat))]);co_applyP aa;co_applyP oy rfl (av (hf := jp))
     · skip
       co_applyP oy rfl (aC (ht := aV) (hv := y0));co_applyP oy rfl aj;co_applyP oy rfl cY;co_applyP oy rfl aj;rw [e1];co_applyP oy rfl ((av (hf := jq)));co_applyP oy rfl (aC (ht := aV) (hv := y1));co_applyP oy rfl (ay);co_applyP oy rfl ((av (hf := eB)));co_applyP oy rfl (aC (ht := aV) (hv := y2));co_applyP oy rfl (ay);co_applyP oy rfl (xK Tryz.underlying4);co_applyP oy rfl aN;co_applyP oy rfl aj;rw [e2];co_applyP oy rfl ((av (hf := eB)));co_applyP oy rfl (aC (ht := aV) (hv := y2));co_applyP oy rfl ((a0 Tryz.underlying66 tf));co_applyP oy rfl (aC (ht := xZ) (hv := yg));co_applyP oy rfl aN;co_applyP ah;change _ = _ ∧ _ = _ ∧ kn _ _;exact ⟨rfl, rfl, rfl⟩
     co_applyP aq rfl;co_applyP aA;change wpE ..;co_applyP aa;co_applyP oy rfl aj;co_applyP oy rfl a7;co_applyP oy rfl ak;co_applyP ah;change ∃ k', k' < _ ∧ _;exact ⟨c0 - 1, by omega, rfl, i + 1, tk + 1, G, by omega, by omega, hchs1, by omega, by omega, hR7, hw7, hg7, by rw [← ei]; rfl⟩
   intro h97;co_applyP ae;co_applyP aa;co_applyP oy rfl ay;co_applyP oy rfl ak;co_applyP ah;change wpE ..;have h97' : ¬ (w.2.1 = 1 ∨ w.2.1 = 2) := by simpa using h97
   co_applyP bl rfl;intro h3;co_applyP ae
   · have h3' : w.2.1 = 3 := by simpa using h3
     obtain ⟨_, k1', k2', k3', rfl⟩ : w.2.1 = 3 ∧ w.1 = tk ∧ 0 ≤ w.2.2.2 ∧ w.2.2.2 ≤ 255 ∧ s1 = (tk, G) := by
       rcases hcase with h | h | h
       · exact absurd h.1 h97'
       · exact h
       · omega
     have e1 : (w.1 != tk) = false := by rw [k1']; simp
     have e2 : decide (w.2.2.2 < 0) = false := by simp; omega
     have e3 : decide ((255 : Int) < w.2.2.2) = false := by simp; omega
     co_applyP ft ([(136, .bool false), (14, ptr K), (15, .int .i64 (n : Nat)), (16, .slice (some ⟨g1, 0, none⟩) ws'.length tc), (18, .int .i64 tk), (19, .bool (G 1)), (20, ptr gb), (21, .int .i64 (i : Nat))]);co_applyP aa;co_applyP oy rfl (av (hf := jp))
     · skip
       co_applyP oy rfl (aC (ht := aV) (hv := y0));co_applyP oy rfl aj;co_applyP oy rfl cY;co_applyP oy rfl aj;rw [e1];co_applyP oy rfl ((av (hf := lV)));co_applyP oy rfl (aC (ht := aV) (hv := y3));co_applyP oy rfl (bX);co_applyP oy rfl aN;co_applyP oy rfl aj;rw [e2];co_applyP oy rfl ((av (hf := lV)));co_applyP oy rfl (aC (ht := aV) (hv := y3));co_applyP oy rfl (dj);co_applyP oy rfl aN;co_applyP ah;change _ = _ ∧ _ = _ ∧ kn _ _;rw [e3];exact ⟨rfl, rfl, rfl⟩
     co_applyP aq rfl;co_applyP aA;change wpE ..;co_applyP aa;co_applyP oy rfl aj;co_applyP oy rfl a7;co_applyP oy rfl ak;co_applyP ah;change ∃ k', k' < _ ∧ _;exact ⟨c0 - 1, by omega, rfl, i + 1, tk, G, by omega, by omega, hchs1, by omega, by omega, hR7, hw7, hg7, by rw [← ei]; rfl⟩
   intro h3;co_applyP ae;co_applyP aa;co_applyP oy rfl ay;co_applyP oy rfl ak;co_applyP ah;change wpE ..;have h3' : ¬ w.2.1 = 3 := by simpa using h3
   obtain ⟨k0', k1', k2', k3', rfl⟩ : w.2.1 = 4 ∧ w.1 = tk ∧ G w.2.2.1.toNat = false ∧ w.2.2.1 ≠ 0 ∧ s1 = (tk, put G w.2.2.1.toNat true) := by
     rcases hcase with h | h | h
     · exact absurd h.1 h97'
     · exact absurd h.1 h3'
     · exact h
   have e0 : (w.2.1 == 4) = true := by simp [k0']
   have e1 : (w.1 != tk) = false := by rw [k1']; simp
   have e2 : (w.2.2.1 == 0) = false := by simp [k3']
   rw [e0];co_applyP aW rfl;co_applyP ae;co_applyP ae;rw [k2'] at yg;co_applyP ft ([(153, .bool false), (14, ptr K), (15, .int .i64 (n : Nat)), (16, .slice (some ⟨g1, 0, none⟩) ws'.length tc), (18, .int .i64 tk), (19, .bool (G 1)), (20, ptr gb), (21, .int .i64 (i : Nat)), (22, ptr xb)]);co_applyP aa;co_applyP oy rfl (av (hf := jp))
   · skip
     co_applyP oy rfl (aC (ht := aV) (hv := y0));co_applyP oy rfl aj;co_applyP oy rfl cY;co_applyP oy rfl aj;rw [e1];co_applyP oy rfl ((av (hf := eB)));co_applyP oy rfl (aC (ht := aV) (hv := y2));co_applyP oy rfl ((a0 Tryz.underlying66 tf));co_applyP oy rfl (aC (ht := xZ) (hv := yg));co_applyP oy rfl aN;co_applyP oy rfl aj;co_applyP oy rfl ((av (hf := eB)));co_applyP oy rfl (aC (ht := aV) (hv := y2));co_applyP oy rfl (ay);co_applyP oy rfl aN;co_applyP ah;change _ = _ ∧ _ = _ ∧ kn _ _;rw [e2];exact ⟨rfl, rfl, rfl⟩
   co_applyP aq rfl;co_applyP aA;change wpE ..;co_applyP ae;co_applyP aa;co_applyP oy rfl (av (hf := eB));co_applyP oy rfl (aC (ht := aV) (hv := y2));co_applyP oy rfl (a0 Tryz.underlying66 tf);co_applyP osm rfl (hs := tf) (hm := hg7) (hi := by rw [iF]; exact hpt);intro L9 hU9;rw [xc hpt] at hU9;have hxg : xb ≠ gb := fun e => hAx.new _ hgm e.symm;have y2' : At L9 xb 2 (.int .i64 w.2.2.1) := ⟨true, _, _, _, hU9.ne _ hUx.self hxg, rfl⟩;have eo : put G w.2.2.1.toNat true 1 = (G 1 || (w.2.2.1 == 1)) := by
     unfold put;by_cases e : w.2.2.1 = 1
     · simp [e]
     · rw [if_neg (by omega)]; simp [e]
   co_applyP ah;change wpE ..;co_applyP bK (G 1 = true);intro hG1
   · rw [hG1] at eo ⊢;co_applyP aa;co_applyP oy rfl aj;co_applyP oy rfl aj;co_applyP ou rfl;co_applyP ou rfl;co_applyP ou rfl;co_applyP oy rfl aN;co_applyP oy rfl ak;co_applyP ah;change wpE ..;co_applyP aa;co_applyP oy rfl aj;co_applyP oy rfl a7;co_applyP oy rfl ak;co_applyP ah;change ∃ k', k' < _ ∧ _;exact ⟨c0 - 1, by omega, rfl, i + 1, tk, put G w.2.2.1.toNat true, by omega, by omega, hchs1, by omega, by omega, hR7.turnB hg7 (by decide) hgL hU9.fn hU9.ne, hw7.turn hR7.fn hg7 (by decide) hU9.ne, hU9.self, by rw [← ei, eo]; rfl⟩
   intro hG1;have hG1' : G 1 = false := by simpa using hG1
   rw [hG1'] at eo ⊢;co_applyP aa;co_applyP oy rfl aj;co_applyP oy rfl aj;co_applyP oy rfl ((av (hf := eB)));co_applyP oy rfl (aC (ht := aV) (hv := y2'));co_applyP oy rfl (ay);co_applyP oy rfl aN;co_applyP oy rfl ak;co_applyP ah;change wpE ..;co_applyP aa;co_applyP oy rfl aj;co_applyP oy rfl a7;co_applyP oy rfl ak;co_applyP ah;change ∃ k', k' < _ ∧ _;exact ⟨c0 - 1, by omega, rfl, i + 1, tk, put G w.2.2.1.toNat true, by omega, by omega, hchs1, by omega, by omega, hR7.turnB hg7 (by decide) hgL hU9.fn hU9.ne, hw7.turn hR7.fn hg7 (by decide) hU9.ne, hU9.self, by rw [← ei, eo]; rfl⟩
 intro hlt;have hieq : i = ws'.length := by simp at hlt; omega
 subst hieq;rw [List.take_length] at hchs;obtain ⟨rfl, rfl⟩ : tk = tke ∧ G = Ge := by
   have := hchs.symm.trans w2;simpa using this
 have en : IntKind.i64.wrap ((n : Int) - 1) = (n : Int) - 1 := by simp [IntKind.wrap_i64]; omega
 co_applyP bL;change wpE ..;co_applyP ae;co_applyP ae;co_applyP ft ([(170, .bool false), (14, ptr K), (20, ptr gb)]);co_applyP aa;co_applyP oy rfl aj;co_applyP oy rfl bY;co_applyP oy rfl aj
 · cases hG1 : G 1 with
   | true =>
     co_applyP ou rfl;co_applyP ou rfl;co_applyP ou rfl;co_applyP ou rfl;co_applyP oy rfl aN;co_applyP ah;change _ = _ ∧ _ = _ ∧ kn _ _;exact ⟨rfl, rfl, rfl⟩
   | false =>
     have e1 : (tk != (n : Int) - 1) = false := by rw [w6 hG1]; simp; omega
     co_applyP oy rfl (aj);co_applyP oy rfl (aj);co_applyP oy rfl (pJ);rw [en];co_applyP oy rfl (cY);co_applyP oy rfl aN;co_applyP ah;change _ = _ ∧ _ = _ ∧ kn _ _;rw [e1];exact ⟨rfl, rfl, rfl⟩
 co_applyP aq rfl;co_applyP aA;change wpE ..;co_applyP ae;co_applyP aa;co_applyP oy rfl aj;co_applyP oc rfl rfl rfl (gp K A1 S1 L1 L5 hN hR5);rintro _ _ _ ⟨rfl, ap, rfl, hap, hapn, hEp⟩;rename_i L9;obtain ⟨Nm, hTI, _⟩ := hAb1.ex;have hpos : 0 < S1.ps.length := by
   obtain ⟨q, hq, _⟩ := hTI.m.x.p1;exact List.length_pos_of_mem hq
 have h8 := hR5.p8;obtain ⟨pg, hpg⟩ := gK hap (by rw [f9]; omega);have hpv : rowv ap 15 S1.ps.length = .slice (some ⟨pg, 0, none⟩) S1.ps.length (S1.ps.length + ap.junk.length / 15) := by unfold rowv; rw [hpg]
 have hpm := hap.mem hpg;rw [hpv];have hsk := hAb1.sk;rw [← hsk] at w4 w5;have hg9 := hEp.s _ hgm;obtain ⟨r0, hr0⟩ : ∃ q, S1.ps[0]? = some q := ⟨_, List.getElem?_eq_getElem hpos⟩;obtain ⟨i0, pa0⟩ := w4.first (jg hr0)
 have z0 : At L9 pg 0 (.int .i64 (r0.2.id : Nat)) := fg (i := 0) (j := 0) hpm hr0 (by decide) rfl;have z1 : At L9 pg 1 (.int .i64 (r0.2.par : Nat)) := fg (i := 0) (j := 1) hpm hr0 (by decide) rfl;have i0' : r0.2.id = 1 := i0;have pa0' : r0.2.par = 0 := pa0;rw [i0'] at z0;rw [pa0'] at z1;have f1 : decide (((S1.ps.length : Nat) : Int) < 1) = false := by simp; omega
 have f8 : decide ((8 : Int) < ((S1.ps.length : Nat) : Int)) = false := by simp; omega
 co_applyP oy rfl ak;co_applyP ah;change wpE ..;co_applyP ae;co_applyP ae;co_applyP aa;co_applyP oy rfl aj;co_applyP oy rfl (bz (hu := Tryz.underlying42));co_applyP oy rfl bX;co_applyP oy rfl aj;rw [f1];co_applyP oy rfl (aj);co_applyP oy rfl ((bz (hu := Tryz.underlying42)));co_applyP oy rfl (dj);co_applyP oy rfl aN;co_applyP oy rfl aj;rw [f8];co_applyP oy rfl (aj);co_applyP oy rfl ((bv Tryz.underlying42 eO));co_applyP oy rfl ((av (hf := cn)));co_applyP oy rfl (aC (ht := aV) (hv := z0));co_applyP oy rfl (cY);co_applyP oy rfl aN;co_applyP oy rfl aj;co_applyP oy rfl (aj);co_applyP oy rfl ((bv Tryz.underlying42 eO));co_applyP oy rfl ((av (hf := jo)));co_applyP oy rfl (aC (ht := aV) (hv := z1));co_applyP oy rfl (cY);co_applyP oy rfl aN;co_applyP ah;change wpE ..;co_applyP aq rfl;co_applyP aA;change wpE ..;co_applyP ae;co_applyP ae;co_applyP aa;co_applyP oy rfl ak;co_applyP ah;change wpE ..;co_applyP aI;co_applyP bG (fun k s' ε' L' => s' = (0, [N1, N0]) ∧ L' = L9 ∧ ∃ i, k + i = 10 ∧ 1 ≤ i ∧ i ≤ S1.ps.length ∧ kn ε' [(20, ptr gb), (23, .slice (some ⟨pg, 0, none⟩) S1.ps.length (S1.ps.length + ap.junk.length / 15)), (24, .int .i64 (i : Nat))]) 9
 · exact ⟨rfl, rfl, 1, rfl, Nat.le_refl _, hpos, rfl⟩
 rintro c0 s' ε' L' ⟨rfl, rfl, i, hci, hi1, hi, he⟩;co_applyP a6 he;have ei : IntKind.i64.wrap ((i : Int) + 1) = ((i + 1 : Nat) : Int) := by simp [IntKind.wrap_i64]; omega
 have em : IntKind.i64.wrap ((i : Int) - 1) = ((i - 1 : Nat) : Int) := by simp [IntKind.wrap_i64]; omega
 co_applyP ae;co_applyP ae;co_applyP aa;co_applyP oy rfl aj;co_applyP oy rfl aj;co_applyP oy rfl (bz (hu := Tryz.underlying42));co_applyP oy rfl bX;co_applyP ah;change wpE ..;co_applyP bl rfl;intro hlt
 · have hlt' : i < S1.ps.length := by simpa using hlt
   obtain ⟨q, hq⟩ : ∃ q, S1.ps[i]? = some q := ⟨_, List.getElem?_eq_getElem hlt'⟩;obtain ⟨r, hr⟩ : ∃ q, S1.ps[i - 1]? = some q := ⟨_, List.getElem?_eq_getElem (by omega)⟩;have u0 : At L' pg (i * 15) (.int .i64 (q.2.id : Nat)) := fg (j := 0) hpm hq (by decide) rfl;have u1 : At L' pg (i * 15 + 1) (.int .i64 (q.2.par : Nat)) := fg (j := 1) hpm hq (by decide) rfl;have u2 : At L' pg (i * 15 + 2) (.int .i64 (q.2.st : Nat)) := fg (j := 2) hpm hq (by decide) rfl;have v0 : At L' pg ((i - 1) * 15) (.int .i64 (r.2.id : Nat)) := fg (j := 0) hpm hr (by decide) rfl;have hlt0 : r.2.id < q.2.id := w4.lt (jg hr) (jg hq) (by omega);have hrng := w4.rng _ (List.mem_of_getElem? (jg hq));have hrng1 : 1 ≤ q.2.id := hrng.1;have hrng2 : q.2.id ≤ (St.runs n T).last := hrng.2;have hne1 : q.2.id ≠ 1 := by
     have := w4.lt (jg hr0) (jg hq) (by omega);have h2 : r0.2.id < q.2.id := this;omega
   have hgone : G q.2.id = decide (q.2.st = 6) := w5.e _ (List.mem_of_getElem? (jg hq));have hpar : S1.ps.any (fun p => p.2.id == q.2.par) = true := by
     obtain ⟨_, f, hf, h1, _⟩ := w4.par _ (List.mem_of_getElem? (jg hq)) hne1;obtain ⟨p, hp, rfl⟩ := List.mem_map.1 hf;have h2 : p.2.id = q.2.par := h1;exact List.any_eq_true.2 ⟨p, hp, by simp [h2]⟩
   co_applyP aA;change wpE ..;co_applyP ae;co_applyP aI;co_applyP ae;co_applyP aa;co_applyP oy rfl ak;co_applyP ah;change wpE ..;co_applyP ae;co_applyP ae;co_applyP aa;co_applyP oy rfl ak;co_applyP ah;change wpE ..;co_applyP aI;co_applyP bG (fun k s' ε' L'' => s' = (0, [N1, N0]) ∧ L'' = L' ∧ ∃ j, k + j = 8 ∧ j ≤ S1.ps.length ∧ kn ε' [(20, ptr gb), (23, .slice (some ⟨pg, 0, none⟩) S1.ps.length (S1.ps.length + ap.junk.length / 15)), (24, .int .i64 (i : Nat)), (25, .bool ((S1.ps.take j).any fun p => p.2.id == q.2.par)), (26, .int .i64 (j : Nat))]) 8
   · exact ⟨rfl, rfl, 0, rfl, Nat.zero_le _, rfl⟩
   rintro c1 s' ε' L'' ⟨rfl, rfl, j, hcj, hj, hej⟩;co_applyP a6 hej;have ej : IntKind.i64.wrap ((j : Int) + 1) = ((j + 1 : Nat) : Int) := by simp [IntKind.wrap_i64]; omega
   co_applyP ae;co_applyP ae;co_applyP aa;co_applyP oy rfl aj;co_applyP oy rfl aj;co_applyP oy rfl (bz (hu := Tryz.underlying42));co_applyP oy rfl bX;co_applyP ah;change wpE ..;co_applyP bl rfl;intro hlt2
   · have hlt2' : j < S1.ps.length := by simpa using hlt2
     obtain ⟨p, hp⟩ : ∃ q, S1.ps[j]? = some q := ⟨_, List.getElem?_eq_getElem hlt2'⟩;have t0 : At L'' pg (j * 15) (.int .i64 (p.2.id : Nat)) := fg (j := 0) hpm hp (by decide) rfl;have ea := vd hp fun p => p.2.id == q.2.par;co_applyP aA;change wpE ..;co_applyP ae;co_applyP aI;co_applyP bK ((S1.ps.take j).any (fun p => p.2.id == q.2.par) = true);intro hany
     · rw [hany] at ea ⊢;co_applyP bj aZ;co_applyP tr (i := 0) rfl aj pI;co_applyP tr (i := 1) rfl aj pI;co_applyP tu (i := 2) rfl pI;co_applyP tu (i := 3) rfl pI;co_applyP tu (i := 4) rfl pI;co_applyP tu (i := 5) rfl pI;co_applyP tu (i := 6) rfl pI;co_applyP tu (i := 7) rfl pI;co_applyP tu (i := 8) rfl pI;co_applyP tu (i := 9) rfl pI;co_applyP tu (i := 10) rfl pI;co_applyP tu (i := 11) rfl pI;co_applyP tu (i := 12) rfl pI;co_applyP tr (i := 13) rfl aN pI;co_applyP tr (i := 14) rfl ak pI;co_applyP td (by kernel_rfl);change wpE ..;co_applyP aa;co_applyP oy rfl aj;co_applyP oy rfl a7;co_applyP oy rfl ak;co_applyP ah;change ∃ k', k' < _ ∧ _;exact ⟨c1 - 1, by omega, rfl, rfl, j + 1, by omega, by omega, by rw [← ej, ea]; rfl⟩
     intro hany;have hany' : (S1.ps.take j).any (fun p => p.2.id == q.2.par) = false := by simpa using hany
     rw [hany'] at ea ⊢;have e4 : (((p.2.id : Nat) : Int) == ((q.2.par : Nat) : Int)) = (p.2.id == q.2.par) := by rw [Bool.eq_iff_iff]; simp; omega
     co_applyP bj aZ;co_applyP tr (i := 0) rfl aj pI;co_applyP tr (i := 1) rfl aj pI;co_applyP tr (i := 2) rfl (aj) pI;co_applyP tr (i := 3) rfl (aj) pI;co_applyP tr (i := 4) rfl ((bv Tryz.underlying42 eO)) pI;co_applyP tr (i := 5) rfl ((av (hf := cn))) pI;co_applyP tr (i := 6) rfl (aC (ht := aV) (hv := t0)) pI;co_applyP tr (i := 7) rfl (aj) pI;co_applyP tr (i := 8) rfl (aj) pI;co_applyP tr (i := 9) rfl ((bv Tryz.underlying42 eO)) pI;co_applyP tr (i := 10) rfl ((av (hf := jo))) pI;co_applyP tr (i := 11) rfl (aC (ht := aV) (hv := u1)) pI;co_applyP tr (i := 12) rfl (ay) pI;co_applyP tr (i := 13) rfl aN pI;co_applyP tr (i := 14) rfl ak pI;co_applyP td (by kernel_rfl);change wpE ..;co_applyP aa;co_applyP oy rfl aj;co_applyP oy rfl a7;co_applyP oy rfl ak;co_applyP ah;change ∃ k', k' < _ ∧ _;rw [e4];exact ⟨c1 - 1, by omega, rfl, rfl, j + 1, by omega, by omega, by rw [← ej, ea]; rfl⟩
   intro hlt2;have hjeq : j = S1.ps.length := by simp at hlt2; omega
   subst hjeq;rw [List.take_length, hpar];have a1 : decide (((q.2.id : Nat) : Int) ≤ ((r.2.id : Nat) : Int)) = false := by simp; omega
   have a2 : decide ((700 : Int) ≤ ((q.2.id : Nat) : Int)) = false := by simp; omega
   have a3 : (G q.2.id != (((q.2.st : Nat) : Int) == 6)) = false := by
     rw [hgone];by_cases h6 : q.2.st = 6
     · simp [h6]
     · have : (((q.2.st : Nat) : Int) == 6) = false := by rw [beq_eq_false_iff_ne]; omega
       rw [this]; simp [h6]
   have yg : At L'' gb q.2.id (.bool (G q.2.id)) := ⟨true, _, _, _, hg9, mA (by omega)⟩;co_applyP bL;change wpE ..;co_applyP ae;co_applyP bj aZ;co_applyP tr (i := 0) rfl aj pI;co_applyP tr (i := 1) rfl aj pI;co_applyP tr (i := 2) rfl (bv Tryz.underlying42 eO) pI;co_applyP tr (i := 3) rfl (av (hf := cn)) pI;co_applyP tr (i := 4) rfl (aC (ht := aV) (hv := u0)) pI;co_applyP tr (i := 5) rfl aj pI;co_applyP tr (i := 6) rfl aj pI;co_applyP tr (i := 7) rfl pJ pI;rw [em];co_applyP tr (i := 8) rfl (bv Tryz.underlying42 eO) pI;co_applyP tr (i := 9) rfl (av (hf := cn)) pI;co_applyP tr (i := 10) rfl (aC (ht := aV) (hv := v0)) pI;co_applyP tr (i := 11) rfl k9 pI;co_applyP tr (i := 12) rfl aj pI;rw [a1];co_applyP tr (i := 13) rfl (aj) pI;co_applyP tr (i := 14) rfl (bY) pI;co_applyP tr (i := 15) rfl aN pI;co_applyP tr (i := 16) rfl aj pI;co_applyP tr (i := 17) rfl (aj) pI;co_applyP tr (i := 18) rfl (aj) pI;co_applyP tr (i := 19) rfl ((bv Tryz.underlying42 eO)) pI;co_applyP tr (i := 20) rfl ((av (hf := cn))) pI;co_applyP tr (i := 21) rfl (aC (ht := aV) (hv := u0)) pI;co_applyP tr (i := 22) rfl (d9) pI;co_applyP tr (i := 23) rfl aN pI;co_applyP tr (i := 24) rfl aj pI;rw [a2];co_applyP tr (i := 25) rfl (aj) pI;co_applyP tr (i := 26) rfl (aj) pI;co_applyP tr (i := 27) rfl ((bv Tryz.underlying42 eO)) pI;co_applyP tr (i := 28) rfl ((av (hf := cn))) pI;co_applyP tr (i := 29) rfl (aC (ht := aV) (hv := u0)) pI;co_applyP tr (i := 30) rfl ((a0 Tryz.underlying66 tf)) pI;co_applyP tr (i := 31) rfl (aC (ht := xZ) (hv := yg)) pI;co_applyP tr (i := 32) rfl (aj) pI;co_applyP tr (i := 33) rfl (aj) pI;co_applyP tr (i := 34) rfl ((bv Tryz.underlying42 eO)) pI;co_applyP tr (i := 35) rfl ((av (hf := cA))) pI;co_applyP tr (i := 36) rfl (aC (ht := aV) (hv := u2)) pI;co_applyP tr (i := 37) rfl (ay) pI;co_applyP tr (i := 38) rfl (xK Tryz.underlying4) pI;co_applyP tr (i := 39) rfl aN pI;co_applyP td (by kernel_rfl);change wpE ..;rw [a3];co_applyP aq rfl;co_applyP aA;change wpE ..;co_applyP aa;co_applyP oy rfl aj;co_applyP oy rfl a7;co_applyP oy rfl ak;co_applyP ah;change ∃ k', k' < _ ∧ _;exact ⟨c0 - 1, by omega, rfl, rfl, i + 1, by omega, by omega, by omega, by rw [← ei]; rfl⟩
 intro hlt;co_applyP bL;change wpE ..;co_applyP ae;co_applyP aa;co_applyP oy rfl ak;co_applyP ah;change wpE ..;co_applyP aJ;change ∃ v, resE .. = some v ∧ _;exact ⟨_, rfl, rfl, rfl⟩
end Go.Proofs.YtejkelcaljmnoaaGreatDoor
