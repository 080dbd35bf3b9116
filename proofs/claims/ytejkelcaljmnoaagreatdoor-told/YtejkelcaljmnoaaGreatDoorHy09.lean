/-
  Part 9 of the proof.
  No condition but those that each statement names.
-/
import Derived.Test.YtejkelcaljmnoaaGreatDoorHy08
set_option maxRecDepth 100000
set_option linter.unusedVariables false
set_option linter.unusedSimpArgs false
set_option linter.unusedSectionVars false
namespace Go.Proofs.YtejkelcaljmnoaaGreatDoor
open Go.Conc Go.Hx Go.Lo
theorem cO {S : St} {x : PS} {i : Nat} (h : S.childAt x = some i) : ∃ q, S.ps[i]? = some q ∧ q.2.par = x.id ∧ q.2.st = 6 := by
 obtain ⟨hil, hti, _⟩ := List.findIdx?_eq_some_iff_getElem.1 h;refine ⟨S.ps[i], List.getElem?_eq_getElem hil, ?_⟩;simpa [isChildEnded] using hti
theorem ik {S : St} {b : Nat} (h : ∀ q ∈ S.ps, q.1 ≠ b) : S.get b = none := by
 unfold St.get;rw [List.find?_eq_none.2 fun q hq => by simpa using h q hq]; rfl
theorem ji : ∃ n, ∀ {σ : Type} {F : Fam σ} {Δ : ∀ s, Dom (F.R s) (F.D s)} {main : Bool} {s : σ} (K : Nat) (A : Lay) (S : St) (Fr L : Frag), (∀ cs, (Δ s).New (.cells cs 93)) → Rep K A S Fr L → Good S → S.ps ≠ [] →
   CallsL Δ Tryz.prog main 110 [ptr K].toArray n s L (fun s' v L' => s = s' ∧ v = .tuple #[] ∧ Good (S.parents (S.ps.map (·.1))) ∧ ∃ A' G, (∀ q ∈ S.ps, (∃ z, (q.1, z) ∈ (S.parents (S.ps.map (·.1))).ps) ∨ ∃ z, pb q.1 z ∈ G ∧ z.st = 6) ∧ Rep K A' (S.parents (S.ps.map (·.1))) (G ++ Fr) L') := by
 obtain ⟨n1, g1⟩ := iP;obtain ⟨n2, g2⟩ := jU;obtain ⟨n3, g3⟩ := vM;apply Exists.intro;intro σ F Δ main s K A S Fr L hN hR hG hne;obtain ⟨Q, hQ⟩ : ∃ Q, (A.a 0).b = some Q := by
   cases h : (A.a 0).b with
   | some Q => exact ⟨Q, rfl⟩
   | none =>
     have := hR.pa;unfold slOk at this;rw [h] at this;simp at this;exact absurd this.1 hne
 have hpa := hR.pa.mem hQ;have h8 := hR.p8;have hpos : 0 < S.ps.length := List.length_pos_iff.2 hne;have h5 : At L K 5 (.slice (some ⟨Q, 0, none⟩) (S.ps.map fun q => ptr q.1).length ((S.ps.map fun q => ptr q.1).length + (A.a 0).junk.length)) := by
   have e : slv (A.a 0) S.ps.length = .slice (some ⟨Q, 0, none⟩) (S.ps.map fun q => ptr q.1).length ((S.ps.map fun q => ptr q.1).length + (A.a 0).junk.length) := by unfold slv; rw [hQ]; simp
   rw [← e]; exact hR.kat rfl
 co_applyP aB 29 Tryz.func110 Tryz.ntmps110;co_applyP ae;co_applyP aa;co_applyP oy rfl aj;co_applyP oy rfl aL;co_applyP oy rfl (av (hf := bO));co_applyP oy rfl (aC (ht := cZ));co_applyP oc rfl rfl rfl (g3 L Q (S.ps.map fun q => ptr q.1) (A.a 0).junk hN hpa (by simpa using hpos) (by simpa using h8));rintro _ _ _ ⟨rfl, cb, cap, jk, rfl, hE, hfr, hcb⟩;co_applyP oy rfl (bz (hu := Tryz.underlying91));co_applyP oy rfl aj;co_applyP ah;change wpE ..;co_applyP aI;rename_i L1;have hR1 := hR.fresh hE hfr hcb;co_applyP bG (fun k s' ε' L' => s' = s ∧ ∃ l1 l2 A' G, S.ps = l1 ++ l2 ∧ Rep K A' (S.parents (l1.map (·.1))) (G ++ (cb, true, Obj.cells ((S.ps.map fun q => ptr q.1) ++ jk).toArray 93) :: Fr) L' ∧ Good (S.parents (l1.map (·.1))) ∧ (∀ q ∈ S.ps, (∃ z, (q.1, z) ∈ (S.parents (l1.map (·.1))).ps) ∨ ∃ z, pb q.1 z ∈ G ∧ z.st = 6) ∧ k + l1.length = 8 ∧ kn ε' [(10, .int .i64 l1.length), (9, .int .i64 (S.ps.map fun q => ptr q.1).length), (8, .slice (some ⟨cb, 0, none⟩) (S.ps.map fun q => ptr q.1).length cap), (0, ptr K)]) 8
 · exact ⟨rfl, [], S.ps, A, [], rfl, hR1, hG, fun q hq => .inl ⟨q.2, hq⟩, rfl, rfl⟩
 rintro k s' ε' L' ⟨rfl, l1, l2, A', G, hl, hR', hG', hall, hk, he⟩;co_applyP a6 he;have hlen := congrArg List.length hl;simp only [List.length_append] at hlen;have hcb' := hR'.fr _ (List.mem_append_right G List.mem_cons_self);co_applyP ae;co_applyP aa;co_applyP oy rfl bX;co_applyP ah;change wpE ..;co_applyP ae;co_applyP bl rfl;intro hlt
 · cases l2 with
   | nil => simp at hlt hlen; omega
   | cons q l2 =>
     simp at hlen;have hav : At L' cb l1.length (ptr q.1) := ⟨true, _, _, _, hcb', by rw [List.getElem?_toArray, List.getElem?_append_left (by simp; omega), hl]; simp⟩;have hlt' : (l1.length : Int) < (S.ps.map fun q => ptr q.1).length := by simpa using hlt
     have elen : IntKind.i64.wrap ((l1.length : Int) + 1) = ((l1 ++ [q]).length : Int) := by simp [IntKind.wrap_i64]; omega
     have hq : q ∈ S.ps := by rw [hl]; simp
     have hnext : S.parents ((l1 ++ [q]).map (·.1)) = (S.parents (l1.map (·.1))).parent1 q.1 := by rw [List.map_append, j6]; rfl
     generalize hS' : S.parents (l1.map (·.1)) = S' at *;obtain ⟨z, hzm, hzc⟩ : ∃ z, pb q.1 z ∈ L' ∧ ((q.1, z) ∈ S'.ps ∨ (z.st = 6 ∧ ∀ r ∈ S'.ps, r.1 ≠ q.1)) := by
       rcases hall q hq with ⟨z, hz⟩ | ⟨z, hz, h6⟩
       · exact ⟨z, hR'.p _ hz, .inl hz⟩
       · have hm : pb q.1 z ∈ G ++ (cb, true, Obj.cells ((S.ps.map fun q => ptr q.1) ++ jk).toArray 93) :: Fr := List.mem_append_left _ hz;exact ⟨z, hR'.fr _ hm, .inr ⟨h6, fun r hr => Ne.symm ((hR'.fd _ hm).2.1 r hr)⟩⟩
     have hz2 : At L' q.1 2 (.int .i64 (z.st : Nat)) := ⟨true, _, _, _, hzm, rfl⟩;co_applyP aA;change wpE ..;co_applyP ae;co_applyP aI;co_applyP ae;co_applyP aa;co_applyP oy rfl (bv Tryz.underlying91 bI);co_applyP oy rfl (aC (ht := c9));co_applyP oy rfl ak;co_applyP ah;change wpE ..;co_applyP dR (fun s'' ε'' L'' => s' = s'' ∧ ∃ (t : Bool) (A2 : Lay) (G2 : Frag) (S2 : St), Rep K A2 S2 (G2 ++ (cb, true, Obj.cells ((S.ps.map fun q => ptr q.1) ++ jk).toArray 93) :: Fr) L'' ∧ kn ε'' [(24, .bool t), (3, ptr q.1), (10, .int .i64 l1.length), (9, .int .i64 (S.ps.map fun q => ptr q.1).length), (8, .slice (some ⟨cb, 0, none⟩) (S.ps.map fun q => ptr q.1).length cap), (0, ptr K)] ∧ ((t = true ∧ z.st = 2 ∧ (q.1, z) ∈ S'.ps ∧ ∃ i c y, S'.childAt z = some i ∧ S'.ps[i]? = some (c, y) ∧ y.st = 6 ∧ S2 = ({ S'.setPs (S'.ps.eraseIdx i) with last := S'.last } : St).setP q.1 (told z y) ∧ G2 = pb c y :: G) ∨ (t = false ∧ S2 = S' ∧ G2 = G ∧ S'.parent1 q.1 = S')));co_applyP bK (z.st = 2);intro h2
     · have hz : (q.1, z) ∈ S'.ps := by
         rcases hzc with h | ⟨h, _⟩
         · exact h
         · omega
       have hget := bt hG'.pn hz;have e2 : ((z.st : Int) == 2) = true := by simp; omega
       co_applyP aa;co_applyP oy rfl aj;co_applyP oy rfl aL;co_applyP oy rfl (av (hf := aD));co_applyP oy rfl (av (hf := cA));co_applyP oy rfl (aC (ht := aV));co_applyP oy rfl ay;co_applyP oy rfl aj;rw [e2];co_applyP oy rfl (aj);co_applyP oy rfl (aj);co_applyP oc rfl rfl rfl (g1 K A' S' _ L' q.1 z hN hR' hz (by omega));rintro _ _ _ ⟨rfl, hpost⟩;co_applyP pT (S'.childAt z = none);intro hca
       · rw [hca] at hpost;obtain ⟨rfl, hR2⟩ := hpost;co_applyP oy rfl aN;co_applyP ah;change _ = _ ∧ ∃ (t : Bool) (A2 : Lay) (G2 : Frag) (S2 : St), _;have hn2 : S'.parent1 q.1 = S' := by unfold St.parent1; rw [hget]; simp only [h2, if_true, hca]
         exact ⟨rfl, false, A', G, S', hR2, rfl, .inr ⟨rfl, rfl, rfl, hn2⟩⟩
       intro hca;obtain ⟨i, hi⟩ : ∃ i, S'.childAt z = some i := by
         cases h : S'.childAt z with
         | none => exact absurd h hca
         | some i => exact ⟨i, rfl⟩
       rw [hi] at hpost;obtain ⟨rfl, c, y, a', hcy, hR2⟩ := hpost;obtain ⟨qc, hqc, _, hq6⟩ := cO hi;rw [hcy] at hqc;obtain rfl : (c, y) = qc := by simpa using hqc
       co_applyP oy rfl aN;co_applyP ah;change _ = _ ∧ ∃ (t : Bool) (A2 : Lay) (G2 : Frag) (S2 : St), _;exact ⟨rfl, true, _, pb c y :: G, _, hR2, rfl, .inl ⟨rfl, h2, hz, i, c, y, hi, hcy, hq6, rfl, rfl⟩⟩
     intro h2;have e2 : ((z.st : Int) == 2) = false := by simp; omega
     have hn2 : S'.parent1 q.1 = S' := by
       rcases hzc with hz | ⟨_, hno⟩
       · unfold St.parent1; rw [bt hG'.pn hz]; simp only [h2, if_false]
       · unfold St.parent1; rw [ik hno]
     co_applyP aa;co_applyP oy rfl aj;co_applyP oy rfl aL;co_applyP oy rfl (av (hf := aD));co_applyP oy rfl (av (hf := cA));co_applyP oy rfl (aC (ht := aV));co_applyP oy rfl ay;co_applyP oy rfl aj;rw [e2];co_applyP ou rfl;co_applyP ou rfl;co_applyP ou rfl;co_applyP oy rfl aN;co_applyP ah;change _ = _ ∧ ∃ (t : Bool) (A2 : Lay) (G2 : Frag) (S2 : St), _;exact ⟨rfl, false, A', G, S', hR', rfl, .inr ⟨rfl, rfl, rfl, hn2⟩⟩;rintro s'' ε'' L'' ⟨rfl, t, A2, G2, S2, hR2, he2, hcase⟩;co_applyP a6 he2;co_applyP bl rfl;intro ht;co_applyP aa;co_applyP oy rfl aj;co_applyP oy rfl aj
     · have ht' : t = true := by simpa using ht
       obtain ⟨h2, hz, i, c, y, hi, hcy, hy6, rfl, rfl⟩ : z.st = 2 ∧ (q.1, z) ∈ S'.ps ∧ ∃ i c y, S'.childAt z = some i ∧ S'.ps[i]? = some (c, y) ∧ y.st = 6 ∧ S2 = ({ S'.setPs (S'.ps.eraseIdx i) with last := S'.last } : St).setP q.1 (told z y) ∧ G2 = pb c y :: G := by
         rcases hcase with h | h
         · exact h.2
         · rw [ht'] at h; exact absurd h.1 (by simp)
       have hget := bt hG'.pn hz;have hG2 : Good { S'.setPs (S'.ps.eraseIdx i) with last := S'.last } := hG'.erase hcy (by omega);have hzi : (q.1, z) ∈ S'.ps.eraseIdx i := by
         obtain ⟨j, hj⟩ := List.getElem?_of_mem hz;have hji : j ≠ i := fun e => by subst e; rw [hj] at hcy; simp at hcy; have := hcy.2; subst this; omega
         rw [List.mem_eraseIdx_iff_getElem?];exact ⟨j, hji, hj⟩
       have hG3 : Good (({ S'.setPs (S'.ps.eraseIdx i) with last := S'.last } : St).setP q.1 (told z y)) := hG2.like hzi rfl rfl;have hz3 : (q.1, told z y) ∈ (({ S'.setPs (S'.ps.eraseIdx i) with last := S'.last } : St).setP q.1 (told z y)).ps := au hzi;have hn2 : S'.parent1 q.1 = (({ S'.setPs (S'.ps.eraseIdx i) with last := S'.last } : St).setP q.1 (told z y)).wake1 q.1 (told z y) := by
         unfold St.parent1; rw [hget]; simp only [h2, if_true, hi, hcy, St.take]
       rw [hn2] at hnext;co_applyP oc rfl rfl rfl (g2 K _ _ _ _ q.1 (told z y) hN hR2 hz3 (hG3.lv _ hz3) (hG3.r8 (hG3.lv _ hz3)) (fun e _ => cI _ (hG3.lv _ hz3)));rintro _ _ _ ⟨rfl, rfl, A3, hr2, hR3⟩;co_applyP ah;change wpE ..;co_applyP aa;co_applyP oy rfl a7;co_applyP oy rfl aj;co_applyP ah;change ∃ k', k' < _ ∧ _;refine ⟨k - 1, by omega, rfl, l1 ++ [q], l2, A3, pb c y :: G, by simp [hl], ?_, ?_, ?_, by simp; omega, ?_⟩
       · rw [hnext]; exact hR3
       · rw [hnext]; exact hG3.wake1 hz3 (by show z.st ≠ 1; omega)
       · intro r hr;rcases hall r hr with ⟨w, hw⟩ | ⟨w, hw, h6⟩
         · by_cases erc : r.1 = c
           · exact .inr ⟨y, by rw [erc]; exact List.mem_cons_self, hy6⟩
           · left;have hwi : (r.1, w) ∈ S'.ps.eraseIdx i := by
               obtain ⟨j, hj⟩ := List.getElem?_of_mem hw;have hji : j ≠ i := fun e => by subst e; rw [hj] at hcy; simp at hcy; exact erc hcy.1
               rw [List.mem_eraseIdx_iff_getElem?];exact ⟨j, hji, hj⟩
             have : r.1 ∈ (S.parents ((l1 ++ [q]).map (·.1))).ps.map (·.1) := by
               rw [hnext];show r.1 ∈ ((({ S'.setPs (S'.ps.eraseIdx i) with last := S'.last } : St).setP q.1 (told z y)).setP q.1 _).ps.map (·.1);rw [aX, aX];exact List.mem_map.2 ⟨_, hwi, rfl⟩
             obtain ⟨u, hu, he⟩ := List.mem_map.1 this;exact ⟨u.2, by rw [← he]; exact hu⟩
         · exact .inr ⟨w, List.mem_cons_of_mem _ hw, h6⟩
       · rw [← elen]; rfl
     intro ht;co_applyP aA;change wpE ..;co_applyP aa;co_applyP oy rfl a7;co_applyP oy rfl aj;co_applyP ah;change ∃ k', k' < _ ∧ _;have ht' : t = false := by simpa using ht
     obtain ⟨rfl, rfl, hn2⟩ : S2 = S' ∧ G2 = G ∧ S'.parent1 q.1 = S' := by
       rcases hcase with h | h
       · rw [ht'] at h; exact absurd h.1 (by simp)
       · exact h.2
     rw [hn2] at hnext;refine ⟨k - 1, by omega, rfl, l1 ++ [q], l2, A2, G2, by simp [hl], ?_, ?_, ?_, by simp; omega, ?_⟩
     · rw [hnext]; exact hR2
     · rw [hnext]; exact hG'
     · rw [hnext]; exact hall
     · rw [← elen]; rfl
 intro hlt;co_applyP bL;change ∃ v, resE .. = some v ∧ _;cases l2 with
 | nil =>
   have e : l1 = S.ps := by rw [hl]; simp
   subst e;exact ⟨_, rfl, rfl, rfl, hG', A', G, hall, hR'.less fun t ht => (List.mem_append.1 ht).elim (fun h => List.mem_append_left _ h) fun h => List.mem_append_right _ (List.mem_cons_of_mem _ h)⟩
 | cons q l2 => simp at hlt hlen; omega
theorem il : ∃ n, ∀ {σ : Type} {F : Fam σ} {Δ : ∀ s, Dom (F.R s) (F.D s)} {main : Bool} {s : σ} (L : Frag) (k : Nat × Nat), (∀ cs, (Δ s).New (.cells cs 96)) →
   CallsL Δ Tryz.prog main 126 [keyv k].toArray n s L (fun s' v L' => s = s' ∧ v = .bool (decide (k = (0, 0))) ∧ Ext L L') := by
 apply Exists.intro;intro σ F Δ main s L k hN;co_applyP aB 6 Tryz.func126 Tryz.ntmps126;co_applyP ae;co_applyP aa;co_applyP bN rfl (bV (hN _));intro xk L1 hA;co_applyP oy rfl ak;co_applyP ah;change wpE ..;co_applyP ae;co_applyP aa;co_applyP oy rfl (a8 (ht := bJ) (hs := bi) (hm := hA.self) (hi := Nat.le_refl _));co_applyP oy rfl (bq tK);co_applyP oy rfl (xv (k := k) (k' := (0, 0)) ey (xw k (0, 0)));co_applyP oy rfl ak;co_applyP ah;change wpE ..;co_applyP aJ;change ∃ v, resE .. = some v ∧ _;exact ⟨_, rfl, rfl, rfl, hA.fn, hA.sub⟩
section
variable {P : Program} {New : Obj → Prop} {N : Nat} {ε : Env} {L : Frag} {d : Option Tmp} {ty t u e e2 : TypeId} {ps : String} {af : Array Edge} {g : Option (Nat × Bool)} {x y : Operand}
theorem oY {sz : Nat} {yb : Option Addr} {yc : Nat} {vs : Array Value} (hx : ev ε x = some (.slice none 0 0) := by rfl) (hy : ev ε y = some (.slice yb 0 yc) := by rfl) (hu : P.underlying t = some (.slice e)) (hv : P.underlying u = some (.slice e2)) (hs : sizeAt P e = some sz) (hr : Reads P L sz 0 (.slice yb 0 yc) vs) :
   EO P New N ε L ⟨d, .call ⟨.builtin .append, #[x, y], #[t, u]⟩, ty, ps, af, g⟩ (fun r L' => r = .slice none 0 0 ∧ L = L') := by
 intro a ha;refine cx (s := Builtin.append_ #[t, u] ty #[.slice none 0 0, .slice yb 0 yc]) (fun _ => by simp [builtin, ha.ev hx, ha.ev hy]) ?_;unfold Builtin.append_;simp only [List.getElem?_toArray, List.getElem?_cons_zero, List.getElem?_cons_succ];rw [ar, aT hu];simp only [];rw [ar, bP hs];rw [ar, aT hv, ar, br];simp only [Bool.false_eq_true, if_false, Bool.not_false, if_true, Builtin.lenOf];rw [ar, br];simp only [Nat.add_zero, Nat.le_refl, if_true];rw [ar];refine hr.r New _ ?_;exact ⟨rfl, rfl⟩
end
structure ApR (L : Frag) (a : Sl) (zs : List Nat) (a' : Sl) (L' : Frag) : Prop where
 ok : slOk a' (zs.map ptr) 93 L'
 fn : Fun L'
 sub : ∀ t ∈ L, a.b ≠ some t.1 → t ∈ L'
 d : ∀ b, a'.b = some b → a.b = some b ∨ ∀ t ∈ L, t.1 ≠ b
section
variable {New : Obj → Prop} {N : Nat} {ε : Env} {L : Frag} {d : Option Tmp} {ty : TypeId} {ps : String} {af : Array Edge} {g : Option (Nat × Bool)} {x y : Operand}
theorem lh {a : Sl} {xs : List Nat} (ha : slOk a (xs.map ptr) 93 L) : Reads Tryz.prog L 1 xs.length (slv a xs.length) (xs.map ptr).toArray := by
 cases hab : a.b with
 | none =>
   unfold slOk at ha;rw [hab] at ha;obtain rfl : xs = [] := by simpa using ha.1
   have e3 : slv a 0 = .slice none 0 0 := by unfold slv; rw [hab]
   show Reads Tryz.prog L 1 0 (slv a 0) #[];rw [e3]; exact dC
 | some b =>
   have hm := ha.mem hab;have e3 : slv a xs.length = .slice (some ⟨b, 0, none⟩) xs.length (xs.length + a.junk.length) := by unfold slv; rw [hab]
   rw [e3];have := b7 (P := Tryz.prog) (sz := 1) (n := xs.length) (len := xs.length) (cap := xs.length + a.junk.length) (o := 0) hm (by simp);have e7 : (xs.map ptr ++ a.junk).take xs.length = xs.map ptr := by rw [List.take_append_of_le_length (by simp)]; exact List.take_of_length_le (by simp)
   simpa [e7] using this
theorem zT {a a2 : Sl} {xs ys : List Nat} (hx : ev ε x = some (slv a xs.length) := by rfl) (hy : ev ε y = some (slv a2 ys.length) := by rfl) (hnd : (L.map (·.1)).Nodup) (hN : ∀ cs, New (.cells cs 93)) (ha : slOk a (xs.map ptr) 93 L) (ha2 : slOk a2 (ys.map ptr) 93 L) (h8 : xs.length ≤ 1000) (h8' : ys.length ≤ 1000) :
   EO Tryz.prog New N ε L ⟨d, .call ⟨.builtin .append, #[x, y], #[91, 91]⟩, ty, ps, af, g⟩ (fun r L' => ∃ a', r = slv a' (xs ++ ys).length ∧ ApR L a (xs ++ ys) a' L') := by
 have hws := lh ha;have hr := lh ha2;obtain ⟨yb, yc, hyb⟩ : ∃ yb yc, slv a2 ys.length = .slice yb ys.length yc := by
   unfold slv;cases hb : a2.b with
   | none =>
     unfold slOk at ha2;rw [hb] at ha2;obtain rfl : ys = [] := by simpa using ha2.1
     exact ⟨none, 0, rfl⟩
   | some b => exact ⟨_, _, rfl⟩
 rw [hyb] at hy hr
 have grow : ∀ (cap0 : Nat), (∃ base, slv a xs.length = .slice base xs.length cap0) → cap0 < xs.length + ys.length →
     EO Tryz.prog New N ε L ⟨d, .call ⟨.builtin .append, #[x, y], #[91, 91]⟩, ty, ps, af, g⟩ (fun r L' => ∃ a', r = slv a' (xs ++ ys).length ∧ ApR L a (xs ++ ys) a' L') := by
   rintro cap0 ⟨base, hb⟩ hc;rw [hb] at hws hx;intro ac hac;refine bR ?_ _ _ (la (by_ := 7) (New := New) hx hy (bF hnd) Tryz.underlying91 Tryz.underlying91 bI oR hY hws hr hc (by omega) hN ac hac);intro r L' q;cases r <;> try exact q.elim
   · obtain ⟨b, cap, h1, h2, rfl, hA⟩ := q;rw [eq rfl] at hA;refine ⟨⟨some b, List.replicate (cap - (xs.length + ys.length)) (.pointer none)⟩, ?_, ?_, hA.fn, fun t ht _ => hA.sub t ht, fun b' hb' => .inr ?_⟩
     · unfold slv; simp; omega
     · have e5 : (xs.map ptr).toArray ++ (ys.map ptr).toArray ++ (List.replicate (cap - (xs.length + ys.length)) (Value.pointer none)).toArray = ((xs ++ ys).map ptr ++ List.replicate (cap - (xs.length + ys.length)) (Value.pointer none)).toArray := by
         apply Array.ext'; simp
       rw [e5] at hA;exact hA.self
     · obtain rfl : b = b' := by simpa using hb'
       exact hA.new
   · obtain ⟨b, cap, _, _, e, _⟩ := q; cases e
 cases hab : a.b with
 | none =>
   have h2 := ha;unfold slOk at h2;rw [hab] at h2;obtain ⟨e1, e2⟩ := h2;obtain rfl : xs = [] := by simpa using e1
   have e3 : slv a 0 = .slice none 0 0 := by unfold slv; rw [hab]
   by_cases h0 : 0 < ys.length
   · exact grow 0 ⟨none, e3⟩ (by simpa using h0)
   · obtain rfl : ys = [] := List.length_eq_zero_iff.1 (by omega);intro ac hac;rw [List.length_nil, e3] at hx;refine bR ?_ _ _ (oY (New := New) hx hy Tryz.underlying91 Tryz.underlying91 bI hr ac hac);intro r L' q;cases r <;> try exact q.elim
     · obtain ⟨rfl, rfl⟩ := q;exact ⟨a, e3.symm, ha, bF hnd, fun t ht _ => ht, fun b hb => by rw [hab] at hb; cases hb⟩
     · exact absurd q.1 (by simp [undef])
 | some b =>
   have hm := ha.mem hab;have e3 : slv a xs.length = .slice (some ⟨b, 0, none⟩) xs.length (xs.length + a.junk.length) := by unfold slv; rw [hab]
   by_cases hj : ys.length ≤ a.junk.length
   · intro ac hac;rw [e3] at hx;refine bR ?_ _ _ (jM (New := New) hx hy hnd Tryz.underlying91 Tryz.underlying91 bI hr (by omega) hm (by simp; omega) (by simp [plainV]) ac hac);intro r L' q;cases r <;> try exact q.elim
     · obtain ⟨rfl, hU⟩ := q;have e4 : puts (xs.map ptr ++ a.junk).toArray (0 + xs.length * 1) (ys.map ptr).toArray.toList = ((xs ++ ys).map ptr ++ a.junk.drop ys.length).toArray := by
         rw [b6 _ _ _ (by simp; omega)];have e6 : (xs.map ptr ++ a.junk).drop (xs.length + ys.length) = a.junk.drop ys.length := by
           rw [List.drop_append]; simp
         have e7 : (xs.map ptr ++ a.junk).take xs.length = xs.map ptr := by rw [List.take_append_of_le_length (by simp)]; exact List.take_of_length_le (by simp)
         simp [e6, e7]
       rw [e4] at hU;refine ⟨⟨some b, a.junk.drop ys.length⟩, ?_, hU.self, hU.fn, fun t ht hne => hU.ne t ht fun e => hne (by rw [hab, e]), fun b' hb' => .inl (by rw [hab]; exact hb')⟩;unfold slv; simp; omega
     · exact absurd q.1 (by simp [undef])
   · exact grow (xs.length + a.junk.length) ⟨_, e3⟩ (by omega)
end
def St.raise1 (S : St) (l : Nat) : St := (S.setRow 0 (S.rows 0 ++ S.rows l)).setRow l []
def St.raises (S : St) : Nat → St
 | 0 => S
 | n + 1 => (S.raises n).raise1 (n + 1)
theorem j7 (S : St) {n j : Nat} (h : n < j) : (S.raises n).rows j = S.rows j := by
 induction n with
 | zero => rfl
 | succ n ih =>
   show put (put (S.raises n).rows 0 _) (n + 1) [] j = _;unfold put;rw [if_neg (by omega), if_neg (by omega)];exact ih (by omega)
theorem j8 (S : St) (h : ∀ l, l < 3 → (S.rows l).length ≤ 8) : ∀ n, n < 3 → ((S.raises n).rows 0).length ≤ 8 * (n + 1)
 | 0, _ => h 0 (by omega)
 | n + 1, hn => by
   have h1 := j8 S h n (by omega);have h2 : ((S.raises n).rows (n + 1)).length ≤ 8 := by rw [j7 S (by omega)]; exact h _ hn
   have e : (S.raises (n + 1)).rows 0 = (S.raises n).rows 0 ++ (S.raises n).rows (n + 1) := by
     simp [St.raises, St.raise1, St.setRow, put]
   rw [e, List.length_append];omega
theorem nt : ∃ n, ∀ {σ : Type} {F : Fam σ} {Δ : ∀ s, Dom (F.R s) (F.D s)} {main : Bool} {s : σ} (K : Nat) (A : Lay) (S : St) (Fr L : Frag), (∀ cs, (Δ s).New (.cells cs 93)) → Rep K A S Fr L → (∀ l, l < 3 → (S.rows l).length ≤ 8) →
   CallsL Δ Tryz.prog main 92 [.pointer (some ⟨K, 7, none⟩)].toArray n s L (fun s' v L' => s = s' ∧ v = .tuple #[] ∧ ∃ A', LRel A A' ∧ Rep K A' (S.raises 2) Fr L') := by
 apply Exists.intro;intro σ F Δ main s K A S Fr L hN hR h8;co_applyP aB 24 Tryz.func92 Tryz.ntmps92;co_applyP ae;co_applyP aa;co_applyP oy rfl ak;co_applyP ah;change wpE ..;co_applyP aI;co_applyP bG (fun k s' ε' L' => s' = s ∧ ∃ n A', n ≤ 2 ∧ k + n = 2 ∧ LRel A A' ∧ Rep K A' (S.raises n) Fr L' ∧ kn ε' [(2, .int .i64 ((n + 1 : Nat) : Int)), (0, .pointer (some ⟨K, 7, none⟩))]) 2
 · exact ⟨rfl, 0, A, by omega, rfl, LRel.refl A, hR, rfl⟩
 rintro k s' ε' L' ⟨rfl, n, A', hn, hk, hr, hR', he⟩;co_applyP a6 he;co_applyP ae;co_applyP ae;co_applyP aa;co_applyP oy rfl aj;co_applyP oy rfl bX;co_applyP ah;change wpE ..;co_applyP bl rfl;intro hlt
 · have hn2 : n < 2 := by
     have : ((n + 1 : Nat) : Int) < 3 := by simpa using hlt
     omega
   have h0 : At L' K 7 (slv (A'.a (0 + 1)) ((S.raises n).rows 0).length) := hR'.kat (jT (kst A' (S.raises n)) (l := 0) (by omega));have h1 : At L' K (7 + (n + 1)) (slv (A'.a (n + 1 + 1)) ((S.raises n).rows (n + 1)).length) := hR'.kat (jT (kst A' (S.raises n)) (l := n + 1) (by omega));have hl0 := j8 S h8 n (by omega);have hl1 : ((S.raises n).rows (n + 1)).length ≤ 8 := by rw [j7 S (by omega)]; exact h8 _ (by omega)
   have elen : IntKind.i64.wrap (((n + 1 : Nat) : Int) + 1) = ((n + 1 + 1 : Nat) : Int) := by simp [IntKind.wrap_i64]; omega
   have hix : ((n + 1 : Nat) : Int) < 3 := by omega
   have hkne : (A'.a (0 + 1)).b ≠ some K := hR'.row_ne (l := 0) (by omega) hR'.k (eR (by decide));co_applyP aA;change wpE ..;co_applyP ae;co_applyP aI;co_applyP ae;co_applyP bm [] 10 (nf := 0) aZ;co_applyP tr (i := 0) rfl aj (ai (by simp));co_applyP tr (i := 1) rfl aj (ai (by simp));co_applyP tr (i := 2) rfl aL (ai (by simp));co_applyP tr (i := 3) rfl (a0 Tryz.underlying112 eg) (ai (by simp));co_applyP t0 (i := 4) rfl (aC (ht := cZ)) (ai (by simp));co_applyP tr (i := 5) rfl aj (ai (by simp));co_applyP tr (i := 6) rfl aj (ai (by simp));co_applyP tr (i := 7) rfl aL (ai (by simp));co_applyP tr (i := 8) rfl (a0 Tryz.underlying112 eg) (ai (by simp));co_applyP t0 (i := 9) rfl (aC (ht := cZ)) (ai (by simp));co_applyP tr (i := 11) rfl aL (ai (by simp));co_applyP ba;intro hnd;co_applyP te (i := 10) rfl (zT (a := A'.a (0 + 1)) (a2 := A'.a (n + 1 + 1)) (hnd := hnd) (hN := hN) (ha := hR'.rw 0 (by omega)) (ha2 := hR'.rw (n + 1) (by omega)) (h8 := by omega) (h8' := by omega));rintro _ _ ⟨a', rfl, hp⟩;refine ⟨aE (by simp), ?_⟩;rename_i L2;co_applyP to (i := 12) rfl ((a0 Tryz.underlying112 eg)) (aE (by simp));co_applyP ba;intro hnd';co_applyP te (i := 13) rfl (fb (hnd := hnd') (hm := hp.sub _ hR'.k hkne) (hi := by rw [bC]; omega) (hp := eQ _ _) (hs := eg));rintro _ _ ⟨rfl, hU⟩;refine ⟨aE (by simp), ?_⟩;rename_i L3;have e7 : (kcells (kst A' (S.raises n))).setIfInBounds (7 + 0) (slv a' ((S.raises n).rows 0 ++ (S.raises n).rows (n + 1)).length) = kcells (kst (A'.setA (0 + 1) a') ((S.raises n).setRow 0 ((S.raises n).rows 0 ++ (S.raises n).rows (n + 1)))) := by
     rw [hZ _ (by omega), jt _ _ _ _ _ (by omega)]
   have hR3 : Rep K (A'.setA (0 + 1) a') ((S.raises n).setRow 0 ((S.raises n).rows 0 ++ (S.raises n).rows (n + 1))) Fr L3 := by
     refine hR'.setRow (l := 0) (by omega) hU.fn ?_ (fun t ht h1 h2 => hU.ne _ (hp.sub _ ht h2) h1) ?_ (fun b hb => ?_) (fun e _ => cI _ (by omega))
     · show (K, true, Obj.cells (kcells _) 115) ∈ L3;rw [← e7]; exact hU.self
     · refine hp.ok.mono fun c hc o ho => hU.ne _ ho fun e => ?_;rcases hp.d c hc with h | h
       · exact hkne (by rw [h]; exact congrArg some e)
       · exact h _ hR'.k e.symm
     · rcases hp.d b hb with h | h
       · exact .inl h
       · exact .inr ⟨fun i hi => by obtain ⟨xs, hx⟩ := hR'.al i b hi; exact h _ hx rfl, fun t ht => h _ (hR'.fr t ht)⟩
   co_applyP td (by kernel_rfl);change wpE ..;co_applyP aa;co_applyP oy rfl aj;co_applyP oy rfl aj;co_applyP oy rfl aL;co_applyP oy rfl (a0 Tryz.underlying112 eg);co_applyP oeN rfl (fun hnd => fb (hs := eg) (hnd := hnd) (hm := hR3.k) (hi := by rw [bC]; omega));rintro _ L4 ⟨rfl, hU4⟩;co_applyP ah;change wpE ..;co_applyP aa;co_applyP oy rfl aj;co_applyP oy rfl a7;co_applyP oy rfl ak;co_applyP ah;change ∃ k', k' < _ ∧ _;have e8 : (kcells (kst (A'.setA (0 + 1) a') ((S.raises n).setRow 0 ((S.raises n).rows 0 ++ (S.raises n).rows (n + 1))))).setIfInBounds (7 + (n + 1)) (slv ⟨none, []⟩ ([] : List Nat).length) = kcells (kst ((A'.setA (0 + 1) a').setA (n + 1 + 1) ⟨none, []⟩) (S.raises (n + 1))) := by
     rw [hZ _ (by omega)];exact (congrArg kcells (jt (A'.setA (0 + 1) a') ((S.raises n).setRow 0 ((S.raises n).rows 0 ++ (S.raises n).rows (n + 1))) (n + 1) ⟨none, []⟩ [] (by omega))).symm
   have hR4 : Rep K ((A'.setA (0 + 1) a').setA (n + 1 + 1) ⟨none, []⟩) (S.raises (n + 1)) Fr L4 := by
     refine hR3.setRow (l := n + 1) (xs := []) (by omega) hU4.fn ?_ (fun t ht h1 _ => hU4.ne _ ht h1) ⟨rfl, rfl⟩ (fun b hb => by cases hb) (fun e _ => cI _ (by omega));exact Eq.mp (congrArg (fun c => (K, true, Obj.cells c 115) ∈ L4) e8) hU4.self
   refine ⟨k - 1, by omega, rfl, n + 1, _, by omega, by omega, (hr.trans (LRel.set A' (l := 0) (by omega) a')).trans (LRel.set _ (l := n + 1) (by omega) _), hR4, ?_⟩;rw [← elen]; rfl
 intro hlt;co_applyP bL;change ∃ v, resE .. = some v ∧ _;have hn2 : n = 2 := by
   have : ¬ ((n + 1 : Nat) : Int) < 3 := by simpa using hlt
   omega
 subst hn2;exact ⟨_, rfl, rfl, rfl, A', hr, hR'⟩
def St.lifts (S : St) : List Nat → St
 | [] => S
 | b :: bs => St.lifts (match S.get b with
   | some x => if x.st ≠ 6 ∧ 0 < x.lv then S.setP b { x with lv := 0, used := 0 } else S
   | none => S) bs
theorem mh (S : St) (l m : List Nat) : S.lifts (l ++ m) = (S.lifts l).lifts m := by
 induction l generalizing S with
 | nil => rfl
 | cons b l ih => simp only [List.cons_append, St.lifts]; exact ih _
structure LfRel (S S' : St) : Prop where
 f : S'.ps.map (·.1) = S.ps.map (·.1)
 r : S'.rows = S.rows ∧ S'.by_ = S.by_ ∧ S'.wt = S.wt ∧ S'.now = S.now ∧ S'.last = S.last
theorem p9 : ∃ n, ∀ {σ : Type} {F : Fam σ} {Δ : ∀ s, Dom (F.R s) (F.D s)} {main : Bool} {s : σ} (K : Nat) (A : Lay) (S : St) (Fr L : Frag), (∀ cs, (Δ s).New (.cells cs 93)) → Rep K A S Fr L → (∀ l, l < 3 → (S.rows l).length ≤ 8) →
   CallsL Δ Tryz.prog main 81 [ptr K].toArray n s L (fun s' v L' => s = s' ∧ v = .tuple #[] ∧ ∃ A', LRel A A' ∧ Rep K A' ((S.lifts (S.ps.map (·.1))).raises 2) Fr L') := by
 obtain ⟨n1, g1⟩ := nt;apply Exists.intro;intro σ F Δ main s K A S Fr L hN hR hr8;obtain ⟨base, cap, hv, hat0⟩ := bA hR.pa;simp only [List.length_map] at hv;have h5 : At L K 5 (.slice base S.ps.length cap) := by rw [← hv]; exact hR.kat rfl
 co_applyP aB 40 Tryz.func81 Tryz.ntmps81;co_applyP ae;co_applyP ae;co_applyP aa;co_applyP oy rfl aj;co_applyP oy rfl aL;co_applyP oy rfl (av (hf := bO));co_applyP oy rfl (aC (ht := cZ));co_applyP oy rfl (bz (hu := Tryz.underlying91));co_applyP oy rfl aj;co_applyP ah;change wpE ..;co_applyP aI;co_applyP bG (fun k s' ε' L' => s' = s ∧ ∃ l1 l2, S.ps = l1 ++ l2 ∧ Rep K A (S.lifts (l1.map (·.1))) Fr L' ∧ LfRel S (S.lifts (l1.map (·.1))) ∧ k + l1.length = 8 ∧ kn ε' [(9, .int .i64 l1.length), (8, .int .i64 S.ps.length), (7, .slice base S.ps.length cap), (0, ptr K)]) 8
 · exact ⟨rfl, [], S.ps, rfl, hR, ⟨rfl, rfl, rfl, rfl, rfl, rfl⟩, rfl, rfl⟩
 rintro k s' ε' L' ⟨rfl, l1, l2, hl, hR', hW', hk, he⟩;co_applyP a6 he;have hlen := congrArg List.length hl;simp only [List.length_append] at hlen;have h8 := hR.p8;co_applyP ae;co_applyP aa;co_applyP oy rfl bX;co_applyP ah;change wpE ..;co_applyP ae;co_applyP bl rfl;intro hlt
 · cases l2 with
   | nil => simp at hlt hlen; omega
   | cons q l2 =>
     have hat : ∃ ab, base = some ⟨ab, 0, none⟩ ∧ At L' ab l1.length (ptr q.1) := by
       obtain ⟨ab, hb1, hb2, _⟩ := hat0 l1.length (ptr q.1) (by rw [hl]; simp);obtain ⟨base', cap', _, hat'⟩ := bA hR'.pa;have e1 : (S.lifts (l1.map (·.1))).ps.map (fun q => ptr q.1) = S.ps.map fun q => ptr q.1 := by
         have := congrArg (List.map ptr) hW'.f;rw [List.map_map, List.map_map] at this;exact this
       obtain ⟨b', hb1', _, hv'⟩ := hat' l1.length (ptr q.1) (by rw [e1, hl]; simp);rw [hb1] at hb1';obtain rfl : ab = b' := by simpa using hb1'
       exact ⟨ab, hb2, hv'⟩
     obtain ⟨ab, rfl, hav⟩ := hat;simp at hlen;generalize hS' : S.lifts (l1.map (·.1)) = S' at *;have hmem : q.1 ∈ S'.ps.map (·.1) := by rw [hW'.f, hl]; simp
     obtain ⟨⟨b, x⟩, hbx, hbq⟩ := List.mem_map.1 hmem;have hbq' : b = q.1 := hbq;subst hbq';have hx2 : At L' q.1 2 (.int .i64 (x.st : Int)) := hR'.pat hbx (i := 2) rfl;have hx5 : At L' q.1 5 (.int .i64 (x.lv : Int)) := hR'.pat hbx (i := 5) rfl;have hget := bt hR'.pn hbx;have elen : IntKind.i64.wrap ((l1.length : Int) + 1) = ((l1 ++ [q]).length : Int) := by simp [IntKind.wrap_i64]; omega
     have hnext : S.lifts ((l1 ++ [q]).map (·.1)) = if x.st ≠ 6 ∧ 0 < x.lv then S'.setP q.1 { x with lv := 0, used := 0 } else S' := by
       rw [List.map_append, mh, hS'];show St.lifts (match S'.get q.1 with | some x => _ | none => _) [] = _;rw [hget]; rfl
     co_applyP aA;change wpE ..;co_applyP ae;co_applyP aI;co_applyP ae;co_applyP aa;co_applyP oy rfl (bv Tryz.underlying91 bI);co_applyP oy rfl (aC (ht := c9));co_applyP oy rfl ak;co_applyP ah;change wpE ..;co_applyP ae;co_applyP ft ([(26, .bool (decide (x.st ≠ 6 ∧ 0 < x.lv))), (3, ptr q.1), (9, .int .i64 l1.length), (8, .int .i64 S.ps.length), (7, .slice (some ⟨ab, 0, none⟩) S.ps.length cap), (0, ptr K)]);co_applyP aa;co_applyP oy rfl aj;co_applyP oy rfl aL;co_applyP oy rfl (av (hf := aD));co_applyP oy rfl (av (hf := cA));co_applyP oy rfl (aC (ht := aV));co_applyP oy rfl cY;co_applyP oy rfl aj
     · by_cases h3 : x.st = 6
       · have e3 : ((x.st : Int) != 6) = false := by simp [h3]
         rw [e3];co_applyP ou rfl;co_applyP ou rfl;co_applyP ou rfl;co_applyP ou rfl;co_applyP ou rfl;co_applyP ou rfl;co_applyP oy rfl aN;co_applyP ah;change _ = _ ∧ _ = _ ∧ kn _ _;refine ⟨rfl, rfl, ?_⟩;have e4 : false = decide (x.st ≠ 6 ∧ 0 < x.lv) := by simp [h3]
         rw [← e4]; rfl
       · have e3 : ((x.st : Int) != 6) = true := by simp; omega
         rw [e3];co_applyP oy rfl (aj);co_applyP oy rfl (aL);co_applyP oy rfl ((av (hf := aD)));co_applyP oy rfl ((av (hf := dS)));co_applyP oy rfl ((aC (ht := aV)));co_applyP oy rfl (dj);co_applyP oy rfl aN;co_applyP ah;change _ = _ ∧ _ = _ ∧ kn _ _;refine ⟨rfl, rfl, ?_⟩;have e4 : decide ((0 : Int) < (x.lv : Int)) = decide (x.st ≠ 6 ∧ 0 < x.lv) := by simp [h3]
         rw [← e4]; rfl
     co_applyP bl rfl;intro hw;co_applyP aa;co_applyP oy rfl aj;co_applyP oy rfl aj;co_applyP oy rfl aL;co_applyP oy rfl (av (hf := aD));co_applyP oy rfl (av (hf := dS))
     · have hw' : x.st ≠ 6 ∧ 0 < x.lv := by simpa using hw
       rw [if_pos hw'] at hnext;co_applyP osm rfl (hs := dm) (hm := hR'.p _ hbx) (hi := by first | decide | (rw [bg]; omega) | (rw [bC]; omega));intro L2 hU;have hR2 := hR'.setP hbx (x' := { x with lv := 0 }) hU;have hb2 : (q.1, { x with lv := 0 }) ∈ (S'.setP q.1 { x with lv := 0 }).ps := au hbx;co_applyP oy rfl aL;co_applyP oy rfl (av (hf := aD));co_applyP oy rfl (av (hf := fN));co_applyP osm rfl (hs := dm) (hm := hR2.p _ hb2) (hi := by first | decide | (rw [bg]; omega) | (rw [bC]; omega));intro L3 hU3;have hR3 := hR2.setP hb2 (x' := { x with lv := 0, used := 0 }) hU3;have e6 : (S'.setP q.1 { x with lv := 0 }).setP q.1 { x with lv := 0, used := 0 } = S'.setP q.1 { x with lv := 0, used := 0 } := by
         unfold St.setP;simp only [List.map_map];congr 1;apply List.map_congr_left;intro r _;simp only [Function.comp]
         split
         · simp
         · rename_i h; simp [h]
       rw [e6] at hR3;co_applyP ah;change wpE ..;co_applyP aa;co_applyP oy rfl a7;co_applyP oy rfl aj;co_applyP ah;change ∃ k', k' < _ ∧ _;refine ⟨k - 1, by omega, rfl, l1 ++ [q], l2, by simp [hl], by rw [hnext]; exact hR3, by rw [hnext]; exact ⟨by rw [aX]; exact hW'.f, hW'.r⟩, by simp; omega, by rw [← elen]; rfl⟩
     intro hw;co_applyP aA;change wpE ..;co_applyP aa;co_applyP oy rfl a7;co_applyP oy rfl aj;co_applyP ah;change ∃ k', k' < _ ∧ _;have hw' : ¬ (x.st ≠ 6 ∧ 0 < x.lv) := by simpa using hw
     rw [if_neg hw'] at hnext;refine ⟨k - 1, by omega, rfl, l1 ++ [q], l2, by simp [hl], by rw [hnext]; exact hR', by rw [hnext]; exact hW', by simp; omega, by rw [← elen]; rfl⟩
 intro hlt;co_applyP bL;change wpE ..;co_applyP aa;co_applyP oy rfl aj;co_applyP oy rfl aL;co_applyP oy rfl (av (hf := dn));cases l2 with
 | cons q l2 => simp at hlt hlen; omega
 | nil =>
 have e : l1 = S.ps := by rw [hl]; simp
 subst e;co_applyP oc rfl rfl rfl (g1 K A _ Fr L' hN hR' (fun l hl => by rw [hW'.r.1]; exact hr8 l hl));rintro _ _ _ ⟨rfl, rfl, A2, hr2, hR2⟩;co_applyP ah;change ∃ v, resE .. = some v ∧ _;exact ⟨_, rfl, rfl, rfl, A2, hr2, hR2⟩
def liftP (x : PS) : PS := if x.st ≠ 6 ∧ 0 < x.lv then { x with lv := 0, used := 0 } else x
theorem rk {S : St} (hn : (S.ps.map (·.1)).Nodup) (b : Nat) : (match S.get b with
   | some x => if x.st ≠ 6 ∧ 0 < x.lv then S.setP b { x with lv := 0, used := 0 } else S
   | none => S) = S.setPs (S.ps.map fun q => if q.1 = b then (b, liftP q.2) else q) := by
 cases hg : S.get b with
 | none =>
   have : ∀ q ∈ S.ps, q.1 ≠ b := fun q hq e => by
     have := bt hn (b := q.1) (x := q.2) hq;rw [e, hg] at this; cases this
   have e : (S.ps.map fun q => if q.1 = b then (b, liftP q.2) else q) = S.ps := by
     conv => rhs; rw [← List.map_id S.ps]
     exact List.map_congr_left fun q hq => by simp [this q hq]
   show S = S.setPs _;rw [e]; rfl
 | some x =>
   have hx := bk hg;simp only;have key : ∀ y, liftP x = y → S.setP b y = S.setPs (S.ps.map fun q => if q.1 = b then (b, liftP q.2) else q) := fun y hy => by
     unfold St.setP St.setPs;congr 1;refine List.map_congr_left fun q hq => ?_;obtain ⟨c, z⟩ := q;by_cases e : c = b
     · subst e;rw [bp hn hq hx];simp [hy]
     · simp [e]
   split
   · rename_i h; exact key _ (by simp [liftP, h])
   · rename_i h;have := key x (by simp only [liftP]; rw [if_neg h]);rw [← this, lf hn hx]
theorem nu : ∀ (bs : List Nat) (S : St), (S.ps.map (·.1)).Nodup → bs.Nodup → S.lifts bs = S.setPs (S.ps.map fun q => if q.1 ∈ bs then (q.1, liftP q.2) else q)
 | [], S, _, _ => by simp [St.lifts, St.setPs]
 | b :: bs, S, hn, hb => by
   have hfst : ((S.setPs (S.ps.map fun q => if q.1 = b then (b, liftP q.2) else q)).ps.map (·.1)) = S.ps.map (·.1) := by
     show ((S.ps.map fun q => if q.1 = b then (b, liftP q.2) else q).map (·.1)) = _;rw [List.map_map];refine List.map_congr_left fun q _ => ?_;simp only [Function.comp]
     split
     · rename_i e; exact e.symm
     · rfl
   show St.lifts (match S.get b with | some x => _ | none => _) bs = _;rw [rk hn, nu bs _ (by rw [hfst]; exact hn) (List.nodup_cons.1 hb).2];unfold St.setPs;simp only [List.map_map];congr 1;refine List.map_congr_left fun q _ => ?_;obtain ⟨c, z⟩ := q;simp only [Function.comp, List.mem_cons];by_cases e : c = b
   · subst e;simp [(List.nodup_cons.1 hb).1]
   · simp [e]
theorem li {S : St} (hn : (S.ps.map (·.1)).Nodup) : S.lifts (S.ps.map (·.1)) = S.setPs (S.ps.map fun q => (q.1, liftP q.2)) := by
 rw [nu _ _ hn hn];unfold St.setPs;congr 1;exact List.map_congr_left fun q hq => by simp [List.mem_map.2 ⟨q, hq, rfl⟩]
theorem Good.raise {S : St} (h : Good S) : Good ((S.lifts (S.ps.map (·.1))).raises 2) := by
 rw [li h.pn];have r0 : ((S.setPs (S.ps.map fun q => (q.1, liftP q.2))).raises 2).rows 0 = S.rows 0 ++ S.rows 1 ++ S.rows 2 := by simp [St.raises, St.raise1, St.setRow, put, St.setPs]
 have r1 : ∀ l, 0 < l → l < 3 → ((S.setPs (S.ps.map fun q => (q.1, liftP q.2))).raises 2).rows l = [] := fun l h1 h2 => by
   have : l = 1 ∨ l = 2 := by omega
   rcases this with rfl | rfl <;> simp [St.raises, St.raise1, St.setRow, put, St.setPs]
 have hps : ((S.setPs (S.ps.map fun q => (q.1, liftP q.2))).raises 2).ps = S.ps.map fun q => (q.1, liftP q.2) := rfl;have hst : ∀ x : PS, (liftP x).st = x.st := fun x => by unfold liftP; split <;> rfl
 have hlv : ∀ x : PS, x.st = 1 → (liftP x).lv = 0 := fun x h1 => by
   unfold liftP
   split
   · rfl
   · rename_i hh;have : ¬ 0 < x.lv := fun h0 => hh ⟨by omega, h0⟩;omega
 have hin : ∀ l, l < 3 → ∀ c ∈ S.rows l, ∃ y, (c, y) ∈ ((S.setPs (S.ps.map fun q => (q.1, liftP q.2))).raises 2).ps ∧ y.lv = 0 ∧ y.st = 1 := fun l hl c hc => by
   obtain ⟨y, hy, h1, h2⟩ := h.rm l hl c hc;exact ⟨liftP y, by rw [hps]; exact List.mem_map.2 ⟨_, hy, rfl⟩, hlv y h2, by rw [hst]; exact h2⟩
 have dis : ∀ l m, l < 3 → m < 3 → l ≠ m → ∀ a ∈ S.rows l, ∀ b ∈ S.rows m, a ≠ b := fun l m hl hm hne a ha b hb e => by
   subst e;obtain ⟨y, hy, h1, _⟩ := h.rm l hl a ha;obtain ⟨z, hz, h2, _⟩ := h.rm m hm a hb;rw [bp h.pn hy hz] at h1;omega
 refine ⟨?_, ?_, fun q hq => ?_, fun l hl => ?_, fun l hl c hc => ?_, fun q hq h1 => ?_⟩
 · rw [hps, List.map_map]; exact h.pn
 · rw [hps]; simpa using h.p8
 · rw [hps] at hq;obtain ⟨r, hr, rfl⟩ := List.mem_map.1 hq;have := h.lv r hr;show (liftP r.2).lv < 3;unfold liftP
   split
   · show 0 < 3; omega
   · exact this
 · by_cases e : l = 0
   · subst e;rw [r0];refine List.nodup_append.2 ⟨List.nodup_append.2 ⟨h.rn 0 (by omega), h.rn 1 (by omega), dis 0 1 (by omega) (by omega) (by omega)⟩, h.rn 2 (by omega), fun a ha b hb => ?_⟩;rcases List.mem_append.1 ha with h1 | h1
     · exact dis 0 2 (by omega) (by omega) (by omega) a h1 b hb
     · exact dis 1 2 (by omega) (by omega) (by omega) a h1 b hb
   · rw [r1 l (by omega) hl]; exact List.nodup_nil
 · by_cases e : l = 0
   · subst e;rw [r0] at hc;rcases List.mem_append.1 hc with h1 | h1
     · rcases List.mem_append.1 h1 with h1 | h1
       · exact hin 0 (by omega) c h1
       · exact hin 1 (by omega) c h1
     · exact hin 2 (by omega) c h1
   · rw [r1 l (by omega) hl] at hc; simp at hc
 · rw [hps] at hq;obtain ⟨r, hr, rfl⟩ := List.mem_map.1 hq;have h1' : r.2.st = 1 := by rw [← hst]; exact h1
   have h0 := hlv r.2 h1';have hm := h.rr r hr h1';show r.1 ∈ _;rw [show ((r.1, liftP r.2) : Nat × PS).2.lv = 0 from h0, r0];have hl := h.lv r hr;have hcase : r.2.lv = 0 ∨ r.2.lv = 1 ∨ r.2.lv = 2 := by omega
   rcases hcase with e | e | e
   · rw [e] at hm; exact List.mem_append_left _ (List.mem_append_left _ hm)
   · rw [e] at hm; exact List.mem_append_left _ (List.mem_append_right _ hm)
   · rw [e] at hm; exact List.mem_append_right _ hm
theorem tS : zeroAt Tryz.prog 5 = some (.int .u8 0) := by kernel_rfl
theorem tT {xs junk : List Value} {n : Nat} (hn : n ≤ xs.length) : puts (xs ++ junk).toArray 0 (xs.drop n) = (xs.drop n ++ (xs ++ junk).drop (xs.length - n)).toArray := by
 rw [b6 _ _ _ (by simp; omega)];simp
theorem ro {xs junk : List Value} {n : Nat} {z : Value} (hn : n ≤ xs.length) : puts (xs.drop n ++ (xs ++ junk).drop (xs.length - n)).toArray (xs.length - n) (List.replicate n z) = (xs.drop n ++ (List.replicate n z ++ junk)).toArray := by
 rw [b6 _ _ _ (by simp; omega)];have e1 : (xs.drop n ++ (xs ++ junk).drop (xs.length - n)).take (xs.length - n) = xs.drop n := by
   rw [List.take_append_of_le_length (by simp)];exact List.take_of_length_le (by simp)
 have e2 : (xs.drop n ++ (xs ++ junk).drop (xs.length - n)).drop (xs.length - n + (List.replicate n z).length) = junk := by
   have e3 : (xs ++ junk).drop (xs.length - n) = xs.drop (xs.length - n) ++ junk := List.drop_append_of_le_length (by omega);rw [e3, ← List.append_assoc, List.drop_left' (by simp; omega)]
 rw [e1, e2, List.append_assoc]
theorem rq : ∃ n, ∀ {σ : Type} {F : Fam σ} {Δ : ∀ s, Dom (F.R s) (F.D s)} {main : Bool} {s : σ} (L : Frag) (b : Nat) (xs junk : List Value) (m : Nat), 0 < m → m ≤ xs.length → xs.length < 1000000 → xs.all plainV = true → (b, true, Obj.cells (xs ++ junk).toArray 5) ∈ L →
   CallsL Δ Tryz.prog main 172 [.slice (some ⟨b, 0, none⟩) xs.length (xs.length + junk.length), .int .i64 0, .int .i64 m].toArray n s L (fun s' v L' => s = s' ∧ v = .slice (some ⟨b, 0, none⟩) (xs.length - m) (xs.length + junk.length) ∧ Upd L b (.cells (xs.drop m ++ (List.replicate m (Value.int .u8 0) ++ junk)).toArray 5) L') := by
 apply Exists.intro;intro σ F Δ main s L b xs junk m hm0 hm hbig hpl hb;have hsz : (xs ++ junk).toArray.size = xs.length + junk.length := by simp
 have hcut : cutAt 0 (m : Int).toNat (xs.length + junk.length) 1 + (xs.length - (m : Int).toNat) * 1 ≤ (xs ++ junk).toArray.size := by unfold cutAt; rw [hsz]; split <;> omega
 co_applyP aB 33 Tryz.func172 Tryz.ntmps172;co_applyP ae;co_applyP aa;co_applyP oy rfl ak;co_applyP ah;change wpE ..;co_applyP ae;co_applyP aa;co_applyP oy rfl aj;co_applyP oy rfl aj;co_applyP oy rfl aj;co_applyP oy rfl aj;co_applyP oy rfl (bz (hu := Tryz.underlying44));co_applyP oy rfl (s7 Tryz.underlying44 ee);co_applyP ah;change wpE ..;co_applyP ae;co_applyP ae;co_applyP aa;co_applyP oy rfl aj;co_applyP oy rfl aj;co_applyP oy rfl ay;co_applyP ah;change wpE ..;have e0 : ((0 : Int) == (m : Int)) = false := by simp; omega
 rw [e0];co_applyP aq rfl;co_applyP aA;change wpE ..;co_applyP ae;co_applyP aa;co_applyP oy rfl aj;co_applyP oy rfl (bz (hu := Tryz.underlying44));co_applyP oy rfl ak;co_applyP ah;change wpE ..;co_applyP ae;co_applyP bm [] 6 (nf := 0) aZ;co_applyP tr (i := 0) rfl aj (ai (by simp));co_applyP tr (i := 1) rfl aj (ai (by simp));co_applyP tr (i := 2) rfl (sY Tryz.underlying44 ee) (ai (by simp));co_applyP tr (i := 3) rfl aj (ai (by simp));co_applyP tr (i := 4) rfl aj (ai (by simp));co_applyP tr (i := 5) rfl (sZ Tryz.underlying44 ee) (ai (by simp));co_applyP ba;intro hnd;have ec0 : cutAt 0 0 (xs.length + junk.length) 1 = 0 := by unfold cutAt; split <;> omega
 have hvs : ((xs ++ junk).toArray.extract (cutAt 0 (m : Int).toNat (xs.length + junk.length) 1) (cutAt 0 (m : Int).toNat (xs.length + junk.length) 1 + (xs.length - (m : Int).toNat) * 1)).toList = xs.drop m := by
   unfold cutAt
   split
   · have : xs.length = m := by omega
     simp [this]
   · have e1 : 0 + (m : Int).toNat * 1 + (xs.length - (m : Int).toNat) * 1 - (0 + (m : Int).toNat * 1) = xs.length - m := by omega
     have e2 : 0 + (m : Int).toNat * 1 = m := by omega
     simp only [Array.toList_extract, List.extract_eq_take_drop];rw [e1, e2, List.drop_append_of_le_length (by omega), List.take_append_of_le_length (by simp)];rw [List.take_of_length_le (by simp)]
 co_applyP te (i := 6) rfl (jM (hnd := hnd) (hu := Tryz.underlying44) (hv := Tryz.underlying44) (hs := ee) (hr := b7 hb hcut) (hc := by omega) (hm := hb) (ho := by simp; unfold cutAt; split <;> split <;> omega) (hp := by rw [hvs]; rw [List.all_eq_true] at hpl ⊢; exact fun v hv => hpl v (List.mem_of_mem_drop hv)));rintro _ _ ⟨rfl, hU⟩;refine ⟨aE (by simp), ?_⟩;co_applyP to (i := 7) rfl (ak) (aE (by simp));have el : (0 : Int).toNat - 0 + (xs.length - (m : Int).toNat) = xs.length - m := by simp
 have ek : xs.length + junk.length - 0 = xs.length + junk.length := rfl;have eo : 0 + ((0 : Int).toNat - 0) * 1 = 0 := by simp
 rw [ec0, eo, hvs, tT hm] at hU;rw [ec0, el, ek];co_applyP td (by kernel_rfl);change wpE ..;co_applyP ae;co_applyP aa;co_applyP oy rfl aj;co_applyP oy rfl aj;co_applyP oy rfl (bz (hu := Tryz.underlying44));co_applyP oy rfl aj;co_applyP oy rfl (s6 Tryz.underlying44 ee);have ecm : cutAt 0 (((xs.length - m : Nat) : Int)).toNat (xs.length + junk.length) 1 = xs.length - m := by unfold cutAt; split <;> omega
 have en : (xs.length : Int).toNat - ((xs.length - m : Nat) : Int).toNat = m := by omega
 co_applyP oeN rfl (fun hnd => s8 (hnd := hnd) (hu := Tryz.underlying44) (hz0 := tS) (hzp := rfl) (hm := hU.self) (ho := by rw [ecm, en]; simp; omega));rintro _ L3 ⟨rfl, hU'⟩;co_applyP ah;change wpE ..;co_applyP ae;co_applyP aa;co_applyP oy rfl aj;co_applyP oy rfl ak;co_applyP ah;change wpE ..;co_applyP aJ;change ∃ v, resE .. = some v ∧ _;rw [ecm, en, ro hm] at hU';exact ⟨_, rfl, rfl, rfl, hU'.self, fun t ht hne => hU'.ne t (hU.ne t ht hne) hne, hU'.fn⟩
end Go.Proofs.YtejkelcaljmnoaaGreatDoor
namespace Go.Lo
open Go.Conc Go.Hx
section
variable {P : Program} {New : Obj → Prop} {N : Nat} {ε : Env} {L : Frag} {d : Option Tmp} {ty t u e : TypeId} {ps : String} {af : Array Edge} {g : Option (Nat × Bool)} {x y : Operand}
theorem AO {sz b o dl dc n sc : Nat} {yb : Option Addr} {vs cs : Array Value} {e' : TypeId} (hx : ev ε x = some (.slice (some ⟨b, o, none⟩) dl dc) := by rfl) (hy : ev ε y = some (.slice yb n sc) := by rfl) (hnd : (L.map (·.1)).Nodup) (hu : P.underlying t = some (.slice e)) (hs : sizeAt P e = some sz) (hr : Reads P L sz (Nat.min n dl) (.slice yb n sc) vs) (hm : (b, true, .cells cs e') ∈ L) (ho : o + vs.size ≤ cs.size) (hp : vs.toList.all plainV = true) :
   EO P New N ε L ⟨d, .call ⟨.builtin .copy, #[x, y], #[t, u]⟩, ty, ps, af, g⟩ (fun r L' => r = .int .i64 (Nat.min n dl : Nat) ∧ Upd L b (.cells (puts cs o vs.toList) e') L') := by
 intro a ha;obtain ⟨m, hm'⟩ := List.getElem?_of_mem hm;refine cx (s := Builtin.copy_ #[t, u] ty #[.slice (some ⟨b, o, none⟩) dl dc, .slice yb n sc]) (fun _ => by simp [builtin, ha.ev hx, ha.ev hy]) ?_;unfold Builtin.copy_;simp only [List.getElem?_toArray, List.getElem?_cons_zero, List.getElem?_cons_succ];rw [ar, aT hu];simp only [Builtin.lenOf];rw [ar, br, ar, bP hs, ar];refine hr.r New _ ?_;rw [ar];exact co hm' (by simpa using ho) hp ⟨rfl, cH hnd hm'⟩
end
section
variable {P : Program} {N : Nat} {ε : Env} {L : Frag} {d : Option Tmp} {ty : TypeId} {ps : String} {af : Array Edge} {g : Option (Nat × Bool)} {t e : TypeId} {x y z : Operand} {b o sz len : Nat} {k1 k2 : IntKind} {l h : Int}
theorem tU (hu : P.underlying t = some (.array len e)) (hs : sizeAt P e = some sz) (hx : ev ε x = some (.pointer (some ⟨b, o, none⟩)) := by rfl) (hy : ev ε y = some (.int k1 l) := by rfl) (hz : ev ε z = some (.int k2 h) := by rfl) (h0 : 0 ≤ l := by first | decide | omega) (h1 : l ≤ h := by first | decide | omega) (h2 : h ≤ len := by first | decide | omega) :
   EY P N ε L ⟨d, .slice t x (some y) (some z) none, ty, ps, af, g⟩ (.slice (some ⟨b, cutAt o l.toNat len sz, none⟩) (h.toNat - l.toNat) (len - l.toNat)) := fun _ ha => by
 refine cG (fun _ => rfl) fun K hK => ?_;simp only [Option.map_some, Option.map_none, ha.ev hx, ha.ev hy, ha.ev hz];unfold Instr.sliceAt;rw [ax, aM hu];simp only;rw [ax, di];simp only [Instr.sliceBounds];simp only [ax, bS];refine cN (by omega) h2 ?_;refine cN h0 (by omega) ?_;rw [cK hs];have e1 : (if len = l.toNat then (⟨b, o, none⟩ : Addr) else (⟨b, o, none⟩ : Addr).add (l.toNat * sz)) = ⟨b, cutAt o l.toNat len sz, none⟩ := by
   unfold cutAt
   split
   · rfl
   · simp [dh]
 rw [e1];exact hK
end
end Go.Lo
namespace Go.Proofs.YtejkelcaljmnoaaGreatDoor
open Go.Conc Go.Hx Go.Lo
theorem xy : bytesAt Tryz.prog 5 = some 1 := by kernel_rfl
structure ApB (L : Frag) (a : Sl) (zs : List Value) (a' : Sl) (L' : Frag) : Prop where
 ok : slOk a' zs 5 L'
 fn : Fun L'
 sub : ∀ t ∈ L, a.b ≠ some t.1 → t ∈ L'
 d : ∀ b, a'.b = some b → a.b = some b ∨ ∀ t ∈ L, t.1 ≠ b
section
variable {New : Obj → Prop} {N : Nat} {ε : Env} {L : Frag} {d : Option Tmp} {ty : TypeId} {ps : String} {af : Array Edge} {g : Option (Nat × Bool)} {x y : Operand}
theorem vN {a : Sl} {xs : List Value} (ha : slOk a xs 5 L) : Reads Tryz.prog L 1 xs.length (slv a xs.length) xs.toArray := by
 cases hab : a.b with
 | none =>
   unfold slOk at ha;rw [hab] at ha;obtain rfl : xs = [] := ha.1;have e3 : slv a 0 = .slice none 0 0 := by unfold slv; rw [hab]
   show Reads Tryz.prog L 1 0 (slv a 0) #[];rw [e3]; exact dC
 | some b =>
   have hm := ha.mem hab;have e3 : slv a xs.length = .slice (some ⟨b, 0, none⟩) xs.length (xs.length + a.junk.length) := by unfold slv; rw [hab]
   rw [e3];have := b7 (P := Tryz.prog) (sz := 1) (n := xs.length) (len := xs.length) (cap := xs.length + a.junk.length) (o := 0) hm (by simp);have e7 : (xs ++ a.junk).take xs.length = xs := by rw [List.take_append_of_le_length (by simp)]; exact List.take_of_length_le (by simp)
   simpa [e7] using this
theorem zU {a : Sl} {xs ys : List Value} {yb : Option Addr} {yc : Nat} (hx : ev ε x = some (slv a xs.length) := by rfl) (hy : ev ε y = some (.slice yb ys.length yc) := by rfl) (hnd : (L.map (·.1)).Nodup) (hN : ∀ cs, New (.cells cs 5)) (ha : slOk a xs 5 L) (hr : Reads Tryz.prog L 1 ys.length (.slice yb ys.length yc) ys.toArray) (hpl : ys.all plainV = true) (h8 : xs.length ≤ 1000) (h8' : ys.length ≤ 1000) :
   EO Tryz.prog New N ε L ⟨d, .call ⟨.builtin .append, #[x, y], #[44, 44]⟩, ty, ps, af, g⟩ (fun r L' => ∃ a', r = slv a' (xs ++ ys).length ∧ ApB L a (xs ++ ys) a' L') := by
 have hws := vN ha
 have grow : ∀ (cap0 : Nat), (∃ base, slv a xs.length = .slice base xs.length cap0) → cap0 < xs.length + ys.length →
     EO Tryz.prog New N ε L ⟨d, .call ⟨.builtin .append, #[x, y], #[44, 44]⟩, ty, ps, af, g⟩ (fun r L' => ∃ a', r = slv a' (xs ++ ys).length ∧ ApB L a (xs ++ ys) a' L') := by
   rintro cap0 ⟨base, hb⟩ hc;rw [hb] at hws hx;intro ac hac;refine bR ?_ _ _ (la (by_ := 0) (New := New) hx hy (bF hnd) Tryz.underlying44 Tryz.underlying44 ee xy tS hws hr hc (by omega) hN ac hac);intro r L' q;cases r <;> try exact q.elim
   · obtain ⟨b, cap, h1, h2, rfl, hA⟩ := q;rw [eq rfl] at hA;refine ⟨⟨some b, List.replicate (cap - (xs.length + ys.length)) (.int .u8 0)⟩, ?_, ?_, hA.fn, fun t ht _ => hA.sub t ht, fun b' hb' => .inr ?_⟩
     · unfold slv; simp; omega
     · have e5 : xs.toArray ++ ys.toArray ++ (List.replicate (cap - (xs.length + ys.length)) (Value.int .u8 0)).toArray = ((xs ++ ys) ++ List.replicate (cap - (xs.length + ys.length)) (Value.int .u8 0)).toArray := by
         apply Array.ext'; simp
       rw [e5] at hA;exact hA.self
     · obtain rfl : b = b' := by simpa using hb'
       exact hA.new
   · obtain ⟨b, cap, _, _, e, _⟩ := q; cases e
 cases hab : a.b with
 | none =>
   have h2 := ha;unfold slOk at h2;rw [hab] at h2;obtain ⟨e1, e2⟩ := h2;obtain rfl : xs = [] := e1;have e3 : slv a 0 = .slice none 0 0 := by unfold slv; rw [hab]
   by_cases h0 : 0 < ys.length
   · exact grow 0 ⟨none, e3⟩ (by simpa using h0)
   · obtain rfl : ys = [] := List.length_eq_zero_iff.1 (by omega);intro ac hac;rw [List.length_nil, e3] at hx;refine bR ?_ _ _ (oY (New := New) hx hy Tryz.underlying44 Tryz.underlying44 ee hr ac hac);intro r L' q;cases r <;> try exact q.elim
     · obtain ⟨rfl, rfl⟩ := q;exact ⟨a, e3.symm, ha, bF hnd, fun t ht _ => ht, fun b hb => by rw [hab] at hb; cases hb⟩
     · exact absurd q.1 (by simp [undef])
 | some b =>
   have hm := ha.mem hab;have e3 : slv a xs.length = .slice (some ⟨b, 0, none⟩) xs.length (xs.length + a.junk.length) := by unfold slv; rw [hab]
   by_cases hj : ys.length ≤ a.junk.length
   · intro ac hac;rw [e3] at hx;refine bR ?_ _ _ (jM (New := New) hx hy hnd Tryz.underlying44 Tryz.underlying44 ee hr (by omega) hm (by simp; omega) (by simpa using hpl) ac hac);intro r L' q;cases r <;> try exact q.elim
     · obtain ⟨rfl, hU⟩ := q;have e4 : puts (xs ++ a.junk).toArray (0 + xs.length * 1) ys.toArray.toList = ((xs ++ ys) ++ a.junk.drop ys.length).toArray := by
         rw [b6 _ _ _ (by simp; omega)];have e6 : (xs ++ a.junk).drop (xs.length + ys.length) = a.junk.drop ys.length := by
           rw [List.drop_append]; simp
         have e7 : (xs ++ a.junk).take xs.length = xs := by rw [List.take_append_of_le_length (by simp)]; exact List.take_of_length_le (by simp)
         simp [e6, e7]
       rw [e4] at hU;refine ⟨⟨some b, a.junk.drop ys.length⟩, ?_, hU.self, hU.fn, fun t ht hne => hU.ne t ht fun e => hne (by rw [hab, e]), fun b' hb' => .inl (by rw [hab]; exact hb')⟩;unfold slv; simp; omega
     · exact absurd q.1 (by simp [undef])
   · exact grow (xs.length + a.junk.length) ⟨_, e3⟩ (by omega)
end
def Lay.setY (A : Lay) (i : Nat) (a : Sl) : Lay := { A with y := put A.y i a }
def St.setY (S : St) (i : Nat) (ys : List Int) : St := { S with by_ := put S.by_ i ys }
section
variable {K : Nat} {A : Lay} {S : St} {F L L' : Frag}
theorem Rep.setBytes (h : Rep K A S F L) {i : Nat} (hi : i < 5) {a' : Sl} {ys : List Int} (hf : Fun L') (hk : kb K (kst (A.setY i a') (S.setY i ys)) ∈ L') (hs : ∀ t ∈ L, t.1 ≠ K → (A.y i).b ≠ some t.1 → t ∈ L') (ha : slOk a' (ys.map fun v => .int .u8 v) 5 L')
   (hd : ∀ b, a'.b = some b → (A.y i).b = some b ∨ ((∀ j, (A.y j).b ≠ some b) ∧ ∀ t ∈ F, t.1 ≠ b)) : Rep K (A.setY i a') (S.setY i ys) F L' := by
 have ty : ∀ {b : Nat} {fl : Bool} {o : Obj}, (b, fl, o) ∈ L → (∀ c, o ≠ Obj.cells c 5) → (A.y i).b ≠ some b := fun hm ho hb => by
   obtain ⟨xs, hx⟩ := h.yl _ _ hb;exact ho _ (h.fn _ _ _ _ _ hm hx).2
 have arr : ∀ (a : Sl) (xs : List Value) (e : TypeId), e ≠ 115 → (∀ b, a.b = some b → (A.y i).b ≠ some b) → slOk a xs e L → slOk a xs e L' := fun a xs e he hne ha => by
   refine ha.mono fun c hc o ho => hs _ ho ?_ (hne c hc);exact h.fn.ne (ha.mem hc) h.k (aF he)
 have hdn : ∀ j, j ≠ i → ∀ b, (A.y j).b = some b → (A.y i).b ≠ some b := fun j hj b hb e => h.dy j i hj (by rw [hb]; simp) (by rw [hb, e]);have pA : ∀ j, j ≠ i → (A.setY i a').y j = A.y j := fun j hj => by simp [Lay.setY, put, hj]
 have pS : (A.setY i a').y i = a' := by simp [Lay.setY, put]
 have sS : (S.setY i ys).by_ i = ys := by simp [St.setY, put]
 have sA : ∀ j, j ≠ i → (S.setY i ys).by_ j = S.by_ j := fun j hj => by simp [St.setY, put, hj]
 exact { h with
   fn := hf
   k := hk
   g := hs _ h.g (h.fn.ne h.g h.k (aF (by decide))) (ty h.g fun c => aF (by decide))
   p := fun q hq => hs _ (h.p q hq) (h.fn.ne (h.p q hq) h.k (aF (by decide))) (ty (h.p q hq) fun c => aF (by decide))
   pa := arr _ _ _ (by decide) (fun b hb => ty (h.pa.mem hb) fun c => aF (by decide)) h.pa
   rw := fun l hl => arr _ _ _ (by decide) (fun b hb => ty ((h.rw l hl).mem hb) fun c => aF (by decide)) (h.rw l hl)
   ya := fun j hj => by
     by_cases e : j = i
     · subst e; rw [pS, sS]; exact ha
     · rw [pA j e, sA j e]; exact arr _ _ _ (by decide) (hdn j e) (h.ya j hj)
   w := hs _ h.w (h.fn.ne h.w h.k (by simp [wobj])) (ty h.w fun c => by simp [wobj])
   wa := fun e he => arr _ _ _ (by decide) (fun b hb => ty ((h.wa e he).mem hb) fun c => aF (by decide)) (h.wa e he)
   al := fun j c hc => by
     obtain ⟨xs, hx⟩ := h.al j c hc;exact ⟨xs, hs _ hx (h.fn.ne hx h.k (aF (by decide))) (ty hx fun c => aF (by decide))⟩
   yl := fun j c hc => by
     by_cases e : j = i
     · subst e; rw [pS] at hc; exact ⟨_, ha.mem hc⟩
     · rw [pA j e] at hc;obtain ⟨xs, hx⟩ := h.yl j c hc;exact ⟨xs, hs _ hx (h.fn.ne hx h.k (aF (by decide))) (hdn j e c hc)⟩
   dy := fun j m hjm hj => by
     by_cases ej : j = i
     · subst ej;rw [pA m (Ne.symm hjm), pS];rw [pS] at hj;intro e;cases hb : a'.b with
       | none => exact hj hb
       | some b =>
         rcases hd b hb with h1 | h1
         · exact h.dy j m hjm (by rw [h1]; simp) (by rw [h1, ← e, hb])
         · exact h1.1 m (by rw [← e, hb])
     · rw [pA j ej];rw [pA j ej] at hj;by_cases em : m = i
       · subst em;rw [pS];intro e;cases hb : a'.b with
         | none => rw [hb] at e; exact hj e
         | some b =>
           rcases hd b hb with h1 | h1
           · exact h.dy j m ej hj (by rw [h1, e, hb])
           · exact h1.1 j (by rw [e, hb])
       · rw [pA m em]; exact h.dy j m hjm hj
   fr := fun t ht => hs _ (h.fr t ht) (h.fd t ht).1 ((h.fd t ht).2.2.2.1 _)
   fd := fun t ht => by
     refine ⟨(h.fd t ht).1, (h.fd t ht).2.1, (h.fd t ht).2.2.1, fun j => ?_, (h.fd t ht).2.2.2.2⟩;by_cases ej : j = i
     · subst ej;rw [pS];intro e;rcases hd _ e with h1 | h1
       · exact (h.fd t ht).2.2.2.1 _ h1
       · exact h1.2 t ht rfl
     · rw [pA j ej]; exact (h.fd t ht).2.2.2.1 j }
theorem mi (k : KS) {i : Nat} (hi : i < 5) (v : Value) : (kcells k).setIfInBounds (10 + i) v = kcells { k with by_ := put k.by_ i v } := by
 rcases i with _ | _ | _ | _ | _ | i
 · rfl
 · rfl
 · rfl
 · rfl
 · rfl
 · omega
theorem oZ (A : Lay) (S : St) (i : Nat) (a' : Sl) (ys : List Int) : kst (A.setY i a') (S.setY i ys) = { kst A S with by_ := put (kst A S).by_ i (slv a' ys.length) } := by
 unfold kst Lay.setY St.setY;simp only [KS.mk.injEq, true_and];refine ⟨?_, trivial⟩
 funext j
 unfold put;by_cases e : j = i
 · subst e; simp
 · simp [e]
end
def PS.poke (x : PS) (i : Nat) : List Int → PS
 | [] => x
 | v :: vs => PS.poke { x with m := put x.m i v } (i + 1) vs
theorem tV : ∀ (vs : List Int) (x : PS) (i : Nat), i + vs.length ≤ 64 → puts (pcells x) (15 + i) (vs.map fun v => Value.int .u8 v) = pcells (x.poke i vs)
 | [], _, _, _ => rfl
 | v :: vs, x, i, h => by
   simp only [List.length_cons] at h;show puts ((pcells x).setIfInBounds (15 + i) (.int .u8 v)) (15 + i + 1) (vs.map fun v => Value.int .u8 v) = _;rw [tI x (by omega), show 15 + i + 1 = 15 + (i + 1) by omega];exact tV vs _ (i + 1) (by omega)
def PS.peek (x : PS) (i n : Nat) : List Int := (List.range n).map fun j => x.m (i + j)
theorem xz (x : PS) {i n : Nat} (h : i + n ≤ 64) : (pcells x).extract (15 + i) (15 + i + n) = ((x.peek i n).map fun v => Value.int .u8 v).toArray := by
 apply Array.ext
 · simp [PS.peek, bg]; omega
 · intro j h1 h2;have hj : j < n := by simpa [PS.peek] using h2
   have := tH x (i := i + j) (by omega);rw [show 15 + (i + j) = 15 + i + j by omega] at this;obtain ⟨_, he⟩ := Array.getElem?_eq_some_iff.1 this;simp only [Array.getElem_extract, he];simp [PS.peek]
section
variable {P : Program} {N : Nat} {ε : Env} {L : Frag} {d : Option Tmp} {ty : TypeId} {ps : String} {af : Array Edge} {g : Option (Nat × Bool)}
theorem zV {t : TypeId} {x y z u : Operand} {w l h m v : Value} (hv : evR P (Instr.sliceAt t w (some l) (some h) (some m)) [] = some (v, [])) (hx : ev ε x = some w := by rfl) (hy : ev ε y = some l := by rfl) (hz : ev ε z = some h := by rfl) (hu : ev ε u = some m := by rfl) : EY P N ε L ⟨d, .slice t x (some y) (some z) (some u), ty, ps, af, g⟩ v := fun a ha => by
 refine cG (fun _ => rfl) fun K hK => ?_;simp only [Option.map_some, ha.ev hx, ha.ev hy, ha.ev hz, ha.ev hu];exact bd hv hK
end
theorem zW : evR Tryz.prog (Instr.sliceAt 44 (.slice none 0 0) (some (.int .i64 0)) (some (.int .i64 0)) (some (.int .i64 0))) [] = some (.slice none 0 0, []) := by kernel_rfl
theorem ru : ∃ n, ∀ {σ : Type} {F : Fam σ} {Δ : ∀ s, Dom (F.R s) (F.D s)} {main : Bool} {s : σ} (L : Frag),
   CallsL Δ Tryz.prog main 172 [.slice none 0 0, .int .i64 0, .int .i64 0].toArray n s L (fun s' v L' => s = s' ∧ L = L' ∧ v = .slice none 0 0) := by
 apply Exists.intro;intro σ F Δ main s L;co_applyP aB 33 Tryz.func172 Tryz.ntmps172;co_applyP ae;co_applyP aa;co_applyP oy rfl ak;co_applyP ah;change wpE ..;co_applyP ae;co_applyP aa;co_applyP oy rfl aj;co_applyP oy rfl aj;co_applyP oy rfl aj;co_applyP oy rfl aj;co_applyP oy rfl (bz (hu := Tryz.underlying44));co_applyP oy rfl (zV zW);co_applyP ah;change wpE ..;co_applyP ae (n₂ := 0);co_applyP ae;co_applyP aa;co_applyP oy rfl aj;co_applyP oy rfl aj;co_applyP oy rfl ay;co_applyP ah;change wpE ..;co_applyP aW rfl;co_applyP ae;co_applyP aa;co_applyP oy rfl aj;co_applyP oy rfl ak;co_applyP ah;change wpE ..;co_applyP aJ;change ∃ v, resE .. = some v ∧ _;exact ⟨_, rfl, rfl, rfl, rfl⟩
theorem rx : ∃ n, ∀ {σ : Type} {F : Fam σ} {Δ : ∀ s, Dom (F.R s) (F.D s)} {main : Bool} {s : σ} (L : Frag) (b len cap : Nat), len ≤ cap →
   CallsL Δ Tryz.prog main 172 [.slice (some ⟨b, 0, none⟩) len cap, .int .i64 0, .int .i64 0].toArray n s L (fun s' v L' => s = s' ∧ L = L' ∧ v = .slice (some ⟨b, 0, none⟩) len cap) := by
 apply Exists.intro;intro σ F Δ main s L b len cap hc;co_applyP aB 33 Tryz.func172 Tryz.ntmps172;co_applyP ae;co_applyP aa;co_applyP oy rfl ak;co_applyP ah;change wpE ..;co_applyP ae;co_applyP aa;co_applyP oy rfl aj;co_applyP oy rfl aj;co_applyP oy rfl aj;co_applyP oy rfl aj;co_applyP oy rfl (bz (hu := Tryz.underlying44));co_applyP oy rfl (s7 Tryz.underlying44 ee);co_applyP ah;change wpE ..;co_applyP ae (n₂ := 0);co_applyP ae;co_applyP aa;co_applyP oy rfl aj;co_applyP oy rfl aj;co_applyP oy rfl ay;co_applyP ah;change wpE ..;co_applyP aW rfl;co_applyP ae;co_applyP aa;co_applyP oy rfl aj;co_applyP oy rfl ak;co_applyP ah;change wpE ..;co_applyP aJ;change ∃ v, resE .. = some v ∧ _;exact ⟨_, rfl, rfl, rfl, rfl⟩
theorem vO : ∃ n, ∀ {σ : Type} {F : Fam σ} {Δ : ∀ s, Dom (F.R s) (F.D s)} {main : Bool} {s : σ} (L : Frag) (a : Sl) (xs : List Value) (m : Nat), Fun L → m ≤ xs.length → xs.length < 1000000 → xs.all plainV = true → slOk a xs 5 L →
   CallsL Δ Tryz.prog main 172 [slv a xs.length, .int .i64 0, .int .i64 m].toArray n s L (fun s' v L' => s = s' ∧ ∃ a', v = slv a' (xs.length - m) ∧ ApB L a (xs.drop m) a' L' ∧ a'.b = a.b) := by
 obtain ⟨n0, g0⟩ := ru;obtain ⟨n1, g1⟩ := rx;obtain ⟨n2, g2⟩ := rq;refine ⟨n0 + (n1 + n2), fun {σ F Δ main s} L a xs m hF hm hbig hpl ha => aS (a.b = none) (fun h => ?_) fun h => aS (m = 0) (fun h0 => ?_) fun h0 => ?_⟩
 · have ha' := ha;unfold slOk at ha';rw [h] at ha';obtain rfl : xs = [] := ha'.1;obtain rfl : m = 0 := by simpa using hm
   have e : slv a ([] : List Value).length = .slice none 0 0 := by unfold slv; rw [h]
   rw [e];refine aU (g0 L) fun s' v L' ⟨h1, h2, h3⟩ => ?_;subst h2;exact ⟨h1, a, by rw [h3]; exact e.symm, ⟨ha, hF, fun t ht _ => ht, fun b hb => .inl hb⟩, rfl⟩
 · obtain ⟨b, hb⟩ : ∃ b, a.b = some b := by
     cases hb : a.b with
     | none => exact absurd hb h
     | some b => exact ⟨b, rfl⟩
   subst h0;have e : slv a xs.length = .slice (some ⟨b, 0, none⟩) xs.length (xs.length + a.junk.length) := by unfold slv; rw [hb]
   rw [e];refine aU (g1 L b xs.length (xs.length + a.junk.length) (by omega)) fun s' v L' ⟨h1, h2, h3⟩ => ?_;subst h2;exact ⟨h1, a, by rw [h3, Nat.sub_zero]; exact e.symm, ⟨ha, hF, fun t ht _ => ht, fun b hb => .inl hb⟩, rfl⟩
 · obtain ⟨b, hb⟩ : ∃ b, a.b = some b := by
     cases hb : a.b with
     | none => exact absurd hb h
     | some b => exact ⟨b, rfl⟩
   have e : slv a xs.length = .slice (some ⟨b, 0, none⟩) xs.length (xs.length + a.junk.length) := by unfold slv; rw [hb]
   rw [e];refine aU (g2 L b xs a.junk m (by omega) hm hbig hpl (ha.mem hb)) fun s' v L' ⟨h1, h2, h3⟩ => ?_;refine ⟨h1, ⟨some b, List.replicate m (Value.int .u8 0) ++ a.junk⟩, ?_, ⟨h3.self, h3.fn, fun t ht hne => h3.ne _ ht fun e => hne (by rw [hb, e]), fun b' hb' => .inl (by rw [hb]; exact hb')⟩, hb.symm⟩;rw [h2]; unfold slv; simp; omega
theorem tW {L : Frag} {a : Sl} {xs : List Value} {n : Nat} (ha : slOk a xs 5 L) (hn : n ≤ xs.length) : Reads Tryz.prog L 1 n (slv a xs.length) (xs.take n).toArray := by
 cases hab : a.b with
 | none =>
   unfold slOk at ha;rw [hab] at ha;obtain rfl : xs = [] := ha.1;obtain rfl : n = 0 := by simpa using hn
   have e3 : slv a 0 = .slice none 0 0 := by unfold slv; rw [hab]
   show Reads Tryz.prog L 1 0 (slv a 0) #[];rw [e3]; exact dC
 | some b =>
   have hm := ha.mem hab;have e3 : slv a xs.length = .slice (some ⟨b, 0, none⟩) xs.length (xs.length + a.junk.length) := by unfold slv; rw [hab]
   rw [e3];have := b7 (P := Tryz.prog) (sz := 1) (n := n) (len := xs.length) (cap := xs.length + a.junk.length) (o := 0) hm (by simp; omega);have e7 : (xs ++ a.junk).take n = xs.take n := List.take_append_of_le_length hn;simpa [e7] using this
def PS.got (x : PS) (bs : List Int) : PS :=
 let y := x.poke (x.r 1).toNat (bs.take (Nat.min bs.length (x.r 2).toNat))
 { y with r := put y.r 0 (Nat.min bs.length (x.r 2).toNat : Nat) }
def St.readP (S : St) (b : Nat) (x : PS) (k : Nat × Nat) : St := (S.setP b (x.got (S.by_ k.1))).setY k.1 ((S.by_ k.1).drop (Nat.min (S.by_ k.1).length (x.r 2).toNat))
structure YLay (A A' : Lay) : Prop where
 a : A'.a = A.a
 w : A'.wt = A.wt ∧ A'.born = A.born ∧ A'.clock = A.clock
 g : A'.g = A.g ∧ A'.gcap = A.gcap ∧ A'.gc = A.gc
theorem vP : ∃ n, ∀ {σ : Type} {F : Fam σ} {Δ : ∀ s, Dom (F.R s) (F.D s)} {main : Bool} {s : σ} (K : Nat) (A : Lay) (S : St) (Fr L : Frag) (b : Nat) (x : PS) (k : Nat × Nat), (∀ cs, (Δ s).New (.cells cs 96)) → Rep K A S Fr L → (b, x) ∈ S.ps → WF x → k.1 < 5 → k.2 = 4 → x.r 1 + x.r 2 ≤ 64 → (S.by_ k.1).length ≤ 8 →
   CallsL Δ Tryz.prog main 166 [ptr K, ptr b, keyv k].toArray n s L (fun s' v L' => s = s' ∧ v = .nilIface ∧ ∃ A', YLay A A' ∧ Rep K A' (S.readP b x k) Fr L') := by
 obtain ⟨n2, g2⟩ := vO;apply Exists.intro;intro σ F Δ main s K A S Fr L b x k hN hR hb hx hk5 hk4 hfc h8;have wx1 := hx.r 1 (by omega);have wx2 := hx.r 2 (by omega);obtain ⟨base, cap, hv, _⟩ : ∃ base cap, slv (A.y k.1) (S.by_ k.1).length = .slice base (S.by_ k.1).length cap ∧ True := by
   obtain ⟨base, cap, h, _⟩ := bA (hR.ya k.1 hk5);simp only [List.length_map] at h;exact ⟨base, cap, h, trivial⟩
 have w1 : IntKind.i64.wrap (x.r 1) = x.r 1 := by simp [IntKind.wrap_i64]; omega
 have w2 : IntKind.i64.wrap (x.r 2) = x.r 2 := by simp [IntKind.wrap_i64]; omega
 have w3 : IntKind.i64.wrap (x.r 1 + x.r 2) = x.r 1 + x.r 2 := by simp [IntKind.wrap_i64]; omega
 co_applyP aB 100 Tryz.func166 Tryz.ntmps166;co_applyP ae;co_applyP aa;co_applyP bN rfl (bV (hN _));intro xk L1 hA1;have hR1 := hR.add hA1;have h0 : At L1 xk 0 (.int .i64 (k.1 : Nat)) := ⟨true, _, _, _, hA1.self, rfl⟩;have h1 : At L1 xk 1 (.int .i64 (k.2 : Nat)) := ⟨true, _, _, _, hA1.self, rfl⟩;have hx1 : At L1 b 8 (.int .u16 (x.r 1)) := hR1.pat hb (bh x (i := 1) (by omega));have hx2 : At L1 b 9 (.int .u16 (x.r 2)) := hR1.pat hb (bh x (i := 2) (by omega));have hky : At L1 K (10 + k.1) (.slice base (S.by_ k.1).length cap) := by rw [← hv]; exact hR1.kat (p6 _ hk5)
 have e4 : ((k.2 : Int) == 4) = true := by simp; omega
 have edl : (x.r 1 + x.r 2).toNat - (x.r 1).toNat = (x.r 2).toNat := by omega
 obtain ⟨nn, hnn⟩ : ∃ nn, nn = Nat.min (S.by_ k.1).length (x.r 2).toNat := ⟨_, rfl⟩;have hn1 : nn ≤ (S.by_ k.1).length := by rw [hnn]; exact Nat.min_le_left _ _
 have hn2 : nn ≤ (x.r 2).toNat := by rw [hnn]; exact Nat.min_le_right _ _
 co_applyP oy rfl ak;co_applyP ah;change wpE ..;co_applyP ae;co_applyP bj aZ;co_applyP tr (i := 0) rfl aj pI;co_applyP tr (i := 1) rfl aL pI;co_applyP tr (i := 2) rfl (av (hf := aD)) pI;co_applyP tr (i := 3) rfl (av (hf := aY)) pI;co_applyP tr (i := 4) rfl (a0 Tryz.underlying47 a9) pI;co_applyP tr (i := 5) rfl (aC (ht := cp)) pI;co_applyP tr (i := 6) rfl (cg (hs := Tryz.underlying32) (ht := Tryz.underlying3)) pI;co_applyP tr (i := 7) rfl aj pI;co_applyP tr (i := 8) rfl aL pI;co_applyP tr (i := 9) rfl (av (hf := aD)) pI;co_applyP tr (i := 10) rfl (av (hf := aY)) pI;co_applyP tr (i := 11) rfl (a0 Tryz.underlying47 a9) pI;co_applyP tr (i := 12) rfl (aC (ht := cp)) pI;co_applyP tr (i := 13) rfl (cg (hs := Tryz.underlying32) (ht := Tryz.underlying3)) pI;co_applyP tr (i := 14) rfl ak pI;co_applyP tr (i := 15) rfl ak pI;co_applyP td (by kernel_rfl);change wpE ..;co_applyP ae;co_applyP aa;co_applyP oy rfl aj;co_applyP oy rfl aL;co_applyP oy rfl (av (hf := fO));co_applyP oy rfl aj;co_applyP oy rfl aj;co_applyP oy rfl aj;co_applyP oy rfl a7;simp only [w1, w2, w3];co_applyP oy rfl (tU Tryz.underlying94 ee);co_applyP oy rfl ak;co_applyP ah;change wpE ..;co_applyP ae (n₂ := 0);co_applyP ae;co_applyP aa;co_applyP oy rfl (av (hf := gY));co_applyP oy rfl (aC (ht := aV));co_applyP oy rfl ay;co_applyP ah;change wpE ..;rw [e4, edl];co_applyP aW rfl;co_applyP ae;have hya := hR1.ya k.1 hk5;have hrd : Reads Tryz.prog L1 1 nn (.slice base (S.by_ k.1).length cap) (((S.by_ k.1).take nn).map fun v => Value.int .u8 v).toArray := by
   have := tW hya (n := nn) (by simpa using hn1);rw [List.length_map, hv] at this;rw [List.map_take]; exact this
 have hco : cutAt (0 + 15) (x.r 1).toNat 64 1 = if 64 = (x.r 1).toNat then 15 else 15 + (x.r 1).toNat := by unfold cutAt; split <;> omega
 rw [hnn] at hrd;co_applyP bm [] 8 (nf := 0) aZ;co_applyP tr (i := 0) rfl aj (ai (by simp));co_applyP tr (i := 1) rfl aj (ai (by simp));co_applyP tr (i := 2) rfl (av (hf := dJ)) (ai (by simp));co_applyP t0 (i := 3) rfl (aC (ht := aV)) (ai (by simp));co_applyP tr (i := 4) rfl aL (ai (by simp));co_applyP tr (i := 5) rfl (av (hf := ep)) (ai (by simp));co_applyP tr (i := 6) rfl (a0 Tryz.underlying113 gm) (ai (by simp));co_applyP t0 (i := 7) rfl (aC (ht := pM)) (ai (by simp));co_applyP ba;intro hnd;co_applyP te (i := 8) rfl (AO (hnd := hnd) (hu := Tryz.underlying44) (hs := ee) (hr := hrd) (hm := hR1.p _ hb) (ho := by rw [bg, hco]; simp only [List.size_toArray, List.length_map, List.length_take]; rw [← hnn]; split <;> omega) (hp := by rw [List.all_eq_true]; intro v hv; obtain ⟨w, _, rfl⟩ := List.mem_map.1 hv; rfl));rintro _ _ ⟨rfl, hU2⟩;refine ⟨aE (by simp), ?_⟩;rename_i L2;rw [← hnn] at hU2;co_applyP to (i := 9) rfl (ak) (aE (by simp));rw [← hnn];have hpk : puts (pcells x) (cutAt (0 + 15) (x.r 1).toNat 64 1) (((S.by_ k.1).take nn).map fun v => Value.int .u8 v).toArray.toList = pcells (x.poke (x.r 1).toNat ((S.by_ k.1).take nn)) := by
   rw [hco]
   split
   · have : nn = 0 := by omega
     subst this; rfl
   · exact tV _ x _ (by simp; omega)
 rw [hpk] at hU2;have hR2 := hR1.setP hb (x' := x.poke (x.r 1).toNat ((S.by_ k.1).take nn)) hU2;have hb2 : (b, x.poke (x.r 1).toNat ((S.by_ k.1).take nn)) ∈ (S.setP b (x.poke (x.r 1).toNat ((S.by_ k.1).take nn))).ps := au hb;have hbK : xk ≠ b := fun e => hA1.new _ (hR.p _ hb) e.symm;have h02 : At L2 xk 0 (.int .i64 (k.1 : Nat)) := ⟨true, _, _, _, hU2.ne _ hA1.self hbK, rfl⟩;have hky2 : At L2 K (10 + k.1) (.slice base (S.by_ k.1).length cap) := by rw [← hv]; exact hR2.kat (p6 _ hk5)
 co_applyP td (by kernel_rfl);change wpE ..;co_applyP ae;have hpl : ((S.by_ k.1).map fun v => Value.int .u8 v).all plainV = true := by rw [List.all_eq_true]; intro v hv; obtain ⟨w, _, rfl⟩ := List.mem_map.1 hv; rfl
 have g2' := g2 (Δ := Δ) (main := main) (s := s) L2 (A.y k.1) ((S.by_ k.1).map fun v => Value.int .u8 v) nn hR2.fn (by simpa using hn1) (by simp; omega) hpl (hR2.ya k.1 hk5);rw [List.length_map, hv] at g2';co_applyP bm [(xk, true, Obj.cells (keyv k).cells 96)] 11 aZ;have hxk2 : (xk, true, Obj.cells (keyv k).cells 96) ∈ L2 := hU2.ne _ hA1.self hbK;have hxm : ∀ (L : Frag), (xk, true, Obj.cells (keyv k).cells 96) ∈ L → ∀ t ∈ [(xk, true, Obj.cells (keyv k).cells 96)], t ∈ L := fun L h t ht => by simp only [List.mem_singleton] at ht; rw [ht]; exact h
 have tyy : ∀ {c : Nat} {fl : Bool} {o : Obj}, (c, fl, o) ∈ L2 → (∀ c', o ≠ Obj.cells c' 5) → (A.y k.1).b ≠ some c := fun hm ho hc => by
   obtain ⟨xs, hx'⟩ := hR2.yl _ _ hc;exact ho _ (hR2.fn _ _ _ _ _ hm hx').2
 have hyx := tyy hxk2 fun c => aF (by decide);have hyK := tyy hR2.k fun c => aF (by decide);co_applyP tr (i := 0) rfl aj (ai (hxm _ hxk2));co_applyP tr (i := 1) rfl (av (hf := dJ)) (ai (hxm _ hxk2));co_applyP tr (i := 2) rfl (aC (ht := aV)) (ai (hxm _ hxk2));co_applyP tr (i := 3) rfl aj (ai (hxm _ hxk2));co_applyP tr (i := 4) rfl (av (hf := dJ)) (ai (hxm _ hxk2));co_applyP t0 (i := 5) rfl (aC (ht := aV)) (ai (hxm _ hxk2));co_applyP tr (i := 6) rfl aL (ai (hxm _ hxk2));co_applyP tr (i := 7) rfl (av (hf := ep)) (ai (hxm _ hxk2));co_applyP tr (i := 8) rfl (a0 Tryz.underlying113 gm) (ai (hxm _ hxk2));co_applyP t0 (i := 9) rfl (aC (ht := pM)) (ai (hxm _ hxk2));co_applyP tr (i := 10) rfl aj (ai (hxm _ hxk2));co_applyP tr (i := 12) rfl aL (ai (hxm _ hxk2));co_applyP tr (i := 13) rfl (av (hf := ep)) (ai (hxm _ hxk2));co_applyP tc (i := 11) rfl rfl rfl (g2');rintro _ _ _ ⟨rfl, a', rfl, hp, hab⟩;refine ⟨aE (hxm _ (hp.sub _ hxk2 hyx)), ?_⟩;rename_i L3;co_applyP to (i := 14) rfl ((a0 Tryz.underlying113 gm)) (aE (hxm _ (hp.sub _ hxk2 hyx)));co_applyP ba;intro hnd';have hK3 := hp.sub _ hR2.k hyK;have hxKne : xk ≠ K := fun e => hA1.new _ hR.k e.symm;co_applyP te (i := 15) rfl (fb (hnd := hnd') (hm := hK3) (hi := by rw [bC]; omega) (hp := eQ _ _) (hs := gm));rintro _ _ ⟨rfl, hU4⟩;refine ⟨aE (hxm _ (hU4.ne _ (hp.sub _ hxk2 hyx) hxKne)), ?_⟩;rename_i L4;co_applyP td (by kernel_rfl);change wpE ..;co_applyP ae;co_applyP aa;co_applyP oy rfl aj;co_applyP oy rfl aj;co_applyP oy rfl (cg (hs := Tryz.underlying3) (ht := Tryz.underlying32));co_applyP oy rfl aL;co_applyP oy rfl (av (hf := aD));co_applyP oy rfl (av (hf := aY));co_applyP oy rfl (a0 Tryz.underlying47 a9);have hR4 : Rep K (A.setY k.1 a') ((S.setP b (x.poke (x.r 1).toNat ((S.by_ k.1).take nn))).setY k.1 ((S.by_ k.1).drop nn)) Fr L4 := by
   refine hR2.setBytes hk5 hU4.fn ?_ (fun t ht h1 h2 => hU4.ne _ (hp.sub _ ht h2) h1) ?_ (fun c hc => .inl (by rw [← hab]; exact hc))
   · show (K, true, Obj.cells (kcells _) 115) ∈ L4;have := hU4.self;rw [mi _ hk5] at this;rw [oZ, List.length_drop];exact this
   · rw [List.map_drop];refine hp.ok.mono fun c hc o ho => hU4.ne _ ho fun e => ?_;rw [hab] at hc;exact hyK (by rw [hc]; exact congrArg some e)
 have hb4 : (b, x.poke (x.r 1).toNat ((S.by_ k.1).take nn)) ∈ ((S.setP b (x.poke (x.r 1).toNat ((S.by_ k.1).take nn))).setY k.1 ((S.by_ k.1).drop nn)).ps := hb2;have wn : IntKind.u16.wrap ((nn : Nat) : Int) = ((nn : Nat) : Int) := by rw [cL]; omega
 rw [wn];co_applyP osm rfl (hs := a9) (hm := hR4.p _ hb4) (hi := by first | decide | (rw [bg]; omega) | (rw [bC]; omega));intro L5 hU5;have h7 : (pcells (x.poke (x.r 1).toNat ((S.by_ k.1).take nn))).setIfInBounds (7 + 0) (.int .u16 ((nn : Nat) : Int)) = pcells (x.got (S.by_ k.1)) := by rw [dF _ (by omega)]; unfold PS.got; simp only [← hnn]
 have hR5 := hR4.setP hb4 (x' := x.got (S.by_ k.1)) (h7 ▸ hU5);co_applyP ah;change wpE ..;co_applyP ae;co_applyP aa;co_applyP oy rfl ak;co_applyP ah;change wpE ..;co_applyP aJ;change ∃ v, resE .. = some v ∧ _;refine ⟨_, rfl, rfl, rfl, A.setY k.1 a', ⟨rfl, ⟨rfl, rfl, rfl⟩, ⟨rfl, rfl, rfl⟩⟩, ?_⟩;have e6 : ((S.setP b (x.poke (x.r 1).toNat ((S.by_ k.1).take nn))).setY k.1 ((S.by_ k.1).drop nn)).setP b (x.got (S.by_ k.1)) = S.readP b x k := by
   unfold St.readP St.setP St.setY;rw [← hnn];simp only [List.map_map];congr 1;apply List.map_congr_left;intro q _;simp only [Function.comp]
   split
   · simp
   · rename_i h; simp [h]
 rw [e6] at hR5;exact hR5
end Go.Proofs.YtejkelcaljmnoaaGreatDoor
