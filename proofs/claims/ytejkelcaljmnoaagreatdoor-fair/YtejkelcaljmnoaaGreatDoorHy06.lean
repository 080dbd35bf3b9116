/-
  Part 6 of the proof.
  No condition but those that each statement names.
-/
import Derived.Test.YtejkelcaljmnoaaGreatDoorHy05
set_option maxRecDepth 100000
set_option maxHeartbeats 4000000
set_option linter.unusedVariables false
set_option linter.unusedSimpArgs false
set_option linter.unusedSectionVars false
namespace Go.Proofs.YtejkelcaljmnoaaGreatDoor
open Go.Conc Go.Hx Go.Lo
theorem b4 {S : St} {x : PS} {i : Nat} (h : S.childAt x = some i) : ∃ q, S.ps[i]? = some q ∧ q.2.par = x.id ∧ q.2.st = 6 := by
 obtain ⟨hil, hti, _⟩ := List.findIdx?_eq_some_iff_getElem.1 h;refine ⟨S.ps[i], List.getElem?_eq_getElem hil, ?_⟩;simpa [isChildEnded] using hti
theorem iq {S : St} {b : Nat} (h : ∀ q ∈ S.ps, q.1 ≠ b) : S.get b = none := by
 unfold St.get;rw [List.find?_eq_none.2 fun q hq => by simpa using h q hq]; rfl
theorem jn : ∃ n, ∀ {σ} {F : Fam σ} {Δ : DM F} {main s} (K : Nat) (A : Lay) (S : St) (Fr L : Frag), (∀ cs, (Δ s).New (.cells cs 93)) → Rep K A S Fr L → Good S → S.ps ≠ [] →
   CallsL Δ Tryz.prog main 110 [ptr K].toArray n s L (fun s' v L' => s = s' ∧ v = .tuple #[] ∧ Good (S.parents (S.ps.map (·.1))) ∧ ∃ A' G, (∀ q ∈ S.ps, (∃ z, (q.1, z) ∈ (S.parents (S.ps.map (·.1))).ps) ∨ ∃ z, pb q.1 z ∈ G ∧ z.st = 6) ∧ Rep K A' (S.parents (S.ps.map (·.1))) (G ++ Fr) L') := by
 obtain ⟨n1, g1⟩ := iT;obtain ⟨n2, g2⟩ := jW;obtain ⟨n3, g3⟩ := wE;apply Exists.intro;intro σ F Δ main s K A S Fr L hN hR hG hne;obtain ⟨Q, hQ⟩ : ∃ Q, (A.a 0).b = some Q := by
   cases h : (A.a 0).b with
   | some Q => exact ⟨Q, rfl⟩
   | none =>
     have := hR.pa;unfold slOk at this;rw [h] at this;simp at this;exact absurd this.1 hne
 have hpa := hR.pa.mem hQ;have h8 := hR.p8;have hpos : 0 < S.ps.length := List.length_pos_iff.2 hne;have h5 : At L K 5 (.slice (some ⟨Q, 0, none⟩) (S.ps.map fun q => ptr q.1).length ((S.ps.map fun q => ptr q.1).length + (A.a 0).junk.length)) := by
   have e : slv (A.a 0) S.ps.length = .slice (some ⟨Q, 0, none⟩) (S.ps.map fun q => ptr q.1).length ((S.ps.map fun q => ptr q.1).length + (A.a 0).junk.length) := by unfold slv; rw [hQ]; simp
   rw [← e]; exact hR.kat rfl
 co_applyP aB 29 Tryz.func110 Tryz.ntmps110;co_applyP ai;co_applyP oy rfl ah;co_applyP oy rfl aK;co_applyP oy rfl (av (hf := bJ));co_applyP oy rfl (aG (ht := cV));co_applyP oc rfl rfl rfl (g3 L Q (S.ps.map fun q => ptr q.1) (A.a 0).junk hN hpa (by simpa using hpos) (by simpa using h8));rintro _ _ _ ⟨rfl, cb, cap, jk, rfl, hE, hfr, hcb⟩;co_applyP oy rfl (bt (hu := U91));co_applyP oy rfl ah;co_applyP aa;co_applyP aJ;rename_i L1;have hR1 := hR.fresh hE hfr hcb;co_applyP bF (fun k s' ε' L' => s' = s ∧ ∃ l1 l2 A' G, S.ps = l1 ++ l2 ∧ Rep K A' (S.parents (l1.map (·.1))) (G ++ (cb, true, Obj.cells ((S.ps.map fun q => ptr q.1) ++ jk).toArray 93) :: Fr) L' ∧ Good (S.parents (l1.map (·.1))) ∧ (∀ q ∈ S.ps, (∃ z, (q.1, z) ∈ (S.parents (l1.map (·.1))).ps) ∨ ∃ z, pb q.1 z ∈ G ∧ z.st = 6) ∧ k + l1.length = 8 ∧ kn ε' [(10, .int .i64 l1.length), (9, .int .i64 (S.ps.map fun q => ptr q.1).length), (8, .slice (some ⟨cb, 0, none⟩) (S.ps.map fun q => ptr q.1).length cap), (0, ptr K)]) 8
 · exact ⟨rfl, [], S.ps, A, [], rfl, hR1, hG, fun q hq => .inl ⟨q.2, hq⟩, rfl, rfl⟩
 rintro k s' ε' L' ⟨rfl, l1, l2, A', G, hl, hR', hG', hall, hk, he⟩;co_applyP a0 he;have hlen := congrArg List.length hl;simp only [List.length_append] at hlen;have hcb' := hR'.fr _ (List.mem_append_right G List.mem_cons_self);co_applyP ai;co_applyP oy rfl ci;co_applyP aa;co_applyP ar;co_applyP bi rfl;intro hlt
 · cases l2 with
   | nil => simp at hlt hlen; omega
   | cons q l2 =>
     simp at hlen;have hav : At L' cb l1.length (ptr q.1) := ⟨true, _, _, _, hcb', by rw [List.getElem?_toArray, List.getElem?_append_left (by simp; omega), hl]; simp⟩;have hlt' : (l1.length : Int) < (S.ps.map fun q => ptr q.1).length := by simpa using hlt
     have elen : IntKind.i64.wrap ((l1.length : Int) + 1) = ((l1 ++ [q]).length : Int) := by simp [IntKind.wrap_i64]; omega
     have hq : q ∈ S.ps := by rw [hl]; simp
     have hnext : S.parents ((l1 ++ [q]).map (·.1)) = (S.parents (l1.map (·.1))).parent1 q.1 := by rw [List.map_append, j8]; rfl
     generalize hS' : S.parents (l1.map (·.1)) = S' at *;obtain ⟨z, hzm, hzc⟩ : ∃ z, pb q.1 z ∈ L' ∧ ((q.1, z) ∈ S'.ps ∨ (z.st = 6 ∧ ∀ r ∈ S'.ps, r.1 ≠ q.1)) := by
       rcases hall q hq with ⟨z, hz⟩ | ⟨z, hz, h6⟩
       · exact ⟨z, hR'.p _ hz, .inl hz⟩
       · have hm : pb q.1 z ∈ G ++ (cb, true, Obj.cells ((S.ps.map fun q => ptr q.1) ++ jk).toArray 93) :: Fr := List.mem_append_left _ hz;exact ⟨z, hR'.fr _ hm, .inr ⟨h6, fun r hr => Ne.symm ((hR'.fd _ hm).2.1 r hr)⟩⟩
     have hz2 : At L' q.1 2 (.int .i64 (z.st : Nat)) := ⟨true, _, _, _, hzm, rfl⟩;co_applyP aC;co_applyP ar;co_applyP aJ;co_applyP ai;co_applyP oy rfl (bu U91 bG);co_applyP oy rfl (aG (ht := cW));co_applyP oy rfl aj;co_applyP aa;co_applyP dP (fun s'' ε'' L'' => s' = s'' ∧ ∃ (t : Bool) (A2 : Lay) (G2 : Frag) (S2 : St), Rep K A2 S2 (G2 ++ (cb, true, Obj.cells ((S.ps.map fun q => ptr q.1) ++ jk).toArray 93) :: Fr) L'' ∧ kn ε'' [(24, .bool t), (3, ptr q.1), (10, .int .i64 l1.length), (9, .int .i64 (S.ps.map fun q => ptr q.1).length), (8, .slice (some ⟨cb, 0, none⟩) (S.ps.map fun q => ptr q.1).length cap), (0, ptr K)] ∧ ((t = true ∧ z.st = 2 ∧ (q.1, z) ∈ S'.ps ∧ ∃ i c y, S'.childAt z = some i ∧ S'.ps[i]? = some (c, y) ∧ y.st = 6 ∧ S2 = ({ S'.setPs (S'.ps.eraseIdx i) with last := S'.last } : St).setP q.1 (told z y) ∧ G2 = pb c y :: G) ∨ (t = false ∧ S2 = S' ∧ G2 = G ∧ S'.parent1 q.1 = S')));co_applyP bL (z.st = 2);intro h2
     · have hz : (q.1, z) ∈ S'.ps := by
         rcases hzc with h | ⟨h, _⟩
         · exact h
         · omega
       have hget := bf hG'.pn hz;have e2 : ((z.st : Int) == 2) = true := by simp; omega
       co_applyP ay;co_applyP oy rfl ah;co_applyP oy rfl aK;co_applyP oy rfl (av (hf := aD));co_applyP oy rfl (av (hf := cv));co_applyP oy rfl (aG (ht := aY));co_applyP oy rfl aA;co_applyP oy rfl ah;rw [e2];co_applyP oy rfl (ah);co_applyP oy rfl (ah);co_applyP oc rfl rfl rfl (g1 K A' S' _ L' q.1 z hN hR' hz (by omega));rintro _ _ _ ⟨rfl, hpost⟩;co_applyP qm (S'.childAt z = none);intro hca
       · rw [hca] at hpost;obtain ⟨rfl, hR2⟩ := hpost;co_applyP oy rfl aN;co_applyP aa;change _ = _ ∧ ∃ (t : Bool) (A2 : Lay) (G2 : Frag) (S2 : St), _;have hn2 : S'.parent1 q.1 = S' := by unfold St.parent1; rw [hget]; simp only [h2, if_true, hca]
         exact ⟨rfl, false, A', G, S', hR2, rfl, .inr ⟨rfl, rfl, rfl, hn2⟩⟩
       intro hca;obtain ⟨i, hi⟩ : ∃ i, S'.childAt z = some i := by
         cases h : S'.childAt z with
         | none => exact absurd h hca
         | some i => exact ⟨i, rfl⟩
       rw [hi] at hpost;obtain ⟨rfl, c, y, a', hcy, hR2⟩ := hpost;obtain ⟨qc, hqc, _, hq6⟩ := b4 hi;rw [hcy] at hqc;obtain rfl : (c, y) = qc := by simpa using hqc
       co_applyP oy rfl aN;co_applyP aa;change _ = _ ∧ ∃ (t : Bool) (A2 : Lay) (G2 : Frag) (S2 : St), _;exact ⟨rfl, true, _, pb c y :: G, _, hR2, rfl, .inl ⟨rfl, h2, hz, i, c, y, hi, hcy, hq6, rfl, rfl⟩⟩
     intro h2;have e2 : ((z.st : Int) == 2) = false := by simp; omega
     have hn2 : S'.parent1 q.1 = S' := by
       rcases hzc with hz | ⟨_, hno⟩
       · unfold St.parent1; rw [bf hG'.pn hz]; simp only [h2, if_false]
       · unfold St.parent1; rw [iq hno]
     co_applyP ay;co_applyP oy rfl ah;co_applyP oy rfl aK;co_applyP oy rfl (av (hf := aD));co_applyP oy rfl (av (hf := cv));co_applyP oy rfl (aG (ht := aY));co_applyP oy rfl aA;co_applyP oy rfl ah;rw [e2];co_applyP ou rfl;co_applyP ou rfl;co_applyP ou rfl;co_applyP oy rfl aN;co_applyP aa;change _ = _ ∧ ∃ (t : Bool) (A2 : Lay) (G2 : Frag) (S2 : St), _;exact ⟨rfl, false, A', G, S', hR', rfl, .inr ⟨rfl, rfl, rfl, hn2⟩⟩;rintro s'' ε'' L'' ⟨rfl, t, A2, G2, S2, hR2, he2, hcase⟩;co_applyP a0 he2;co_applyP bi rfl;intro ht;co_applyP ay;co_applyP oy rfl ah;co_applyP oy rfl ah
     · have ht' : t = true := by simpa using ht
       obtain ⟨h2, hz, i, c, y, hi, hcy, hy6, rfl, rfl⟩ : z.st = 2 ∧ (q.1, z) ∈ S'.ps ∧ ∃ i c y, S'.childAt z = some i ∧ S'.ps[i]? = some (c, y) ∧ y.st = 6 ∧ S2 = ({ S'.setPs (S'.ps.eraseIdx i) with last := S'.last } : St).setP q.1 (told z y) ∧ G2 = pb c y :: G := by
         rcases hcase with h | h
         · exact h.2
         · rw [ht'] at h; exact absurd h.1 (by simp)
       have hget := bf hG'.pn hz;have hG2 : Good { S'.setPs (S'.ps.eraseIdx i) with last := S'.last } := hG'.erase hcy (by omega);have hzi : (q.1, z) ∈ S'.ps.eraseIdx i := by
         obtain ⟨j, hj⟩ := List.getElem?_of_mem hz;have hji : j ≠ i := fun e => by subst e; rw [hj] at hcy; simp at hcy; have := hcy.2; subst this; omega
         rw [List.mem_eraseIdx_iff_getElem?];exact ⟨j, hji, hj⟩
       have hG3 : Good (({ S'.setPs (S'.ps.eraseIdx i) with last := S'.last } : St).setP q.1 (told z y)) := hG2.like hzi rfl rfl;have hz3 : (q.1, told z y) ∈ (({ S'.setPs (S'.ps.eraseIdx i) with last := S'.last } : St).setP q.1 (told z y)).ps := aq hzi;have hn2 : S'.parent1 q.1 = (({ S'.setPs (S'.ps.eraseIdx i) with last := S'.last } : St).setP q.1 (told z y)).wake1 q.1 (told z y) := by
         unfold St.parent1; rw [hget]; simp only [h2, if_true, hi, hcy, St.take]
       rw [hn2] at hnext;co_applyP oc rfl rfl rfl (g2 K _ _ _ _ q.1 (told z y) hN hR2 hz3 (hG3.lv _ hz3) (hG3.r8 (hG3.lv _ hz3)) (fun e _ => cC _ (hG3.lv _ hz3)));rintro _ _ _ ⟨rfl, rfl, A3, hr2, hR3⟩;co_applyP aa;co_applyP ay;co_applyP oy rfl a8;co_applyP oy rfl ah;co_applyP aa;change ∃ k', k' < _ ∧ _;refine ⟨k - 1, by omega, rfl, l1 ++ [q], l2, A3, pb c y :: G, by simp [hl], ?_, ?_, ?_, by simp; omega, ?_⟩
       · rw [hnext]; exact hR3
       · rw [hnext]; exact hG3.wake1 hz3 (by show z.st ≠ 1; omega)
       · intro r hr;rcases hall r hr with ⟨w, hw⟩ | ⟨w, hw, h6⟩
         · by_cases erc : r.1 = c
           · exact .inr ⟨y, by rw [erc]; exact List.mem_cons_self, hy6⟩
           · left;have hwi : (r.1, w) ∈ S'.ps.eraseIdx i := by
               obtain ⟨j, hj⟩ := List.getElem?_of_mem hw;have hji : j ≠ i := fun e => by subst e; rw [hj] at hcy; simp at hcy; exact erc hcy.1
               rw [List.mem_eraseIdx_iff_getElem?];exact ⟨j, hji, hj⟩
             have : r.1 ∈ (S.parents ((l1 ++ [q]).map (·.1))).ps.map (·.1) := by
               rw [hnext];show r.1 ∈ ((({ S'.setPs (S'.ps.eraseIdx i) with last := S'.last } : St).setP q.1 (told z y)).setP q.1 _).ps.map (·.1);rw [aU, aU];exact List.mem_map.2 ⟨_, hwi, rfl⟩
             obtain ⟨u, hu, he⟩ := List.mem_map.1 this;exact ⟨u.2, by rw [← he]; exact hu⟩
         · exact .inr ⟨w, List.mem_cons_of_mem _ hw, h6⟩
       · rw [← elen]; rfl
     intro ht;co_applyP aC;co_applyP ay;co_applyP oy rfl a8;co_applyP oy rfl ah;co_applyP aa;change ∃ k', k' < _ ∧ _;have ht' : t = false := by simpa using ht
     obtain ⟨rfl, rfl, hn2⟩ : S2 = S' ∧ G2 = G ∧ S'.parent1 q.1 = S' := by
       rcases hcase with h | h
       · rw [ht'] at h; exact absurd h.1 (by simp)
       · exact h.2
     rw [hn2] at hnext;refine ⟨k - 1, by omega, rfl, l1 ++ [q], l2, A2, G2, by simp [hl], ?_, ?_, ?_, by simp; omega, ?_⟩
     · rw [hnext]; exact hR2
     · rw [hnext]; exact hG'
     · rw [hnext]; exact hall
     · rw [← elen]; rfl
 intro hlt;co_applyP bN;change ∃ v, resE .. = some v ∧ _;cases l2 with
 | nil =>
   have e : l1 = S.ps := by rw [hl]; simp
   subst e;exact ⟨_, rfl, rfl, rfl, hG', A', G, hall, hR'.less fun t ht => (List.mem_append.1 ht).elim (fun h => List.mem_append_left _ h) fun h => List.mem_append_right _ (List.mem_cons_of_mem _ h)⟩
 | cons q l2 => simp at hlt hlen; omega
theorem ir : ∃ n, ∀ {σ} {F : Fam σ} {Δ : DM F} {main s} (L : Frag) (k : Nat × Nat), (∀ cs, (Δ s).New (.cells cs 96)) →
   CallsL Δ Tryz.prog main 126 [keyv k].toArray n s L (fun s' v L' => s = s' ∧ v = .bool (decide (k = (0, 0))) ∧ Ext L L') := by
 apply Exists.intro;intro σ F Δ main s L k hN;co_applyP aB 6 Tryz.func126 Tryz.ntmps126;co_applyP ai;co_applyP bI rfl (bS (hN _));intro xk L1 hA;co_applyP oy rfl aj;co_applyP aa;co_applyP ai;co_applyP oy rfl (a5 (ht := bH) (hs := bh) (hm := hA.self) (hi := Nat.le_refl _));co_applyP oy rfl (bl ul);co_applyP oy rfl (xW (k := k) (k' := (0, 0)) eq (xX k (0, 0)));co_applyP oy rfl aj;co_applyP aa;co_applyP aI;change ∃ v, resE .. = some v ∧ _;exact ⟨_, rfl, rfl, rfl, hA.fn, hA.sub⟩
section
variable {P : Program} {New : Obj → Prop} {N : Nat} {ε : Env} {L : Frag} {d : Option Tmp} {ty t u e e2 : TypeId} {ps : String} {af : Array Edge} {g : Option (Nat × Bool)} {x y : Operand}
theorem po {sz : Nat} {yb : Option Addr} {yc : Nat} {vs : Array Value} (hx : ev ε x = some (.slice none 0 0) := by rfl) (hy : ev ε y = some (.slice yb 0 yc) := by rfl) (hu : P.underlying t = some (.slice e)) (hv : P.underlying u = some (.slice e2)) (hs : sizeAt P e = some sz) (hr : Reads P L sz 0 (.slice yb 0 yc) vs) :
   EO P New N ε L ⟨d, .call ⟨.builtin .append, #[x, y], #[t, u]⟩, ty, ps, af, g⟩ (fun r L' => r = .slice none 0 0 ∧ L = L') := by
 intro a ha;refine cu (s := Builtin.append_ #[t, u] ty #[.slice none 0 0, .slice yb 0 yc]) (fun _ => by simp [builtin, ha.ev hx, ha.ev hy]) ?_;unfold Builtin.append_;simp only [List.getElem?_toArray, List.getElem?_cons_zero, List.getElem?_cons_succ];rw [au, aQ hu];simp only [];rw [au, bM hs];rw [au, aQ hv, au, bm];simp only [Bool.false_eq_true, if_false, Bool.not_false, if_true, Builtin.lenOf];rw [au, bm];simp only [Nat.add_zero, Nat.le_refl, if_true];rw [au];refine hr.r New _ ?_;exact ⟨rfl, rfl⟩
end
structure ApR (L : Frag) (a : Sl) (zs : List Nat) (a' : Sl) (L' : Frag) : Prop where
 ok : slOk a' (zs.map ptr) 93 L'
 fn : Fun L'
 sub : ∀ t ∈ L, a.b ≠ some t.1 → t ∈ L'
 d : ∀ b, a'.b = some b → a.b = some b ∨ ∀ t ∈ L, t.1 ≠ b
section
variable {New : Obj → Prop} {N : Nat} {ε : Env} {L : Frag} {d : Option Tmp} {ty : TypeId} {ps : String} {af : Array Edge} {g : Option (Nat × Bool)} {x y : Operand}
theorem lm {a : Sl} {xs : List Nat} (ha : slOk a (xs.map ptr) 93 L) : Reads Tryz.prog L 1 xs.length (slv a xs.length) (xs.map ptr).toArray := by
 cases hab : a.b with
 | none =>
   unfold slOk at ha;rw [hab] at ha;obtain rfl : xs = [] := by simpa using ha.1
   have e3 : slv a 0 = .slice none 0 0 := by unfold slv; rw [hab]
   show Reads Tryz.prog L 1 0 (slv a 0) #[];rw [e3]; exact dw
 | some b =>
   have hm := ha.mem hab;have e3 : slv a xs.length = .slice (some ⟨b, 0, none⟩) xs.length (xs.length + a.junk.length) := by unfold slv; rw [hab]
   rw [e3];have := bZ (P := Tryz.prog) (sz := 1) (n := xs.length) (len := xs.length) (cap := xs.length + a.junk.length) (o := 0) hm (by simp);have e7 : (xs.map ptr ++ a.junk).take xs.length = xs.map ptr := by rw [List.take_append_of_le_length (by simp)]; exact List.take_of_length_le (by simp)
   simpa [e7] using this
theorem Al {a a2 : Sl} {xs ys : List Nat} (hx : ev ε x = some (slv a xs.length) := by rfl) (hy : ev ε y = some (slv a2 ys.length) := by rfl) (hnd : (L.map (·.1)).Nodup) (hN : ∀ cs, New (.cells cs 93)) (ha : slOk a (xs.map ptr) 93 L) (ha2 : slOk a2 (ys.map ptr) 93 L) (h8 : xs.length ≤ 1000) (h8' : ys.length ≤ 1000) :
   EO Tryz.prog New N ε L ⟨d, .call ⟨.builtin .append, #[x, y], #[91, 91]⟩, ty, ps, af, g⟩ (fun r L' => ∃ a', r = slv a' (xs ++ ys).length ∧ ApR L a (xs ++ ys) a' L') := by
 have hws := lm ha;have hr := lm ha2;obtain ⟨yb, yc, hyb⟩ : ∃ yb yc, slv a2 ys.length = .slice yb ys.length yc := by
   unfold slv;cases hb : a2.b with
   | none =>
     unfold slOk at ha2;rw [hb] at ha2;obtain rfl : ys = [] := by simpa using ha2.1
     exact ⟨none, 0, rfl⟩
   | some b => exact ⟨_, _, rfl⟩
 rw [hyb] at hy hr
 have grow : ∀ (cap0 : Nat), (∃ base, slv a xs.length = .slice base xs.length cap0) → cap0 < xs.length + ys.length →
     EO Tryz.prog New N ε L ⟨d, .call ⟨.builtin .append, #[x, y], #[91, 91]⟩, ty, ps, af, g⟩ (fun r L' => ∃ a', r = slv a' (xs ++ ys).length ∧ ApR L a (xs ++ ys) a' L') := by
   rintro cap0 ⟨base, hb⟩ hc;rw [hb] at hws hx;intro ac hac;refine bO ?_ _ _ (lg (by_ := 7) (New := New) hx hy (bA hnd) U91 U91 bG pd ii hws hr hc (by omega) hN ac hac);intro r L' q;cases r <;> try exact q.elim
   · obtain ⟨b, cap, h1, h2, rfl, hA⟩ := q;rw [ep rfl] at hA;refine ⟨⟨some b, List.replicate (cap - (xs.length + ys.length)) (.pointer none)⟩, ?_, ?_, hA.fn, fun t ht _ => hA.sub t ht, fun b' hb' => .inr ?_⟩
     · unfold slv; simp; omega
     · have e5 : (xs.map ptr).toArray ++ (ys.map ptr).toArray ++ (List.replicate (cap - (xs.length + ys.length)) (Value.pointer none)).toArray = ((xs ++ ys).map ptr ++ List.replicate (cap - (xs.length + ys.length)) (Value.pointer none)).toArray := by
         apply Array.ext'; simp
       rw [e5] at hA;exact hA.self
     · obtain rfl : b = b' := by simpa using hb'
       exact hA.new
   · obtain ⟨b, cap, _, _, e, _⟩ := q; cases e
 cases hab : a.b with
 | none =>
   have h2 := ha;unfold slOk at h2;rw [hab] at h2;obtain ⟨e1, e2⟩ := h2;obtain rfl : xs = [] := by simpa using e1
   have e3 : slv a 0 = .slice none 0 0 := by unfold slv; rw [hab]
   by_cases h0 : 0 < ys.length
   · exact grow 0 ⟨none, e3⟩ (by simpa using h0)
   · obtain rfl : ys = [] := List.length_eq_zero_iff.1 (by omega);intro ac hac;rw [List.length_nil, e3] at hx;refine bO ?_ _ _ (po (New := New) hx hy U91 U91 bG hr ac hac);intro r L' q;cases r <;> try exact q.elim
     · obtain ⟨rfl, rfl⟩ := q;exact ⟨a, e3.symm, ha, bA hnd, fun t ht _ => ht, fun b hb => by rw [hab] at hb; cases hb⟩
     · exact absurd q.1 (by simp [undef])
 | some b =>
   have hm := ha.mem hab;have e3 : slv a xs.length = .slice (some ⟨b, 0, none⟩) xs.length (xs.length + a.junk.length) := by unfold slv; rw [hab]
   by_cases hj : ys.length ≤ a.junk.length
   · intro ac hac;rw [e3] at hx;refine bO ?_ _ _ (jP (New := New) hx hy hnd U91 U91 bG hr (by omega) hm (by simp; omega) (by simp [plainV]) ac hac);intro r L' q;cases r <;> try exact q.elim
     · obtain ⟨rfl, hU⟩ := q;have e4 : puts (xs.map ptr ++ a.junk).toArray (0 + xs.length * 1) (ys.map ptr).toArray.toList = ((xs ++ ys).map ptr ++ a.junk.drop ys.length).toArray := by
         rw [bX _ _ _ (by simp; omega)];have e6 : (xs.map ptr ++ a.junk).drop (xs.length + ys.length) = a.junk.drop ys.length := by
           rw [List.drop_append]; simp
         have e7 : (xs.map ptr ++ a.junk).take xs.length = xs.map ptr := by rw [List.take_append_of_le_length (by simp)]; exact List.take_of_length_le (by simp)
         simp [e6, e7]
       rw [e4] at hU;refine ⟨⟨some b, a.junk.drop ys.length⟩, ?_, hU.self, hU.fn, fun t ht hne => hU.ne t ht fun e => hne (by rw [hab, e]), fun b' hb' => .inl (by rw [hab]; exact hb')⟩;unfold slv; simp; omega
     · exact absurd q.1 (by simp [undef])
   · exact grow (xs.length + a.junk.length) ⟨_, e3⟩ (by omega)
end
def St.raise1 (S : St) (l : Nat) : St := (S.setRow 0 (S.rows 0 ++ S.rows l)).setRow l []
def St.raises (S : St) : Nat → St
 | 0 => S
 | n + 1 => (S.raises n).raise1 (n + 1)
theorem j9 (S : St) {n j : Nat} (h : n < j) : (S.raises n).rows j = S.rows j := by
 induction n with
 | zero => rfl
 | succ n ih =>
   show put (put (S.raises n).rows 0 _) (n + 1) [] j = _;unfold put;rw [if_neg (by omega), if_neg (by omega)];exact ih (by omega)
theorem kf (S : St) (h : ∀ l, l < 3 → (S.rows l).length ≤ 8) : ∀ n, n < 3 → ((S.raises n).rows 0).length ≤ 8 * (n + 1)
 | 0, _ => h 0 (by omega)
 | n + 1, hn => by
   have h1 := kf S h n (by omega);have h2 : ((S.raises n).rows (n + 1)).length ≤ 8 := by rw [j9 S (by omega)]; exact h _ hn
   have e : (S.raises (n + 1)).rows 0 = (S.raises n).rows 0 ++ (S.raises n).rows (n + 1) := by
     simp [St.raises, St.raise1, St.setRow, put]
   rw [e, List.length_append];omega
theorem nL : ∃ n, ∀ {σ} {F : Fam σ} {Δ : DM F} {main s} (K : Nat) (A : Lay) (S : St) (Fr L : Frag), (∀ cs, (Δ s).New (.cells cs 93)) → Rep K A S Fr L → (∀ l, l < 3 → (S.rows l).length ≤ 8) →
   CallsL Δ Tryz.prog main 92 [.pointer (some ⟨K, 7, none⟩)].toArray n s L (fun s' v L' => s = s' ∧ v = .tuple #[] ∧ ∃ A', LRel A A' ∧ Rep K A' (S.raises 2) Fr L') := by
 apply Exists.intro;intro σ F Δ main s K A S Fr L hN hR h8;co_applyP aB 24 Tryz.func92 Tryz.ntmps92;co_applyP ai;co_applyP oy rfl aj;co_applyP aa;co_applyP aJ;co_applyP bF (fun k s' ε' L' => s' = s ∧ ∃ n A', n ≤ 2 ∧ k + n = 2 ∧ LRel A A' ∧ Rep K A' (S.raises n) Fr L' ∧ kn ε' [(2, .int .i64 ((n + 1 : Nat) : Int)), (0, .pointer (some ⟨K, 7, none⟩))]) 2
 · exact ⟨rfl, 0, A, by omega, rfl, LRel.refl A, hR, rfl⟩
 rintro k s' ε' L' ⟨rfl, n, A', hn, hk, hr, hR', he⟩;co_applyP a0 he;co_applyP ar;co_applyP ai;co_applyP oy rfl ah;co_applyP oy rfl ci;co_applyP aa;co_applyP bi rfl;intro hlt
 · have hn2 : n < 2 := by
     have : ((n + 1 : Nat) : Int) < 3 := by simpa using hlt
     omega
   have h0 : At L' K 7 (slv (A'.a (0 + 1)) ((S.raises n).rows 0).length) := hR'.kat (jV (kst A' (S.raises n)) (l := 0) (by omega));have h1 : At L' K (7 + (n + 1)) (slv (A'.a (n + 1 + 1)) ((S.raises n).rows (n + 1)).length) := hR'.kat (jV (kst A' (S.raises n)) (l := n + 1) (by omega));have hl0 := kf S h8 n (by omega);have hl1 : ((S.raises n).rows (n + 1)).length ≤ 8 := by rw [j9 S (by omega)]; exact h8 _ (by omega)
   have elen : IntKind.i64.wrap (((n + 1 : Nat) : Int) + 1) = ((n + 1 + 1 : Nat) : Int) := by simp [IntKind.wrap_i64]; omega
   have hix : ((n + 1 : Nat) : Int) < 3 := by omega
   have hkne : (A'.a (0 + 1)).b ≠ some K := hR'.row_ne (l := 0) (by omega) hR'.k (eM (by decide));co_applyP aC;co_applyP ar;co_applyP aJ;co_applyP ar;co_applyP bj [] 10 (nf := 0) aZ;co_applyP tr (i := 0) rfl ah (ae (by simp));co_applyP tr (i := 1) rfl ah (ae (by simp));co_applyP tr (i := 2) rfl aK (ae (by simp));co_applyP tr (i := 3) rfl (aW l9 ee) (ae (by simp));co_applyP t0 (i := 4) rfl (aG (ht := cV)) (ae (by simp));co_applyP tr (i := 5) rfl ah (ae (by simp));co_applyP tr (i := 6) rfl ah (ae (by simp));co_applyP tr (i := 7) rfl aK (ae (by simp));co_applyP tr (i := 8) rfl (aW l9 ee) (ae (by simp));co_applyP t0 (i := 9) rfl (aG (ht := cV)) (ae (by simp));co_applyP tr (i := 11) rfl aK (ae (by simp));co_applyP a7;intro hnd;co_applyP te (i := 10) rfl (Al (a := A'.a (0 + 1)) (a2 := A'.a (n + 1 + 1)) (hnd := hnd) (hN := hN) (ha := hR'.rw 0 (by omega)) (ha2 := hR'.rw (n + 1) (by omega)) (h8 := by omega) (h8' := by omega));rintro _ _ ⟨a', rfl, hp⟩;refine ⟨aE (by simp), ?_⟩;rename_i L2;co_applyP to (i := 12) rfl ((aW l9 ee)) (aE (by simp));co_applyP a7;intro hnd';co_applyP te (i := 13) rfl (eW (hnd := hnd') (hm := hp.sub _ hR'.k hkne) (hi := by rw [bw]; omega) (hp := eL _ _) (hs := ee));rintro _ _ ⟨rfl, hU⟩;refine ⟨aE (by simp), ?_⟩;rename_i L3;have e7 : (kcells (kst A' (S.raises n))).setIfInBounds (7 + 0) (slv a' ((S.raises n).rows 0 ++ (S.raises n).rows (n + 1)).length) = kcells (kst (A'.setA (0 + 1) a') ((S.raises n).setRow 0 ((S.raises n).rows 0 ++ (S.raises n).rows (n + 1)))) := by
     rw [ij _ (by omega), ju _ _ _ _ _ (by omega)]
   have hR3 : Rep K (A'.setA (0 + 1) a') ((S.raises n).setRow 0 ((S.raises n).rows 0 ++ (S.raises n).rows (n + 1))) Fr L3 := by
     refine hR'.setRow (l := 0) (by omega) hU.fn ?_ (fun t ht h1 h2 => hU.ne _ (hp.sub _ ht h2) h1) ?_ (fun b hb => ?_) (fun e _ => cC _ (by omega))
     · show (K, true, Obj.cells (kcells _) 115) ∈ L3;rw [← e7]; exact hU.self
     · refine hp.ok.mono fun c hc o ho => hU.ne _ ho fun e => ?_;rcases hp.d c hc with h | h
       · exact hkne (by rw [h]; exact congrArg some e)
       · exact h _ hR'.k e.symm
     · rcases hp.d b hb with h | h
       · exact .inl h
       · exact .inr ⟨fun i hi => by obtain ⟨xs, hx⟩ := hR'.al i b hi; exact h _ hx rfl, fun t ht => h _ (hR'.fr t ht)⟩
   co_applyP td (by kernel_rfl);co_applyP ay;co_applyP oy rfl ah;co_applyP oy rfl ah;co_applyP oy rfl aK;co_applyP oy rfl (aW l9 ee);co_applyP oeN rfl (fun hnd => eW (hs := ee) (hnd := hnd) (hm := hR3.k) (hi := by rw [bw]; omega));rintro _ L4 ⟨rfl, hU4⟩;co_applyP aa;co_applyP ay;co_applyP oy rfl ah;co_applyP oy rfl a8;co_applyP oy rfl aj;co_applyP aa;change ∃ k', k' < _ ∧ _;have e8 : (kcells (kst (A'.setA (0 + 1) a') ((S.raises n).setRow 0 ((S.raises n).rows 0 ++ (S.raises n).rows (n + 1))))).setIfInBounds (7 + (n + 1)) (slv ⟨none, []⟩ ([] : List Nat).length) = kcells (kst ((A'.setA (0 + 1) a').setA (n + 1 + 1) ⟨none, []⟩) (S.raises (n + 1))) := by
     rw [ij _ (by omega)];exact (congrArg kcells (ju (A'.setA (0 + 1) a') ((S.raises n).setRow 0 ((S.raises n).rows 0 ++ (S.raises n).rows (n + 1))) (n + 1) ⟨none, []⟩ [] (by omega))).symm
   have hR4 : Rep K ((A'.setA (0 + 1) a').setA (n + 1 + 1) ⟨none, []⟩) (S.raises (n + 1)) Fr L4 := by
     refine hR3.setRow (l := n + 1) (xs := []) (by omega) hU4.fn ?_ (fun t ht h1 _ => hU4.ne _ ht h1) ⟨rfl, rfl⟩ (fun b hb => by cases hb) (fun e _ => cC _ (by omega));exact Eq.mp (congrArg (fun c => (K, true, Obj.cells c 115) ∈ L4) e8) hU4.self
   refine ⟨k - 1, by omega, rfl, n + 1, _, by omega, by omega, (hr.trans (LRel.set A' (l := 0) (by omega) a')).trans (LRel.set _ (l := n + 1) (by omega) _), hR4, ?_⟩;rw [← elen]; rfl
 intro hlt;co_applyP bN;change ∃ v, resE .. = some v ∧ _;have hn2 : n = 2 := by
   have : ¬ ((n + 1 : Nat) : Int) < 3 := by simpa using hlt
   omega
 subst hn2;exact ⟨_, rfl, rfl, rfl, A', hr, hR'⟩
def St.lifts (S : St) : List Nat → St
 | [] => S
 | b :: bs => St.lifts (match S.get b with
   | some x => if x.st ≠ 6 ∧ 0 < x.lv then S.setP b { x with lv := 0, used := 0 } else S
   | none => S) bs
theorem mv (S : St) (l m : List Nat) : S.lifts (l ++ m) = (S.lifts l).lifts m := by
 induction l generalizing S with
 | nil => rfl
 | cons b l ih => simp only [List.cons_append, St.lifts]; exact ih _
structure LfRel (S S' : St) : Prop where
 f : S'.ps.map (·.1) = S.ps.map (·.1)
 r : S'.rows = S.rows ∧ S'.by_ = S.by_ ∧ S'.wt = S.wt ∧ S'.now = S.now ∧ S'.last = S.last
theorem qu : ∃ n, ∀ {σ} {F : Fam σ} {Δ : DM F} {main s} (K : Nat) (A : Lay) (S : St) (Fr L : Frag), (∀ cs, (Δ s).New (.cells cs 93)) → Rep K A S Fr L → (∀ l, l < 3 → (S.rows l).length ≤ 8) →
   CallsL Δ Tryz.prog main 81 [ptr K].toArray n s L (fun s' v L' => s = s' ∧ v = .tuple #[] ∧ ∃ A', LRel A A' ∧ Rep K A' ((S.lifts (S.ps.map (·.1))).raises 2) Fr L') := by
 obtain ⟨n1, g1⟩ := nL;apply Exists.intro;intro σ F Δ main s K A S Fr L hN hR hr8;obtain ⟨base, cap, hv, hat0⟩ := br hR.pa;simp only [List.length_map] at hv;have h5 : At L K 5 (.slice base S.ps.length cap) := by rw [← hv]; exact hR.kat rfl
 co_applyP aB 40 Tryz.func81 Tryz.ntmps81;co_applyP ar;co_applyP ai;co_applyP oy rfl ah;co_applyP oy rfl aK;co_applyP oy rfl (av (hf := bJ));co_applyP oy rfl (aG (ht := cV));co_applyP oy rfl (bt (hu := U91));co_applyP oy rfl ah;co_applyP aa;co_applyP aJ;co_applyP bF (fun k s' ε' L' => s' = s ∧ ∃ l1 l2, S.ps = l1 ++ l2 ∧ Rep K A (S.lifts (l1.map (·.1))) Fr L' ∧ LfRel S (S.lifts (l1.map (·.1))) ∧ k + l1.length = 8 ∧ kn ε' [(9, .int .i64 l1.length), (8, .int .i64 S.ps.length), (7, .slice base S.ps.length cap), (0, ptr K)]) 8
 · exact ⟨rfl, [], S.ps, rfl, hR, ⟨rfl, rfl, rfl, rfl, rfl, rfl⟩, rfl, rfl⟩
 rintro k s' ε' L' ⟨rfl, l1, l2, hl, hR', hW', hk, he⟩;co_applyP a0 he;have hlen := congrArg List.length hl;simp only [List.length_append] at hlen;have h8 := hR.p8;co_applyP ai;co_applyP oy rfl ci;co_applyP aa;co_applyP ar;co_applyP bi rfl;intro hlt
 · cases l2 with
   | nil => simp at hlt hlen; omega
   | cons q l2 =>
     have hat : ∃ ab, base = some ⟨ab, 0, none⟩ ∧ At L' ab l1.length (ptr q.1) := by
       obtain ⟨ab, hb1, hb2, _⟩ := hat0 l1.length (ptr q.1) (by rw [hl]; simp);obtain ⟨base', cap', _, hat'⟩ := br hR'.pa;have e1 : (S.lifts (l1.map (·.1))).ps.map (fun q => ptr q.1) = S.ps.map fun q => ptr q.1 := by
         have := congrArg (List.map ptr) hW'.f;rw [List.map_map, List.map_map] at this;exact this
       obtain ⟨b', hb1', _, hv'⟩ := hat' l1.length (ptr q.1) (by rw [e1, hl]; simp);rw [hb1] at hb1';obtain rfl : ab = b' := by simpa using hb1'
       exact ⟨ab, hb2, hv'⟩
     obtain ⟨ab, rfl, hav⟩ := hat;simp at hlen;generalize hS' : S.lifts (l1.map (·.1)) = S' at *;have hmem : q.1 ∈ S'.ps.map (·.1) := by rw [hW'.f, hl]; simp
     obtain ⟨⟨b, x⟩, hbx, hbq⟩ := List.mem_map.1 hmem;have hbq' : b = q.1 := hbq;subst hbq';have hx2 : At L' q.1 2 (.int .i64 (x.st : Int)) := hR'.pat hbx (i := 2) rfl;have hx5 : At L' q.1 5 (.int .i64 (x.lv : Int)) := hR'.pat hbx (i := 5) rfl;have hget := bf hR'.pn hbx;have elen : IntKind.i64.wrap ((l1.length : Int) + 1) = ((l1 ++ [q]).length : Int) := by simp [IntKind.wrap_i64]; omega
     have hnext : S.lifts ((l1 ++ [q]).map (·.1)) = if x.st ≠ 6 ∧ 0 < x.lv then S'.setP q.1 { x with lv := 0, used := 0 } else S' := by
       rw [List.map_append, mv, hS'];show St.lifts (match S'.get q.1 with | some x => _ | none => _) [] = _;rw [hget]; rfl
     co_applyP aC;co_applyP ar;co_applyP aJ;co_applyP ai;co_applyP oy rfl (bu U91 bG);co_applyP oy rfl (aG (ht := cW));co_applyP oy rfl aj;co_applyP aa;co_applyP ar;co_applyP jO ([(26, .bool (decide (x.st ≠ 6 ∧ 0 < x.lv))), (3, ptr q.1), (9, .int .i64 l1.length), (8, .int .i64 S.ps.length), (7, .slice (some ⟨ab, 0, none⟩) S.ps.length cap), (0, ptr K)]);co_applyP ay;co_applyP oy rfl ah;co_applyP oy rfl aK;co_applyP oy rfl (av (hf := aD));co_applyP oy rfl (av (hf := cv));co_applyP oy rfl (aG (ht := aY));co_applyP oy rfl dZ;co_applyP oy rfl ah
     · by_cases h3 : x.st = 6
       · have e3 : ((x.st : Int) != 6) = false := by simp [h3]
         rw [e3];co_applyP ou rfl;co_applyP ou rfl;co_applyP ou rfl;co_applyP ou rfl;co_applyP ou rfl;co_applyP ou rfl;co_applyP oy rfl aN;co_applyP aa;change _ = _ ∧ _ = _ ∧ kn _ _;refine ⟨rfl, rfl, ?_⟩;have e4 : false = decide (x.st ≠ 6 ∧ 0 < x.lv) := by simp [h3]
         rw [← e4]; rfl
       · have e3 : ((x.st : Int) != 6) = true := by simp; omega
         rw [e3];co_applyP oy rfl (ah);co_applyP oy rfl (aK);co_applyP oy rfl ((av (hf := aD)));co_applyP oy rfl ((av (hf := dQ)));co_applyP oy rfl ((aG (ht := aY)));co_applyP oy rfl (dK);co_applyP oy rfl aN;co_applyP aa;change _ = _ ∧ _ = _ ∧ kn _ _;refine ⟨rfl, rfl, ?_⟩;have e4 : decide ((0 : Int) < (x.lv : Int)) = decide (x.st ≠ 6 ∧ 0 < x.lv) := by simp [h3]
         rw [← e4]; rfl
     co_applyP bi rfl;intro hw;co_applyP ay;co_applyP oy rfl ah;co_applyP oy rfl ah;co_applyP oy rfl aK;co_applyP oy rfl (av (hf := aD));co_applyP oy rfl (av (hf := dQ))
     · have hw' : x.st ≠ 6 ∧ 0 < x.lv := by simpa using hw
       rw [if_pos hw'] at hnext;co_applyP osm rfl (hs := cG) (hm := hR'.p _ hbx) (hi := by first | decide | (rw [bd]; omega) | (rw [bw]; omega));intro L2 hU;have hR2 := hR'.setP hbx (x' := { x with lv := 0 }) hU;have hb2 : (q.1, { x with lv := 0 }) ∈ (S'.setP q.1 { x with lv := 0 }).ps := aq hbx;co_applyP oy rfl aK;co_applyP oy rfl (av (hf := aD));co_applyP oy rfl (av (hf := fM));co_applyP osm rfl (hs := cG) (hm := hR2.p _ hb2) (hi := by first | decide | (rw [bd]; omega) | (rw [bw]; omega));intro L3 hU3;have hR3 := hR2.setP hb2 (x' := { x with lv := 0, used := 0 }) hU3;have e6 : (S'.setP q.1 { x with lv := 0 }).setP q.1 { x with lv := 0, used := 0 } = S'.setP q.1 { x with lv := 0, used := 0 } := by
         unfold St.setP;simp only [List.map_map];congr 1;apply List.map_congr_left;intro r _;simp only [Function.comp]
         split
         · simp
         · rename_i h; simp [h]
       rw [e6] at hR3;co_applyP aa;co_applyP ay;co_applyP oy rfl a8;co_applyP oy rfl ah;co_applyP aa;change ∃ k', k' < _ ∧ _;refine ⟨k - 1, by omega, rfl, l1 ++ [q], l2, by simp [hl], by rw [hnext]; exact hR3, by rw [hnext]; exact ⟨by rw [aU]; exact hW'.f, hW'.r⟩, by simp; omega, by rw [← elen]; rfl⟩
     intro hw;co_applyP aC;co_applyP ay;co_applyP oy rfl a8;co_applyP oy rfl ah;co_applyP aa;change ∃ k', k' < _ ∧ _;have hw' : ¬ (x.st ≠ 6 ∧ 0 < x.lv) := by simpa using hw
     rw [if_neg hw'] at hnext;refine ⟨k - 1, by omega, rfl, l1 ++ [q], l2, by simp [hl], by rw [hnext]; exact hR', by rw [hnext]; exact hW', by simp; omega, by rw [← elen]; rfl⟩
 intro hlt;co_applyP bN;co_applyP ay;co_applyP oy rfl ah;co_applyP oy rfl aK;co_applyP oy rfl (av (hf := dh));cases l2 with
 | cons q l2 => simp at hlt hlen; omega
 | nil =>
 have e : l1 = S.ps := by rw [hl]; simp
 subst e;co_applyP oc rfl rfl rfl (g1 K A _ Fr L' hN hR' (fun l hl => by rw [hW'.r.1]; exact hr8 l hl));rintro _ _ _ ⟨rfl, rfl, A2, hr2, hR2⟩;co_applyP aa;change ∃ v, resE .. = some v ∧ _;exact ⟨_, rfl, rfl, rfl, A2, hr2, hR2⟩
def liftP (x : PS) : PS := if x.st ≠ 6 ∧ 0 < x.lv then { x with lv := 0, used := 0 } else x
theorem rX {S : St} (hn : (S.ps.map (·.1)).Nodup) (b : Nat) : (match S.get b with
   | some x => if x.st ≠ 6 ∧ 0 < x.lv then S.setP b { x with lv := 0, used := 0 } else S
   | none => S) = S.setPs (S.ps.map fun q => if q.1 = b then (b, liftP q.2) else q) := by
 cases hg : S.get b with
 | none =>
   have : ∀ q ∈ S.ps, q.1 ≠ b := fun q hq e => by
     have := bf hn (b := q.1) (x := q.2) hq;rw [e, hg] at this; cases this
   have e : (S.ps.map fun q => if q.1 = b then (b, liftP q.2) else q) = S.ps := by
     conv => rhs; rw [← List.map_id S.ps]
     exact List.map_congr_left fun q hq => by simp [this q hq]
   show S = S.setPs _;rw [e]; rfl
 | some x =>
   have hx := aV hg;simp only;have key : ∀ y, liftP x = y → S.setP b y = S.setPs (S.ps.map fun q => if q.1 = b then (b, liftP q.2) else q) := fun y hy => by
     unfold St.setP St.setPs;congr 1;refine List.map_congr_left fun q hq => ?_;obtain ⟨c, z⟩ := q;by_cases e : c = b
     · subst e;rw [aT hn hq hx];simp [hy]
     · simp [e]
   split
   · rename_i h; exact key _ (by simp [liftP, h])
   · rename_i h;have := key x (by simp only [liftP]; rw [if_neg h]);rw [← this, lj hn hx]
theorem nM : ∀ (bs : List Nat) (S : St), (S.ps.map (·.1)).Nodup → bs.Nodup → S.lifts bs = S.setPs (S.ps.map fun q => if q.1 ∈ bs then (q.1, liftP q.2) else q)
 | [], S, _, _ => by simp [St.lifts, St.setPs]
 | b :: bs, S, hn, hb => by
   have hfst : ((S.setPs (S.ps.map fun q => if q.1 = b then (b, liftP q.2) else q)).ps.map (·.1)) = S.ps.map (·.1) := by
     show ((S.ps.map fun q => if q.1 = b then (b, liftP q.2) else q).map (·.1)) = _;rw [List.map_map];refine List.map_congr_left fun q _ => ?_;simp only [Function.comp]
     split
     · rename_i e; exact e.symm
     · rfl
   show St.lifts (match S.get b with | some x => _ | none => _) bs = _;rw [rX hn, nM bs _ (by rw [hfst]; exact hn) (List.nodup_cons.1 hb).2];unfold St.setPs;simp only [List.map_map];congr 1;refine List.map_congr_left fun q _ => ?_;obtain ⟨c, z⟩ := q;simp only [Function.comp, List.mem_cons];by_cases e : c = b
   · subst e;simp [(List.nodup_cons.1 hb).1]
   · simp [e]
theorem fP {S : St} (hn : (S.ps.map (·.1)).Nodup) : S.lifts (S.ps.map (·.1)) = S.setPs (S.ps.map fun q => (q.1, liftP q.2)) := by
 rw [nM _ _ hn hn];unfold St.setPs;congr 1;exact List.map_congr_left fun q hq => by simp [List.mem_map.2 ⟨q, hq, rfl⟩]
theorem Good.raise {S : St} (h : Good S) : Good ((S.lifts (S.ps.map (·.1))).raises 2) := by
 rw [fP h.pn];have r0 : ((S.setPs (S.ps.map fun q => (q.1, liftP q.2))).raises 2).rows 0 = S.rows 0 ++ S.rows 1 ++ S.rows 2 := by simp [St.raises, St.raise1, St.setRow, put, St.setPs]
 have r1 : ∀ l, 0 < l → l < 3 → ((S.setPs (S.ps.map fun q => (q.1, liftP q.2))).raises 2).rows l = [] := fun l h1 h2 => by
   have : l = 1 ∨ l = 2 := by omega
   rcases this with rfl | rfl <;> simp [St.raises, St.raise1, St.setRow, put, St.setPs]
 have hps : ((S.setPs (S.ps.map fun q => (q.1, liftP q.2))).raises 2).ps = S.ps.map fun q => (q.1, liftP q.2) := rfl;have hst : ∀ x : PS, (liftP x).st = x.st := fun x => by unfold liftP; split <;> rfl
 have hlv : ∀ x : PS, x.st = 1 → (liftP x).lv = 0 := fun x h1 => by
   unfold liftP
   split
   · rfl
   · rename_i hh;have : ¬ 0 < x.lv := fun h0 => hh ⟨by omega, h0⟩;omega
 have hin : ∀ l, l < 3 → ∀ c ∈ S.rows l, ∃ y, (c, y) ∈ ((S.setPs (S.ps.map fun q => (q.1, liftP q.2))).raises 2).ps ∧ y.lv = 0 ∧ y.st = 1 := fun l hl c hc => by
   obtain ⟨y, hy, h1, h2⟩ := h.rm l hl c hc;exact ⟨liftP y, by rw [hps]; exact List.mem_map.2 ⟨_, hy, rfl⟩, hlv y h2, by rw [hst]; exact h2⟩
 have dis : ∀ l m, l < 3 → m < 3 → l ≠ m → ∀ a ∈ S.rows l, ∀ b ∈ S.rows m, a ≠ b := fun l m hl hm hne a ha b hb e => by
   subst e;obtain ⟨y, hy, h1, _⟩ := h.rm l hl a ha;obtain ⟨z, hz, h2, _⟩ := h.rm m hm a hb;rw [aT h.pn hy hz] at h1;omega
 refine ⟨?_, ?_, fun q hq => ?_, fun l hl => ?_, fun l hl c hc => ?_, fun q hq h1 => ?_⟩
 · rw [hps, List.map_map]; exact h.pn
 · rw [hps]; simpa using h.p8
 · rw [hps] at hq;obtain ⟨r, hr, rfl⟩ := List.mem_map.1 hq;have := h.lv r hr;show (liftP r.2).lv < 3;unfold liftP
   split
   · show 0 < 3; omega
   · exact this
 · by_cases e : l = 0
   · subst e;rw [r0];refine List.nodup_append.2 ⟨List.nodup_append.2 ⟨h.rn 0 (by omega), h.rn 1 (by omega), dis 0 1 (by omega) (by omega) (by omega)⟩, h.rn 2 (by omega), fun a ha b hb => ?_⟩;rcases List.mem_append.1 ha with h1 | h1
     · exact dis 0 2 (by omega) (by omega) (by omega) a h1 b hb
     · exact dis 1 2 (by omega) (by omega) (by omega) a h1 b hb
   · rw [r1 l (by omega) hl]; exact List.nodup_nil
 · by_cases e : l = 0
   · subst e;rw [r0] at hc;rcases List.mem_append.1 hc with h1 | h1
     · rcases List.mem_append.1 h1 with h1 | h1
       · exact hin 0 (by omega) c h1
       · exact hin 1 (by omega) c h1
     · exact hin 2 (by omega) c h1
   · rw [r1 l (by omega) hl] at hc; simp at hc
 · rw [hps] at hq;obtain ⟨r, hr, rfl⟩ := List.mem_map.1 hq;have h1' : r.2.st = 1 := by rw [← hst]; exact h1
   have h0 := hlv r.2 h1';have hm := h.rr r hr h1';show r.1 ∈ _;rw [show ((r.1, liftP r.2) : Nat × PS).2.lv = 0 from h0, r0];have hl := h.lv r hr;have hcase : r.2.lv = 0 ∨ r.2.lv = 1 ∨ r.2.lv = 2 := by omega
   rcases hcase with e | e | e
   · rw [e] at hm; exact List.mem_append_left _ (List.mem_append_left _ hm)
   · rw [e] at hm; exact List.mem_append_left _ (List.mem_append_right _ hm)
   · rw [e] at hm; exact List.mem_append_right _ hm
theorem ux : zeroAt Tryz.prog 5 = some (.int .u8 0) := by kernel_rfl
theorem uy {xs junk : List Value} {n : Nat} (hn : n ≤ xs.length) : puts (xs ++ junk).toArray 0 (xs.drop n) = (xs.drop n ++ (xs ++ junk).drop (xs.length - n)).toArray := by
 rw [bX _ _ _ (by simp; omega)];simp
theorem rY {xs junk : List Value} {n : Nat} {z : Value} (hn : n ≤ xs.length) : puts (xs.drop n ++ (xs ++ junk).drop (xs.length - n)).toArray (xs.length - n) (List.replicate n z) = (xs.drop n ++ (List.replicate n z ++ junk)).toArray := by
 rw [bX _ _ _ (by simp; omega)];have e1 : (xs.drop n ++ (xs ++ junk).drop (xs.length - n)).take (xs.length - n) = xs.drop n := by
   rw [List.take_append_of_le_length (by simp)];exact List.take_of_length_le (by simp)
 have e2 : (xs.drop n ++ (xs ++ junk).drop (xs.length - n)).drop (xs.length - n + (List.replicate n z).length) = junk := by
   have e3 : (xs ++ junk).drop (xs.length - n) = xs.drop (xs.length - n) ++ junk := List.drop_append_of_le_length (by omega);rw [e3, ← List.append_assoc, List.drop_left' (by simp; omega)]
 rw [e1, e2, List.append_assoc]
theorem rZ : ∃ n, ∀ {σ} {F : Fam σ} {Δ : DM F} {main s} (L : Frag) (b : Nat) (xs junk : List Value) (m : Nat), 0 < m → m ≤ xs.length → xs.length < 1000000 → xs.all plainV = true → (b, true, Obj.cells (xs ++ junk).toArray 5) ∈ L →
   CallsL Δ Tryz.prog main 172 [.slice (some ⟨b, 0, none⟩) xs.length (xs.length + junk.length), .int .i64 0, .int .i64 m].toArray n s L (fun s' v L' => s = s' ∧ v = .slice (some ⟨b, 0, none⟩) (xs.length - m) (xs.length + junk.length) ∧ Upd L b (.cells (xs.drop m ++ (List.replicate m (Value.int .u8 0) ++ junk)).toArray 5) L') := by
 apply Exists.intro;intro σ F Δ main s L b xs junk m hm0 hm hbig hpl hb;have hsz : (xs ++ junk).toArray.size = xs.length + junk.length := by simp
 have hcut : cutAt 0 (m : Int).toNat (xs.length + junk.length) 1 + (xs.length - (m : Int).toNat) * 1 ≤ (xs ++ junk).toArray.size := by unfold cutAt; rw [hsz]; split <;> omega
 co_applyP aB 33 Tryz.func172 Tryz.ntmps172;co_applyP ai;co_applyP oy rfl aj;co_applyP aa;co_applyP ai;co_applyP oy rfl ah;co_applyP oy rfl ah;co_applyP oy rfl ah;co_applyP oy rfl ah;co_applyP oy rfl (bt (hu := U44));co_applyP oy rfl (tR U44 d9);co_applyP aa;co_applyP ar;co_applyP ai;co_applyP oy rfl ah;co_applyP oy rfl ah;co_applyP oy rfl aA;co_applyP aa;change wpE ..;have e0 : ((0 : Int) == (m : Int)) = false := by simp; omega
 rw [e0];co_applyP ak rfl;co_applyP aC;co_applyP ai;co_applyP oy rfl ah;co_applyP oy rfl (bt (hu := U44));co_applyP oy rfl aj;co_applyP aa;co_applyP ar;co_applyP bj [] 6 (nf := 0) aZ;co_applyP tr (i := 0) rfl ah (ae (by simp));co_applyP tr (i := 1) rfl ah (ae (by simp));co_applyP tr (i := 2) rfl (tO U44 d9) (ae (by simp));co_applyP tr (i := 3) rfl ah (ae (by simp));co_applyP tr (i := 4) rfl ah (ae (by simp));co_applyP tr (i := 5) rfl (tP U44 d9) (ae (by simp));co_applyP a7;intro hnd;have ec0 : cutAt 0 0 (xs.length + junk.length) 1 = 0 := by unfold cutAt; split <;> omega
 have hvs : ((xs ++ junk).toArray.extract (cutAt 0 (m : Int).toNat (xs.length + junk.length) 1) (cutAt 0 (m : Int).toNat (xs.length + junk.length) 1 + (xs.length - (m : Int).toNat) * 1)).toList = xs.drop m := by
   unfold cutAt
   split
   · have : xs.length = m := by omega
     simp [this]
   · have e1 : 0 + (m : Int).toNat * 1 + (xs.length - (m : Int).toNat) * 1 - (0 + (m : Int).toNat * 1) = xs.length - m := by omega
     have e2 : 0 + (m : Int).toNat * 1 = m := by omega
     simp only [Array.toList_extract, List.extract_eq_take_drop];rw [e1, e2, List.drop_append_of_le_length (by omega), List.take_append_of_le_length (by simp)];rw [List.take_of_length_le (by simp)]
 co_applyP te (i := 6) rfl (jP (hnd := hnd) (hu := U44) (hv := U44) (hs := d9) (hr := bZ hb hcut) (hc := by omega) (hm := hb) (ho := by simp; unfold cutAt; split <;> split <;> omega) (hp := by rw [hvs]; rw [List.all_eq_true] at hpl ⊢; exact fun v hv => hpl v (List.mem_of_mem_drop hv)));rintro _ _ ⟨rfl, hU⟩;refine ⟨aE (by simp), ?_⟩;co_applyP to (i := 7) rfl (aj) (aE (by simp));have el : (0 : Int).toNat - 0 + (xs.length - (m : Int).toNat) = xs.length - m := by simp
 have ek : xs.length + junk.length - 0 = xs.length + junk.length := rfl;have eo : 0 + ((0 : Int).toNat - 0) * 1 = 0 := by simp
 rw [ec0, eo, hvs, uy hm] at hU;rw [ec0, el, ek];co_applyP td (by kernel_rfl);co_applyP ai;co_applyP oy rfl ah;co_applyP oy rfl ah;co_applyP oy rfl (bt (hu := U44));co_applyP oy rfl ah;co_applyP oy rfl (tQ U44 d9);have ecm : cutAt 0 (((xs.length - m : Nat) : Int)).toNat (xs.length + junk.length) 1 = xs.length - m := by unfold cutAt; split <;> omega
 have en : (xs.length : Int).toNat - ((xs.length - m : Nat) : Int).toNat = m := by omega
 co_applyP oeN rfl (fun hnd => tS (hnd := hnd) (hu := U44) (hz0 := ux) (hzp := rfl) (hm := hU.self) (ho := by rw [ecm, en]; simp; omega));rintro _ L3 ⟨rfl, hU'⟩;co_applyP aa;co_applyP ai;co_applyP oy rfl ah;co_applyP oy rfl aj;co_applyP aa;co_applyP aI;change ∃ v, resE .. = some v ∧ _;rw [ecm, en, rY hm] at hU';exact ⟨_, rfl, rfl, rfl, hU'.self, fun t ht hne => hU'.ne t (hU.ne t ht hne) hne, hU'.fn⟩
end Go.Proofs.YtejkelcaljmnoaaGreatDoor
namespace Go.Lo
open Go.Conc Go.Hx
section
variable {P : Program} {New : Obj → Prop} {N : Nat} {ε : Env} {L : Frag} {d : Option Tmp} {ty t u e : TypeId} {ps : String} {af : Array Edge} {g : Option (Nat × Bool)} {x y : Operand}
theorem Bi {sz b o dl dc n sc : Nat} {yb : Option Addr} {vs cs : Array Value} {e' : TypeId} (hx : ev ε x = some (.slice (some ⟨b, o, none⟩) dl dc) := by rfl) (hy : ev ε y = some (.slice yb n sc) := by rfl) (hnd : (L.map (·.1)).Nodup) (hu : P.underlying t = some (.slice e)) (hs : sizeAt P e = some sz) (hr : Reads P L sz (Nat.min n dl) (.slice yb n sc) vs) (hm : (b, true, .cells cs e') ∈ L) (ho : o + vs.size ≤ cs.size) (hp : vs.toList.all plainV = true) :
   EO P New N ε L ⟨d, .call ⟨.builtin .copy, #[x, y], #[t, u]⟩, ty, ps, af, g⟩ (fun r L' => r = .int .i64 (Nat.min n dl : Nat) ∧ Upd L b (.cells (puts cs o vs.toList) e') L') := by
 intro a ha;obtain ⟨m, hm'⟩ := List.getElem?_of_mem hm;refine cu (s := Builtin.copy_ #[t, u] ty #[.slice (some ⟨b, o, none⟩) dl dc, .slice yb n sc]) (fun _ => by simp [builtin, ha.ev hx, ha.ev hy]) ?_;unfold Builtin.copy_;simp only [List.getElem?_toArray, List.getElem?_cons_zero, List.getElem?_cons_succ];rw [au, aQ hu];simp only [Builtin.lenOf];rw [au, bm, au, bM hs, au];refine hr.r New _ ?_;rw [au];exact cj hm' (by simpa using ho) hp ⟨rfl, cB hnd hm'⟩
end
section
variable {P : Program} {N : Nat} {ε : Env} {L : Frag} {d : Option Tmp} {ty : TypeId} {ps : String} {af : Array Edge} {g : Option (Nat × Bool)} {t e : TypeId} {x y z : Operand} {b o sz len : Nat} {k1 k2 : IntKind} {l h : Int}
theorem uz (hu : P.underlying t = some (.array len e)) (hs : sizeAt P e = some sz) (hx : ev ε x = some (.pointer (some ⟨b, o, none⟩)) := by rfl) (hy : ev ε y = some (.int k1 l) := by rfl) (hz : ev ε z = some (.int k2 h) := by rfl) (h0 : 0 ≤ l := by first | decide | omega) (h1 : l ≤ h := by first | decide | omega) (h2 : h ≤ len := by first | decide | omega) :
   EY P N ε L ⟨d, .slice t x (some y) (some z) none, ty, ps, af, g⟩ (.slice (some ⟨b, cutAt o l.toNat len sz, none⟩) (h.toNat - l.toNat) (len - l.toNat)) := fun _ ha => by
 refine cF (fun _ => rfl) fun K hK => ?_;simp only [Option.map_some, Option.map_none, ha.ev hx, ha.ev hy, ha.ev hz];unfold Instr.sliceAt;rw [ax, aL hu];simp only;rw [ax, da];simp only [Instr.sliceBounds];simp only [ax, bP];refine cO (by omega) h2 ?_;refine cO h0 (by omega) ?_;rw [cI hs];have e1 : (if len = l.toNat then (⟨b, o, none⟩ : Addr) else (⟨b, o, none⟩ : Addr).add (l.toNat * sz)) = ⟨b, cutAt o l.toNat len sz, none⟩ := by
   unfold cutAt
   split
   · rfl
   · simp [c9]
 rw [e1];exact hK
end
end Go.Lo
namespace Go.Proofs.YtejkelcaljmnoaaGreatDoor
open Go.Conc Go.Hx Go.Lo
theorem xY : bytesAt Tryz.prog 5 = some 1 := by kernel_rfl
structure ApB (L : Frag) (a : Sl) (zs : List Value) (a' : Sl) (L' : Frag) : Prop where
 ok : slOk a' zs 5 L'
 fn : Fun L'
 sub : ∀ t ∈ L, a.b ≠ some t.1 → t ∈ L'
 d : ∀ b, a'.b = some b → a.b = some b ∨ ∀ t ∈ L, t.1 ≠ b
section
variable {New : Obj → Prop} {N : Nat} {ε : Env} {L : Frag} {d : Option Tmp} {ty : TypeId} {ps : String} {af : Array Edge} {g : Option (Nat × Bool)} {x y : Operand}
theorem wF {a : Sl} {xs : List Value} (ha : slOk a xs 5 L) : Reads Tryz.prog L 1 xs.length (slv a xs.length) xs.toArray := by
 cases hab : a.b with
 | none =>
   unfold slOk at ha;rw [hab] at ha;obtain rfl : xs = [] := ha.1;have e3 : slv a 0 = .slice none 0 0 := by unfold slv; rw [hab]
   show Reads Tryz.prog L 1 0 (slv a 0) #[];rw [e3]; exact dw
 | some b =>
   have hm := ha.mem hab;have e3 : slv a xs.length = .slice (some ⟨b, 0, none⟩) xs.length (xs.length + a.junk.length) := by unfold slv; rw [hab]
   rw [e3];have := bZ (P := Tryz.prog) (sz := 1) (n := xs.length) (len := xs.length) (cap := xs.length + a.junk.length) (o := 0) hm (by simp);have e7 : (xs ++ a.junk).take xs.length = xs := by rw [List.take_append_of_le_length (by simp)]; exact List.take_of_length_le (by simp)
   simpa [e7] using this
theorem Am {a : Sl} {xs ys : List Value} {yb : Option Addr} {yc : Nat} (hx : ev ε x = some (slv a xs.length) := by rfl) (hy : ev ε y = some (.slice yb ys.length yc) := by rfl) (hnd : (L.map (·.1)).Nodup) (hN : ∀ cs, New (.cells cs 5)) (ha : slOk a xs 5 L) (hr : Reads Tryz.prog L 1 ys.length (.slice yb ys.length yc) ys.toArray) (hpl : ys.all plainV = true) (h8 : xs.length ≤ 1000) (h8' : ys.length ≤ 1000) :
   EO Tryz.prog New N ε L ⟨d, .call ⟨.builtin .append, #[x, y], #[44, 44]⟩, ty, ps, af, g⟩ (fun r L' => ∃ a', r = slv a' (xs ++ ys).length ∧ ApB L a (xs ++ ys) a' L') := by
 have hws := wF ha
 have grow : ∀ (cap0 : Nat), (∃ base, slv a xs.length = .slice base xs.length cap0) → cap0 < xs.length + ys.length →
     EO Tryz.prog New N ε L ⟨d, .call ⟨.builtin .append, #[x, y], #[44, 44]⟩, ty, ps, af, g⟩ (fun r L' => ∃ a', r = slv a' (xs ++ ys).length ∧ ApB L a (xs ++ ys) a' L') := by
   rintro cap0 ⟨base, hb⟩ hc;rw [hb] at hws hx;intro ac hac;refine bO ?_ _ _ (lg (by_ := 0) (New := New) hx hy (bA hnd) U44 U44 d9 xY ux hws hr hc (by omega) hN ac hac);intro r L' q;cases r <;> try exact q.elim
   · obtain ⟨b, cap, h1, h2, rfl, hA⟩ := q;rw [ep rfl] at hA;refine ⟨⟨some b, List.replicate (cap - (xs.length + ys.length)) (.int .u8 0)⟩, ?_, ?_, hA.fn, fun t ht _ => hA.sub t ht, fun b' hb' => .inr ?_⟩
     · unfold slv; simp; omega
     · have e5 : xs.toArray ++ ys.toArray ++ (List.replicate (cap - (xs.length + ys.length)) (Value.int .u8 0)).toArray = ((xs ++ ys) ++ List.replicate (cap - (xs.length + ys.length)) (Value.int .u8 0)).toArray := by
         apply Array.ext'; simp
       rw [e5] at hA;exact hA.self
     · obtain rfl : b = b' := by simpa using hb'
       exact hA.new
   · obtain ⟨b, cap, _, _, e, _⟩ := q; cases e
 cases hab : a.b with
 | none =>
   have h2 := ha;unfold slOk at h2;rw [hab] at h2;obtain ⟨e1, e2⟩ := h2;obtain rfl : xs = [] := e1;have e3 : slv a 0 = .slice none 0 0 := by unfold slv; rw [hab]
   by_cases h0 : 0 < ys.length
   · exact grow 0 ⟨none, e3⟩ (by simpa using h0)
   · obtain rfl : ys = [] := List.length_eq_zero_iff.1 (by omega);intro ac hac;rw [List.length_nil, e3] at hx;refine bO ?_ _ _ (po (New := New) hx hy U44 U44 d9 hr ac hac);intro r L' q;cases r <;> try exact q.elim
     · obtain ⟨rfl, rfl⟩ := q;exact ⟨a, e3.symm, ha, bA hnd, fun t ht _ => ht, fun b hb => by rw [hab] at hb; cases hb⟩
     · exact absurd q.1 (by simp [undef])
 | some b =>
   have hm := ha.mem hab;have e3 : slv a xs.length = .slice (some ⟨b, 0, none⟩) xs.length (xs.length + a.junk.length) := by unfold slv; rw [hab]
   by_cases hj : ys.length ≤ a.junk.length
   · intro ac hac;rw [e3] at hx;refine bO ?_ _ _ (jP (New := New) hx hy hnd U44 U44 d9 hr (by omega) hm (by simp; omega) (by simpa using hpl) ac hac);intro r L' q;cases r <;> try exact q.elim
     · obtain ⟨rfl, hU⟩ := q;have e4 : puts (xs ++ a.junk).toArray (0 + xs.length * 1) ys.toArray.toList = ((xs ++ ys) ++ a.junk.drop ys.length).toArray := by
         rw [bX _ _ _ (by simp; omega)];have e6 : (xs ++ a.junk).drop (xs.length + ys.length) = a.junk.drop ys.length := by
           rw [List.drop_append]; simp
         have e7 : (xs ++ a.junk).take xs.length = xs := by rw [List.take_append_of_le_length (by simp)]; exact List.take_of_length_le (by simp)
         simp [e6, e7]
       rw [e4] at hU;refine ⟨⟨some b, a.junk.drop ys.length⟩, ?_, hU.self, hU.fn, fun t ht hne => hU.ne t ht fun e => hne (by rw [hab, e]), fun b' hb' => .inl (by rw [hab]; exact hb')⟩;unfold slv; simp; omega
     · exact absurd q.1 (by simp [undef])
   · exact grow (xs.length + a.junk.length) ⟨_, e3⟩ (by omega)
end
def Lay.setY (A : Lay) (i : Nat) (a : Sl) : Lay := { A with y := put A.y i a }
def St.setY (S : St) (i : Nat) (ys : List Int) : St := { S with by_ := put S.by_ i ys }
section
variable {K : Nat} {A : Lay} {S : St} {F L L' : Frag}
theorem Rep.setBytes (h : Rep K A S F L) {i : Nat} (hi : i < 5) {a' : Sl} {ys : List Int} (hf : Fun L') (hk : kb K (kst (A.setY i a') (S.setY i ys)) ∈ L') (hs : ∀ t ∈ L, t.1 ≠ K → (A.y i).b ≠ some t.1 → t ∈ L') (ha : slOk a' (ys.map fun v => .int .u8 v) 5 L')
   (hd : ∀ b, a'.b = some b → (A.y i).b = some b ∨ ((∀ j, (A.y j).b ≠ some b) ∧ ∀ t ∈ F, t.1 ≠ b)) : Rep K (A.setY i a') (S.setY i ys) F L' := by
 have ty : ∀ {b : Nat} {fl : Bool} {o : Obj}, (b, fl, o) ∈ L → (∀ c, o ≠ Obj.cells c 5) → (A.y i).b ≠ some b := fun hm ho hb => by
   obtain ⟨xs, hx⟩ := h.yl _ _ hb;exact ho _ (h.fn _ _ _ _ _ hm hx).2
 have arr : ∀ (a : Sl) (xs : List Value) (e : TypeId), e ≠ 115 → (∀ b, a.b = some b → (A.y i).b ≠ some b) → slOk a xs e L → slOk a xs e L' := fun a xs e he hne ha => by
   refine ha.mono fun c hc o ho => hs _ ho ?_ (hne c hc);exact h.fn.ne (ha.mem hc) h.k (aF he)
 have hdn : ∀ j, j ≠ i → ∀ b, (A.y j).b = some b → (A.y i).b ≠ some b := fun j hj b hb e => h.dy j i hj (by rw [hb]; simp) (by rw [hb, e]);have pA : ∀ j, j ≠ i → (A.setY i a').y j = A.y j := fun j hj => by simp [Lay.setY, put, hj]
 have pS : (A.setY i a').y i = a' := by simp [Lay.setY, put]
 have sS : (S.setY i ys).by_ i = ys := by simp [St.setY, put]
 have sA : ∀ j, j ≠ i → (S.setY i ys).by_ j = S.by_ j := fun j hj => by simp [St.setY, put, hj]
 exact { h with
   fn := hf
   k := hk
   g := hs _ h.g (h.fn.ne h.g h.k (aF (by decide))) (ty h.g fun c => aF (by decide))
   p := fun q hq => hs _ (h.p q hq) (h.fn.ne (h.p q hq) h.k (aF (by decide))) (ty (h.p q hq) fun c => aF (by decide))
   pa := arr _ _ _ (by decide) (fun b hb => ty (h.pa.mem hb) fun c => aF (by decide)) h.pa
   rw := fun l hl => arr _ _ _ (by decide) (fun b hb => ty ((h.rw l hl).mem hb) fun c => aF (by decide)) (h.rw l hl)
   ya := fun j hj => by
     by_cases e : j = i
     · subst e; rw [pS, sS]; exact ha
     · rw [pA j e, sA j e]; exact arr _ _ _ (by decide) (hdn j e) (h.ya j hj)
   w := hs _ h.w (h.fn.ne h.w h.k (by simp [wobj])) (ty h.w fun c => by simp [wobj])
   wa := fun e he => arr _ _ _ (by decide) (fun b hb => ty ((h.wa e he).mem hb) fun c => aF (by decide)) (h.wa e he)
   al := fun j c hc => by
     obtain ⟨xs, hx⟩ := h.al j c hc;exact ⟨xs, hs _ hx (h.fn.ne hx h.k (aF (by decide))) (ty hx fun c => aF (by decide))⟩
   yl := fun j c hc => by
     by_cases e : j = i
     · subst e; rw [pS] at hc; exact ⟨_, ha.mem hc⟩
     · rw [pA j e] at hc;obtain ⟨xs, hx⟩ := h.yl j c hc;exact ⟨xs, hs _ hx (h.fn.ne hx h.k (aF (by decide))) (hdn j e c hc)⟩
   dy := fun j m hjm hj => by
     by_cases ej : j = i
     · subst ej;rw [pA m (Ne.symm hjm), pS];rw [pS] at hj;intro e;cases hb : a'.b with
       | none => exact hj hb
       | some b =>
         rcases hd b hb with h1 | h1
         · exact h.dy j m hjm (by rw [h1]; simp) (by rw [h1, ← e, hb])
         · exact h1.1 m (by rw [← e, hb])
     · rw [pA j ej];rw [pA j ej] at hj;by_cases em : m = i
       · subst em;rw [pS];intro e;cases hb : a'.b with
         | none => rw [hb] at e; exact hj e
         | some b =>
           rcases hd b hb with h1 | h1
           · exact h.dy j m ej hj (by rw [h1, e, hb])
           · exact h1.1 j (by rw [e, hb])
       · rw [pA m em]; exact h.dy j m hjm hj
   fr := fun t ht => hs _ (h.fr t ht) (h.fd t ht).1 ((h.fd t ht).2.2.2.1 _)
   fd := fun t ht => by
     refine ⟨(h.fd t ht).1, (h.fd t ht).2.1, (h.fd t ht).2.2.1, fun j => ?_, (h.fd t ht).2.2.2.2⟩;by_cases ej : j = i
     · subst ej;rw [pS];intro e;rcases hd _ e with h1 | h1
       · exact (h.fd t ht).2.2.2.1 _ h1
       · exact h1.2 t ht rfl
     · rw [pA j ej]; exact (h.fd t ht).2.2.2.1 j }
theorem mw (k : KS) {i : Nat} (hi : i < 5) (v : Value) : (kcells k).setIfInBounds (10 + i) v = kcells { k with by_ := put k.by_ i v } := by
 rcases i with _ | _ | _ | _ | _ | i
 · rfl
 · rfl
 · rfl
 · rfl
 · rfl
 · omega
theorem pp (A : Lay) (S : St) (i : Nat) (a' : Sl) (ys : List Int) : kst (A.setY i a') (S.setY i ys) = { kst A S with by_ := put (kst A S).by_ i (slv a' ys.length) } := by
 unfold kst Lay.setY St.setY;simp only [KS.mk.injEq, true_and];refine ⟨?_, trivial⟩
 funext j
 unfold put;by_cases e : j = i
 · subst e; simp
 · simp [e]
end
def PS.poke (x : PS) (i : Nat) : List Int → PS
 | [] => x
 | v :: vs => PS.poke { x with m := put x.m i v } (i + 1) vs
theorem uA : ∀ (vs : List Int) (x : PS) (i : Nat), i + vs.length ≤ 64 → puts (pcells x) (15 + i) (vs.map fun v => Value.int .u8 v) = pcells (x.poke i vs)
 | [], _, _, _ => rfl
 | v :: vs, x, i, h => by
   simp only [List.length_cons] at h;show puts ((pcells x).setIfInBounds (15 + i) (.int .u8 v)) (15 + i + 1) (vs.map fun v => Value.int .u8 v) = _;rw [uj x (by omega), show 15 + i + 1 = 15 + (i + 1) by omega];exact uA vs _ (i + 1) (by omega)
def PS.peek (x : PS) (i n : Nat) : List Int := (List.range n).map fun j => x.m (i + j)
theorem xZ (x : PS) {i n : Nat} (h : i + n ≤ 64) : (pcells x).extract (15 + i) (15 + i + n) = ((x.peek i n).map fun v => Value.int .u8 v).toArray := by
 apply Array.ext
 · simp [PS.peek, bd]; omega
 · intro j h1 h2;have hj : j < n := by simpa [PS.peek] using h2
   have := ui x (i := i + j) (by omega);rw [show 15 + (i + j) = 15 + i + j by omega] at this;obtain ⟨_, he⟩ := Array.getElem?_eq_some_iff.1 this;simp only [Array.getElem_extract, he];simp [PS.peek]
section
variable {P : Program} {N : Nat} {ε : Env} {L : Frag} {d : Option Tmp} {ty : TypeId} {ps : String} {af : Array Edge} {g : Option (Nat × Bool)}
theorem An {t : TypeId} {x y z u : Operand} {w l h m v : Value} (hv : evR P (Instr.sliceAt t w (some l) (some h) (some m)) [] = some (v, [])) (hx : ev ε x = some w := by rfl) (hy : ev ε y = some l := by rfl) (hz : ev ε z = some h := by rfl) (hu : ev ε u = some m := by rfl) : EY P N ε L ⟨d, .slice t x (some y) (some z) (some u), ty, ps, af, g⟩ v := fun a ha => by
 refine cF (fun _ => rfl) fun K hK => ?_;simp only [Option.map_some, ha.ev hx, ha.ev hy, ha.ev hz, ha.ev hu];exact a9 hv hK
end
theorem Ao : evR Tryz.prog (Instr.sliceAt 44 (.slice none 0 0) (some (.int .i64 0)) (some (.int .i64 0)) (some (.int .i64 0))) [] = some (.slice none 0 0, []) := by kernel_rfl
theorem r6 : ∃ n, ∀ {σ} {F : Fam σ} {Δ : DM F} {main s} (L : Frag),
   CallsL Δ Tryz.prog main 172 [.slice none 0 0, .int .i64 0, .int .i64 0].toArray n s L (fun s' v L' => s = s' ∧ L = L' ∧ v = .slice none 0 0) := by
 apply Exists.intro;intro σ F Δ main s L;co_applyP aB 33 Tryz.func172 Tryz.ntmps172;co_applyP ai;co_applyP oy rfl aj;co_applyP aa;co_applyP ai;co_applyP oy rfl ah;co_applyP oy rfl ah;co_applyP oy rfl ah;co_applyP oy rfl ah;co_applyP oy rfl (bt (hu := U44));co_applyP oy rfl (An Ao);co_applyP aa;co_applyP ar (n₂ := 0);co_applyP ai;co_applyP oy rfl ah;co_applyP oy rfl ah;co_applyP oy rfl aA;co_applyP aa;co_applyP aS rfl;co_applyP ai;co_applyP oy rfl ah;co_applyP oy rfl aj;co_applyP aa;co_applyP aI;change ∃ v, resE .. = some v ∧ _;exact ⟨_, rfl, rfl, rfl, rfl⟩
theorem r7 : ∃ n, ∀ {σ} {F : Fam σ} {Δ : DM F} {main s} (L : Frag) (b len cap : Nat), len ≤ cap →
   CallsL Δ Tryz.prog main 172 [.slice (some ⟨b, 0, none⟩) len cap, .int .i64 0, .int .i64 0].toArray n s L (fun s' v L' => s = s' ∧ L = L' ∧ v = .slice (some ⟨b, 0, none⟩) len cap) := by
 apply Exists.intro;intro σ F Δ main s L b len cap hc;co_applyP aB 33 Tryz.func172 Tryz.ntmps172;co_applyP ai;co_applyP oy rfl aj;co_applyP aa;co_applyP ai;co_applyP oy rfl ah;co_applyP oy rfl ah;co_applyP oy rfl ah;co_applyP oy rfl ah;co_applyP oy rfl (bt (hu := U44));co_applyP oy rfl (tR U44 d9);co_applyP aa;co_applyP ar (n₂ := 0);co_applyP ai;co_applyP oy rfl ah;co_applyP oy rfl ah;co_applyP oy rfl aA;co_applyP aa;co_applyP aS rfl;co_applyP ai;co_applyP oy rfl ah;co_applyP oy rfl aj;co_applyP aa;co_applyP aI;change ∃ v, resE .. = some v ∧ _;exact ⟨_, rfl, rfl, rfl, rfl⟩
theorem wG : ∃ n, ∀ {σ} {F : Fam σ} {Δ : DM F} {main s} (L : Frag) (a : Sl) (xs : List Value) (m : Nat), Fun L → m ≤ xs.length → xs.length < 1000000 → xs.all plainV = true → slOk a xs 5 L →
   CallsL Δ Tryz.prog main 172 [slv a xs.length, .int .i64 0, .int .i64 m].toArray n s L (fun s' v L' => s = s' ∧ ∃ a', v = slv a' (xs.length - m) ∧ ApB L a (xs.drop m) a' L' ∧ a'.b = a.b) := by
 obtain ⟨n0, g0⟩ := r6;obtain ⟨n1, g1⟩ := r7;obtain ⟨n2, g2⟩ := rZ;refine ⟨n0 + (n1 + n2), fun {σ F Δ main s} L a xs m hF hm hbig hpl ha => aO (a.b = none) (fun h => ?_) fun h => aO (m = 0) (fun h0 => ?_) fun h0 => ?_⟩
 · have ha' := ha;unfold slOk at ha';rw [h] at ha';obtain rfl : xs = [] := ha'.1;obtain rfl : m = 0 := by simpa using hm
   have e : slv a ([] : List Value).length = .slice none 0 0 := by unfold slv; rw [h]
   rw [e];refine aR (g0 L) fun s' v L' ⟨h1, h2, h3⟩ => ?_;subst h2;exact ⟨h1, a, by rw [h3]; exact e.symm, ⟨ha, hF, fun t ht _ => ht, fun b hb => .inl hb⟩, rfl⟩
 · obtain ⟨b, hb⟩ : ∃ b, a.b = some b := by
     cases hb : a.b with
     | none => exact absurd hb h
     | some b => exact ⟨b, rfl⟩
   subst h0;have e : slv a xs.length = .slice (some ⟨b, 0, none⟩) xs.length (xs.length + a.junk.length) := by unfold slv; rw [hb]
   rw [e];refine aR (g1 L b xs.length (xs.length + a.junk.length) (by omega)) fun s' v L' ⟨h1, h2, h3⟩ => ?_;subst h2;exact ⟨h1, a, by rw [h3, Nat.sub_zero]; exact e.symm, ⟨ha, hF, fun t ht _ => ht, fun b hb => .inl hb⟩, rfl⟩
 · obtain ⟨b, hb⟩ : ∃ b, a.b = some b := by
     cases hb : a.b with
     | none => exact absurd hb h
     | some b => exact ⟨b, rfl⟩
   have e : slv a xs.length = .slice (some ⟨b, 0, none⟩) xs.length (xs.length + a.junk.length) := by unfold slv; rw [hb]
   rw [e];refine aR (g2 L b xs a.junk m (by omega) hm hbig hpl (ha.mem hb)) fun s' v L' ⟨h1, h2, h3⟩ => ?_;refine ⟨h1, ⟨some b, List.replicate m (Value.int .u8 0) ++ a.junk⟩, ?_, ⟨h3.self, h3.fn, fun t ht hne => h3.ne _ ht fun e => hne (by rw [hb, e]), fun b' hb' => .inl (by rw [hb]; exact hb')⟩, hb.symm⟩;rw [h2]; unfold slv; simp; omega
theorem uB {L : Frag} {a : Sl} {xs : List Value} {n : Nat} (ha : slOk a xs 5 L) (hn : n ≤ xs.length) : Reads Tryz.prog L 1 n (slv a xs.length) (xs.take n).toArray := by
 cases hab : a.b with
 | none =>
   unfold slOk at ha;rw [hab] at ha;obtain rfl : xs = [] := ha.1;obtain rfl : n = 0 := by simpa using hn
   have e3 : slv a 0 = .slice none 0 0 := by unfold slv; rw [hab]
   show Reads Tryz.prog L 1 0 (slv a 0) #[];rw [e3]; exact dw
 | some b =>
   have hm := ha.mem hab;have e3 : slv a xs.length = .slice (some ⟨b, 0, none⟩) xs.length (xs.length + a.junk.length) := by unfold slv; rw [hab]
   rw [e3];have := bZ (P := Tryz.prog) (sz := 1) (n := n) (len := xs.length) (cap := xs.length + a.junk.length) (o := 0) hm (by simp; omega);have e7 : (xs ++ a.junk).take n = xs.take n := List.take_append_of_le_length hn;simpa [e7] using this
def PS.got (x : PS) (bs : List Int) : PS :=
 let y := x.poke (x.r 1).toNat (bs.take (Nat.min bs.length (x.r 2).toNat))
 { y with r := put y.r 0 (Nat.min bs.length (x.r 2).toNat : Nat) }
def St.readP (S : St) (b : Nat) (x : PS) (k : Nat × Nat) : St := (S.setP b (x.got (S.by_ k.1))).setY k.1 ((S.by_ k.1).drop (Nat.min (S.by_ k.1).length (x.r 2).toNat))
structure YLay (A A' : Lay) : Prop where
 a : A'.a = A.a
 w : A'.wt = A.wt ∧ A'.born = A.born ∧ A'.clock = A.clock
 g : A'.g = A.g ∧ A'.gcap = A.gcap ∧ A'.gc = A.gc
theorem wH : ∃ n, ∀ {σ} {F : Fam σ} {Δ : DM F} {main s} (K : Nat) (A : Lay) (S : St) (Fr L : Frag) (b : Nat) (x : PS) (k : Nat × Nat), (∀ cs, (Δ s).New (.cells cs 96)) → Rep K A S Fr L → (b, x) ∈ S.ps → WF x → k.1 < 5 → k.2 = 4 → x.r 1 + x.r 2 ≤ 64 → (S.by_ k.1).length ≤ 8 →
   CallsL Δ Tryz.prog main 166 [ptr K, ptr b, keyv k].toArray n s L (fun s' v L' => s = s' ∧ v = .nilIface ∧ ∃ A', YLay A A' ∧ Rep K A' (S.readP b x k) Fr L') := by
 obtain ⟨n2, g2⟩ := wG;apply Exists.intro;intro σ F Δ main s K A S Fr L b x k hN hR hb hx hk5 hk4 hfc h8;have wx1 := hx.r 1 (by omega);have wx2 := hx.r 2 (by omega);obtain ⟨base, cap, hv, _⟩ : ∃ base cap, slv (A.y k.1) (S.by_ k.1).length = .slice base (S.by_ k.1).length cap ∧ True := by
   obtain ⟨base, cap, h, _⟩ := br (hR.ya k.1 hk5);simp only [List.length_map] at h;exact ⟨base, cap, h, trivial⟩
 have w1 : IntKind.i64.wrap (x.r 1) = x.r 1 := by simp [IntKind.wrap_i64]; omega
 have w2 : IntKind.i64.wrap (x.r 2) = x.r 2 := by simp [IntKind.wrap_i64]; omega
 have w3 : IntKind.i64.wrap (x.r 1 + x.r 2) = x.r 1 + x.r 2 := by simp [IntKind.wrap_i64]; omega
 co_applyP aB 100 Tryz.func166 Tryz.ntmps166;co_applyP ai;co_applyP bI rfl (bS (hN _));intro xk L1 hA1;have hR1 := hR.add hA1;have h0 : At L1 xk 0 (.int .i64 (k.1 : Nat)) := ⟨true, _, _, _, hA1.self, rfl⟩;have h1 : At L1 xk 1 (.int .i64 (k.2 : Nat)) := ⟨true, _, _, _, hA1.self, rfl⟩;have hx1 : At L1 b 8 (.int .u16 (x.r 1)) := hR1.pat hb (bg x (i := 1) (by omega));have hx2 : At L1 b 9 (.int .u16 (x.r 2)) := hR1.pat hb (bg x (i := 2) (by omega));have hky : At L1 K (10 + k.1) (.slice base (S.by_ k.1).length cap) := by rw [← hv]; exact hR1.kat (qt _ hk5)
 have e4 : ((k.2 : Int) == 4) = true := by simp; omega
 have edl : (x.r 1 + x.r 2).toNat - (x.r 1).toNat = (x.r 2).toNat := by omega
 obtain ⟨nn, hnn⟩ : ∃ nn, nn = Nat.min (S.by_ k.1).length (x.r 2).toNat := ⟨_, rfl⟩;have hn1 : nn ≤ (S.by_ k.1).length := by rw [hnn]; exact Nat.min_le_left _ _
 have hn2 : nn ≤ (x.r 2).toNat := by rw [hnn]; exact Nat.min_le_right _ _
 co_applyP oy rfl aj;co_applyP aa;co_applyP ar;co_applyP bk aZ;co_applyP tr (i := 0) rfl ah pI;co_applyP tr (i := 1) rfl aK pI;co_applyP tr (i := 2) rfl (av (hf := aD)) pI;co_applyP tr (i := 3) rfl (av (hf := aX)) pI;co_applyP tr (i := 4) rfl (aW U47 a6) pI;co_applyP tr (i := 5) rfl (aG (ht := cn)) pI;co_applyP tr (i := 6) rfl (b9 (hs := U32) (ht := U3)) pI;co_applyP tr (i := 7) rfl ah pI;co_applyP tr (i := 8) rfl aK pI;co_applyP tr (i := 9) rfl (av (hf := aD)) pI;co_applyP tr (i := 10) rfl (av (hf := aX)) pI;co_applyP tr (i := 11) rfl (aW U47 a6) pI;co_applyP tr (i := 12) rfl (aG (ht := cn)) pI;co_applyP tr (i := 13) rfl (b9 (hs := U32) (ht := U3)) pI;co_applyP tr (i := 14) rfl aj pI;co_applyP tr (i := 15) rfl aj pI;co_applyP td (by kernel_rfl);co_applyP ai;co_applyP oy rfl ah;co_applyP oy rfl aK;co_applyP oy rfl (av (hf := fN));co_applyP oy rfl ah;co_applyP oy rfl ah;co_applyP oy rfl ah;co_applyP oy rfl a8;simp only [w1, w2, w3];co_applyP oy rfl (uz Tryz.underlying94 d9);co_applyP oy rfl aj;co_applyP aa;co_applyP ar (n₂ := 0);co_applyP ai;co_applyP oy rfl (av (hf := ie));co_applyP oy rfl (aG (ht := aY));co_applyP oy rfl aA;co_applyP aa;change wpE ..;rw [e4, edl];co_applyP aS rfl;co_applyP ar;have hya := hR1.ya k.1 hk5;have hrd : Reads Tryz.prog L1 1 nn (.slice base (S.by_ k.1).length cap) (((S.by_ k.1).take nn).map fun v => Value.int .u8 v).toArray := by
   have := uB hya (n := nn) (by simpa using hn1);rw [List.length_map, hv] at this;rw [List.map_take]; exact this
 have hco : cutAt (0 + 15) (x.r 1).toNat 64 1 = if 64 = (x.r 1).toNat then 15 else 15 + (x.r 1).toNat := by unfold cutAt; split <;> omega
 rw [hnn] at hrd;co_applyP bj [] 8 (nf := 0) aZ;co_applyP tr (i := 0) rfl ah (ae (by simp));co_applyP tr (i := 1) rfl ah (ae (by simp));co_applyP tr (i := 2) rfl (av (hf := dF)) (ae (by simp));co_applyP t0 (i := 3) rfl (aG (ht := aY)) (ae (by simp));co_applyP tr (i := 4) rfl aK (ae (by simp));co_applyP tr (i := 5) rfl (av (hf := eh)) (ae (by simp));co_applyP tr (i := 6) rfl (aW o6 gx) (ae (by simp));co_applyP t0 (i := 7) rfl (aG (ht := qg)) (ae (by simp));co_applyP a7;intro hnd;co_applyP te (i := 8) rfl (Bi (hnd := hnd) (hu := U44) (hs := d9) (hr := hrd) (hm := hR1.p _ hb) (ho := by rw [bd, hco]; simp only [List.size_toArray, List.length_map, List.length_take]; rw [← hnn]; split <;> omega) (hp := by rw [List.all_eq_true]; intro v hv; obtain ⟨w, _, rfl⟩ := List.mem_map.1 hv; rfl));rintro _ _ ⟨rfl, hU2⟩;refine ⟨aE (by simp), ?_⟩;rename_i L2;rw [← hnn] at hU2;co_applyP to (i := 9) rfl (aj) (aE (by simp));rw [← hnn];have hpk : puts (pcells x) (cutAt (0 + 15) (x.r 1).toNat 64 1) (((S.by_ k.1).take nn).map fun v => Value.int .u8 v).toArray.toList = pcells (x.poke (x.r 1).toNat ((S.by_ k.1).take nn)) := by
   rw [hco]
   split
   · have : nn = 0 := by omega
     subst this; rfl
   · exact uA _ x _ (by simp; omega)
 rw [hpk] at hU2;have hR2 := hR1.setP hb (x' := x.poke (x.r 1).toNat ((S.by_ k.1).take nn)) hU2;have hb2 : (b, x.poke (x.r 1).toNat ((S.by_ k.1).take nn)) ∈ (S.setP b (x.poke (x.r 1).toNat ((S.by_ k.1).take nn))).ps := aq hb;have hbK : xk ≠ b := fun e => hA1.new _ (hR.p _ hb) e.symm;have h02 : At L2 xk 0 (.int .i64 (k.1 : Nat)) := ⟨true, _, _, _, hU2.ne _ hA1.self hbK, rfl⟩;have hky2 : At L2 K (10 + k.1) (.slice base (S.by_ k.1).length cap) := by rw [← hv]; exact hR2.kat (qt _ hk5)
 co_applyP td (by kernel_rfl);co_applyP ar;have hpl : ((S.by_ k.1).map fun v => Value.int .u8 v).all plainV = true := by rw [List.all_eq_true]; intro v hv; obtain ⟨w, _, rfl⟩ := List.mem_map.1 hv; rfl
 have g2' := g2 (Δ := Δ) (main := main) (s := s) L2 (A.y k.1) ((S.by_ k.1).map fun v => Value.int .u8 v) nn hR2.fn (by simpa using hn1) (by simp; omega) hpl (hR2.ya k.1 hk5);rw [List.length_map, hv] at g2';co_applyP bj [(xk, true, Obj.cells (keyv k).cells 96)] 11 aZ;have hxk2 : (xk, true, Obj.cells (keyv k).cells 96) ∈ L2 := hU2.ne _ hA1.self hbK;have hxm : ∀ (L : Frag), (xk, true, Obj.cells (keyv k).cells 96) ∈ L → ∀ t ∈ [(xk, true, Obj.cells (keyv k).cells 96)], t ∈ L := fun L h t ht => by simp only [List.mem_singleton] at ht; rw [ht]; exact h
 have tyy : ∀ {c : Nat} {fl : Bool} {o : Obj}, (c, fl, o) ∈ L2 → (∀ c', o ≠ Obj.cells c' 5) → (A.y k.1).b ≠ some c := fun hm ho hc => by
   obtain ⟨xs, hx'⟩ := hR2.yl _ _ hc;exact ho _ (hR2.fn _ _ _ _ _ hm hx').2
 have hyx := tyy hxk2 fun c => aF (by decide);have hyK := tyy hR2.k fun c => aF (by decide);co_applyP tr (i := 0) rfl ah (ae (hxm _ hxk2));co_applyP tr (i := 1) rfl (av (hf := dF)) (ae (hxm _ hxk2));co_applyP tr (i := 2) rfl (aG (ht := aY)) (ae (hxm _ hxk2));co_applyP tr (i := 3) rfl ah (ae (hxm _ hxk2));co_applyP tr (i := 4) rfl (av (hf := dF)) (ae (hxm _ hxk2));co_applyP t0 (i := 5) rfl (aG (ht := aY)) (ae (hxm _ hxk2));co_applyP tr (i := 6) rfl aK (ae (hxm _ hxk2));co_applyP tr (i := 7) rfl (av (hf := eh)) (ae (hxm _ hxk2));co_applyP tr (i := 8) rfl (aW o6 gx) (ae (hxm _ hxk2));co_applyP t0 (i := 9) rfl (aG (ht := qg)) (ae (hxm _ hxk2));co_applyP tr (i := 10) rfl ah (ae (hxm _ hxk2));co_applyP tr (i := 12) rfl aK (ae (hxm _ hxk2));co_applyP tr (i := 13) rfl (av (hf := eh)) (ae (hxm _ hxk2));co_applyP tc (i := 11) rfl rfl rfl (g2');rintro _ _ _ ⟨rfl, a', rfl, hp, hab⟩;refine ⟨aE (hxm _ (hp.sub _ hxk2 hyx)), ?_⟩;rename_i L3;co_applyP to (i := 14) rfl ((aW o6 gx)) (aE (hxm _ (hp.sub _ hxk2 hyx)));co_applyP a7;intro hnd';have hK3 := hp.sub _ hR2.k hyK;have hxKne : xk ≠ K := fun e => hA1.new _ hR.k e.symm;co_applyP te (i := 15) rfl (eW (hnd := hnd') (hm := hK3) (hi := by rw [bw]; omega) (hp := eL _ _) (hs := gx));rintro _ _ ⟨rfl, hU4⟩;refine ⟨aE (hxm _ (hU4.ne _ (hp.sub _ hxk2 hyx) hxKne)), ?_⟩;rename_i L4;co_applyP td (by kernel_rfl);co_applyP ai;co_applyP oy rfl ah;co_applyP oy rfl ah;co_applyP oy rfl (b9 (hs := U3) (ht := U32));co_applyP oy rfl aK;co_applyP oy rfl (av (hf := aD));co_applyP oy rfl (av (hf := aX));co_applyP oy rfl (aW U47 a6);have hR4 : Rep K (A.setY k.1 a') ((S.setP b (x.poke (x.r 1).toNat ((S.by_ k.1).take nn))).setY k.1 ((S.by_ k.1).drop nn)) Fr L4 := by
   refine hR2.setBytes hk5 hU4.fn ?_ (fun t ht h1 h2 => hU4.ne _ (hp.sub _ ht h2) h1) ?_ (fun c hc => .inl (by rw [← hab]; exact hc))
   · show (K, true, Obj.cells (kcells _) 115) ∈ L4;have := hU4.self;rw [mw _ hk5] at this;rw [pp, List.length_drop];exact this
   · rw [List.map_drop];refine hp.ok.mono fun c hc o ho => hU4.ne _ ho fun e => ?_;rw [hab] at hc;exact hyK (by rw [hc]; exact congrArg some e)
 have hb4 : (b, x.poke (x.r 1).toNat ((S.by_ k.1).take nn)) ∈ ((S.setP b (x.poke (x.r 1).toNat ((S.by_ k.1).take nn))).setY k.1 ((S.by_ k.1).drop nn)).ps := hb2;have wn : IntKind.u16.wrap ((nn : Nat) : Int) = ((nn : Nat) : Int) := by rw [cJ]; omega
 rw [wn];co_applyP osm rfl (hs := a6) (hm := hR4.p _ hb4) (hi := by first | decide | (rw [bd]; omega) | (rw [bw]; omega));intro L5 hU5;have h7 : (pcells (x.poke (x.r 1).toNat ((S.by_ k.1).take nn))).setIfInBounds (7 + 0) (.int .u16 ((nn : Nat) : Int)) = pcells (x.got (S.by_ k.1)) := by rw [dA _ (by omega)]; unfold PS.got; simp only [← hnn]
 have hR5 := hR4.setP hb4 (x' := x.got (S.by_ k.1)) (h7 ▸ hU5);co_applyP aa;co_applyP ai;co_applyP oy rfl aj;co_applyP aa;co_applyP aI;change ∃ v, resE .. = some v ∧ _;refine ⟨_, rfl, rfl, rfl, A.setY k.1 a', ⟨rfl, ⟨rfl, rfl, rfl⟩, ⟨rfl, rfl, rfl⟩⟩, ?_⟩;have e6 : ((S.setP b (x.poke (x.r 1).toNat ((S.by_ k.1).take nn))).setY k.1 ((S.by_ k.1).drop nn)).setP b (x.got (S.by_ k.1)) = S.readP b x k := by
   unfold St.readP St.setP St.setY;rw [← hnn];simp only [List.map_map];congr 1;apply List.map_congr_left;intro q _;simp only [Function.comp]
   split
   · simp
   · rename_i h; simp [h]
 rw [e6] at hR5;exact hR5
def okEnd (k : Nat × Nat) : Prop := (0 < k.1 ∧ k.1 < 5) ∧ (k.2 = 4 ∨ k.2 = 5)
structure Asks (y : PS) (k : Nat × Nat) : Prop where
 f : y.file (y.r 0) = k
 a : y.r 1 + y.r 2 ≤ 64
 w : k.2 = 5 → y.r 2 ≤ 8
 s : y.st = 1 ∨ y.st = k.2
structure Inv (S : St) : Prop where
 g : Good S
 wf : ∀ q ∈ S.ps, WF q.2
 fl : ∀ q ∈ S.ps, ∀ i, i < 6 → q.2.f i = (0, 0) ∨ okEnd (q.2.f i)
 y8 : ∀ i, i < 5 → (S.by_ i).length ≤ 8
 yb : ∀ i, i < 5 → ∀ v ∈ S.by_ i, 0 ≤ v ∧ v < 256
 kn : (S.wt.map (·.1)).Nodup
 ne : ∀ e ∈ S.wt, e.2 ≠ []
 nd : ∀ e ∈ S.wt, e.2.Nodup
 ke : ∀ e ∈ S.wt, okEnd e.1
 rm : ∀ e ∈ S.wt, ∀ c ∈ e.2, ∃ y, (c, y) ∈ S.ps ∧ Asks y e.1
def St.out (S : St) (b : Nat) : Prop := ∀ e ∈ S.wt, b ∉ e.2
theorem okEnd.key {k : Nat × Nat} (h : okEnd k) : okKey k := by
 obtain ⟨_, h | h⟩ := h <;> (unfold okKey; omega)
section
variable {S : St} {b : Nat} {x x' : PS} {k : Nat × Nat}
theorem Inv.w (h : Inv S) : WGood S where
 kn := h.kn
 kk := fun e he => (h.ke e he).key
 rl := fun e he => by
   have := iR (m := S.ps.map (·.1)) (h.nd e he) fun c hc => by
     obtain ⟨y, hy, _⟩ := h.rm e he c hc;exact List.mem_map.2 ⟨_, hy, rfl⟩
   have h8 := h.g.p8;simp at this;omega
 ne := h.ne
 rm := fun e he c hc => by
   obtain ⟨y, hy, _⟩ := h.rm e he c hc;exact ⟨y, hy⟩
theorem b5 {e : (Nat × Nat) × List Nat} : ∀ {l : Wt}, e ∈ departW b k l → (e ∈ l ∧ e.1 ≠ k) ∨ (e.1 = k ∧ e.2 ≠ [] ∧ ∃ xs, (k, xs) ∈ l ∧ e.2 = xs.filter fun c => !decide (c = b)) := by
 intro l h;unfold departW at h;obtain ⟨e', he', h2⟩ := List.mem_filterMap.1 h
 split at h2
 · rename_i hk
   split at h2
   · cases h2
   · rename_i hne;simp at h2;subst h2;obtain ⟨k', xs⟩ := e';simp only at hk hne he';subst hk;refine .inr ⟨rfl, ?_, xs, he', rfl⟩;intro e0;have e0' : (xs.filter fun c => !decide (c = b)) = [] := e0;exact hne (by rw [e0']; rfl)
 · rename_i hk;simp at h2;subst h2;exact .inl ⟨he', hk⟩
theorem mz {l : Wt} : ((departW b k l).map (·.1)).Sublist (l.map (·.1)) := by
 induction l with
 | nil => exact List.Sublist.slnil
 | cons e l ih =>
   unfold departW at *;rw [List.filterMap_cons]
   split
   · exact ih.cons _
   · rename_i e' he;have : e'.1 = e.1 := by
       split at he
       · rename_i hk
         split at he
         · cases he
         · simp at he; rw [← he]; exact hk.symm
       · simp at he; rw [he]
     rw [List.map_cons, List.map_cons, this];exact ih.cons_cons _
theorem Inv.depart (h : Inv S) : Inv (S.depart b k) where
 g := ⟨h.g.pn, h.g.p8, h.g.lv, h.g.rn, h.g.rm, h.g.rr⟩
 wf := h.wf
 fl := h.fl
 y8 := h.y8
 yb := h.yb
 kn := h.kn.sublist mz
 ne := fun e he => by
   rcases b5 he with ⟨h1, _⟩ | ⟨_, h2, _⟩
   · exact h.ne e h1
   · exact h2
 nd := fun e he => by
   rcases b5 he with ⟨h1, _⟩ | ⟨_, _, xs, h3, h4⟩
   · exact h.nd e h1
   · rw [h4]; exact (h.nd _ h3).sublist List.filter_sublist
 ke := fun e he => by
   rcases b5 he with ⟨h1, _⟩ | ⟨h2, _, xs, h3, h4⟩
   · exact h.ke e h1
   · rw [h2]; exact h.ke _ h3
 rm := fun e he c hc => by
   rcases b5 he with ⟨h1, _⟩ | ⟨h2, _, xs, h3, h4⟩
   · exact h.rm e h1 c hc
   · rw [h2];rw [h4] at hc;exact h.rm _ h3 c (List.mem_filter.1 hc).1
theorem Inv.row (h : Inv S) (hb : (b, x) ∈ S.ps) {e : (Nat × Nat) × List Nat} (he : e ∈ S.wt) (hm : b ∈ e.2) : Asks x e.1 := by
 obtain ⟨y, hy, ha⟩ := h.rm e he b hm;rw [aT h.g.pn hb hy]; exact ha
theorem Inv.out_depart (h : Inv S) (hb : (b, x) ∈ S.ps) : (S.depart b (x.file (x.r 0))).out b := by
 intro e he hm;rcases b5 he with ⟨h1, h2⟩ | ⟨h2, _, xs, h3, h4⟩
 · exact h2 (h.row hb h1 hm).f.symm
 · rw [h4] at hm;have := (List.mem_filter.1 hm).2;simp at this
theorem mA {c : Nat} (h : S.out c) : (S.depart b k).out c := by
 intro e he hm;rcases b5 he with ⟨h1, h2⟩ | ⟨h2, _, xs, h3, h4⟩
 · exact h e h1 hm
 · rw [h4] at hm;exact h _ h3 (List.mem_filter.1 hm).1
theorem Inv.out_st (h : Inv S) (hb : (b, x) ∈ S.ps) (h1 : x.st ≠ 1) (h4 : x.st ≠ 4) (h5 : x.st ≠ 5) : S.out b := fun e he hm => by
 have := (h.row hb he hm).s;rcases (h.ke e he).2 with h | h <;> omega
theorem Inv.setP (h : Inv S) (hb : (b, x) ∈ S.ps) (ho : S.out b) (hg : Good (S.setP b x')) (hw : WF x') (hf : ∀ i, i < 6 → x'.f i = (0, 0) ∨ okEnd (x'.f i)) : Inv (S.setP b x') where
 g := hg
 wf := fun q hq => by
   rcases aP hq with rfl | ⟨h1, _⟩
   · exact hw
   · exact h.wf q h1
 fl := fun q hq => by
   rcases aP hq with rfl | ⟨h1, _⟩
   · exact hf
   · exact h.fl q h1
 y8 := h.y8
 yb := h.yb
 kn := h.kn
 ne := h.ne
 nd := h.nd
 ke := h.ke
 rm := fun e he c hc => by
   obtain ⟨y, hy, ha⟩ := h.rm e he c hc;refine ⟨y, ?_, ha⟩;simp only [St.setP, List.mem_map];refine ⟨(c, y), hy, ?_⟩;rw [if_neg];rintro rfl;exact ho e he hc
theorem Inv.like (h : Inv S) (hb : (b, x) ∈ S.ps) (ho : S.out b) (hs : x'.st = x.st) (hl : x'.lv = x.lv) (hw : WF x') (hf : ∀ i, i < 6 → x'.f i = (0, 0) ∨ okEnd (x'.f i)) : Inv (S.setP b x') := h.setP hb ho (h.g.like hb hs hl) hw hf
theorem Inv.wake1 (h : Inv S) (hb : (b, x) ∈ S.ps) (ho : S.out b) (hs : x.st ≠ 1) : Inv (S.wake1 b x) where
 g := h.g.wake1 hb hs
 wf := fun q hq => by
   rcases aP hq with rfl | ⟨h1, _⟩
   · exact ⟨(h.wf _ hb).r, (h.wf _ hb).m⟩
   · exact h.wf q h1
 fl := fun q hq => by
   rcases aP hq with rfl | ⟨h1, _⟩
   · exact h.fl (b, x) hb
   · exact h.fl q h1
 y8 := h.y8
 yb := h.yb
 kn := h.kn
 ne := h.ne
 nd := h.nd
 ke := h.ke
 rm := fun e he c hc => by
   obtain ⟨y, hy, ha⟩ := h.rm e he c hc;refine ⟨y, ?_, ha⟩;show (c, y) ∈ (S.setP b _).ps;simp only [St.setP, List.mem_map];refine ⟨(c, y), hy, ?_⟩;rw [if_neg];rintro rfl;exact ho e he hc
theorem Inv.setY (h : Inv S) {i : Nat} {ys : List Int} (h8 : ys.length ≤ 8) (hb : ∀ v ∈ ys, 0 ≤ v ∧ v < 256) : Inv (S.setY i ys) where
 g := ⟨h.g.pn, h.g.p8, h.g.lv, h.g.rn, h.g.rm, h.g.rr⟩
 wf := h.wf
 fl := h.fl
 y8 := fun j hj => by
   show (put S.by_ i ys j).length ≤ 8;unfold put; split
   · exact h8
   · exact h.y8 j hj
 yb := fun j hj v hv => by
   have hv' : v ∈ put S.by_ i ys j := hv;unfold put at hv'
   split at hv'
   · exact hb v hv'
   · exact h.yb j hj v hv'
 kn := h.kn
 ne := h.ne
 nd := h.nd
 ke := h.ke
 rm := h.rm
end
def PS.gave (x : PS) : PS := { x with r := put x.r 0 (x.r 2) }
def St.writeP (S : St) (b : Nat) (x : PS) (k : Nat × Nat) : St := (S.setY k.1 (S.by_ k.1 ++ x.peek (x.r 1).toNat (x.r 2).toNat)).setP b x.gave
def St.carried (S : St) (x : PS) (k : Nat × Nat) : PS := if k.2 = 4 then x.got (S.by_ k.1) else if S.isOpen (otherE k) then x.gave else { x with r := put x.r 0 (ansOf 7) }
def St.carry (S : St) (b : Nat) (x : PS) (k : Nat × Nat) : St := if k.2 = 4 then S.readP b x k else if S.isOpen (otherE k) then S.writeP b x k else S.setP b { x with r := put x.r 0 (ansOf 7) }
def St.rowAt (S : St) (k : Nat × Nat) : List Nat := ((S.wt.find? fun e => decide (e.1 = k)).map (·.2)).getD []
def St.serve (S : St) (k : Nat × Nat) : Option St := match S.rowAt k with
 | [] => none
 | b :: _ => match S.get b with
   | none => none
   | some x => if S.canBeDone x k then some (if x.st = 1 then (S.depart b k).carry b x k else ((S.depart b k).carry b x k).wake1 b (S.carried x k)) else none
def St.looks : Nat → St → Nat → St
 | 0, S, _ => S
 | n + 1, S, p => match S.serve (p, 5) with
   | some S' => St.looks n S' p
   | none => match S.serve (p, 4) with
     | some S' => St.looks n S' p
     | none => S
def St.look (S : St) (p : Nat) : St := St.looks 16 S p
def St.meas (S : St) (p : Nat) : Nat := (S.rowAt (p, 5)).length + (S.rowAt (p, 4)).length
def St.shut (S : St) (b n : Nat) : St := match S.get b with
 | some x => (S.setP b { x with f := put x.f n (0, 0) }).look (x.f n).1
 | none => S
def St.shuts (S : St) (b : Nat) (f : Nat → Nat × Nat) : List Nat → St
 | [] => S
 | n :: ns => (if f n = (0, 0) then S else S.shut b n).shuts b f ns
section
variable {S S' : St} {b : Nat} {x x' : PS} {k : Nat × Nat}
theorem fQ {c : Nat} (h : c ∈ S.rowAt k) : ∃ xs, (k, xs) ∈ S.wt ∧ xs = S.rowAt k := by
 unfold St.rowAt at *;cases hf : S.wt.find? fun e => decide (e.1 = k) with
 | none => rw [hf] at h; simp at h
 | some e =>
   have h1 := List.mem_of_find?_eq_some hf;have h2 := List.find?_some hf;simp only [decide_eq_true_eq] at h2;subst h2;exact ⟨e.2, h1, rfl⟩
theorem cQ (h : (S.wt.map (·.1)).Nodup) {xs : List Nat} (hm : (k, xs) ∈ S.wt) : S.rowAt k = xs := by
 obtain ⟨l1, ys, l2, hl, h1, h2⟩ := cr h (List.mem_map.2 ⟨_, hm, rfl⟩);have e1 : S.rowAt k = ys := by
   unfold St.rowAt;rw [hl, List.find?_append, List.find?_eq_none.2 fun e he => by simpa using h1 e he];simp
 rw [hl] at hm;rcases List.mem_append.1 hm with h3 | h3
 · exact absurd rfl (h1 _ h3)
 · rcases List.mem_cons.1 h3 with h4 | h4
   · rw [e1]; cases h4; rfl
   · exact absurd rfl (h2 _ h4)
theorem gJ (h : ∀ e ∈ S.wt, e.1 ≠ k) : S.rowAt k = [] := by
 unfold St.rowAt;rw [List.find?_eq_none.2 fun e he => by simpa using h e he]; rfl
theorem mB (h : (S.wt.map (·.1)).Nodup) (k' : Nat × Nat) : (S.depart b k).rowAt k' = if k' = k then (S.rowAt k).filter (fun c => !decide (c = b)) else S.rowAt k' := by
 by_cases hk : k ∈ S.wt.map (·.1)
 · obtain ⟨l1, ys, l2, hl, h1, h2⟩ := cr h hk;have e0 : S.rowAt k = ys := cQ h (by rw [hl]; simp);have e1 : (S.depart b k).wt = l1 ++ ((if (ys.filter fun c => !decide (c = b)).length = 0 then [] else [(k, ys.filter fun c => !decide (c = b))]) ++ l2) := by
     show departW b k S.wt = _;rw [hl, j4 h1 h2]
   have f1 : l1.find? (fun e => decide (e.1 = k)) = none := List.find?_eq_none.2 fun e he => by simpa using h1 e he
   have f2 : l2.find? (fun e => decide (e.1 = k)) = none := List.find?_eq_none.2 fun e he => by simpa using h2 e he
   split
   · rename_i e; subst e;rw [e0];unfold St.rowAt;rw [e1, List.find?_append, f1, List.find?_append]
     split
     · rename_i hz;have hz' := List.length_eq_zero_iff.1 hz;rw [f2, hz']; rfl
     · simp
   · rename_i hne;unfold St.rowAt;rw [e1, hl, List.find?_append, List.find?_append, List.find?_append];have g1 : ∀ zs, ((k, zs) :: l2).find? (fun e => decide (e.1 = k')) = l2.find? (fun e => decide (e.1 = k')) := fun zs => by
       rw [List.find?_cons]; simp [Ne.symm hne]
     rw [g1]
     split
     · rfl
     · simp [Ne.symm hne]
 · have h0 : ∀ e ∈ S.wt, e.1 ≠ k := fun e he e1 => hk (List.mem_map.2 ⟨e, he, e1⟩);have e1 : S.depart b k = S := by unfold St.depart; rw [dT h0]; rfl
   rw [e1]
   split
   · rename_i e; rw [e, gJ h0]; rfl
   · rfl
theorem qv : ∀ (vs : List Int) (x : PS) (i : Nat), (x.poke i vs).st = x.st ∧ (x.poke i vs).lv = x.lv ∧ (x.poke i vs).f = x.f ∧ (x.poke i vs).id = x.id ∧ (x.poke i vs).par = x.par
 | [], _, _ => ⟨rfl, rfl, rfl, rfl, rfl⟩
 | v :: vs, x, i => qv vs { x with m := put x.m i v } (i + 1)
theorem qw : ∀ (vs : List Int) (x : PS) (i : Nat), WF x → (∀ v ∈ vs, 0 ≤ v ∧ v < 256) → WF (x.poke i vs)
 | [], _, _, h, _ => h
 | v :: vs, x, i, h, hv => qw vs { x with m := put x.m i v } (i + 1) ⟨h.r, fun j hj => by
     show 0 ≤ put x.m i v j ∧ put x.m i v j < 256;unfold put; split
     · exact hv v (by simp)
     · exact h.m j hj⟩ fun w hw => hv w (by simp [hw])
theorem fy (h : WF x) {v : Int} (hv : 0 ≤ v ∧ v < 65536) : WF { x with r := put x.r 0 v } := ⟨fun j hj => by
 show 0 ≤ put x.r 0 v j ∧ put x.r 0 v j < 65536;unfold put; split
 · exact hv
 · exact h.r j hj, h.m⟩
theorem uC (i : Nat) : 0 ≤ ansOf i ∧ ansOf i < 65536 := by
 unfold ansOf
 repeat' split
 all_goals omega
theorem b6 (S : St) (x : PS) (k : Nat × Nat) : (S.carried x k).st = x.st ∧ (S.carried x k).lv = x.lv ∧ (S.carried x k).f = x.f ∧ (S.carried x k).id = x.id ∧ (S.carried x k).par = x.par := by
 unfold St.carried
 split
 · exact qv _ _ _
 · split <;> exact ⟨rfl, rfl, rfl, rfl, rfl⟩
theorem pq (h : Inv S) (hk : k.1 < 5) (hx : WF x) (ha : x.r 1 + x.r 2 ≤ 64) : WF (S.carried x k) := by
 unfold St.carried
 split
 · refine fy (qw _ _ _ hx fun v hv => h.yb _ hk v (List.mem_of_mem_take hv)) ⟨by omega, ?_⟩;have := h.y8 _ hk;have : (Nat.min (S.by_ k.1).length (x.r 2).toNat : Nat) ≤ (S.by_ k.1).length := Nat.min_le_left _ _;omega
 · split
   · exact fy hx (hx.r 2 (by omega))
   · exact fy hx (uC 7)
theorem eN (S : St) (b : Nat) (x : PS) (k : Nat × Nat) : ∃ ys, S.carry b x k = (S.setP b (S.carried x k)).setY k.1 ys ∧ (k.2 = 4 → ys = (S.by_ k.1).drop (Nat.min (S.by_ k.1).length (x.r 2).toNat)) ∧ (k.2 ≠ 4 → ys = if S.isOpen (otherE k) then S.by_ k.1 ++ x.peek (x.r 1).toNat (x.r 2).toNat else S.by_ k.1) := by
 unfold St.carry St.carried
 split
 · rename_i h; exact ⟨_, rfl, fun _ => rfl, fun hn => absurd h hn⟩
 · rename_i h
   split
   · exact ⟨_, rfl, fun h' => absurd h' h, fun _ => rfl⟩
   · refine ⟨S.by_ k.1, ?_, fun h' => absurd h' h, fun _ => rfl⟩;have : put S.by_ k.1 (S.by_ k.1) = S.by_ := by funext j; unfold put; split <;> simp_all
     show _ = { S.setP b _ with by_ := put S.by_ k.1 (S.by_ k.1) };rw [this]; rfl
theorem Inv.carry (h : Inv S) (hb : (b, x) ∈ S.ps) (ho : S.out b) (hk : k.1 < 5) (ha : x.r 1 + x.r 2 ≤ 64) (hc : S.canBeDone x k = true) : Inv (S.carry b x k) := by
 obtain ⟨ys, e, h4, h5⟩ := eN S b x k;obtain ⟨l1, l2, l3, _, _⟩ := b6 S x k;have hI := h.like hb ho l1 l2 (pq h hk (h.wf _ hb) ha) (by rw [l3]; exact h.fl _ hb);rw [e];have hy8 := h.y8 _ hk;have hyb := h.yb _ hk;have w2 : 0 ≤ x.r 2 ∧ x.r 2 < 65536 := (h.wf _ hb).r 2 (by omega);have w1 : 0 ≤ x.r 1 ∧ x.r 1 < 65536 := (h.wf _ hb).r 1 (by omega);refine hI.setY ?_ ?_
 · by_cases h44 : k.2 = 4
   · rw [h4 h44, List.length_drop]; omega
   · rw [h5 h44]
     split
     · rename_i ho;unfold St.canBeDone at hc;rw [if_pos ho, if_neg h44] at hc;simp only [decide_eq_true_eq] at hc;simp [PS.peek];omega
     · exact hy8
 · by_cases h44 : k.2 = 4
   · rw [h4 h44]; exact fun v hv => hyb v (List.mem_of_mem_drop hv)
   · rw [h5 h44]
     split
     · intro v hv;rcases List.mem_append.1 hv with h1 | h1
       · exact hyb v h1
       · unfold PS.peek at h1;obtain ⟨j, hj, rfl⟩ := List.mem_map.1 h1;simp at hj;exact (h.wf _ hb).m _ (by omega)
     · exact hyb
theorem iu (S : St) (b : Nat) (x : PS) (k : Nat × Nat) : (S.carry b x k).wt = S.wt := by
 obtain ⟨ys, e, _⟩ := eN S b x k;rw [e]; rfl
theorem cK (S : St) (b : Nat) (x : PS) (k : Nat × Nat) : (S.carry b x k).ps = (S.setP b (S.carried x k)).ps := by
 obtain ⟨ys, e, _⟩ := eN S b x k;rw [e]; rfl
theorem cL (hS : S.serve k = some S') : ∃ b x, b ∈ S.rowAt k ∧ (S.rowAt k).head? = some b ∧ (b, x) ∈ S.ps ∧ S.canBeDone x k = true ∧ S' = if x.st = 1 then (S.depart b k).carry b x k else ((S.depart b k).carry b x k).wake1 b (S.carried x k) := by
 unfold St.serve at hS
 split at hS
 · cases hS
 · rename_i b l hr
   split at hS
   · cases hS
   · rename_i x hx
     split at hS
     · rename_i hc;refine ⟨b, x, by rw [hr]; simp, by rw [hr]; rfl, aV hx, hc, ?_⟩;exact (Option.some.inj hS).symm
     · cases hS
theorem Inv.atRow (h : Inv S) {c : Nat} (hc : c ∈ S.rowAt k) (hb : (c, x) ∈ S.ps) : Asks x k ∧ okEnd k := by
 obtain ⟨xs, h1, h2⟩ := fQ hc;exact ⟨h.row hb h1 (by rw [h2]; exact hc), h.ke _ h1⟩
theorem Inv.serve (h : Inv S) (hS : S.serve k = some S') : Inv S' := by
 obtain ⟨b, x, hm, _, hb, hc, rfl⟩ := cL hS;obtain ⟨ha, hk⟩ := h.atRow hm hb;have hd : Inv (S.depart b k) := h.depart;have ho : (S.depart b k).out b := by have := h.out_depart hb; rw [ha.f] at this; exact this
 have hI := Inv.carry hd (b := b) (x := x) (k := k) hb ho hk.1.2 ha.a hc
 split
 · exact hI
 · rename_i h1;refine hI.wake1 ?_ (by intro e he; exact ho e (by rw [iu] at he; exact he)) (by rw [(b6 S x k).1]; exact h1);rw [cK]; exact aq hb
theorem kg (hS : S.serve k = some S') : ∃ b, (S.rowAt k).head? = some b ∧ S'.wt = (S.depart b k).wt := by
 obtain ⟨b, x, hm, hh, hb, hc, rfl⟩ := cL hS;refine ⟨b, hh, ?_⟩
 split
 · exact iu _ _ _ _
 · show ((S.depart b k).carry b x k).wt = _;exact iu _ _ _ _
theorem nN {S S' : St} (h : S'.wt = S.wt) (k : Nat × Nat) : S'.rowAt k = S.rowAt k := by unfold St.rowAt; rw [h]
theorem kh (h : Inv S) {p u : Nat} (hu : u = 4 ∨ u = 5) (hS : S.serve (p, u) = some S') : S'.meas p < S.meas p := by
 obtain ⟨b, hh, hw⟩ := kg hS;have e1 := nN hw (p, 4);have e2 := nN hw (p, 5);rw [mB h.kn] at e1 e2;have hlt : ((S.rowAt (p, u)).filter fun c => !decide (c = b)).length < (S.rowAt (p, u)).length := by
   rw [List.length_filter_lt_length_iff_exists];refine ⟨b, List.mem_of_head? hh, by simp⟩
 unfold St.meas;rw [e1, e2];rcases hu with rfl | rfl
 · rw [if_pos rfl, if_neg (by simp)]; omega
 · rw [if_pos rfl, if_neg (by simp)]; omega
theorem lp {c : Nat} (h : S.out c) (hS : S.serve k = some S') : S'.out c := by
 obtain ⟨b, hh, hw⟩ := kg hS;intro e he;rw [hw] at he;exact mA h e he
theorem r9 {c : Nat} {y : PS} (h : Inv S) (ho : S.out c) (hc : (c, y) ∈ S.ps) (hS : S.serve k = some S') : (c, y) ∈ S'.ps := by
 obtain ⟨b, x, hm, hh, hb, hd, rfl⟩ := cL hS;have hne : c ≠ b := by
   rintro rfl;obtain ⟨xs, h1, h2⟩ := fQ hm;exact ho _ h1 (by rw [h2]; exact hm)
 have stay : ∀ (T : St) (z : PS), (c, y) ∈ T.ps → (c, y) ∈ (T.setP b z).ps := fun T z hT => by
   simp only [St.setP, List.mem_map];exact ⟨(c, y), hT, by rw [if_neg hne]⟩
 split
 · rw [cK]; exact stay _ _ hc
 · show (c, y) ∈ (((S.depart b k).carry b x k).setP b _).ps;apply stay;rw [cK]; exact stay _ _ hc
theorem sd (hS : S.serve k = some S') : S'.ps.map (·.1) = S.ps.map (·.1) := by
 obtain ⟨b, x, hm, hh, hb, hd, rfl⟩ := cL hS;have e1 : ((S.depart b k).carry b x k).ps.map (·.1) = S.ps.map (·.1) := by rw [cK, aU]; rfl
 split
 · exact e1
 · show (((S.depart b k).carry b x k).setP b _).ps.map (·.1) = _;rw [aU, e1]
theorem qx (h : Inv S) (p : Nat) : S.meas p ≤ 16 := by
 have aux : ∀ k, (S.rowAt k).length ≤ 8 := fun k => by
   cases hr : S.rowAt k with
   | nil => simp
   | cons c l =>
     obtain ⟨xs, h1, h2⟩ := fQ (S := S) (k := k) (c := c) (by rw [hr]; simp);have := h.w.rl _ h1;simp only at this;rw [h2, hr] at this;exact this
 have h1 := aux (p, 5);have h2 := aux (p, 4);unfold St.meas;omega
theorem pr {p : Nat} (h5 : S.serve (p, 5) = none) (h4 : S.serve (p, 4) = none) : ∀ n, St.looks n S p = S
 | 0 => rfl
 | n + 1 => by simp only [St.looks, h5, h4]
structure Looked (S S' : St) : Prop where
 i : Inv S'
 f : S'.ps.map (·.1) = S.ps.map (·.1)
 o : ∀ c, S.out c → S'.out c
 m : ∀ c y, S.out c → (c, y) ∈ S.ps → (c, y) ∈ S'.ps
theorem Inv.looks (p : Nat) : ∀ (n : Nat) {S : St}, Inv S → Looked S (St.looks n S p)
 | 0, S, h => ⟨h, rfl, fun _ h => h, fun _ _ _ h => h⟩
 | n + 1, S, h => by
   have go : ∀ {u : Nat} {S' : St}, S.serve (p, u) = some S' → Looked S (St.looks n S' p) := fun {u S'} hS => by
     have ih := Inv.looks p n (h.serve hS);exact ⟨ih.i, ih.f.trans (sd hS), fun c hc => ih.o c (lp hc hS), fun c y hc hy => ih.m c y (lp hc hS) (r9 h hc hy hS)⟩
   unfold St.looks
   split
   · exact go ‹_›
   · split
     · exact go ‹_›
     · exact ⟨h, rfl, fun _ h => h, fun _ _ _ h => h⟩
theorem Inv.look (h : Inv S) (p : Nat) : Looked S (S.look p) := Inv.looks p 16 h
theorem gK (h : ∀ i, i < 6 → x.f i = (0, 0) ∨ okEnd (x.f i)) {n : Nat} {e : Nat × Nat} (he : e = (0, 0) ∨ okEnd e) : ∀ i, i < 6 → put x.f n e i = (0, 0) ∨ okEnd (put x.f n e i) := fun i hi => by
 unfold put; split
 · exact he
 · exact h i hi
theorem Inv.shut (h : Inv S) (hb : (b, x) ∈ S.ps) (ho : S.out b) (n : Nat) : Looked (S.setP b { x with f := put x.f n (0, 0) }) (S.shut b n) := by
 unfold St.shut;rw [bf h.g.pn hb];exact Inv.look (h.like (x' := { x with f := put x.f n (0, 0) }) hb ho rfl rfl ⟨(h.wf _ hb).r, (h.wf _ hb).m⟩ (gK (h.fl _ hb) (.inl rfl))) _
end
theorem wI : ∃ n, ∀ {σ} {F : Fam σ} {Δ : DM F} {main s} (K : Nat) (A : Lay) (S : St) (Fr L : Frag) (eb : Nat → Nat × Nat) (b : Nat) (x : PS) (k : Nat × Nat), (∀ cs, (Δ s).New (.cells cs 96)) → (∀ cs, (Δ s).New (.cells cs 210)) → Rep K A S Fr L → Ers eb Fr → (b, x) ∈ S.ps → WF x → k.2 ≠ 4 → x.r 1 + x.r 2 ≤ 64 → S.isOpen (otherE k) = false →
   CallsL Δ Tryz.prog main 166 [ptr K, ptr b, keyv k].toArray n s L (fun s' v L' => s = s' ∧ ∃ r, v = .iface 180 (ptr r) ∧ At L' r 1 (erv eb 7) ∧ Rep K A S Fr L') := by
 obtain ⟨n0, g0⟩ := mr;obtain ⟨n1, g1⟩ := ip;obtain ⟨n2, g2⟩ := nI;apply Exists.intro;intro σ F Δ main s K A S Fr L eb b x k hN hN2 hR hE hb hx hk4 hfc hop;have wx1 := hx.r 1 (by omega);have wx2 := hx.r 2 (by omega);have w1 : IntKind.i64.wrap (x.r 1) = x.r 1 := by simp [IntKind.wrap_i64]; omega
 have w2 : IntKind.i64.wrap (x.r 2) = x.r 2 := by simp [IntKind.wrap_i64]; omega
 have w3 : IntKind.i64.wrap (x.r 1 + x.r 2) = x.r 1 + x.r 2 := by simp [IntKind.wrap_i64]; omega
 co_applyP aB 100 Tryz.func166 Tryz.ntmps166;co_applyP ai;co_applyP bI rfl (bS (hN _));intro xk L1 hA1;have hR1 := hR.add hA1;have h1 : At L1 xk 1 (.int .i64 (k.2 : Nat)) := ⟨true, _, _, _, hA1.self, rfl⟩;have hx1 : At L1 b 8 (.int .u16 (x.r 1)) := hR1.pat hb (bg x (i := 1) (by omega));have hx2 : At L1 b 9 (.int .u16 (x.r 2)) := hR1.pat hb (bg x (i := 2) (by omega));have e4 : ((k.2 : Int) == 4) = false := by simp; omega
 co_applyP oy rfl aj;co_applyP aa;co_applyP ar;co_applyP bk aZ;co_applyP tr (i := 0) rfl ah pI;co_applyP tr (i := 1) rfl aK pI;co_applyP tr (i := 2) rfl (av (hf := aD)) pI;co_applyP tr (i := 3) rfl (av (hf := aX)) pI;co_applyP tr (i := 4) rfl (aW U47 a6) pI;co_applyP tr (i := 5) rfl (aG (ht := cn)) pI;co_applyP tr (i := 6) rfl (b9 (hs := U32) (ht := U3)) pI;co_applyP tr (i := 7) rfl ah pI;co_applyP tr (i := 8) rfl aK pI;co_applyP tr (i := 9) rfl (av (hf := aD)) pI;co_applyP tr (i := 10) rfl (av (hf := aX)) pI;co_applyP tr (i := 11) rfl (aW U47 a6) pI;co_applyP tr (i := 12) rfl (aG (ht := cn)) pI;co_applyP tr (i := 13) rfl (b9 (hs := U32) (ht := U3)) pI;co_applyP tr (i := 14) rfl aj pI;co_applyP tr (i := 15) rfl aj pI;co_applyP td (by kernel_rfl);co_applyP ai;co_applyP oy rfl ah;co_applyP oy rfl aK;co_applyP oy rfl (av (hf := fN));co_applyP oy rfl ah;co_applyP oy rfl ah;co_applyP oy rfl ah;co_applyP oy rfl a8;simp only [w1, w2, w3];co_applyP oy rfl (uz Tryz.underlying94 d9);co_applyP oy rfl aj;co_applyP aa;co_applyP ar;co_applyP ai;co_applyP oy rfl (av (hf := ie));co_applyP oy rfl (aG (ht := aY));co_applyP oy rfl aA;co_applyP aa;change wpE ..;rw [e4];co_applyP ak rfl;co_applyP aC;co_applyP ar (n₂ := 0);co_applyP ai;co_applyP oy rfl ah;co_applyP oy rfl (a5 (ht := bH) (hs := bh) (hm := hA1.self) (hi := Nat.le_refl _));co_applyP ocm rfl rfl rfl (g0 L1 k hN);rintro _ _ _ ⟨rfl, rfl, hE2⟩;rename_i L2;co_applyP oc rfl rfl rfl (g1 K A S Fr L2 (otherE k) hN (hR1.ext hE2));rintro _ _ _ ⟨rfl, rfl, hE3⟩;co_applyP oy rfl bY;co_applyP aa;change wpE ..;rename_i L3;have hR3 := (hR1.ext hE2).ext hE3;have hg := (hE.mono hR3.fr).g 7 (by decide) (by decide);rw [hop];co_applyP aS rfl;co_applyP ai;co_applyP oy rfl (aG (ht := bV));co_applyP oc rfl rfl rfl (g2 L3 10 (eb 7) hN2);rintro _ _ _ ⟨rfl, r, rfl, hA4⟩;co_applyP oy rfl aj;co_applyP aa;co_applyP aI;change ∃ v, resE .. = some v ∧ _;exact ⟨_, rfl, rfl, r, rfl, ⟨true, _, _, _, hA4.self, rfl⟩, hR3.add hA4⟩
theorem wJ : ∃ n, ∀ {σ} {F : Fam σ} {Δ : DM F} {main s} (K : Nat) (A : Lay) (S : St) (Fr L : Frag) (b : Nat) (x : PS) (k : Nat × Nat), (∀ cs, (Δ s).New (.cells cs 96)) → (∀ cs, (Δ s).New (.cells cs 5)) → Rep K A S Fr L → (b, x) ∈ S.ps → WF x → k.1 < 5 → k.2 ≠ 4 → x.r 1 + x.r 2 ≤ 64 → (S.by_ k.1).length ≤ 8 → S.isOpen (otherE k) = true →
   CallsL Δ Tryz.prog main 166 [ptr K, ptr b, keyv k].toArray n s L (fun s' v L' => s = s' ∧ v = .nilIface ∧ ∃ A', YLay A A' ∧ Rep K A' (S.writeP b x k) Fr L') := by
 obtain ⟨n0, g0⟩ := mr;obtain ⟨n1, g1⟩ := ip;apply Exists.intro;intro σ F Δ main s K A S Fr L b x k hN hN5 hR hb hx hk5 hk4 hfc h8 hop;have wx1 := hx.r 1 (by omega);have wx2 := hx.r 2 (by omega);have w1 : IntKind.i64.wrap (x.r 1) = x.r 1 := by simp [IntKind.wrap_i64]; omega
 have w2 : IntKind.i64.wrap (x.r 2) = x.r 2 := by simp [IntKind.wrap_i64]; omega
 have w3 : IntKind.i64.wrap (x.r 1 + x.r 2) = x.r 1 + x.r 2 := by simp [IntKind.wrap_i64]; omega
 obtain ⟨base, cap, hv, _⟩ : ∃ base cap, slv (A.y k.1) (S.by_ k.1).length = .slice base (S.by_ k.1).length cap ∧ True := by
   obtain ⟨base, cap, h, _⟩ := br (hR.ya k.1 hk5);simp only [List.length_map] at h;exact ⟨base, cap, h, trivial⟩
 co_applyP aB 100 Tryz.func166 Tryz.ntmps166;co_applyP ai;co_applyP bI rfl (bS (hN _));intro xk L1 hA1;have hR1 := hR.add hA1;have h1 : At L1 xk 1 (.int .i64 (k.2 : Nat)) := ⟨true, _, _, _, hA1.self, rfl⟩;have hx1 : At L1 b 8 (.int .u16 (x.r 1)) := hR1.pat hb (bg x (i := 1) (by omega));have hx2 : At L1 b 9 (.int .u16 (x.r 2)) := hR1.pat hb (bg x (i := 2) (by omega));have e4 : ((k.2 : Int) == 4) = false := by simp; omega
 have edl : (x.r 1 + x.r 2).toNat - (x.r 1).toNat = (x.r 2).toNat := by omega
 co_applyP oy rfl aj;co_applyP aa;co_applyP ar;co_applyP bk aZ;co_applyP tr (i := 0) rfl ah pI;co_applyP tr (i := 1) rfl aK pI;co_applyP tr (i := 2) rfl (av (hf := aD)) pI;co_applyP tr (i := 3) rfl (av (hf := aX)) pI;co_applyP tr (i := 4) rfl (aW U47 a6) pI;co_applyP tr (i := 5) rfl (aG (ht := cn)) pI;co_applyP tr (i := 6) rfl (b9 (hs := U32) (ht := U3)) pI;co_applyP tr (i := 7) rfl ah pI;co_applyP tr (i := 8) rfl aK pI;co_applyP tr (i := 9) rfl (av (hf := aD)) pI;co_applyP tr (i := 10) rfl (av (hf := aX)) pI;co_applyP tr (i := 11) rfl (aW U47 a6) pI;co_applyP tr (i := 12) rfl (aG (ht := cn)) pI;co_applyP tr (i := 13) rfl (b9 (hs := U32) (ht := U3)) pI;co_applyP tr (i := 14) rfl aj pI;co_applyP tr (i := 15) rfl aj pI;co_applyP td (by kernel_rfl);co_applyP ai;co_applyP oy rfl ah;co_applyP oy rfl aK;co_applyP oy rfl (av (hf := fN));co_applyP oy rfl ah;co_applyP oy rfl ah;co_applyP oy rfl ah;co_applyP oy rfl a8;simp only [w1, w2, w3];co_applyP oy rfl (uz Tryz.underlying94 d9);co_applyP oy rfl aj;co_applyP aa;co_applyP ar;co_applyP ai;co_applyP oy rfl (av (hf := ie));co_applyP oy rfl (aG (ht := aY));co_applyP oy rfl aA;co_applyP aa;change wpE ..;rw [e4, edl];co_applyP ak rfl;co_applyP aC;co_applyP ar;co_applyP ai;co_applyP oy rfl ah;co_applyP oy rfl (a5 (ht := bH) (hs := bh) (hm := hA1.self) (hi := Nat.le_refl _));co_applyP ocm rfl rfl rfl (g0 L1 k hN);rintro _ _ _ ⟨rfl, rfl, hE2⟩;rename_i L2;co_applyP oc rfl rfl rfl (g1 K A S Fr L2 (otherE k) hN (hR1.ext hE2));rintro _ _ _ ⟨rfl, rfl, hE3⟩;co_applyP oy rfl bY;co_applyP aa;change wpE ..;rename_i L3;have hR3 := (hR1.ext hE2).ext hE3;have hxk3 := hE3.s _ (hE2.s _ hA1.self);have h03 : At L3 xk 0 (.int .i64 (k.1 : Nat)) := ⟨true, _, _, _, hxk3, rfl⟩;have hky3 : At L3 K (10 + k.1) (.slice base (S.by_ k.1).length cap) := by rw [← hv]; exact hR3.kat (qt _ hk5)
 rw [hop];co_applyP ak rfl;co_applyP aC;co_applyP ar;obtain ⟨ys, hys⟩ : ∃ ys, ys = (x.peek (x.r 1).toNat (x.r 2).toNat).map fun v => Value.int .u8 v := ⟨_, rfl⟩;have hyl : ys.length = (x.r 2).toNat := by rw [hys]; simp [PS.peek]
 have hco : cutAt (0 + 15) (x.r 1).toNat 64 1 = if 64 = (x.r 1).toNat then 15 else 15 + (x.r 1).toNat := by unfold cutAt; split <;> omega
 have hrd : Reads Tryz.prog L3 1 ys.length (.slice (some ⟨b, cutAt (0 + 15) (x.r 1).toNat 64 1, none⟩) ys.length (64 - (x.r 1).toNat)) ys.toArray := by
   have h := bZ (P := Tryz.prog) (sz := 1) (n := ys.length) (len := ys.length) (cap := 64 - (x.r 1).toNat) (o := cutAt (0 + 15) (x.r 1).toNat 64 1) (hR3.p _ hb) (by rw [bd, hco]; split <;> omega);have e : (pcells x).extract (cutAt (0 + 15) (x.r 1).toNat 64 1) (cutAt (0 + 15) (x.r 1).toNat 64 1 + ys.length * 1) = ys.toArray := by
     rw [hco]
     split
     · have h0 : (x.r 2).toNat = 0 := by omega
       have : ys = [] := List.length_eq_zero_iff.1 (by omega);rw [this];simp;omega
     · rw [Nat.mul_one, hyl, xZ x (by omega), hys]
   rw [e] at h;exact h
 have hypl : ys.all plainV = true := by rw [hys, List.all_eq_true]; intro v hv; obtain ⟨w, _, rfl⟩ := List.mem_map.1 hv; rfl
 have hxm : ∀ (L : Frag), (xk, true, Obj.cells (keyv k).cells 96) ∈ L → ∀ t ∈ [(xk, true, Obj.cells (keyv k).cells 96)], t ∈ L := fun L h t ht => by simp only [List.mem_singleton] at ht; rw [ht]; exact h
 have tyy : ∀ {c : Nat} {fl : Bool} {o : Obj}, (c, fl, o) ∈ L3 → (∀ c', o ≠ Obj.cells c' 5) → (A.y k.1).b ≠ some c := fun hm ho hc => by
   obtain ⟨xs, hx'⟩ := hR3.yl _ _ hc;exact ho _ (hR3.fn _ _ _ _ _ hm hx').2
 have hyx := tyy hxk3 fun c => aF (by decide);have hyK := tyy hR3.k fun c => aF (by decide);co_applyP bj [(xk, true, Obj.cells (keyv k).cells 96)] 11 (nf := 0) aZ;co_applyP tr (i := 0) rfl ah (ae (hxm _ hxk3));co_applyP tr (i := 1) rfl (av (hf := dF)) (ae (hxm _ hxk3));co_applyP tr (i := 2) rfl (aG (ht := aY)) (ae (hxm _ hxk3));co_applyP tr (i := 3) rfl ah (ae (hxm _ hxk3));co_applyP tr (i := 4) rfl (av (hf := dF)) (ae (hxm _ hxk3));co_applyP t0 (i := 5) rfl (aG (ht := aY)) (ae (hxm _ hxk3));co_applyP tr (i := 6) rfl aK (ae (hxm _ hxk3));co_applyP tr (i := 7) rfl (av (hf := eh)) (ae (hxm _ hxk3));co_applyP tr (i := 8) rfl (aW o6 gx) (ae (hxm _ hxk3));co_applyP t0 (i := 9) rfl (aG (ht := qg)) (ae (hxm _ hxk3));co_applyP tr (i := 10) rfl ah (ae (hxm _ hxk3));co_applyP tr (i := 12) rfl aK (ae (hxm _ hxk3));co_applyP tr (i := 13) rfl (av (hf := eh)) (ae (hxm _ hxk3));co_applyP a7;intro hnd;co_applyP te (i := 11) rfl (Am (a := A.y k.1) (xs := (S.by_ k.1).map fun v => Value.int .u8 v) (ys := ys) (hx := by rw [List.length_map, hv]; rfl) (hy := by rw [hyl]; rfl) (hnd := hnd) (hN := hN5) (ha := hR3.ya k.1 hk5) (hr := hrd) (hpl := hypl) (h8 := by simp; omega) (h8' := by omega));rintro _ _ ⟨a', rfl, hp⟩;refine ⟨aE (hxm _ (hp.sub _ hxk3 hyx)), ?_⟩;rename_i L4;co_applyP to (i := 14) rfl ((aW o6 gx)) (aE (hxm _ (hp.sub _ hxk3 hyx)));co_applyP a7;intro hnd';have hK4 := hp.sub _ hR3.k hyK;have hxKne : xk ≠ K := fun e => hA1.new _ hR.k e.symm;co_applyP te (i := 15) rfl (eW (hnd := hnd') (hm := hK4) (hi := by rw [bw]; omega) (hp := eL _ _) (hs := gx));rintro _ _ ⟨rfl, hU5⟩;refine ⟨aE (hxm _ (hU5.ne _ (hp.sub _ hxk3 hyx) hxKne)), ?_⟩;rename_i L5;co_applyP td (by kernel_rfl);co_applyP ar;have hR5 : Rep K (A.setY k.1 a') (S.setY k.1 (S.by_ k.1 ++ x.peek (x.r 1).toNat (x.r 2).toNat)) Fr L5 := by
   refine hR3.setBytes hk5 hU5.fn ?_ (fun t ht h1 h2 => hU5.ne _ (hp.sub _ ht h2) h1) ?_ (fun c hc => ?_)
   · show (K, true, Obj.cells (kcells _) 115) ∈ L5;have := hU5.self;rw [mw _ hk5] at this;rw [pp];have el : (S.by_ k.1 ++ x.peek (x.r 1).toNat (x.r 2).toNat).length = ((S.by_ k.1).map (fun v => Value.int .u8 v) ++ ys).length := by rw [hys]; simp
     rw [el];exact this
   · rw [List.map_append, ← hys];refine hp.ok.mono fun c hc o ho => hU5.ne _ ho fun e => ?_;rcases hp.d c hc with h | h
     · exact hyK (by rw [h]; exact congrArg some e)
     · exact h _ hR3.k e.symm
   · rcases hp.d c hc with h | h
     · exact .inl h
     · refine .inr ⟨fun j hj => ?_, fun t ht e => h _ (hR3.fr t ht) e⟩;obtain ⟨xs, hx'⟩ := hR3.yl j c hj;exact h _ hx' rfl
 have hb5 : (b, x) ∈ (S.setY k.1 (S.by_ k.1 ++ x.peek (x.r 1).toNat (x.r 2).toNat)).ps := hb;have hx25 : At L5 b 9 (.int .u16 (x.r 2)) := hR5.pat hb5 (bg x (i := 2) (by omega));co_applyP bj [] 11 (nf := 0) aZ;co_applyP tr (i := 0) rfl ah (ae (by simp));co_applyP tr (i := 1) rfl ah (ae (by simp));co_applyP tr (i := 2) rfl aK (ae (by simp));co_applyP tr (i := 3) rfl (av (hf := aD)) (ae (by simp));co_applyP tr (i := 4) rfl (av (hf := aX)) (ae (by simp));co_applyP tr (i := 5) rfl (aW U47 a6) (ae (by simp));co_applyP t0 (i := 6) rfl (aG (ht := cn)) (ae (by simp));co_applyP tr (i := 7) rfl aK (ae (by simp));co_applyP tr (i := 8) rfl (av (hf := aD)) (ae (by simp));co_applyP tr (i := 9) rfl (av (hf := aX)) (ae (by simp));co_applyP tr (i := 10) rfl (aW U47 a6) (ae (by simp));co_applyP a7;intro hnd6;co_applyP te (i := 11) rfl (eW (hnd := hnd6) (hm := hR5.p _ hb5) (hi := by rw [bd]; omega) (hs := a6));rintro _ _ ⟨rfl, hU6⟩;refine ⟨aE (by simp), ?_⟩;co_applyP td (by kernel_rfl);co_applyP ai;co_applyP oy rfl aj;co_applyP aa;co_applyP aI;change ∃ v, resE .. = some v ∧ _;have h7 : (pcells x).setIfInBounds (7 + 0) (.int .u16 (x.r 2)) = pcells x.gave := by rw [dA _ (by omega)]; rfl
 refine ⟨_, rfl, rfl, rfl, A.setY k.1 a', ⟨rfl, ⟨rfl, rfl, rfl⟩, ⟨rfl, rfl, rfl⟩⟩, ?_⟩;exact hR5.setP hb5 (x' := x.gave) (h7 ▸ hU6)
theorem uD : ∃ n, ∀ {σ} {F : Fam σ} {Δ : DM F} {main s} (K : Nat) (A : Lay) (S : St) (Fr L : Frag) (b : Nat) (x : PS) (k : Nat × Nat), (∀ cs, (Δ s).New (.cells cs 96)) → (∀ cs, (Δ s).New (.cells cs 5)) → Rep K A S Fr L → (b, x) ∈ S.ps → WF x → k.1 < 5 → x.r 1 + x.r 2 ≤ 64 → (S.by_ k.1).length ≤ 8 → k.2 = 4 ∨ S.isOpen (otherE k) = true →
   CallsL Δ Tryz.prog main 166 [ptr K, ptr b, keyv k].toArray n s L (fun s' v L' => s = s' ∧ v = .nilIface ∧ ∃ A', Rep K A' (S.carry b x k) Fr L') := by
 obtain ⟨n0, g0⟩ := wH;obtain ⟨n2, g2⟩ := wJ;refine ⟨n0 + n2, fun {σ F Δ main s} K A S Fr L b x k hN hN5 hR hb hx hk5 hfc h8 ho => aO (k.2 = 4) (fun h => ?_) fun h => ?_⟩
 · refine aR (g0 K A S Fr L b x k hN hR hb hx hk5 h hfc h8) fun s' v L' ⟨h1, h2, A', h3, h4⟩ => ⟨h1, h2, A', ?_⟩;unfold St.carry; rw [if_pos h]; exact h4
 · have ho' : S.isOpen (otherE k) = true := ho.resolve_left h;refine aR (g2 K A S Fr L b x k hN hN5 hR hb hx hk5 h hfc h8 ho') fun s' v L' ⟨h1, h2, A', h3, h4⟩ => ⟨h1, h2, A', ?_⟩;unfold St.carry; rw [if_neg h, if_pos ho']; exact h4
structure NewK {R : World → World → Prop} {D : World → World → Array Event → Prop} (Δ : Dom R D) : Prop extends NewE Δ where
 r : ∀ cs, Δ.New (.cells cs 93)
 k : ∀ cs, Δ.New (.cells cs 96)
 y : ∀ cs, Δ.New (.cells cs 5)
 i : ∀ cs, Δ.New (.cells cs 158)
 p : ∀ cs, Δ.New (.cells cs 99)
theorem wK : ∃ n, ∀ {σ} {F : Fam σ} {Δ : DM F} {main s} (K : Nat) (A : Lay) (S : St) (Fr L : Frag) (k : Nat × Nat), (∀ cs, (Δ s).New (.cells cs 96)) → Rep K A S Fr L → (∀ e ∈ S.wt, e.1 ≠ k) →
   CallsL Δ Tryz.prog main 160 [ptr K, keyv k].toArray n s L (fun s' v L' => s = s' ∧ v = .bool false ∧ Rep K A S Fr L') := by
 apply Exists.intro;intro σ F Δ main s K A S Fr L k hN hR hk;co_applyP aB 51 Tryz.func160 Tryz.ntmps160;co_applyP ai;co_applyP bI rfl (bS (hN _));intro xk L1 hA1;have hR1 := hR.add hA1;have hkx : At L1 K 15 (.map (some A.wt)) := hR1.kat rfl;have hw1 := hR1.w;rw [cp] at hw1;have hkey := dC (A := A) (bs := A.born) hk;co_applyP oy rfl aj;co_applyP aa;co_applyP ar;co_applyP bk aZ;co_applyP tr (i := 0) rfl ah pI;co_applyP tr (i := 1) rfl aK pI;co_applyP tr (i := 2) rfl (av (hf := co)) pI;co_applyP tr (i := 3) rfl (aG (ht := dx)) pI;co_applyP tr (i := 4) rfl (a5 (ht := bH) (hs := bh) (hm := hA1.self) (hi := Nat.le_refl _)) pI;co_applyP tr (i := 5) rfl (nJ (k := k) eq Tryz.underlying110 io hw1) pI;co_applyP tr (i := 6) rfl aj pI;co_applyP td (by kernel_rfl);co_applyP ar (n₂ := 0);co_applyP ar;rw [il hkey];co_applyP bk aZ;co_applyP tr (i := 0) rfl ah pI;co_applyP tr (i := 1) rfl (bt (hu := U91)) pI;co_applyP tr (i := 2) rfl aA pI;co_applyP tr (i := 3) rfl ah pI;co_applyP tu (i := 4) rfl pI;co_applyP tu (i := 5) rfl pI;co_applyP tu (i := 6) rfl pI;co_applyP tu (i := 7) rfl pI;co_applyP tu (i := 8) rfl pI;co_applyP tu (i := 9) rfl pI;co_applyP tu (i := 10) rfl pI;co_applyP tr (i := 11) rfl aN pI;co_applyP td (by kernel_rfl);co_applyP aS rfl;co_applyP ai;co_applyP oy rfl aj;co_applyP aa;co_applyP aI;change ∃ v, resE .. = some v ∧ _;exact ⟨_, rfl, rfl, rfl, hR1⟩
theorem ki {K : Nat} {A : Lay} {S : St} {F L : Frag} (hR : Rep K A S F L) {k : Nat × Nat} {b : Nat} {xs : List Nat} (hin : (k, b :: xs) ∈ S.wt) : ∃ Q, (A.a (slot k)).b = some Q ∧ slv (A.a (slot k)) (b :: xs).length = .slice (some ⟨Q, 0, none⟩) (b :: xs).length ((b :: xs).length + (A.a (slot k)).junk.length) ∧ At L Q 0 (ptr b) := by
 cases h : (A.a (slot k)).b with
 | some Q =>
   refine ⟨Q, rfl, by unfold slv; rw [h], true, _, _, _, (hR.wa _ hin).mem h, by simp⟩
 | none =>
   have := hR.wa _ hin;unfold slOk at this;rw [h] at this;simp at this
theorem kj {A : Lay} {S : St} {k : Nat × Nat} {l1 l2 : Wt} {xs : List Nat} (hwl : A.born.length = S.wt.length) (hwt : S.wt = l1 ++ (k, xs) :: l2) (hl1 : ∀ e ∈ l1, e.1 ≠ k) : lk k (entsOf A S.wt A.born) 0 = some (l1.length, slv (A.a (slot k)) xs.length) := by
 obtain ⟨b1, c0, b2, hborn, hbl⟩ : ∃ b1 c0 b2, A.born = b1 ++ c0 :: b2 ∧ l1.length = b1.length := by
   have hl := hwl;rw [hwt] at hl;simp at hl;refine ⟨A.born.take l1.length, A.born[l1.length]'(by omega), A.born.drop (l1.length + 1), by simp, by simp; omega⟩
 have hents : entsOf A S.wt A.born = entsOf A l1 b1 ++ (k, slv (A.a (slot k)) xs.length, c0) :: entsOf A l2 b2 := by
   rw [hwt, hborn, cf A hbl]; rfl
 rw [hents, jv (dC hl1), dB A hbl];simp [lk]
theorem wL : ∃ n, ∀ {σ} {F : Fam σ} {Δ : DM F} {main s} (K : Nat) (A : Lay) (S : St) (Fr L : Frag) (k : Nat × Nat) (b : Nat) (x : PS) (xs : List Nat), (∀ cs, (Δ s).New (.cells cs 96)) → Rep K A S Fr L → Inv S → (k, b :: xs) ∈ S.wt → (b, x) ∈ S.ps → S.canBeDone x k = false →
   CallsL Δ Tryz.prog main 160 [ptr K, keyv k].toArray n s L (fun s' v L' => s = s' ∧ v = .bool false ∧ Rep K A S Fr L') := by
 obtain ⟨n1, g1⟩ := fx;apply Exists.intro;intro σ F Δ main s K A S Fr L k b x xs hN hR hI hin hb hcd;obtain ⟨l1, ys, l2, hwt, hl1, hl2⟩ := cr hI.kn (List.mem_map.2 ⟨_, hin, rfl⟩);have hke := hI.ke _ hin;co_applyP aB 51 Tryz.func160 Tryz.ntmps160;co_applyP ai;co_applyP bI rfl (bS (hN _));intro xk L1 hA1;have hR1 := hR.add hA1;have hkx : At L1 K 15 (.map (some A.wt)) := hR1.kat rfl;have hw1 := hR1.w;rw [cp] at hw1;have hrow : ys = b :: xs := by
   have h1 := cQ hI.kn hin;have h2 := cQ hI.kn (S := S) (k := k) (xs := ys) (by rw [hwt]; simp);rw [← h2, h1]
 subst hrow;obtain ⟨Q, hQ, hsl, hat⟩ := ki hR1 hin;have hlk := kj hR1.wl hwt hl1;rw [hsl] at hlk;co_applyP oy rfl aj;co_applyP aa;co_applyP ar;co_applyP bk aZ;co_applyP tr (i := 0) rfl ah pI;co_applyP tr (i := 1) rfl aK pI;co_applyP tr (i := 2) rfl (av (hf := co)) pI;co_applyP tr (i := 3) rfl (aG (ht := dx)) pI;co_applyP tr (i := 4) rfl (a5 (ht := bH) (hs := bh) (hm := hA1.self) (hi := Nat.le_refl _)) pI;co_applyP tr (i := 5) rfl (nJ (k := k) eq Tryz.underlying110 io hw1) pI;co_applyP tr (i := 6) rfl aj pI;co_applyP td (by kernel_rfl);co_applyP ar (n₂ := 0);co_applyP ar;rw [hlk];have hz : (((b :: xs).length : Int) == 0) = false := by simp; omega
 co_applyP bj [] 9 aZ;co_applyP tr (i := 0) rfl ah (ae (by simp));co_applyP tr (i := 1) rfl (bt (hu := U91)) (ae (by simp));co_applyP tr (i := 2) rfl aA (ae (by simp));co_applyP tr (i := 3) rfl ah (ae (by simp));rw [hz];co_applyP tr (i := 4) rfl (ah) (ae (by simp));co_applyP tr (i := 5) rfl (ah) (ae (by simp));co_applyP tr (i := 6) rfl (bu U91 bG) (ae (by simp));co_applyP t0 (i := 7) rfl ((aG (ht := cW))) (ae (by simp));co_applyP t0 (i := 8) rfl (a5 (ht := bH) (hs := bh) (hm := hA1.self) (hi := Nat.le_refl _)) (ae (by simp));co_applyP tc (i := 9) rfl rfl rfl (g1 K A S Fr L1 b x k hN hR1 hb (hI.wf _ hb) hke.1.2 (hI.y8 _ hke.1.2));rintro _ _ _ ⟨rfl, rfl, hE⟩;refine ⟨aE (by simp), ?_⟩;rw [hcd];co_applyP to (i := 10) rfl (bY) (aE (by simp));co_applyP to (i := 11) rfl (aN) (aE (by simp));co_applyP td (by kernel_rfl);co_applyP aS rfl;co_applyP ai;co_applyP oy rfl aj;co_applyP aa;co_applyP aI;change ∃ v, resE .. = some v ∧ _;exact ⟨_, rfl, rfl, rfl, hR1.ext hE⟩
theorem wM : ∃ n, ∀ {σ} {F : Fam σ} {Δ : DM F} {main s} (K : Nat) (A : Lay) (S : St) (Fr L : Frag) (eb : Nat → Nat × Nat) (k : Nat × Nat) (b : Nat) (x : PS) (xs : List Nat), NewK (Δ s) → Rep K A S Fr L → Ers eb Fr → Inv S → (k, b :: xs) ∈ S.wt → (b, x) ∈ S.ps → S.canBeDone x k = true → k.2 = 4 ∨ S.isOpen (otherE k) = true →
   CallsL Δ Tryz.prog main 160 [ptr K, keyv k].toArray n s L (fun s' v L' => s = s' ∧ v = .bool true ∧ ∃ A', Rep K A' (if x.st = 1 then (S.depart b k).carry b x k else ((S.depart b k).carry b x k).wake1 b (S.carried x k)) Fr L') := by
 obtain ⟨n1, g1⟩ := fx;obtain ⟨n2, g2⟩ := j6;obtain ⟨n3, g3⟩ := uD;obtain ⟨n4, g4⟩ := jW;apply Exists.intro;intro σ F Δ main s K A S Fr L eb k b x xs hN hR hEr hI hin hb hcd hoc;obtain ⟨l1, ys, l2, hwt, hl1, hl2⟩ := cr hI.kn (List.mem_map.2 ⟨_, hin, rfl⟩);have hke := hI.ke _ hin;have hask := hI.row hb hin (by simp);co_applyP aB 51 Tryz.func160 Tryz.ntmps160;co_applyP ai;co_applyP bI rfl (bS (hN.k _));intro xk L1 hA1;have hR1 := hR.fresh ⟨hA1.fn, hA1.sub⟩ hA1.new hA1.self;have hkx : At L1 K 15 (.map (some A.wt)) := hR1.kat rfl;have hw1 := hR1.w;rw [cp] at hw1;have hrow : ys = b :: xs := by
   have h1 := cQ hI.kn hin;have h2 := cQ hI.kn (S := S) (k := k) (xs := ys) (by rw [hwt]; simp);rw [← h2, h1]
 subst hrow;obtain ⟨Q, hQ, hsl, hat⟩ := ki hR1 hin;have hlk := kj hR1.wl hwt hl1;rw [hsl] at hlk;co_applyP oy rfl aj;co_applyP aa;co_applyP ar;co_applyP bk aZ;co_applyP tr (i := 0) rfl ah pI;co_applyP tr (i := 1) rfl aK pI;co_applyP tr (i := 2) rfl (av (hf := co)) pI;co_applyP tr (i := 3) rfl (aG (ht := dx)) pI;co_applyP tr (i := 4) rfl (a5 (ht := bH) (hs := bh) (hm := hA1.self) (hi := Nat.le_refl _)) pI;co_applyP tr (i := 5) rfl (nJ (k := k) eq Tryz.underlying110 io hw1) pI;co_applyP tr (i := 6) rfl aj pI;co_applyP td (by kernel_rfl);co_applyP ar;co_applyP ar;rw [hlk];have hz : (((b :: xs).length : Int) == 0) = false := by simp; omega
 co_applyP bj [] 9 aZ;co_applyP tr (i := 0) rfl ah (ae (by simp));co_applyP tr (i := 1) rfl (bt (hu := U91)) (ae (by simp));co_applyP tr (i := 2) rfl aA (ae (by simp));co_applyP tr (i := 3) rfl ah (ae (by simp));rw [hz];co_applyP tr (i := 4) rfl (ah) (ae (by simp));co_applyP tr (i := 5) rfl (ah) (ae (by simp));co_applyP tr (i := 6) rfl (bu U91 bG) (ae (by simp));co_applyP t0 (i := 7) rfl ((aG (ht := cW))) (ae (by simp));co_applyP t0 (i := 8) rfl (a5 (ht := bH) (hs := bh) (hm := hA1.self) (hi := Nat.le_refl _)) (ae (by simp));co_applyP tc (i := 9) rfl rfl rfl (g1 K A S _ L1 b x k hN.k hR1 hb (hI.wf _ hb) hke.1.2 (hI.y8 _ hke.1.2));rintro _ _ _ ⟨rfl, rfl, hE⟩;refine ⟨aE (by simp), ?_⟩;rename_i L2;rw [hcd];co_applyP to (i := 10) rfl (bY) (aE (by simp));co_applyP to (i := 11) rfl (aN) (aE (by simp));have hR2 := hR1.ext hE;have hat2 := hE.at hat;co_applyP td (by kernel_rfl);co_applyP ak rfl;co_applyP aC;co_applyP ai;co_applyP oy rfl ah;co_applyP oy rfl (bu U91 bG);co_applyP oy rfl (aG (ht := cW));co_applyP oy rfl aj;co_applyP aa;co_applyP ai;co_applyP oy rfl ah;co_applyP oy rfl ah;co_applyP oy rfl (a5 (ht := bH) (hs := bh) (hm := hR2.fr _ List.mem_cons_self) (hi := Nat.le_refl _));co_applyP oc rfl rfl rfl (g2 K A S _ L2 b x k hN.r hN.k hR2 hI.w hb);rintro _ _ _ ⟨rfl, rfl, A3, hwl3, hR3⟩;co_applyP aa;co_applyP ar;co_applyP ai;co_applyP oy rfl ah;co_applyP oy rfl ah;rename_i L3;have hb3 : (b, x) ∈ (S.depart b k).ps := hb;co_applyP oy rfl (a5 (ht := bH) (hs := bh) (hm := hR3.fr _ List.mem_cons_self) (hi := Nat.le_refl _));co_applyP oc rfl rfl rfl (g3 K A3 _ _ L3 b x k hN.k hN.y hR3 hb3 (hI.wf _ hb) hke.1.2 hask.a (hI.y8 _ hke.1.2) hoc);rintro _ _ _ ⟨rfl, rfl, A5, hR5⟩;co_applyP oy rfl aj;co_applyP aa;co_applyP ai;co_applyP oy rfl ah;rename_i L5;have hb5 : (b, S.carried x k) ∈ ((S.depart b k).carry b x k).ps := by rw [cK]; exact aq hb3
 have hd : Inv (S.depart b k) := hI.depart;have ho : (S.depart b k).out b := by have := hI.out_depart hb; rw [hask.f] at this; exact this
 have hI5 := Inv.carry hd (b := b) (x := x) (k := k) hb3 ho hke.1.2 hask.a hcd;have hst : (S.carried x k).st = x.st := (b6 S x k).1;have hs5 : At L5 b 2 (.int .i64 ((S.carried x k).st : Nat)) := hR5.pat hb5 (i := 2) rfl;co_applyP oy rfl (dq (v := .nilIface) (c := true) (hv := .inl ⟨rfl, rfl⟩) (hu := Tryz.underlying168));co_applyP aa;co_applyP ak rfl;co_applyP aC;co_applyP dP (fun s'' ε'' L'' => s = s'' ∧ kn ε'' [] ∧ ∃ A6, Rep K A6 (if x.st = 1 then (S.depart b k).carry b x k else ((S.depart b k).carry b x k).wake1 b (S.carried x k)) Fr L'');co_applyP ai;co_applyP oy rfl ah;co_applyP oy rfl aK;co_applyP oy rfl (av (hf := aD));co_applyP oy rfl (av (hf := cv));co_applyP oy rfl (aG (ht := aY));co_applyP oy rfl dZ;co_applyP aa;co_applyP bi rfl;intro hc;co_applyP ay;co_applyP oy rfl ah;co_applyP oy rfl ah
 · have h1 : ¬ x.st = 1 := by rw [hst] at hc; simp at hc; omega
   co_applyP oc rfl rfl rfl (g4 K A5 _ _ L5 b (S.carried x k) hN.r hR5 hb5 (hI5.g.lv _ hb5) (hI5.g.r8 (hI5.g.lv _ hb5)) (fun e he => cC e.1 (hI5.g.lv _ hb5)));rintro _ _ _ ⟨rfl, rfl, A6, _, hR6⟩;co_applyP aa;change _ = _ ∧ kn _ _ ∧ ∃ A6, _;exact ⟨rfl, rfl, A6, by rw [if_neg h1]; exact hR6.less fun t ht => List.mem_cons_of_mem _ ht⟩
 intro hc;co_applyP aC;change _ = _ ∧ kn _ _ ∧ ∃ A6, _;have h1 : x.st = 1 := by rw [hst] at hc; simp at hc; omega
 exact ⟨rfl, rfl, A5, by rw [if_pos h1]; exact hR5.less fun t ht => List.mem_cons_of_mem _ ht⟩;rintro _ ε6 L6 ⟨rfl, he6, A6, hR6⟩;co_applyP a0 he6;co_applyP ai;co_applyP oy rfl aj;co_applyP aa;co_applyP aI;change ∃ v, resE .. = some v ∧ _;exact ⟨_, rfl, rfl, rfl, A6, hR6⟩
theorem wN : ∃ n, ∀ {σ} {F : Fam σ} {Δ : DM F} {main s} (K : Nat) (A : Lay) (S : St) (Fr L : Frag) (eb : Nat → Nat × Nat) (k : Nat × Nat) (b : Nat) (x : PS) (xs : List Nat), NewK (Δ s) → Rep K A S Fr L → Ers eb Fr → Inv S → (k, b :: xs) ∈ S.wt → (b, x) ∈ S.ps → S.canBeDone x k = true → k.2 ≠ 4 ∧ S.isOpen (otherE k) = false →
   CallsL Δ Tryz.prog main 160 [ptr K, keyv k].toArray n s L (fun s' v L' => s = s' ∧ v = .bool true ∧ ∃ A', Rep K A' (if x.st = 1 then (S.depart b k).carry b x k else ((S.depart b k).carry b x k).wake1 b (S.carried x k)) Fr L') := by
 obtain ⟨n1, g1⟩ := fx;obtain ⟨n2, g2⟩ := j6;obtain ⟨n3, g3⟩ := wI;obtain ⟨n4, g4⟩ := jW;obtain ⟨n5, g5⟩ := j0;apply Exists.intro;intro σ F Δ main s K A S Fr L eb k b x xs hN hR hEr hI hin hb hcd hoc;obtain ⟨l1, ys, l2, hwt, hl1, hl2⟩ := cr hI.kn (List.mem_map.2 ⟨_, hin, rfl⟩);have hke := hI.ke _ hin;have hask := hI.row hb hin (by simp);co_applyP aB 51 Tryz.func160 Tryz.ntmps160;co_applyP ai;co_applyP bI rfl (bS (hN.k _));intro xk L1 hA1;have hR1 := hR.fresh ⟨hA1.fn, hA1.sub⟩ hA1.new hA1.self;have hkx : At L1 K 15 (.map (some A.wt)) := hR1.kat rfl;have hw1 := hR1.w;rw [cp] at hw1;have hrow : ys = b :: xs := by
   have h1 := cQ hI.kn hin;have h2 := cQ hI.kn (S := S) (k := k) (xs := ys) (by rw [hwt]; simp);rw [← h2, h1]
 subst hrow;obtain ⟨Q, hQ, hsl, hat⟩ := ki hR1 hin;have hlk := kj hR1.wl hwt hl1;rw [hsl] at hlk;co_applyP oy rfl aj;co_applyP aa;co_applyP ar;co_applyP bk aZ;co_applyP tr (i := 0) rfl ah pI;co_applyP tr (i := 1) rfl aK pI;co_applyP tr (i := 2) rfl (av (hf := co)) pI;co_applyP tr (i := 3) rfl (aG (ht := dx)) pI;co_applyP tr (i := 4) rfl (a5 (ht := bH) (hs := bh) (hm := hA1.self) (hi := Nat.le_refl _)) pI;co_applyP tr (i := 5) rfl (nJ (k := k) eq Tryz.underlying110 io hw1) pI;co_applyP tr (i := 6) rfl aj pI;co_applyP td (by kernel_rfl);co_applyP ar;co_applyP ar;rw [hlk];have hz : (((b :: xs).length : Int) == 0) = false := by simp; omega
 co_applyP bj [] 9 aZ;co_applyP tr (i := 0) rfl ah (ae (by simp));co_applyP tr (i := 1) rfl (bt (hu := U91)) (ae (by simp));co_applyP tr (i := 2) rfl aA (ae (by simp));co_applyP tr (i := 3) rfl ah (ae (by simp));rw [hz];co_applyP tr (i := 4) rfl (ah) (ae (by simp));co_applyP tr (i := 5) rfl (ah) (ae (by simp));co_applyP tr (i := 6) rfl (bu U91 bG) (ae (by simp));co_applyP t0 (i := 7) rfl ((aG (ht := cW))) (ae (by simp));co_applyP t0 (i := 8) rfl (a5 (ht := bH) (hs := bh) (hm := hA1.self) (hi := Nat.le_refl _)) (ae (by simp));co_applyP tc (i := 9) rfl rfl rfl (g1 K A S _ L1 b x k hN.k hR1 hb (hI.wf _ hb) hke.1.2 (hI.y8 _ hke.1.2));rintro _ _ _ ⟨rfl, rfl, hE⟩;refine ⟨aE (by simp), ?_⟩;rename_i L2;rw [hcd];co_applyP to (i := 10) rfl (bY) (aE (by simp));co_applyP to (i := 11) rfl (aN) (aE (by simp));have hR2 := hR1.ext hE;have hat2 := hE.at hat;co_applyP td (by kernel_rfl);co_applyP ak rfl;co_applyP aC;co_applyP ai;co_applyP oy rfl ah;co_applyP oy rfl (bu U91 bG);co_applyP oy rfl (aG (ht := cW));co_applyP oy rfl aj;co_applyP aa;co_applyP ai;co_applyP oy rfl ah;co_applyP oy rfl ah;co_applyP oy rfl (a5 (ht := bH) (hs := bh) (hm := hR2.fr _ List.mem_cons_self) (hi := Nat.le_refl _));co_applyP oc rfl rfl rfl (g2 K A S _ L2 b x k hN.r hN.k hR2 hI.w hb);rintro _ _ _ ⟨rfl, rfl, A3, hwl3, hR3⟩;co_applyP aa;co_applyP ar;co_applyP ai;co_applyP oy rfl ah;co_applyP oy rfl ah;rename_i L3;have hb3 : (b, x) ∈ (S.depart b k).ps := hb;co_applyP oy rfl (a5 (ht := bH) (hs := bh) (hm := hR3.fr _ List.mem_cons_self) (hi := Nat.le_refl _));co_applyP oc rfl rfl rfl (g3 K A3 _ _ L3 eb b x k hN.k hN.d hR3 (hEr.mono fun t ht => List.mem_cons_of_mem _ ht) hb3 (hI.wf _ hb) hoc.1 hask.a hoc.2);rintro _ _ _ ⟨rfl, r, rfl, hr4, hR4⟩;co_applyP oy rfl aj;co_applyP aa;co_applyP ai;co_applyP oy rfl ah;rename_i L4;co_applyP oy rfl (dq (v := .iface 180 (ptr r)) (c := false) (hv := .inr ⟨_, _, rfl, rfl⟩) (hu := Tryz.underlying168));co_applyP aa;co_applyP aS rfl;co_applyP ay;co_applyP oy rfl ah;co_applyP oy rfl ah;co_applyP oc rfl rfl rfl (g5 K A3 _ _ L4 eb b x r 7 hN.toNewE hR4 (hEr.mono fun t ht => List.mem_cons_of_mem _ ht) hb3 hr4 (by decide) (by decide));rintro _ _ _ ⟨rfl, rfl, hR5'⟩;co_applyP aa;change wpE ..;rename_i L5;obtain ⟨A5, hA5⟩ : ∃ A5, A5 = A3 := ⟨_, rfl⟩;have hR5 : Rep K A5 ((S.depart b k).carry b x k) ((xk, true, Obj.cells (keyv k).cells 96) :: Fr) L5 := by rw [hA5]; unfold St.carry; rw [if_neg hoc.1, if_neg (by rw [show (S.depart b k).isOpen (otherE k) = S.isOpen (otherE k) from rfl, hoc.2]; simp)]; exact hR5'
 have hb5 : (b, S.carried x k) ∈ ((S.depart b k).carry b x k).ps := by rw [cK]; exact aq hb3
 have hd : Inv (S.depart b k) := hI.depart;have ho : (S.depart b k).out b := by have := hI.out_depart hb; rw [hask.f] at this; exact this
 have hI5 := Inv.carry hd (b := b) (x := x) (k := k) hb3 ho hke.1.2 hask.a hcd;have hst : (S.carried x k).st = x.st := (b6 S x k).1;have hs5 : At L5 b 2 (.int .i64 ((S.carried x k).st : Nat)) := hR5.pat hb5 (i := 2) rfl;co_applyP dP (fun s'' ε'' L'' => s = s'' ∧ kn ε'' [] ∧ ∃ A6, Rep K A6 (if x.st = 1 then (S.depart b k).carry b x k else ((S.depart b k).carry b x k).wake1 b (S.carried x k)) Fr L'');co_applyP ai;co_applyP oy rfl ah;co_applyP oy rfl aK;co_applyP oy rfl (av (hf := aD));co_applyP oy rfl (av (hf := cv));co_applyP oy rfl (aG (ht := aY));co_applyP oy rfl dZ;co_applyP aa;co_applyP bi rfl;intro hc;co_applyP ay;co_applyP oy rfl ah;co_applyP oy rfl ah
 · have h1 : ¬ x.st = 1 := by rw [hst] at hc; simp at hc; omega
   co_applyP oc rfl rfl rfl (g4 K A5 _ _ L5 b (S.carried x k) hN.r hR5 hb5 (hI5.g.lv _ hb5) (hI5.g.r8 (hI5.g.lv _ hb5)) (fun e he => cC e.1 (hI5.g.lv _ hb5)));rintro _ _ _ ⟨rfl, rfl, A6, _, hR6⟩;co_applyP aa;change _ = _ ∧ kn _ _ ∧ ∃ A6, _;exact ⟨rfl, rfl, A6, by rw [if_neg h1]; exact hR6.less fun t ht => List.mem_cons_of_mem _ ht⟩
 intro hc;co_applyP aC;change _ = _ ∧ kn _ _ ∧ ∃ A6, _;have h1 : x.st = 1 := by rw [hst] at hc; simp at hc; omega
 exact ⟨rfl, rfl, A5, by rw [if_pos h1]; exact hR5.less fun t ht => List.mem_cons_of_mem _ ht⟩;rintro _ ε6 L6 ⟨rfl, he6, A6, hR6⟩;co_applyP a0 he6;co_applyP ai;co_applyP oy rfl aj;co_applyP aa;co_applyP aI;change ∃ v, resE .. = some v ∧ _;exact ⟨_, rfl, rfl, rfl, A6, hR6⟩
theorem wO : ∃ n, ∀ {σ} {F : Fam σ} {Δ : DM F} {main s} (K : Nat) (A : Lay) (S : St) (Fr L : Frag) (eb : Nat → Nat × Nat) (k : Nat × Nat), NewK (Δ s) → Rep K A S Fr L → Ers eb Fr → Inv S →
   CallsL Δ Tryz.prog main 160 [ptr K, keyv k].toArray n s L (fun s' v L' => s = s' ∧ v = .bool (S.serve k).isSome ∧ ∃ A', Rep K A' ((S.serve k).getD S) Fr L') := by
 obtain ⟨n0, g0⟩ := wK;obtain ⟨n1, g1⟩ := wL;obtain ⟨n2, g2⟩ := wM;obtain ⟨n3, g3⟩ := wN;refine ⟨n0 + (n1 + (n2 + n3)), fun {σ F Δ main s} K A S Fr L eb k hN hR hE hI => aO (∀ e ∈ S.wt, e.1 ≠ k) (fun h => ?_) fun h => ?_⟩
 · have e : S.serve k = none := by unfold St.serve; rw [gJ h]
   rw [e];exact aR (g0 K A S Fr L k hN.k hR h) fun s' v L' ⟨h1, h2, h3⟩ => ⟨h1, h2, A, h3⟩
 · have hk : k ∈ S.wt.map (·.1) := by
     refine Decidable.byContradiction fun hn => h fun e he e1 => hn (List.mem_map.2 ⟨e, he, e1⟩)
   obtain ⟨⟨k', ys⟩, hin, rfl⟩ := List.mem_map.1 hk;cases ys with
   | nil => exact absurd rfl (hI.ne _ hin)
   | cons b xs =>
     obtain ⟨x, hb, _⟩ := hI.rm _ hin b (by simp);have er := cQ hI.kn hin;refine aO (S.canBeDone x k' = false) (fun h => ?_) fun h => aO (k'.2 = 4 ∨ S.isOpen (otherE k') = true) (fun ho => ?_) fun ho => ?_
     · have e : S.serve k' = none := by unfold St.serve; rw [er]; simp only [bf hI.g.pn hb, h]; rfl
       rw [e];exact aR (g1 K A S Fr L k' b x xs hN.k hR hI hin hb h) fun s' v L' ⟨h1, h2, h3⟩ => ⟨h1, h2, A, h3⟩
     · have hc : S.canBeDone x k' = true := by simpa using h
       have e : S.serve k' = some (if x.st = 1 then (S.depart b k').carry b x k' else ((S.depart b k').carry b x k').wake1 b (S.carried x k')) := by unfold St.serve; rw [er]; simp only [bf hI.g.pn hb, hc]; rfl
       rw [e];exact g2 K A S Fr L eb k' b x xs hN hR hE hI hin hb hc ho
     · have hc : S.canBeDone x k' = true := by simpa using h
       have e : S.serve k' = some (if x.st = 1 then (S.depart b k').carry b x k' else ((S.depart b k').carry b x k').wake1 b (S.carried x k')) := by unfold St.serve; rw [er]; simp only [bf hI.g.pn hb, hc]; rfl
       rw [e]
       exact g3 K A S Fr L eb k' b x xs hN hR hE hI hin hb hc ⟨fun h => ho (.inl h), by cases hh : S.isOpen (otherE k') with
         | false => rfl
         | true => exact absurd (.inr hh) ho⟩
theorem pt {S S' : St} {p m : Nat} (h : S.serve (p, 5) = some S') (hm : S'.meas p < m) : ∃ m', S'.meas p ≤ m' ∧ St.looks m S p = St.looks m' S' p := by
 cases m with
 | zero => omega
 | succ m => exact ⟨m, by omega, by simp only [St.looks, h]⟩
theorem pu {S S' : St} {p m : Nat} (h5 : S.serve (p, 5) = none) (h : S.serve (p, 4) = some S') (hm : S'.meas p < m) : ∃ m', S'.meas p ≤ m' ∧ St.looks m S p = St.looks m' S' p := by
 cases m with
 | zero => omega
 | succ m => exact ⟨m, by omega, by simp only [St.looks, h5, h]⟩
theorem uE : ∃ n, ∀ {σ} {F : Fam σ} {Δ : DM F} {main s} (K : Nat) (A : Lay) (S : St) (Fr L : Frag) (eb : Nat → Nat × Nat) (p : Nat), (∀ s, NewK (Δ s)) → Rep K A S Fr L → Ers eb Fr → Inv S →
   CallsL Δ Tryz.prog main 147 [ptr K, .int .i64 (p : Nat)].toArray n s L (fun s' v L' => s = s' ∧ v = .tuple #[] ∧ ∃ A', Rep K A' (S.look p) Fr L') := by
 obtain ⟨n1, g1⟩ := wO;apply Exists.intro;intro σ F Δ main s K A S Fr L eb p hN hR hE hI;co_applyP aB 14 Tryz.func147 Tryz.ntmps147;co_applyP aJ;co_applyP bF (fun c s' ε' L' => s' = s ∧ ∃ A' S' m, Rep K A' S' Fr L' ∧ Inv S' ∧ S'.meas p ≤ c ∧ S'.meas p ≤ m ∧ St.looks m S' p = S.look p ∧ kn ε' [(0, ptr K), (1, .int .i64 (p : Nat))]) 16
 · exact ⟨rfl, A, S, 16, hR, hI, qx hI p, qx hI p, rfl, rfl⟩
 rintro c s' ε' L' ⟨rfl, A', S', m, hR', hI', hc, hm, hlk, he⟩;co_applyP a0 he;co_applyP bL ((S'.serve (p, 5)).isSome = true);intro h5
 · obtain ⟨S5, hS5⟩ := Option.isSome_iff_exists.1 h5;have hlt := kh hI' (.inr rfl) hS5;co_applyP ar;co_applyP ai;co_applyP oy rfl ah;co_applyP oy rfl ah;co_applyP oy rfl (bl (dj _ _));co_applyP oc rfl rfl rfl (g1 K A' S' Fr L' eb (p, 5) (hN _) hR' hE hI');rintro _ _ _ ⟨rfl, rfl, A2, hR2⟩;co_applyP oy rfl ah;rw [hS5] at hR2 ⊢;co_applyP ou rfl;co_applyP ou rfl;co_applyP ou rfl;co_applyP ou rfl;co_applyP oy rfl aN;co_applyP aa;co_applyP aS rfl;co_applyP aC;co_applyP aJ;co_applyP aC;change ∃ k', k' < _ ∧ _;obtain ⟨m', hm', e'⟩ := pt hS5 (show S5.meas p < m by omega);exact ⟨S5.meas p, by omega, rfl, A2, S5, m', hR2, hI'.serve hS5, Nat.le_refl _, hm', by rw [← e']; exact hlk, rfl⟩
 intro h5;have hS5 : S'.serve (p, 5) = none := by simpa using h5
 co_applyP bL ((S'.serve (p, 4)).isSome = true);intro h4
 · obtain ⟨S4, hS4⟩ := Option.isSome_iff_exists.1 h4;have hlt := kh hI' (.inl rfl) hS4;co_applyP ar;co_applyP ai;co_applyP oy rfl ah;co_applyP oy rfl ah;co_applyP oy rfl (bl (dj _ _));co_applyP oc rfl rfl rfl (g1 K A' S' Fr L' eb (p, 5) (hN _) hR' hE hI');rintro _ _ _ ⟨rfl, rfl, A2, hR2⟩;co_applyP oy rfl ah;rw [hS5] at hR2 ⊢;co_applyP oy rfl (ah);co_applyP oy rfl (ah);co_applyP oy rfl (bl (dj _ _));co_applyP oc rfl rfl rfl (g1 K A2 S' Fr _ eb (p, 4) (hN _) hR2 hE hI');rintro _ _ _ ⟨rfl, rfl, A3, hR3⟩;co_applyP oy rfl aN;co_applyP aa;change wpE ..;rw [hS4] at hR3 ⊢;co_applyP aS rfl;co_applyP aC;co_applyP aJ;co_applyP aC;change ∃ k', k' < _ ∧ _;obtain ⟨m', hm', e'⟩ := pu hS5 hS4 (show S4.meas p < m by omega);exact ⟨S4.meas p, by omega, rfl, A3, S4, m', hR3, hI'.serve hS4, Nat.le_refl _, hm', by rw [← e']; exact hlk, rfl⟩
 intro h4;have hS4 : S'.serve (p, 4) = none := by simpa using h4
 co_applyP ar (n₂ := 0);co_applyP ai;co_applyP oy rfl ah;co_applyP oy rfl ah;co_applyP oy rfl (bl (dj _ _));co_applyP oc rfl rfl rfl (g1 K A' S' Fr L' eb (p, 5) (hN _) hR' hE hI');rintro _ _ _ ⟨rfl, rfl, A2, hR2⟩;co_applyP oy rfl ah;rw [hS5] at hR2 ⊢;co_applyP oy rfl (ah);co_applyP oy rfl (ah);co_applyP oy rfl (bl (dj _ _));co_applyP oc rfl rfl rfl (g1 K A2 S' Fr _ eb (p, 4) (hN _) hR2 hE hI');rintro _ _ _ ⟨rfl, rfl, A3, hR3⟩;co_applyP oy rfl aN;co_applyP aa;change wpE ..;rw [hS4] at hR3 ⊢;co_applyP ak rfl;co_applyP bN;change ∃ v, resE .. = some v ∧ _;refine ⟨_, rfl, rfl, rfl, A3, ?_⟩;rw [← hlk, pr hS5 hS4];exact hR3
end Go.Proofs.YtejkelcaljmnoaaGreatDoor
