/-
  Part 26 of the proof.
  No condition but those that each statement names.
-/
import Derived.Test.YtejkelcaljmnoaaGreatDoorHy25
set_option maxRecDepth 100000
set_option linter.unusedVariables false
set_option linter.unusedSimpArgs false
set_option linter.unusedSectionVars false
namespace Go.Proofs.YtejkelcaljmnoaaGreatDoor
open Go.Conc Go.Hx Go.Lo
theorem isNone_s : ∃ n, ∀ {σ : Type} {F : Fam σ} {Δ : ∀ s, Dom (F.R s) (F.D s)} {main : Bool} {s : σ} (L : Frag) (k : Nat × Nat), (∀ cs, (Δ s).New (.cells cs 96)) →
   CallsL Δ Tryz.prog main 126 [keyv k].toArray n s L (fun s' v L' => s = s' ∧ v = .bool (decide (k = (0, 0))) ∧ Ext L L') := by
 apply Exists.intro
 intro σ F Δ main s L k hN
 co_applyP callsE 6 Tryz.func126 Tryz.ntmps126
 co_applyP c_seq
 co_applyP c_region
 co_applyP oadd rfl (O_box (hN _))
 intro xk L1 hA
 co_applyP oy rfl E_as
 co_applyP o_nil
 change wpE ..
 co_applyP c_seq
 co_applyP c_region
 co_applyP oy rfl (E_lda (ht := ag_96) (hs := sz_96) (hm := hA.self) (hi := Nat.le_refl _))
 co_applyP oy rfl (E_build bld96)
 co_applyP oy rfl (E_eqk (k := k) (k' := (0, 0)) key96 (eqg96 k (0, 0)))
 co_applyP oy rfl E_as
 co_applyP o_nil
 change wpE ..
 co_applyP c_ret
 change ∃ v, resE .. = some v ∧ _
 exact ⟨_, rfl, rfl, rfl, hA.fn, hA.sub⟩
section
variable {P : Program} {New : Obj → Prop} {N : Nat} {ε : Env} {L : Frag} {d : Option Tmp} {ty t u e e2 : TypeId} {ps : String} {af : Array Edge} {g : Option (Nat × Bool)} {x y : Operand}
theorem O_ap00 {sz : Nat} {yb : Option Addr} {yc : Nat} {vs : Array Value} (hx : ev ε x = some (.slice none 0 0) := by rfl) (hy : ev ε y = some (.slice yb 0 yc) := by rfl) (hu : P.underlying t = some (.slice e)) (hv : P.underlying u = some (.slice e2)) (hs : sizeAt P e = some sz) (hr : Reads P L sz 0 (.slice yb 0 yc) vs) :
   EO P New N ε L ⟨d, .call ⟨.builtin .append, #[x, y], #[t, u]⟩, ty, ps, af, g⟩ (fun r L' => r = .slice none 0 0 ∧ L = L') := by
 intro a ha
 refine call_builtin (s := Builtin.append_ #[t, u] ty #[.slice none 0 0, .slice yb 0 yc]) (fun _ => by simp [builtin, ha.ev hx, ha.ev hy]) ?_
 unfold Builtin.append_
 simp only [List.getElem?_toArray, List.getElem?_cons_zero, List.getElem?_cons_succ]
 rw [wpS_bind, wpS_underlying hu]
 simp only []
 rw [wpS_bind, wpS_sizeOf hs]
 rw [wpS_bind, wpS_underlying hv, wpS_bind, wpS_pure]
 simp only [Bool.false_eq_true, if_false, Bool.not_false, if_true, Builtin.lenOf]
 rw [wpS_bind, wpS_pure]
 simp only [Nat.add_zero, Nat.le_refl, if_true]
 rw [wpS_bind]
 refine hr.r New _ ?_
 exact ⟨rfl, rfl⟩
end
structure ApR (L : Frag) (a : Sl) (zs : List Nat) (a' : Sl) (L' : Frag) : Prop where
 ok : slOk a' (zs.map ptr) 93 L'
 fn : Fun L'
 sub : ∀ t ∈ L, a.b ≠ some t.1 → t ∈ L'
 d : ∀ b, a'.b = some b → a.b = some b ∨ ∀ t ∈ L, t.1 ≠ b
section
variable {New : Obj → Prop} {N : Nat} {ε : Env} {L : Frag} {d : Option Tmp} {ty : TypeId} {ps : String} {af : Array Edge} {g : Option (Nat × Bool)} {x y : Operand}
theorem reads_row {a : Sl} {xs : List Nat} (ha : slOk a (xs.map ptr) 93 L) : Reads Tryz.prog L 1 xs.length (slv a xs.length) (xs.map ptr).toArray := by
 cases hab : a.b with
 | none =>
   unfold slOk at ha
   rw [hab] at ha
   obtain rfl : xs = [] := by simpa using ha.1
   have e3 : slv a 0 = .slice none 0 0 := by unfold slv; rw [hab]
   show Reads Tryz.prog L 1 0 (slv a 0) #[]
   rw [e3]; exact reads_none
 | some b =>
   have hm := ha.mem hab
   have e3 : slv a xs.length = .slice (some ⟨b, 0, none⟩) xs.length (xs.length + a.junk.length) := by unfold slv; rw [hab]
   rw [e3]
   have := reads_m (P := Tryz.prog) (sz := 1) (n := xs.length) (len := xs.length) (cap := xs.length + a.junk.length) (o := 0) hm (by simp)
   have e7 : (xs.map ptr ++ a.junk).take xs.length = xs.map ptr := by rw [List.take_append_of_le_length (by simp)]; exact List.take_of_length_le (by simp)
   simpa [e7] using this
theorem O_apR {a a2 : Sl} {xs ys : List Nat} (hx : ev ε x = some (slv a xs.length) := by rfl) (hy : ev ε y = some (slv a2 ys.length) := by rfl) (hnd : (L.map (·.1)).Nodup) (hN : ∀ cs, New (.cells cs 93)) (ha : slOk a (xs.map ptr) 93 L) (ha2 : slOk a2 (ys.map ptr) 93 L) (h8 : xs.length ≤ 1000) (h8' : ys.length ≤ 1000) :
   EO Tryz.prog New N ε L ⟨d, .call ⟨.builtin .append, #[x, y], #[91, 91]⟩, ty, ps, af, g⟩ (fun r L' => ∃ a', r = slv a' (xs ++ ys).length ∧ ApR L a (xs ++ ys) a' L') := by
 have hws := reads_row ha
 have hr := reads_row ha2
 obtain ⟨yb, yc, hyb⟩ : ∃ yb yc, slv a2 ys.length = .slice yb ys.length yc := by
   unfold slv
   cases hb : a2.b with
   | none =>
     unfold slOk at ha2
     rw [hb] at ha2
     obtain rfl : ys = [] := by simpa using ha2.1
     exact ⟨none, 0, rfl⟩
   | some b => exact ⟨_, _, rfl⟩
 rw [hyb] at hy hr
 have grow : ∀ (cap0 : Nat), (∃ base, slv a xs.length = .slice base xs.length cap0) → cap0 < xs.length + ys.length →
     EO Tryz.prog New N ε L ⟨d, .call ⟨.builtin .append, #[x, y], #[91, 91]⟩, ty, ps, af, g⟩ (fun r L' => ∃ a', r = slv a' (xs ++ ys).length ∧ ApR L a (xs ++ ys) a' L') := by
   rintro cap0 ⟨base, hb⟩ hc
   rw [hb] at hws hx
   intro ac hac
   refine wpS_mono ?_ _ _ (O_apn (by_ := 7) (New := New) hx hy (fun_of_nd hnd) Tryz.underlying91 Tryz.underlying91 sz_93 byt_93 zr_93 hws hr hc (by omega) hN ac hac)
   intro r L' q
   cases r <;> try exact q.elim
   · obtain ⟨b, cap, h1, h2, rfl, hA⟩ := q
     rw [zeroCells1 rfl] at hA
     refine ⟨⟨some b, List.replicate (cap - (xs.length + ys.length)) (.pointer none)⟩, ?_, ?_, hA.fn, fun t ht _ => hA.sub t ht, fun b' hb' => .inr ?_⟩
     · unfold slv; simp; omega
     · have e5 : (xs.map ptr).toArray ++ (ys.map ptr).toArray ++ (List.replicate (cap - (xs.length + ys.length)) (Value.pointer none)).toArray = ((xs ++ ys).map ptr ++ List.replicate (cap - (xs.length + ys.length)) (Value.pointer none)).toArray := by
         apply Array.ext'; simp
       rw [e5] at hA
       exact hA.self
     · obtain rfl : b = b' := by simpa using hb'
       exact hA.new
   · obtain ⟨b, cap, _, _, e, _⟩ := q; cases e
 cases hab : a.b with
 | none =>
   have h2 := ha
   unfold slOk at h2
   rw [hab] at h2
   obtain ⟨e1, e2⟩ := h2
   obtain rfl : xs = [] := by simpa using e1
   have e3 : slv a 0 = .slice none 0 0 := by unfold slv; rw [hab]
   by_cases h0 : 0 < ys.length
   · exact grow 0 ⟨none, e3⟩ (by simpa using h0)
   · obtain rfl : ys = [] := List.length_eq_zero_iff.1 (by omega)
     intro ac hac
     rw [List.length_nil, e3] at hx
     refine wpS_mono ?_ _ _ (O_ap00 (New := New) hx hy Tryz.underlying91 Tryz.underlying91 sz_93 hr ac hac)
     intro r L' q
     cases r <;> try exact q.elim
     · obtain ⟨rfl, rfl⟩ := q
       exact ⟨a, e3.symm, ha, fun_of_nd hnd, fun t ht _ => ht, fun b hb => by rw [hab] at hb; cases hb⟩
     · exact absurd q.1 (by simp [undef])
 | some b =>
   have hm := ha.mem hab
   have e3 : slv a xs.length = .slice (some ⟨b, 0, none⟩) xs.length (xs.length + a.junk.length) := by unfold slv; rw [hab]
   by_cases hj : ys.length ≤ a.junk.length
   · intro ac hac
     rw [e3] at hx
     refine wpS_mono ?_ _ _ (O_api (New := New) hx hy hnd Tryz.underlying91 Tryz.underlying91 sz_93 hr (by omega) hm (by simp; omega) (by simp [plainV]) ac hac)
     intro r L' q
     cases r <;> try exact q.elim
     · obtain ⟨rfl, hU⟩ := q
       have e4 : puts (xs.map ptr ++ a.junk).toArray (0 + xs.length * 1) (ys.map ptr).toArray.toList = ((xs ++ ys).map ptr ++ a.junk.drop ys.length).toArray := by
         rw [puts_list _ _ _ (by simp; omega)]
         have e6 : (xs.map ptr ++ a.junk).drop (xs.length + ys.length) = a.junk.drop ys.length := by
           rw [List.drop_append]; simp
         have e7 : (xs.map ptr ++ a.junk).take xs.length = xs.map ptr := by rw [List.take_append_of_le_length (by simp)]; exact List.take_of_length_le (by simp)
         simp [e6, e7]
       rw [e4] at hU
       refine ⟨⟨some b, a.junk.drop ys.length⟩, ?_, hU.self, hU.fn, fun t ht hne => hU.ne t ht fun e => hne (by rw [hab, e]), fun b' hb' => .inl (by rw [hab]; exact hb')⟩
       unfold slv; simp; omega
     · exact absurd q.1 (by simp [undef])
   · exact grow (xs.length + a.junk.length) ⟨_, e3⟩ (by omega)
end
def St.raise1 (S : St) (l : Nat) : St := (S.setRow 0 (S.rows 0 ++ S.rows l)).setRow l []
def St.raises (S : St) : Nat → St
 | 0 => S
 | n + 1 => (S.raises n).raise1 (n + 1)
theorem raises_row (S : St) {n j : Nat} (h : n < j) : (S.raises n).rows j = S.rows j := by
 induction n with
 | zero => rfl
 | succ n ih =>
   show put (put (S.raises n).rows 0 _) (n + 1) [] j = _
   unfold put
   rw [if_neg (by omega), if_neg (by omega)]
   exact ih (by omega)
theorem raises_len (S : St) (h : ∀ l, l < 3 → (S.rows l).length ≤ 8) : ∀ n, n < 3 → ((S.raises n).rows 0).length ≤ 8 * (n + 1)
 | 0, _ => h 0 (by omega)
 | n + 1, hn => by
   have h1 := raises_len S h n (by omega)
   have h2 : ((S.raises n).rows (n + 1)).length ≤ 8 := by rw [raises_row S (by omega)]; exact h _ hn
   have e : (S.raises (n + 1)).rows 0 = (S.raises n).rows 0 ++ (S.raises n).rows (n + 1) := by
     simp [St.raises, St.raise1, St.setRow, put]
   rw [e, List.length_append]
   omega
theorem rowsRaise_s : ∃ n, ∀ {σ : Type} {F : Fam σ} {Δ : ∀ s, Dom (F.R s) (F.D s)} {main : Bool} {s : σ} (K : Nat) (A : Lay) (S : St) (Fr L : Frag), (∀ cs, (Δ s).New (.cells cs 93)) → Rep K A S Fr L → (∀ l, l < 3 → (S.rows l).length ≤ 8) →
   CallsL Δ Tryz.prog main 92 [.pointer (some ⟨K, 7, none⟩)].toArray n s L (fun s' v L' => s = s' ∧ v = .tuple #[] ∧ ∃ A', LRel A A' ∧ Rep K A' (S.raises 2) Fr L') := by
 apply Exists.intro
 intro σ F Δ main s K A S Fr L hN hR h8
 co_applyP callsE 24 Tryz.func92 Tryz.ntmps92
 co_applyP c_seq
 co_applyP c_region
 co_applyP oy rfl E_as
 co_applyP o_nil
 change wpE ..
 co_applyP c_block
 co_applyP c_loop (fun k s' ε' L' => s' = s ∧ ∃ n A', n ≤ 2 ∧ k + n = 2 ∧ LRel A A' ∧ Rep K A' (S.raises n) Fr L' ∧ kn ε' [(2, .int .i64 ((n + 1 : Nat) : Int)), (0, .pointer (some ⟨K, 7, none⟩))]) 2
 · exact ⟨rfl, 0, A, by omega, rfl, LRel.refl A, hR, rfl⟩
 rintro k s' ε' L' ⟨rfl, n, A', hn, hk, hr, hR', he⟩
 co_applyP wpE_kn he
 co_applyP c_seq
 co_applyP c_seq
 co_applyP c_region
 co_applyP oy rfl E_mv
 co_applyP oy rfl E_lss
 co_applyP o_nil
 change wpE ..
 co_applyP c_if rfl
 intro hlt
 · have hn2 : n < 2 := by
     have : ((n + 1 : Nat) : Int) < 3 := by simpa using hlt
     omega
   have h0 : At L' K 7 (slv (A'.a (0 + 1)) ((S.raises n).rows 0).length) := hR'.kat (kc_row (kst A' (S.raises n)) (l := 0) (by omega))
   have h1 : At L' K (7 + (n + 1)) (slv (A'.a (n + 1 + 1)) ((S.raises n).rows (n + 1)).length) := hR'.kat (kc_row (kst A' (S.raises n)) (l := n + 1) (by omega))
   have hl0 := raises_len S h8 n (by omega)
   have hl1 : ((S.raises n).rows (n + 1)).length ≤ 8 := by rw [raises_row S (by omega)]; exact h8 _ (by omega)
   have elen : IntKind.i64.wrap (((n + 1 : Nat) : Int) + 1) = ((n + 1 + 1 : Nat) : Int) := by simp [IntKind.wrap_i64]; omega
   have hix : ((n + 1 : Nat) : Int) < 3 := by omega
   have hkne : (A'.a (0 + 1)).b ≠ some K := hR'.row_ne (l := 0) (by omega) hR'.k (cells_ne' (by decide))
   co_applyP c_skip
   change wpE ..
   co_applyP c_seq
   co_applyP c_block
   co_applyP c_seq
   co_applyP c_draw [] 10 (nf := 0) mixed
   co_applyP tr (i := 0) rfl E_mv (pre_init (by simp))
   co_applyP tr (i := 1) rfl E_mv (pre_init (by simp))
   co_applyP tr (i := 2) rfl E_nc (pre_init (by simp))
   co_applyP tr (i := 3) rfl (E_ixa Tryz.underlying112 sz_91) (pre_init (by simp))
   co_applyP t0 (i := 4) rfl (E_ld (ht := ag_91)) (pre_init (by simp))
   co_applyP tr (i := 5) rfl E_mv (pre_init (by simp))
   co_applyP tr (i := 6) rfl E_mv (pre_init (by simp))
   co_applyP tr (i := 7) rfl E_nc (pre_init (by simp))
   co_applyP tr (i := 8) rfl (E_ixa Tryz.underlying112 sz_91) (pre_init (by simp))
   co_applyP t0 (i := 9) rfl (E_ld (ht := ag_91)) (pre_init (by simp))
   co_applyP tr (i := 11) rfl E_nc (pre_init (by simp))
   co_applyP anyE_nd
   intro hnd
   co_applyP te (i := 10) rfl (O_apR (a := A'.a (0 + 1)) (a2 := A'.a (n + 1 + 1)) (hnd := hnd) (hN := hN) (ha := hR'.rw 0 (by omega)) (ha2 := hR'.rw (n + 1) (by omega)) (h8 := by omega) (h8' := by omega))
   rintro _ _ ⟨a', rfl, hp⟩
   refine ⟨pre_late (by simp), ?_⟩
   rename_i L2
   co_applyP to (i := 12) rfl ((E_ixa Tryz.underlying112 sz_91)) (pre_late (by simp))
   co_applyP anyE_nd
   intro hnd'
   co_applyP te (i := 13) rfl (O_sm (hnd := hnd') (hm := hp.sub _ hR'.k hkne) (hi := by rw [ksize]; omega) (hp := slv_plain _ _) (hs := sz_91))
   rintro _ _ ⟨rfl, hU⟩
   refine ⟨pre_late (by simp), ?_⟩
   rename_i L3
   have e7 : (kcells (kst A' (S.raises n))).setIfInBounds (7 + 0) (slv a' ((S.raises n).rows 0 ++ (S.raises n).rows (n + 1)).length) = kcells (kst (A'.setA (0 + 1) a') ((S.raises n).setRow 0 ((S.raises n).rows 0 ++ (S.raises n).rows (n + 1)))) := by
     rw [kset_row _ (by omega), kst_row _ _ _ _ _ (by omega)]
   have hR3 : Rep K (A'.setA (0 + 1) a') ((S.raises n).setRow 0 ((S.raises n).rows 0 ++ (S.raises n).rows (n + 1))) Fr L3 := by
     refine hR'.setRow (l := 0) (by omega) hU.fn ?_ (fun t ht h1 h2 => hU.ne _ (hp.sub _ ht h2) h1) ?_ (fun b hb => ?_) (fun e _ => slot_ne _ (by omega))
     · show (K, true, Obj.cells (kcells _) 115) ∈ L3
       rw [← e7]; exact hU.self
     · refine hp.ok.mono fun c hc o ho => hU.ne _ ho fun e => ?_
       rcases hp.d c hc with h | h
       · exact hkne (by rw [h]; exact congrArg some e)
       · exact h _ hR'.k e.symm
     · rcases hp.d b hb with h | h
       · exact .inl h
       · exact .inr ⟨fun i hi => by obtain ⟨xs, hx⟩ := hR'.al i b hi; exact h _ hx rfl, fun t ht => h _ (hR'.fr t ht)⟩
   co_applyP td (by kernel_rfl)
   change wpE ..
   co_applyP c_region
   co_applyP oy rfl E_mv
   co_applyP oy rfl E_mv
   co_applyP oy rfl E_nc
   co_applyP oy rfl (E_ixa Tryz.underlying112 sz_91)
   co_applyP oeN rfl (fun hnd => O_sm (hs := sz_91) (hnd := hnd) (hm := hR3.k) (hi := by rw [ksize]; omega))
   rintro _ L4 ⟨rfl, hU4⟩
   co_applyP o_nil
   change wpE ..
   co_applyP c_region
   co_applyP oy rfl E_mv
   co_applyP oy rfl E_add
   co_applyP oy rfl E_as
   co_applyP o_nil
   change ∃ k', k' < _ ∧ _
   have e8 : (kcells (kst (A'.setA (0 + 1) a') ((S.raises n).setRow 0 ((S.raises n).rows 0 ++ (S.raises n).rows (n + 1))))).setIfInBounds (7 + (n + 1)) (slv ⟨none, []⟩ ([] : List Nat).length) = kcells (kst ((A'.setA (0 + 1) a').setA (n + 1 + 1) ⟨none, []⟩) (S.raises (n + 1))) := by
     rw [kset_row _ (by omega)]
     exact (congrArg kcells (kst_row (A'.setA (0 + 1) a') ((S.raises n).setRow 0 ((S.raises n).rows 0 ++ (S.raises n).rows (n + 1))) (n + 1) ⟨none, []⟩ [] (by omega))).symm
   have hR4 : Rep K ((A'.setA (0 + 1) a').setA (n + 1 + 1) ⟨none, []⟩) (S.raises (n + 1)) Fr L4 := by
     refine hR3.setRow (l := n + 1) (xs := []) (by omega) hU4.fn ?_ (fun t ht h1 _ => hU4.ne _ ht h1) ⟨rfl, rfl⟩ (fun b hb => by cases hb) (fun e _ => slot_ne _ (by omega))
     exact Eq.mp (congrArg (fun c => (K, true, Obj.cells c 115) ∈ L4) e8) hU4.self
   refine ⟨k - 1, by omega, rfl, n + 1, _, by omega, by omega, (hr.trans (LRel.set A' (l := 0) (by omega) a')).trans (LRel.set _ (l := n + 1) (by omega) _), hR4, ?_⟩
   rw [← elen]; rfl
 intro hlt
 co_applyP c_exit
 change ∃ v, resE .. = some v ∧ _
 have hn2 : n = 2 := by
   have : ¬ ((n + 1 : Nat) : Int) < 3 := by simpa using hlt
   omega
 subst hn2
 exact ⟨_, rfl, rfl, rfl, A', hr, hR'⟩
def St.lifts (S : St) : List Nat → St
 | [] => S
 | b :: bs => St.lifts (match S.get b with
   | some x => if x.st ≠ 6 ∧ 0 < x.lv then S.setP b { x with lv := 0, used := 0 } else S
   | none => S) bs
theorem lifts_append (S : St) (l m : List Nat) : S.lifts (l ++ m) = (S.lifts l).lifts m := by
 induction l generalizing S with
 | nil => rfl
 | cons b l ih => simp only [List.cons_append, St.lifts]; exact ih _
structure LfRel (S S' : St) : Prop where
 f : S'.ps.map (·.1) = S.ps.map (·.1)
 r : S'.rows = S.rows ∧ S'.by_ = S.by_ ∧ S'.wt = S.wt ∧ S'.now = S.now ∧ S'.last = S.last
theorem raise_s : ∃ n, ∀ {σ : Type} {F : Fam σ} {Δ : ∀ s, Dom (F.R s) (F.D s)} {main : Bool} {s : σ} (K : Nat) (A : Lay) (S : St) (Fr L : Frag), (∀ cs, (Δ s).New (.cells cs 93)) → Rep K A S Fr L → (∀ l, l < 3 → (S.rows l).length ≤ 8) →
   CallsL Δ Tryz.prog main 81 [ptr K].toArray n s L (fun s' v L' => s = s' ∧ v = .tuple #[] ∧ ∃ A', LRel A A' ∧ Rep K A' ((S.lifts (S.ps.map (·.1))).raises 2) Fr L') := by
 obtain ⟨n1, g1⟩ := rowsRaise_s
 apply Exists.intro
 intro σ F Δ main s K A S Fr L hN hR hr8
 obtain ⟨base, cap, hv, hat0⟩ := slv_view hR.pa
 simp only [List.length_map] at hv
 have h5 : At L K 5 (.slice base S.ps.length cap) := by rw [← hv]; exact hR.kat rfl
 co_applyP callsE 40 Tryz.func81 Tryz.ntmps81
 co_applyP c_seq
 co_applyP c_seq
 co_applyP c_region
 co_applyP oy rfl E_mv
 co_applyP oy rfl E_nc
 co_applyP oy rfl (E_fa (hf := fo_115_2))
 co_applyP oy rfl (E_ld (ht := ag_91))
 co_applyP oy rfl (E_len (hu := Tryz.underlying91))
 co_applyP oy rfl E_mv
 co_applyP o_nil
 change wpE ..
 co_applyP c_block
 co_applyP c_loop (fun k s' ε' L' => s' = s ∧ ∃ l1 l2, S.ps = l1 ++ l2 ∧ Rep K A (S.lifts (l1.map (·.1))) Fr L' ∧ LfRel S (S.lifts (l1.map (·.1))) ∧ k + l1.length = 8 ∧ kn ε' [(9, .int .i64 l1.length), (8, .int .i64 S.ps.length), (7, .slice base S.ps.length cap), (0, ptr K)]) 8
 · exact ⟨rfl, [], S.ps, rfl, hR, ⟨rfl, rfl, rfl, rfl, rfl, rfl⟩, rfl, rfl⟩
 rintro k s' ε' L' ⟨rfl, l1, l2, hl, hR', hW', hk, he⟩
 co_applyP wpE_kn he
 have hlen := congrArg List.length hl
 simp only [List.length_append] at hlen
 have h8 := hR.p8
 co_applyP c_seq
 co_applyP c_region
 co_applyP oy rfl E_lss
 co_applyP o_nil
 change wpE ..
 co_applyP c_seq
 co_applyP c_if rfl
 intro hlt
 · cases l2 with
   | nil => simp at hlt hlen; omega
   | cons q l2 =>
     have hat : ∃ ab, base = some ⟨ab, 0, none⟩ ∧ At L' ab l1.length (ptr q.1) := by
       obtain ⟨ab, hb1, hb2, _⟩ := hat0 l1.length (ptr q.1) (by rw [hl]; simp)
       obtain ⟨base', cap', _, hat'⟩ := slv_view hR'.pa
       have e1 : (S.lifts (l1.map (·.1))).ps.map (fun q => ptr q.1) = S.ps.map fun q => ptr q.1 := by
         have := congrArg (List.map ptr) hW'.f
         rw [List.map_map, List.map_map] at this
         exact this
       obtain ⟨b', hb1', _, hv'⟩ := hat' l1.length (ptr q.1) (by rw [e1, hl]; simp)
       rw [hb1] at hb1'
       obtain rfl : ab = b' := by simpa using hb1'
       exact ⟨ab, hb2, hv'⟩
     obtain ⟨ab, rfl, hav⟩ := hat
     simp at hlen
     generalize hS' : S.lifts (l1.map (·.1)) = S' at *
     have hmem : q.1 ∈ S'.ps.map (·.1) := by rw [hW'.f, hl]; simp
     obtain ⟨⟨b, x⟩, hbx, hbq⟩ := List.mem_map.1 hmem
     have hbq' : b = q.1 := hbq
     subst hbq'
     have hx2 : At L' q.1 2 (.int .i64 (x.st : Int)) := hR'.pat hbx (i := 2) rfl
     have hx5 : At L' q.1 5 (.int .i64 (x.lv : Int)) := hR'.pat hbx (i := 5) rfl
     have hget := get_of hR'.pn hbx
     have elen : IntKind.i64.wrap ((l1.length : Int) + 1) = ((l1 ++ [q]).length : Int) := by simp [IntKind.wrap_i64]; omega
     have hnext : S.lifts ((l1 ++ [q]).map (·.1)) = if x.st ≠ 6 ∧ 0 < x.lv then S'.setP q.1 { x with lv := 0, used := 0 } else S' := by
       rw [List.map_append, lifts_append, hS']
       show St.lifts (match S'.get q.1 with | some x => _ | none => _) [] = _
       rw [hget]; rfl
     co_applyP c_skip
     change wpE ..
     co_applyP c_seq
     co_applyP c_block
     co_applyP c_seq
     co_applyP c_region
     co_applyP oy rfl (E_ixs Tryz.underlying91 sz_93)
     co_applyP oy rfl (E_ld (ht := ag_93))
     co_applyP oy rfl E_as
     co_applyP o_nil
     change wpE ..
     co_applyP c_seq
     co_applyP c_cut ([(26, .bool (decide (x.st ≠ 6 ∧ 0 < x.lv))), (3, ptr q.1), (9, .int .i64 l1.length), (8, .int .i64 S.ps.length), (7, .slice (some ⟨ab, 0, none⟩) S.ps.length cap), (0, ptr K)])
     co_applyP c_region
     co_applyP oy rfl E_mv
     co_applyP oy rfl E_nc
     co_applyP oy rfl (E_fa (hf := fo_99_0))
     co_applyP oy rfl (E_fa (hf := fo_49_2))
     co_applyP oy rfl (E_ld (ht := ag_3))
     co_applyP oy rfl E_neq
     co_applyP oy rfl E_mv
     · by_cases h3 : x.st = 6
       · have e3 : ((x.st : Int) != 6) = false := by simp [h3]
         rw [e3]
         co_applyP ou rfl
         co_applyP ou rfl
         co_applyP ou rfl
         co_applyP ou rfl
         co_applyP ou rfl
         co_applyP ou rfl
         co_applyP oy rfl E_pick
         co_applyP o_nil
         change _ = _ ∧ _ = _ ∧ kn _ _
         refine ⟨rfl, rfl, ?_⟩
         have e4 : false = decide (x.st ≠ 6 ∧ 0 < x.lv) := by simp [h3]
         rw [← e4]; rfl
       · have e3 : ((x.st : Int) != 6) = true := by simp; omega
         rw [e3]
         co_applyP oy rfl (E_mv)
         co_applyP oy rfl (E_nc)
         co_applyP oy rfl ((E_fa (hf := fo_99_0)))
         co_applyP oy rfl ((E_fa (hf := fo_49_5)))
         co_applyP oy rfl ((E_ld (ht := ag_3)))
         co_applyP oy rfl (E_gtr)
         co_applyP oy rfl E_pick
         co_applyP o_nil
         change _ = _ ∧ _ = _ ∧ kn _ _
         refine ⟨rfl, rfl, ?_⟩
         have e4 : decide ((0 : Int) < (x.lv : Int)) = decide (x.st ≠ 6 ∧ 0 < x.lv) := by simp [h3]
         rw [← e4]; rfl
     co_applyP c_if rfl
     intro hw
     co_applyP c_region
     co_applyP oy rfl E_mv
     co_applyP oy rfl E_mv
     co_applyP oy rfl E_nc
     co_applyP oy rfl (E_fa (hf := fo_99_0))
     co_applyP oy rfl (E_fa (hf := fo_49_5))
     · have hw' : x.st ≠ 6 ∧ 0 < x.lv := by simpa using hw
       rw [if_pos hw'] at hnext
       co_applyP osm rfl (hs := sz_3) (hm := hR'.p _ hbx) (hi := by first | decide | (rw [psize]; omega) | (rw [ksize]; omega))
       intro L2 hU
       have hR2 := hR'.setP hbx (x' := { x with lv := 0 }) hU
       have hb2 : (q.1, { x with lv := 0 }) ∈ (S'.setP q.1 { x with lv := 0 }).ps := mem_setP_self hbx
       co_applyP oy rfl E_nc
       co_applyP oy rfl (E_fa (hf := fo_99_0))
       co_applyP oy rfl (E_fa (hf := fo_49_6))
       co_applyP osm rfl (hs := sz_3) (hm := hR2.p _ hb2) (hi := by first | decide | (rw [psize]; omega) | (rw [ksize]; omega))
       intro L3 hU3
       have hR3 := hR2.setP hb2 (x' := { x with lv := 0, used := 0 }) hU3
       have e6 : (S'.setP q.1 { x with lv := 0 }).setP q.1 { x with lv := 0, used := 0 } = S'.setP q.1 { x with lv := 0, used := 0 } := by
         unfold St.setP
         simp only [List.map_map]
         congr 1
         apply List.map_congr_left
         intro r _
         simp only [Function.comp]
         split
         · simp
         · rename_i h; simp [h]
       rw [e6] at hR3
       co_applyP o_nil
       change wpE ..
       co_applyP c_region
       co_applyP oy rfl E_add
       co_applyP oy rfl E_mv
       co_applyP o_nil
       change ∃ k', k' < _ ∧ _
       refine ⟨k - 1, by omega, rfl, l1 ++ [q], l2, by simp [hl], by rw [hnext]; exact hR3, by rw [hnext]; exact ⟨by rw [setP_fst]; exact hW'.f, hW'.r⟩, by simp; omega, by rw [← elen]; rfl⟩
     intro hw
     co_applyP c_skip
     change wpE ..
     co_applyP c_region
     co_applyP oy rfl E_add
     co_applyP oy rfl E_mv
     co_applyP o_nil
     change ∃ k', k' < _ ∧ _
     have hw' : ¬ (x.st ≠ 6 ∧ 0 < x.lv) := by simpa using hw
     rw [if_neg hw'] at hnext
     refine ⟨k - 1, by omega, rfl, l1 ++ [q], l2, by simp [hl], by rw [hnext]; exact hR', by rw [hnext]; exact hW', by simp; omega, by rw [← elen]; rfl⟩
 intro hlt
 co_applyP c_exit
 change wpE ..
 co_applyP c_region
 co_applyP oy rfl E_mv
 co_applyP oy rfl E_nc
 co_applyP oy rfl (E_fa (hf := fo_115_4))
 cases l2 with
 | cons q l2 => simp at hlt hlen; omega
 | nil =>
 have e : l1 = S.ps := by rw [hl]; simp
 subst e
 co_applyP oc rfl rfl rfl (g1 K A _ Fr L' hN hR' (fun l hl => by rw [hW'.r.1]; exact hr8 l hl))
 rintro _ _ _ ⟨rfl, rfl, A2, hr2, hR2⟩
 co_applyP o_nil
 change ∃ v, resE .. = some v ∧ _
 exact ⟨_, rfl, rfl, rfl, A2, hr2, hR2⟩
def liftP (x : PS) : PS := if x.st ≠ 6 ∧ 0 < x.lv then { x with lv := 0, used := 0 } else x
theorem lift_step {S : St} (hn : (S.ps.map (·.1)).Nodup) (b : Nat) : (match S.get b with
   | some x => if x.st ≠ 6 ∧ 0 < x.lv then S.setP b { x with lv := 0, used := 0 } else S
   | none => S) = S.setPs (S.ps.map fun q => if q.1 = b then (b, liftP q.2) else q) := by
 cases hg : S.get b with
 | none =>
   have : ∀ q ∈ S.ps, q.1 ≠ b := fun q hq e => by
     have := get_of hn (b := q.1) (x := q.2) hq
     rw [e, hg] at this; cases this
   have e : (S.ps.map fun q => if q.1 = b then (b, liftP q.2) else q) = S.ps := by
     conv => rhs; rw [← List.map_id S.ps]
     exact List.map_congr_left fun q hq => by simp [this q hq]
   show S = S.setPs _
   rw [e]; rfl
 | some x =>
   have hx := mem_of_get hg
   simp only
   have key : ∀ y, liftP x = y → S.setP b y = S.setPs (S.ps.map fun q => if q.1 = b then (b, liftP q.2) else q) := fun y hy => by
     unfold St.setP St.setPs
     congr 1
     refine List.map_congr_left fun q hq => ?_
     obtain ⟨c, z⟩ := q
     by_cases e : c = b
     · subst e
       rw [nodup_val hn hq hx]
       simp [hy]
     · simp [e]
   split
   · rename_i h; exact key _ (by simp [liftP, h])
   · rename_i h
     have := key x (by simp only [liftP]; rw [if_neg h])
     rw [← this, setP_self hn hx]
theorem lifts_ps : ∀ (bs : List Nat) (S : St), (S.ps.map (·.1)).Nodup → bs.Nodup → S.lifts bs = S.setPs (S.ps.map fun q => if q.1 ∈ bs then (q.1, liftP q.2) else q)
 | [], S, _, _ => by simp [St.lifts, St.setPs]
 | b :: bs, S, hn, hb => by
   have hfst : ((S.setPs (S.ps.map fun q => if q.1 = b then (b, liftP q.2) else q)).ps.map (·.1)) = S.ps.map (·.1) := by
     show ((S.ps.map fun q => if q.1 = b then (b, liftP q.2) else q).map (·.1)) = _
     rw [List.map_map]
     refine List.map_congr_left fun q _ => ?_
     simp only [Function.comp]
     split
     · rename_i e; exact e.symm
     · rfl
   show St.lifts (match S.get b with | some x => _ | none => _) bs = _
   rw [lift_step hn, lifts_ps bs _ (by rw [hfst]; exact hn) (List.nodup_cons.1 hb).2]
   unfold St.setPs
   simp only [List.map_map]
   congr 1
   refine List.map_congr_left fun q _ => ?_
   obtain ⟨c, z⟩ := q
   simp only [Function.comp, List.mem_cons]
   by_cases e : c = b
   · subst e
     simp [(List.nodup_cons.1 hb).1]
   · simp [e]
theorem lifts_all {S : St} (hn : (S.ps.map (·.1)).Nodup) : S.lifts (S.ps.map (·.1)) = S.setPs (S.ps.map fun q => (q.1, liftP q.2)) := by
 rw [lifts_ps _ _ hn hn]
 unfold St.setPs
 congr 1
 exact List.map_congr_left fun q hq => by simp [List.mem_map.2 ⟨q, hq, rfl⟩]
theorem Good.raise {S : St} (h : Good S) : Good ((S.lifts (S.ps.map (·.1))).raises 2) := by
 rw [lifts_all h.pn]
 have r0 : ((S.setPs (S.ps.map fun q => (q.1, liftP q.2))).raises 2).rows 0 = S.rows 0 ++ S.rows 1 ++ S.rows 2 := by simp [St.raises, St.raise1, St.setRow, put, St.setPs]
 have r1 : ∀ l, 0 < l → l < 3 → ((S.setPs (S.ps.map fun q => (q.1, liftP q.2))).raises 2).rows l = [] := fun l h1 h2 => by
   have : l = 1 ∨ l = 2 := by omega
   rcases this with rfl | rfl <;> simp [St.raises, St.raise1, St.setRow, put, St.setPs]
 have hps : ((S.setPs (S.ps.map fun q => (q.1, liftP q.2))).raises 2).ps = S.ps.map fun q => (q.1, liftP q.2) := rfl
 have hst : ∀ x : PS, (liftP x).st = x.st := fun x => by unfold liftP; split <;> rfl
 have hlv : ∀ x : PS, x.st = 1 → (liftP x).lv = 0 := fun x h1 => by
   unfold liftP
   split
   · rfl
   · rename_i hh
     have : ¬ 0 < x.lv := fun h0 => hh ⟨by omega, h0⟩
     omega
 have hin : ∀ l, l < 3 → ∀ c ∈ S.rows l, ∃ y, (c, y) ∈ ((S.setPs (S.ps.map fun q => (q.1, liftP q.2))).raises 2).ps ∧ y.lv = 0 ∧ y.st = 1 := fun l hl c hc => by
   obtain ⟨y, hy, h1, h2⟩ := h.rm l hl c hc
   exact ⟨liftP y, by rw [hps]; exact List.mem_map.2 ⟨_, hy, rfl⟩, hlv y h2, by rw [hst]; exact h2⟩
 have dis : ∀ l m, l < 3 → m < 3 → l ≠ m → ∀ a ∈ S.rows l, ∀ b ∈ S.rows m, a ≠ b := fun l m hl hm hne a ha b hb e => by
   subst e
   obtain ⟨y, hy, h1, _⟩ := h.rm l hl a ha
   obtain ⟨z, hz, h2, _⟩ := h.rm m hm a hb
   rw [nodup_val h.pn hy hz] at h1
   omega
 refine ⟨?_, ?_, fun q hq => ?_, fun l hl => ?_, fun l hl c hc => ?_, fun q hq h1 => ?_⟩
 · rw [hps, List.map_map]; exact h.pn
 · rw [hps]; simpa using h.p8
 · rw [hps] at hq
   obtain ⟨r, hr, rfl⟩ := List.mem_map.1 hq
   have := h.lv r hr
   show (liftP r.2).lv < 3
   unfold liftP
   split
   · show 0 < 3; omega
   · exact this
 · by_cases e : l = 0
   · subst e
     rw [r0]
     refine List.nodup_append.2 ⟨List.nodup_append.2 ⟨h.rn 0 (by omega), h.rn 1 (by omega), dis 0 1 (by omega) (by omega) (by omega)⟩, h.rn 2 (by omega), fun a ha b hb => ?_⟩
     rcases List.mem_append.1 ha with h1 | h1
     · exact dis 0 2 (by omega) (by omega) (by omega) a h1 b hb
     · exact dis 1 2 (by omega) (by omega) (by omega) a h1 b hb
   · rw [r1 l (by omega) hl]; exact List.nodup_nil
 · by_cases e : l = 0
   · subst e
     rw [r0] at hc
     rcases List.mem_append.1 hc with h1 | h1
     · rcases List.mem_append.1 h1 with h1 | h1
       · exact hin 0 (by omega) c h1
       · exact hin 1 (by omega) c h1
     · exact hin 2 (by omega) c h1
   · rw [r1 l (by omega) hl] at hc; simp at hc
 · rw [hps] at hq
   obtain ⟨r, hr, rfl⟩ := List.mem_map.1 hq
   have h1' : r.2.st = 1 := by rw [← hst]; exact h1
   have h0 := hlv r.2 h1'
   have hm := h.rr r hr h1'
   show r.1 ∈ _
   rw [show ((r.1, liftP r.2) : Nat × PS).2.lv = 0 from h0, r0]
   have hl := h.lv r hr
   have hcase : r.2.lv = 0 ∨ r.2.lv = 1 ∨ r.2.lv = 2 := by omega
   rcases hcase with e | e | e
   · rw [e] at hm; exact List.mem_append_left _ (List.mem_append_left _ hm)
   · rw [e] at hm; exact List.mem_append_left _ (List.mem_append_right _ hm)
   · rw [e] at hm; exact List.mem_append_right _ hm
end Go.Proofs.YtejkelcaljmnoaaGreatDoor
