/-
  Part 20 of the proof.
  No condition but those that each statement names.
-/
import Derived.Test.YtejkelcaljmnoaaGreatDoorHy19
import Derived.Test.YtejkelcaljmnoaaGreatDoorHy14
import Derived.Test.YtejkelcaljmnoaaGreatDoorHy17
set_option maxRecDepth 100000
set_option linter.unusedVariables false
set_option linter.unusedSimpArgs false
set_option linter.unusedSectionVars false
namespace Go.Proofs.YtejkelcaljmnoaaGreatDoor
open Go.Conc Go.Hx Go.Lo
theorem set_mid {α : Type} (A : List α) (n : Nat) (f : Nat → α) (C : List α) {i : Nat} (hi : i < n) (v : α) : (A ++ ((List.range n).map f ++ C)).set (A.length + i) v = A ++ ((List.range n).map (put f i v) ++ C) := by
 rw [List.set_append_right _ _ (Nat.le_add_right _ _), Nat.add_sub_cancel_left, List.set_append_left _ _ (by simpa using hi)]
 congr 2
 apply List.ext_getElem
 · simp
 · intro j h1 h2
   simp only [List.getElem_set, List.getElem_map, List.getElem_range, put]
   split
   · rename_i e; simp [e]
   · rename_i e; simp [Ne.symm e]
theorem get_mid {α : Type} (A : List α) (n : Nat) (f : Nat → α) (C : List α) {i : Nat} (hi : i < n) : (A ++ ((List.range n).map f ++ C))[A.length + i]? = some (f i) := by
 rw [List.getElem?_append_right (Nat.le_add_right _ _), Nat.add_sub_cancel_left, List.getElem?_append_left (by simpa using hi)]
 simp [hi]
section
variable (x : PS)
def pHead : List Value := [.int .i64 x.id, .int .i64 x.par, .int .i64 x.st, .int .i64 x.stat, .int .i64 x.at_, .int .i64 x.lv, .int .i64 x.used]
def pFiles : List Value := (List.range 6).flatMap (fun i => [.int .i64 (x.f i).1, .int .i64 (x.f i).2]) ++ [.int .i64 x.til]
theorem pcells_r : pcells x = (pHead x ++ ((List.range 8).map (fun i => Value.int .u16 (x.r i)) ++ ((List.range 64).map (fun i => Value.int .u8 (x.m i)) ++ pFiles x))).toArray := rfl
theorem pcells_m : pcells x = ((pHead x ++ (List.range 8).map (fun i => Value.int .u16 (x.r i))) ++ ((List.range 64).map (fun i => Value.int .u8 (x.m i)) ++ pFiles x)).toArray := by rw [pcells_r, List.append_assoc]
theorem pget_r {i : Nat} (hi : i < 8) : (pcells x)[7 + i]? = some (.int .u16 (x.r i)) := by
 rw [pcells_r, List.getElem?_toArray]
 exact get_mid (pHead x) 8 _ _ hi
theorem pget_m {i : Nat} (hi : i < 64) : (pcells x)[15 + i]? = some (.int .u8 (x.m i)) := by
 rw [pcells_m, List.getElem?_toArray]
 exact get_mid (pHead x ++ (List.range 8).map (fun i => Value.int .u16 (x.r i))) 64 _ _ hi
theorem pset_r {i : Nat} (hi : i < 8) (v : Int) : (pcells x).setIfInBounds (7 + i) (.int .u16 v) = pcells { x with r := put x.r i v } := by
 rw [pcells_r, List.setIfInBounds_toArray]
 have h := set_mid (pHead x) 8 (fun i => Value.int .u16 (x.r i)) ((List.range 64).map (fun i => Value.int .u8 (x.m i)) ++ pFiles x) hi (.int .u16 v)
 have e : put (fun i => Value.int .u16 (x.r i)) i (.int .u16 v) = fun j => Value.int .u16 (put x.r i v j) := by funext j; unfold put; split <;> rfl
 rw [e] at h
 exact congrArg List.toArray h
theorem pset_m {i : Nat} (hi : i < 64) (v : Int) : (pcells x).setIfInBounds (15 + i) (.int .u8 v) = pcells { x with m := put x.m i v } := by
 rw [pcells_m, List.setIfInBounds_toArray]
 have h := set_mid (pHead x ++ (List.range 8).map (fun i => Value.int .u16 (x.r i))) 64 (fun i => Value.int .u8 (x.m i)) (pFiles x) hi (.int .u8 v)
 have e : put (fun i => Value.int .u8 (x.m i)) i (.int .u8 v) = fun j => Value.int .u8 (put x.m i v j) := by funext j; unfold put; split <;> rfl
 rw [e] at h
 rw [pcells_m]
 exact congrArg List.toArray h
end
structure WF (x : PS) : Prop where
 r : ∀ i, i < 8 → 0 ≤ x.r i ∧ x.r i < 65536
 m : ∀ i, i < 64 → 0 ≤ x.m i ∧ x.m i < 256
theorem wrap_u16 (n : Int) : IntKind.u16.wrap n = n % 65536 := by simp [IntKind.wrap, IntKind.bits, IntKind.signed]
theorem wrap_u8 (n : Int) : IntKind.u8.wrap n = n % 256 := by simp [IntKind.wrap, IntKind.bits, IntKind.signed]
def PS.do (x : PS) (op a b c : Int) : Except Nat PS :=
 let ra := (a % 8).toNat
 let rb := (b % 8).toNat
 let k := (b + 256 * c) % 65536
 let y := { x with at_ := x.at_ + 1 }
 if op = 1 then .ok { y with r := put x.r ra k }
 else if op = 2 then .ok { y with r := put x.r ra (x.r rb) }
 else if op = 3 then .ok { y with r := put x.r ra ((x.r ra + x.r rb) % 65536) }
 else if op = 4 then .ok { y with r := put x.r ra ((x.r ra - x.r rb) % 65536) }
 else if op = 5 then .ok { y with at_ := if x.r ra = 0 then k.toNat else x.at_ + 1 }
 else if op = 6 then .ok { y with at_ := k.toNat }
 else if op = 7 then if x.r rb + c < 64 then .ok { y with r := put x.r ra (x.m (x.r rb + c).toNat) } else .error 10
 else if op = 8 then if x.r rb + c < 64 then .ok { y with m := put x.m (x.r rb + c).toNat (x.r ra % 256) } else .error 10
 else .error 1
abbrev insnv (op a b c : Int) : Value := .agg #[.int .u8 op, .int .u8 a, .int .u8 b, .int .u8 c]
theorem k_s : ∃ n, ∀ {σ : Type} {F : Fam σ} {Δ : ∀ s, Dom (F.R s) (F.D s)} {main : Bool} {s : σ} (L : Frag) (op a b c : Int), (∀ cs, (Δ s).New (.cells cs 158)) → 0 ≤ b ∧ b < 256 → 0 ≤ c ∧ c < 256 →
   CallsL Δ Tryz.prog main 113 [insnv op a b c].toArray n s L (fun s' v L' => s = s' ∧ v = .int .u16 ((b + 256 * c) % 65536) ∧ Fun L' ∧ ∀ t ∈ L, t ∈ L') := by
 apply Exists.intro
 intro σ F Δ main s L op a b c hN hb hc
 co_applyP callsE 11 Tryz.func113 Tryz.ntmps113
 co_applyP wpE_fun
 intro hF
 co_applyP c_seq
 co_applyP c_region
 co_applyP oe rfl (O_box (hN _))
 rintro _ _ ⟨nb, hnb, rfl, rfl⟩
 co_applyP oy rfl E_as
 co_applyP o_nil
 change wpE ..
 co_applyP c_seq
 co_applyP c_region
 co_applyP oy rfl (E_fa (hf := fo_158_2))
 co_applyP oy rfl (E_ld (ht := ag_5))
 co_applyP oy rfl (E_cv (hs := Tryz.underlying5) (ht := Tryz.underlying32))
 co_applyP oy rfl (E_fa (hf := fo_158_3))
 co_applyP oy rfl (E_ld (ht := ag_5))
 co_applyP oy rfl (E_cv (hs := Tryz.underlying5) (ht := Tryz.underlying32))
 co_applyP oy rfl E_mul
 co_applyP oy rfl E_add
 co_applyP oy rfl E_as
 co_applyP o_nil
 change wpE ..
 co_applyP c_ret
 change ∃ v, resE .. = some v ∧ _
 have hA := add_cons (o := .cells #[.int .u8 op, .int .u8 a, .int .u8 b, .int .u8 c] 158) hF hnb
 refine ⟨_, rfl, rfl, ?_, hA.fn, hA.sub⟩
 simp only [wrap_u16]
 congr 1; omega
theorem place_s : ∃ n, ∀ {σ : Type} {F : Fam σ} {Δ : ∀ s, Dom (F.R s) (F.D s)} {main : Bool} {s : σ} (L : Frag) (p : Value) (b c : Int) (e10 : Value), 0 ≤ b ∧ b < 65536 → 0 ≤ c ∧ c < 256 → At L 10 0 e10 →
   CallsL Δ Tryz.prog main 114 [p, .int .u16 b, .int .u8 c].toArray n s L (fun s' v L' => s = s' ∧ L = L' ∧ v = .tuple #[.int .i64 (if b + c < 64 then b + c else 0), if b + c < 64 then .nilIface else e10]) := by
 apply Exists.intro
 intro σ F Δ main s L p b c e10 hb hc h10
 have w1 : IntKind.i64.wrap b = b := by simp [IntKind.wrap_i64]; omega
 have w2 : IntKind.i64.wrap c = c := by simp [IntKind.wrap_i64]; omega
 have w3 : IntKind.i64.wrap (b + c) = b + c := by simp [IntKind.wrap_i64]; omega
 co_applyP callsE 18 Tryz.func114 Tryz.ntmps114
 co_applyP c_seq
 co_applyP c_region
 co_applyP oy rfl E_as
 co_applyP oy rfl E_as
 co_applyP o_nil
 change wpE ..
 co_applyP c_seq
 co_applyP c_region
 co_applyP oy rfl E_mv
 co_applyP oy rfl (E_cv (hs := Tryz.underlying32) (ht := Tryz.underlying3))
 co_applyP oy rfl E_mv
 co_applyP oy rfl (E_cv (hs := Tryz.underlying5) (ht := Tryz.underlying3))
 co_applyP oy rfl E_add
 co_applyP oy rfl E_as
 co_applyP o_nil
 change wpE ..
 co_applyP c_seq
 co_applyP c_seq
 co_applyP c_region
 co_applyP oy rfl E_mv
 co_applyP oy rfl E_geq
 co_applyP o_nil
 change wpE ..
 simp only [w1, w2, w3]
 co_applyP c_if rfl
 intro hc
 co_applyP c_seq
 co_applyP c_drawq mixed
 co_applyP tr (i := 0) rfl (E_ld (ht := ag_168)) pI
 co_applyP tr (i := 1) rfl E_as pI
 co_applyP tr (i := 2) rfl E_as pI
 co_applyP td (by kernel_rfl)
 change wpE ..
 co_applyP c_ret
 change ∃ v, resE .. = some v ∧ _
 · refine ⟨_, rfl, rfl, rfl, ?_⟩
   have : ¬ b + c < 64 := by simp at hc; omega
   rw [if_neg this, if_neg this]
 intro hc
 co_applyP c_skip
 change wpE ..
 co_applyP c_seq
 co_applyP c_region
 co_applyP oy rfl E_mv
 co_applyP oy rfl E_as
 co_applyP oy rfl E_as
 co_applyP o_nil
 change wpE ..
 co_applyP c_ret
 change ∃ v, resE .. = some v ∧ _
 refine ⟨_, rfl, rfl, rfl, ?_⟩
 have : b + c < 64 := by simp at hc; omega
 rw [if_pos this, if_pos this]
theorem setP_self {S : St} {b : Nat} {x : PS} (hn : (S.ps.map (·.1)).Nodup) (h : (b, x) ∈ S.ps) : S.setP b x = S := by
 have : (S.ps.map fun q => if q.1 = b then (b, x) else q) = S.ps := by
   conv => rhs; rw [← List.map_id S.ps]
   apply List.map_congr_left
   rintro ⟨c, y⟩ hq
   by_cases e : c = b
   · subst e; simp [nodup_val hn h hq]
   · simp [e]
 unfold St.setP; rw [this]
structure Errs (e0 e1 e10 : Value) (L : Frag) : Prop where
 h0 : At L 0 0 e0
 h1 : At L 1 0 e1
 h10 : At L 10 0 e10
def errv (e0 e1 e10 : Value) : Nat → Value
 | 0 => e0
 | 1 => e1
 | _ => e10
set_option maxHeartbeats 1000000 in
theorem do_s : ∃ n, ∀ {σ : Type} {F : Fam σ} {Δ : ∀ s, Dom (F.R s) (F.D s)} {main : Bool} {s : σ} (K : Nat) (A : Lay) (S : St) (Fr L : Frag) (b : Nat) (x : PS) (op ia ib ic : Int) (e0 e1 e10 : Value), (∀ cs, (Δ s).New (.cells cs 158)) → Rep K A S Fr L → (b, x) ∈ S.ps → WF x → x.at_ < 256 → 0 ≤ ia ∧ ia < 256 → 0 ≤ ib ∧ ib < 256 → 0 ≤ ic ∧ ic < 256 → (∀ i ∈ [0, 1, 10], ∃ fl cs ty fr, (i, fl, Obj.cells cs ty fr) ∈ Fr ∧ cs[0]? = some (errv e0 e1 e10 i)) → (∃ t w, e10 = .iface t w) →
   CallsL Δ Tryz.prog main 96 [ptr b, insnv op ia ib ic].toArray n s L (fun s' v L' => s = s' ∧ match x.do op ia ib ic with
     | .ok x' => v = .nilIface ∧ Rep K A (S.setP b x') Fr L'
     | .error e => v = errv e0 e1 e10 e ∧ Rep K A S Fr L') := by
 obtain ⟨n1, g1⟩ := k_s
 obtain ⟨n2, g2⟩ := place_s
 apply Exists.intro
 intro σ F Δ main s K A S Fr L b x op ia ib ic e0 e1 e10 hN hR hb hx hat ha hib hic hg hi10
 have gl : ∀ (L : Frag), Rep K A S Fr L → ∀ i ∈ [0, 1, 10], At L i 0 (errv e0 e1 e10 i) := fun L h i hi => by
   obtain ⟨fl, cs, ty, fr, h1, h2⟩ := hg i hi
   exact ⟨fl, cs, ty, fr, h.fr _ h1, h2⟩
 obtain ⟨ra, hra⟩ : ∃ ra, ra = (ia % 8).toNat := ⟨_, rfl⟩
 obtain ⟨rb, hrb⟩ : ∃ rb, rb = (ib % 8).toNat := ⟨_, rfl⟩
 have hra8 : ra < 8 := by omega
 have hrb8 : rb < 8 := by omega
 have ea : (IntKind.i64.wrap ia).tmod 8 = (ra : Int) := by
   have : IntKind.i64.wrap ia = ia := by simp [IntKind.wrap_i64]; omega
   rw [this, Int.tmod_eq_emod_of_nonneg (by omega)]; omega
 have eb : (IntKind.i64.wrap ib).tmod 8 = (rb : Int) := by
   have : IntKind.i64.wrap ib = ib := by simp [IntKind.wrap_i64]; omega
   rw [this, Int.tmod_eq_emod_of_nonneg (by omega)]; omega
 have en : IntKind.i64.wrap ((x.at_ : Int) + 1) = ((x.at_ + 1 : Nat) : Int) := by simp [IntKind.wrap_i64]; omega
 have wra := hx.r ra hra8
 have wrb := hx.r rb hrb8
 co_applyP callsE 130 Tryz.func96 Tryz.ntmps96
 co_applyP c_seq
 co_applyP c_region
 co_applyP oadd rfl (O_box (hN _))
 intro nb L1 hA
 have hR1 := hR.add hA
 have hbm := hA.self
 have hb0 : ∀ i v, (#[Value.int .u8 op, .int .u8 ia, .int .u8 ib, .int .u8 ic])[i]? = some v → At L1 nb i v := fun i v h => ⟨true, _, _, _, hbm, h⟩
 have hc0 := hb0 0 _ rfl
 have hc1 := hb0 1 _ rfl
 have hc2 := hb0 2 _ rfl
 have hc3 := hb0 3 _ rfl
 have hb1 : At L1 b (7 + ((IntKind.i64.wrap ib).tmod 8).toNat) (.int .u16 (x.r rb)) := by
   rw [eb]; exact hR1.pat hb (pget_r x hrb8)
 have hb4 : At L1 b 4 (.int .i64 (x.at_ : Int)) := hR1.pat hb (i := 4) rfl
 co_applyP oy rfl E_as
 co_applyP o_nil
 change wpE ..
 co_applyP c_seq
 co_applyP c_drawq mixed
 co_applyP tr (i := 0) rfl E_mv pI
 co_applyP tr (i := 1) rfl (E_fa (hf := fo_158_1)) pI
 co_applyP tr (i := 2) rfl (E_ld (ht := ag_5)) pI
 co_applyP tr (i := 3) rfl (E_cv (hs := Tryz.underlying5) (ht := Tryz.underlying3)) pI
 co_applyP tr (i := 4) rfl E_rem pI
 co_applyP tr (i := 5) rfl E_nc pI
 co_applyP tr (i := 6) rfl (E_fa (hf := fo_99_0)) pI
 co_applyP tr (i := 7) rfl (E_fa (hf := fo_49_7)) pI
 co_applyP tr (i := 8) rfl (E_ixa Tryz.underlying47 sz_32) pI
 co_applyP tr (i := 9) rfl E_as pI
 co_applyP td (by kernel_rfl)
 change wpE ..
 co_applyP c_seq
 co_applyP c_drawq mixed
 co_applyP tr (i := 0) rfl E_mv pI
 co_applyP tr (i := 1) rfl (E_fa (hf := fo_158_2)) pI
 co_applyP tr (i := 2) rfl (E_ld (ht := ag_5)) pI
 co_applyP tr (i := 3) rfl (E_cv (hs := Tryz.underlying5) (ht := Tryz.underlying3)) pI
 co_applyP tr (i := 4) rfl E_rem pI
 co_applyP tr (i := 5) rfl E_nc pI
 co_applyP tr (i := 6) rfl (E_fa (hf := fo_99_0)) pI
 co_applyP tr (i := 7) rfl (E_fa (hf := fo_49_7)) pI
 co_applyP tr (i := 8) rfl (E_ixa Tryz.underlying47 sz_32) pI
 co_applyP tr (i := 9) rfl (E_ld (ht := ag_32)) pI
 co_applyP tr (i := 10) rfl E_as pI
 co_applyP td (by kernel_rfl)
 change wpE ..
 co_applyP c_seq
 co_applyP c_region
 co_applyP oy rfl E_mv
 co_applyP oy rfl E_nc
 co_applyP oy rfl (E_fa (hf := fo_99_0))
 co_applyP oy rfl (E_fa (hf := fo_49_4))
 co_applyP oy rfl (E_ld (ht := ag_3))
 co_applyP oy rfl E_add
 co_applyP oy rfl E_as
 co_applyP o_nil
 change wpE ..
 co_applyP wpE_kn (ε' := [(0, ptr b), (3, ptr nb), (5, .pointer (some ⟨b, 7 + ra, none⟩)), (6, .int .u16 (x.r rb)), (7, .int .i64 ((x.at_ + 1 : Nat) : Int))]) (by rw [← en]; unfold kn; simp only [ea, eb, Int.toNat_natCast]; rfl)
 clear hb1 hb4
 have har : At L1 b (7 + ra) (.int .u16 (x.r ra)) := hR1.pat hb (pget_r x hra8)
 have ek : IntKind.i64.wrap ((ib + 256 * ic) % 65536) = ((((ib + 256 * ic) % 65536).toNat : Nat) : Int) := by simp [IntKind.wrap_i64]; omega
 have hself : S.setP b x = S := setP_self hR.pn hb
 co_applyP c_mid (fun s' ε' L' => s = s' ∧ ∃ (y : PS) (nx : Nat), Rep K A (S.setP b y) Fr L' ∧ kn ε' [(0, ptr b), (7, .int .i64 (nx : Int))] ∧ x.do op ia ib ic = .ok { y with at_ := nx })
 co_applyP c_seq
 co_applyP c_region
 co_applyP oy rfl (E_fa (hf := fo_158_0))
 co_applyP oy rfl (E_ld (ht := ag_5))
 co_applyP o_nil
 change wpE ..
 co_applyP c_block
 co_applyP c_seq
 co_applyP c_region
 co_applyP oy rfl E_eql
 co_applyP oy rfl E_as
 co_applyP o_nil
 change wpE ..
 co_applyP c_if rfl
 intro c1
 co_applyP c_region
 co_applyP oy rfl E_mv
 · have h1 : op = 1 := by simpa using c1
   co_applyP oy rfl (E_lda (ht := ag_158) (hs := sz_158) (hm := hbm) (hi := Nat.le_refl _))
   co_applyP oc rfl rfl rfl (g1 L1 op ia ib ic hN hib hic)
   rintro _ _ _ ⟨rfl, rfl, hF2, hs2⟩
   have hR2 := hR1.of hF2 hs2
   co_applyP oy rfl E_nc
   co_applyP osm rfl (hs := sz_32) (hm := hR2.p _ hb) (hi := by first | decide | (rw [psize]; omega) | (rw [ksize]; omega))
   intro L2 hU2
   rw [pset_r x hra8] at hU2
   have hRr := hR2.setP (x' := { x with r := put x.r ra ((ib + 256 * ic) % 65536) }) hb hU2
   co_applyP o_nil
   change _ = _ ∧ ∃ (y : PS) (nx : Nat), _
   exact ⟨rfl, { x with r := put x.r ra ((ib + 256 * ic) % 65536) }, x.at_ + 1, hRr, rfl, by unfold PS.do; simp [h1, hra, hrb]⟩
 intro c1
 co_applyP c_seq
 co_applyP c_region
 co_applyP oy rfl E_eql
 co_applyP oy rfl E_as
 co_applyP o_nil
 change wpE ..
 have n1 : ¬ op = 1 := by simpa using c1
 co_applyP c_if rfl
 intro c2
 co_applyP c_region
 co_applyP oy rfl E_mv
 co_applyP oy rfl E_mv
 co_applyP oy rfl E_nc
 · have h2 : op = 2 := by simpa using c2
   co_applyP osm rfl (hs := sz_32) (hm := hR1.p _ hb) (hi := by first | decide | (rw [psize]; omega) | (rw [ksize]; omega))
   intro L2 hU2
   rw [pset_r x hra8] at hU2
   have hRr := hR1.setP (x' := { x with r := put x.r ra (x.r rb) }) hb hU2
   co_applyP o_nil
   change _ = _ ∧ ∃ (y : PS) (nx : Nat), _
   exact ⟨rfl, { x with r := put x.r ra (x.r rb) }, x.at_ + 1, hRr, rfl, by unfold PS.do; simp [h2, hra, hrb]⟩
 intro c2
 co_applyP c_seq
 co_applyP c_region
 co_applyP oy rfl E_eql
 co_applyP oy rfl E_as
 co_applyP o_nil
 change wpE ..
 have n2 : ¬ op = 2 := by simpa using c2
 co_applyP c_if rfl
 intro c3
 co_applyP c_region
 co_applyP oy rfl E_mv
 co_applyP oy rfl E_nc
 co_applyP oy rfl (E_ld (ht := ag_32))
 co_applyP oy rfl E_mv
 co_applyP oy rfl E_add
 co_applyP oy rfl E_nc
 · have h3 : op = 3 := by simpa using c3
   co_applyP osm rfl (hs := sz_32) (hm := hR1.p _ hb) (hi := by first | decide | (rw [psize]; omega) | (rw [ksize]; omega))
   intro L2 hU2
   rw [wrap_u16, pset_r x hra8] at hU2
   have hRr := hR1.setP (x' := { x with r := put x.r ra ((x.r ra + x.r rb) % 65536) }) hb hU2
   co_applyP o_nil
   change _ = _ ∧ ∃ (y : PS) (nx : Nat), _
   exact ⟨rfl, { x with r := put x.r ra ((x.r ra + x.r rb) % 65536) }, x.at_ + 1, hRr, rfl, by unfold PS.do; simp [h3, hra, hrb]⟩
 intro c3
 co_applyP c_seq
 co_applyP c_region
 co_applyP oy rfl E_eql
 co_applyP oy rfl E_as
 co_applyP o_nil
 change wpE ..
 have n3 : ¬ op = 3 := by simpa using c3
 co_applyP c_if rfl
 intro c4
 co_applyP c_region
 co_applyP oy rfl E_mv
 co_applyP oy rfl E_nc
 co_applyP oy rfl (E_ld (ht := ag_32))
 co_applyP oy rfl E_mv
 co_applyP oy rfl E_sub
 co_applyP oy rfl E_nc
 · have h4 : op = 4 := by simpa using c4
   co_applyP osm rfl (hs := sz_32) (hm := hR1.p _ hb) (hi := by first | decide | (rw [psize]; omega) | (rw [ksize]; omega))
   intro L2 hU2
   rw [wrap_u16, pset_r x hra8] at hU2
   have hRr := hR1.setP (x' := { x with r := put x.r ra ((x.r ra - x.r rb) % 65536) }) hb hU2
   co_applyP o_nil
   change _ = _ ∧ ∃ (y : PS) (nx : Nat), _
   exact ⟨rfl, { x with r := put x.r ra ((x.r ra - x.r rb) % 65536) }, x.at_ + 1, hRr, rfl, by unfold PS.do; simp [h4, hra, hrb]⟩
 intro c4
 co_applyP c_seq
 co_applyP c_region
 co_applyP oy rfl E_eql
 co_applyP oy rfl E_as
 co_applyP o_nil
 change wpE ..
 have n4 : ¬ op = 4 := by simpa using c4
 co_applyP c_if rfl
 intro c5
 co_applyP c_seq
 co_applyP c_region
 co_applyP oy rfl E_mv
 co_applyP oy rfl E_nc
 co_applyP oy rfl (E_ld (ht := ag_32))
 co_applyP oy rfl E_eql
 co_applyP o_nil
 change wpE ..
 · have h5 : op = 5 := by simpa using c5
   co_applyP c_if rfl
   intro cz
   co_applyP c_region
   co_applyP oy rfl (E_lda (ht := ag_158) (hs := sz_158) (hm := hbm) (hi := Nat.le_refl _))
   co_applyP oc rfl rfl rfl (g1 L1 op ia ib ic hN hib hic)
   rintro _ _ _ ⟨rfl, rfl, hF2, hs2⟩
   have hR2 := hR1.of hF2 hs2
   co_applyP oy rfl (E_cv (hs := Tryz.underlying32) (ht := Tryz.underlying3))
   co_applyP oy rfl E_as
   co_applyP o_nil
   change _ = _ ∧ ∃ (y : PS) (nx : Nat), _
   rw [ek]
   exact ⟨rfl, x, ((ib + 256 * ic) % 65536).toNat, by rw [hself]; exact hR2, rfl, by unfold PS.do; simp [h5, hra, hrb, show x.r (ia % 8).toNat = 0 from by rw [← hra]; simpa using cz]⟩
   intro cz
   co_applyP c_skip
   change _ = _ ∧ ∃ (y : PS) (nx : Nat), _
   exact ⟨rfl, x, x.at_ + 1, by rw [hself]; exact hR1, rfl, by unfold PS.do; simp [h5, hra, hrb, show ¬ x.r (ia % 8).toNat = 0 from by rw [← hra]; simpa using cz]⟩
 intro c5
 co_applyP c_seq
 co_applyP c_region
 co_applyP oy rfl E_eql
 co_applyP oy rfl E_as
 co_applyP o_nil
 change wpE ..
 have n5 : ¬ op = 5 := by simpa using c5
 co_applyP c_if rfl
 intro c6
 co_applyP c_region
 · have h6 : op = 6 := by simpa using c6
   co_applyP oy rfl (E_lda (ht := ag_158) (hs := sz_158) (hm := hbm) (hi := Nat.le_refl _))
   co_applyP oc rfl rfl rfl (g1 L1 op ia ib ic hN hib hic)
   rintro _ _ _ ⟨rfl, rfl, hF2, hs2⟩
   have hR2 := hR1.of hF2 hs2
   co_applyP oy rfl (E_cv (hs := Tryz.underlying32) (ht := Tryz.underlying3))
   co_applyP oy rfl E_as
   co_applyP o_nil
   change _ = _ ∧ ∃ (y : PS) (nx : Nat), _
   rw [ek]
   exact ⟨rfl, x, ((ib + 256 * ic) % 65536).toNat, by rw [hself]; exact hR2, rfl, by unfold PS.do; simp [h6, hra, hrb]⟩
 intro c6
 co_applyP c_seq
 co_applyP c_region
 co_applyP oy rfl E_eql
 co_applyP oy rfl E_as
 co_applyP o_nil
 change wpE ..
 have n6 : ¬ op = 6 := by simpa using c6
 co_applyP c_if rfl
 intro c7
 co_applyP c_seq
 co_applyP c_region
 co_applyP oy rfl E_mv
 co_applyP oy rfl E_mv
 co_applyP oy rfl (E_fa (hf := fo_158_3))
 co_applyP oy rfl (E_ld (ht := ag_5))
 · have h7 : op = 7 := by simpa using c7
   co_applyP oc rfl rfl rfl (g2 L1 (ptr b) (x.r rb) ic e10 wrb hic (gl L1 hR1 10 (by simp)))
   rintro _ _ _ ⟨rfl, rfl, rfl⟩
   co_applyP oy rfl E_mv
   co_applyP oy rfl E_ext
   co_applyP oy rfl E_ext
   co_applyP oy rfl E_as
   co_applyP oy rfl E_as
   co_applyP o_nil
   change wpE ..
   co_applyP c_seq
   co_applyP c_seq
   co_applyP c_region
   co_applyP oy rfl E_mv
   co_applyP oy rfl (E_ifn (v := if x.r rb + ic < 64 then .nilIface else e10) (c := decide (x.r rb + ic < 64)) (hv := by by_cases hm : x.r rb + ic < 64; exact .inl ⟨by rw [if_pos hm], by simp [hm]⟩; obtain ⟨t, w, e⟩ := hi10; exact .inr ⟨t, w, by rw [if_neg hm, e], by simp [hm]⟩) (hu := Tryz.underlying168))
   co_applyP o_nil
   change wpE ..
   co_applyP c_if rfl
   intro cm
   co_applyP c_seq
   co_applyP c_region
   co_applyP oy rfl E_mv
   co_applyP oy rfl E_as
   co_applyP o_nil
   change wpE ..
   co_applyP c_ret
   change ∃ v, resE .. = some v ∧ _
   have hm : ¬ x.r rb + ic < 64 := by simpa using cm
   refine ⟨_, rfl, rfl, ?_⟩
   have hdo : x.do op ia ib ic = .error 10 := by unfold PS.do; simp [h7, hra, hrb, show ¬ x.r (ib % 8).toNat + ic < 64 from by rw [← hrb]; exact hm]
   rw [hdo]
   refine ⟨?_, hR1⟩
   show (if x.r rb + ic < 64 then Value.nilIface else e10) = e10
   rw [if_neg hm]
   intro cm
   have hm : x.r rb + ic < 64 := by simpa using cm
   have hm' : x.r (ib % 8).toNat + ic < 64 := by rw [← hrb]; exact hm
   simp only [if_pos hm]
   have hmm : At L1 b (15 + (x.r rb + ic).toNat) (.int .u8 (x.m (x.r rb + ic).toNat)) := hR1.pat hb (pget_m x (by omega))
   have hmw := hx.m (x.r rb + ic).toNat (by omega)
   have e16 : IntKind.u16.wrap (x.m (x.r rb + ic).toNat) = x.m (x.r rb + ic).toNat := by rw [wrap_u16]; omega
   co_applyP c_skip
   change wpE ..
   co_applyP c_region
   co_applyP oy rfl E_mv
   co_applyP oy rfl E_mv
   co_applyP oy rfl E_mv
   co_applyP oy rfl E_nc
   co_applyP oy rfl (E_fa (hf := fo_99_1))
   co_applyP oy rfl (E_ixa Tryz.underlying94 sz_5)
   co_applyP oy rfl (E_ld (ht := ag_5))
   co_applyP oy rfl (E_cv (hs := Tryz.underlying5) (ht := Tryz.underlying32))
   co_applyP oy rfl E_nc
   rw [e16]
   co_applyP osm rfl (hs := sz_32) (hm := hR1.p _ hb) (hi := by first | decide | (rw [psize]; omega) | (rw [ksize]; omega))
   intro L2 hU2
   rw [pset_r x hra8] at hU2
   have hRr := hR1.setP (x' := { x with r := put x.r ra (x.m (x.r rb + ic).toNat) }) hb hU2
   co_applyP o_nil
   change _ = _ ∧ ∃ (y : PS) (nx : Nat), _
   exact ⟨rfl, { x with r := put x.r ra (x.m (x.r rb + ic).toNat) }, x.at_ + 1, hRr, rfl, by unfold PS.do; simp [h7, hra, hrb, hm']⟩
 intro c7
 co_applyP c_seq
 co_applyP c_region
 co_applyP oy rfl E_eql
 co_applyP oy rfl E_as
 co_applyP o_nil
 change wpE ..
 have n7 : ¬ op = 7 := by simpa using c7
 co_applyP c_if rfl
 intro c8
 co_applyP c_seq
 co_applyP c_region
 co_applyP oy rfl E_mv
 co_applyP oy rfl E_mv
 co_applyP oy rfl (E_fa (hf := fo_158_3))
 co_applyP oy rfl (E_ld (ht := ag_5))
 · have h8 : op = 8 := by simpa using c8
   co_applyP oc rfl rfl rfl (g2 L1 (ptr b) (x.r rb) ic e10 wrb hic (gl L1 hR1 10 (by simp)))
   rintro _ _ _ ⟨rfl, rfl, rfl⟩
   co_applyP oy rfl E_mv
   co_applyP oy rfl E_ext
   co_applyP oy rfl E_ext
   co_applyP oy rfl E_as
   co_applyP oy rfl E_as
   co_applyP o_nil
   change wpE ..
   co_applyP c_seq
   co_applyP c_seq
   co_applyP c_region
   co_applyP oy rfl E_mv
   co_applyP oy rfl (E_ifn (v := if x.r rb + ic < 64 then .nilIface else e10) (c := decide (x.r rb + ic < 64)) (hv := by by_cases hm : x.r rb + ic < 64; exact .inl ⟨by rw [if_pos hm], by simp [hm]⟩; obtain ⟨t, w, e⟩ := hi10; exact .inr ⟨t, w, by rw [if_neg hm, e], by simp [hm]⟩) (hu := Tryz.underlying168))
   co_applyP o_nil
   change wpE ..
   co_applyP c_if rfl
   intro cm
   co_applyP c_seq
   co_applyP c_region
   co_applyP oy rfl E_mv
   co_applyP oy rfl E_as
   co_applyP o_nil
   change wpE ..
   co_applyP c_ret
   change ∃ v, resE .. = some v ∧ _
   have hm : ¬ x.r rb + ic < 64 := by simpa using cm
   refine ⟨_, rfl, rfl, ?_⟩
   have hdo : x.do op ia ib ic = .error 10 := by unfold PS.do; simp [h8, hra, hrb, show ¬ x.r (ib % 8).toNat + ic < 64 from by rw [← hrb]; exact hm]
   rw [hdo]
   refine ⟨?_, hR1⟩
   show (if x.r rb + ic < 64 then Value.nilIface else e10) = e10
   rw [if_neg hm]
   intro cm
   have hm : x.r rb + ic < 64 := by simpa using cm
   have hm' : x.r (ib % 8).toNat + ic < 64 := by rw [← hrb]; exact hm
   simp only [if_pos hm]
   co_applyP c_skip
   change wpE ..
   co_applyP c_draw [] 9 (nf := 0) mixed
   co_applyP tr (i := 0) rfl E_mv (pre_init (by simp))
   co_applyP tr (i := 1) rfl E_mv (pre_init (by simp))
   co_applyP tr (i := 2) rfl E_mv (pre_init (by simp))
   co_applyP tr (i := 3) rfl E_nc (pre_init (by simp))
   co_applyP t0 (i := 4) rfl (E_ld (ht := ag_32)) (pre_init (by simp))
   co_applyP tr (i := 5) rfl (E_cv (hs := Tryz.underlying32) (ht := Tryz.underlying5)) (pre_init (by simp))
   co_applyP tr (i := 6) rfl E_nc (pre_init (by simp))
   co_applyP tr (i := 7) rfl (E_fa (hf := fo_99_1)) (pre_init (by simp))
   co_applyP tr (i := 8) rfl (E_ixa Tryz.underlying94 sz_5) (pre_init (by simp))
   co_applyP anyE_nd
   intro hnd
   co_applyP te (i := 9) rfl (O_sm (hnd := hnd) (hm := hR1.p _ hb) (hi := by rw [psize]; omega) (hs := sz_5))
   rintro _ _ ⟨rfl, hU2⟩
   refine ⟨pre_late (by simp), ?_⟩
   rw [wrap_u8, pset_m x (by omega)] at hU2
   have hRr := hR1.setP (x' := { x with m := put x.m (x.r rb + ic).toNat (x.r ra % 256) }) hb hU2
   co_applyP td (by kernel_rfl)
   change _ = _ ∧ ∃ (y : PS) (nx : Nat), _
   exact ⟨rfl, { x with m := put x.m (x.r rb + ic).toNat (x.r ra % 256) }, x.at_ + 1, hRr, rfl, by unfold PS.do; simp [h8, hra, hrb, hm']⟩
 intro c8
 have n8 : ¬ op = 8 := by simpa using c8
 have h1g := gl L1 hR1 1 (by simp)
 co_applyP c_seq
 co_applyP c_region
 co_applyP oy rfl (E_ld (ht := ag_168))
 co_applyP oy rfl E_as
 co_applyP o_nil
 change wpE ..
 co_applyP c_ret
 change ∃ v, resE .. = some v ∧ _
 refine ⟨_, rfl, rfl, ?_⟩
 have hdo : x.do op ia ib ic = .error 1 := by unfold PS.do; simp [n1, n2, n3, n4, n5, n6, n7, n8]
 rw [hdo]
 exact ⟨rfl, hR1⟩
 rintro s' ε' L' ⟨rfl, y, nx, hRy, hk, hdo⟩
 co_applyP wpE_kn hk
 co_applyP c_seq
 co_applyP c_region
 co_applyP oy rfl E_mv
 co_applyP oy rfl E_mv
 co_applyP oy rfl E_nc
 co_applyP oy rfl (E_fa (hf := fo_99_0))
 co_applyP oy rfl (E_fa (hf := fo_49_4))
 co_applyP osm rfl (hs := sz_3) (hm := hRy.p _ (mem_setP_self hb)) (hi := by first | decide | (rw [psize]; omega) | (rw [ksize]; omega))
 intro L3 hU3
 have hR3 := hRy.setP (x' := { y with at_ := nx }) (mem_setP_self hb) hU3
 rw [setP_setP] at hR3
 co_applyP o_nil
 change wpE ..
 co_applyP c_seq
 co_applyP c_region
 co_applyP oy rfl E_as
 co_applyP o_nil
 change wpE ..
 co_applyP c_ret
 change ∃ v, resE .. = some v ∧ _
 refine ⟨_, rfl, rfl, ?_⟩
 rw [hdo]
 exact ⟨rfl, hR3⟩
theorem bld210 (k : Int) (e : Nat × Nat) : evR Tryz.prog (Instr.build 210 [(0, .int .i64 k), (1, .iface 255 (ptq e))].toArray) [] = some (.agg #[.int .i64 k, .iface 255 (ptq e)], []) := by kernel_rfl
abbrev erv (eb : Nat → Nat × Nat) (i : Nat) : Value := .iface 255 (ptq (eb i))
structure NewE {R : World → World → Prop} {D : World → World → Array Event → Prop} (Δ : Dom R D) : Prop where
 a : ∀ cs, Δ.New (.cells cs 180)
 b : ∀ cs, Δ.New (.cells cs 182)
 c : ∀ cs, Δ.New (.cells cs 196)
 d : ∀ cs, Δ.New (.cells cs 210)
theorem answered_f : ∃ n, ∀ {σ : Type} {F : Fam σ} {Δ : ∀ s, Dom (F.R s) (F.D s)} {main : Bool} {s : σ} (L : Frag) (eb : Nat → Nat × Nat) (b : Nat) (e : Nat × Nat), NewE (Δ s) → Ers eb L →
   CallsL Δ Tryz.prog main 93 [ptr b, .iface 255 (ptq e)].toArray n s L (fun s' v L' => s = s' ∧ v = .bool false ∧ Fun L' ∧ ∀ t ∈ L, t ∈ L') := by
 obtain ⟨n1, g1⟩ := As_f
 apply Exists.intro
 intro σ F Δ main s L eb b e hN hE
 have hi182 : ∀ ms : Array (String × TypeId), TypeDesc.pointer 180 ≠ .interface ms := fun _ => by simp
 co_applyP callsE 17 Tryz.func93 Tryz.ntmps93
 co_applyP c_seq
 co_applyP c_region
 co_applyP oy rfl E_as
 co_applyP o_nil
 change wpE ..
 co_applyP c_seq
 co_applyP c_region
 co_applyP oadd rfl (O_new (z := .pointer none) (hN.a _))
 intro t L1 hA
 co_applyP o_nil
 change wpE ..
 co_applyP c_seq (n₂ := 0)
 co_applyP c_seq
 co_applyP c_region
 co_applyP oy rfl E_mv
 co_applyP oy rfl (E_mki hi182 (ht := Tryz.underlying182))
 co_applyP oc rfl rfl rfl (g1 L1 e t hN.c hN.b (hE.mono hA.sub).t)
 rintro _ _ _ ⟨rfl, rfl, hF, hs⟩
 co_applyP oy rfl E_not
 co_applyP o_nil
 change wpE ..
 co_applyP c_true rfl
 co_applyP c_seq
 co_applyP c_region
 co_applyP oy rfl E_as
 co_applyP o_nil
 change wpE ..
 co_applyP c_ret
 change ∃ v, resE .. = some v ∧ _
 exact ⟨_, rfl, rfl, rfl, hF, fun x hx => hs _ (hA.sub _ hx)⟩
theorem answered_t : ∃ n, ∀ {σ : Type} {F : Fam σ} {Δ : ∀ s, Dom (F.R s) (F.D s)} {main : Bool} {s : σ} (K : Nat) (A : Lay) (S : St) (Fr L : Frag) (eb : Nat → Nat × Nat) (b : Nat) (x : PS) (r i : Nat), NewE (Δ s) → Rep K A S Fr L → Ers eb Fr → (b, x) ∈ S.ps → At L r 1 (erv eb i) → i < 11 → i ≠ 2 →
   CallsL Δ Tryz.prog main 93 [ptr b, .iface 180 (ptr r)].toArray n s L (fun s' v L' => s = s' ∧ v = .bool true ∧ Rep K A (S.setP b { x with r := put x.r 0 (ansOf i) }) Fr L') := by
 obtain ⟨n1, g1⟩ := As_t
 obtain ⟨n2, g2⟩ := answer_s
 apply Exists.intro
 intro σ F Δ main s K A S Fr L eb b x r i hN hR hE hb hr hi hi2
 have hi182 : ∀ ms : Array (String × TypeId), TypeDesc.pointer 180 ≠ .interface ms := fun _ => by simp
 co_applyP callsE 17 Tryz.func93 Tryz.ntmps93
 co_applyP c_seq
 co_applyP c_region
 co_applyP oy rfl E_as
 co_applyP o_nil
 change wpE ..
 co_applyP c_seq
 co_applyP c_region
 co_applyP oadd rfl (O_new (z := .pointer none) (hN.a _))
 intro t L1 hA
 co_applyP o_nil
 change wpE ..
 co_applyP c_seq
 co_applyP c_seq
 co_applyP c_region
 co_applyP oy rfl E_mv
 co_applyP oy rfl (E_mki hi182 (ht := Tryz.underlying182))
 co_applyP oc rfl rfl rfl (g1 L1 r t (.pointer none) hN.c hN.b ((hE.mono hR.fr).mono hA.sub).t hN.a hA.self)
 rintro _ _ _ ⟨rfl, rfl, L2, hF, hs, hU⟩
 co_applyP oy rfl E_not
 co_applyP o_nil
 change wpE ..
 rename_i L3
 have hs3 : ∀ x ∈ L, x ∈ L3 := fun x hx => hU.ne _ (hs _ (hA.sub _ hx)) (hA.new _ hx)
 have hR3 := hR.of hU.fn hs3
 have hE3 := hE.mono hR3.fr
 have hr3 := at_mono hr hs3
 have ht3 : At L3 t 0 (ptr r) := ⟨true, _, _, _, hU.self, rfl⟩
 co_applyP c_false rfl
 co_applyP c_skip
 change wpE ..
 co_applyP c_seq
 co_applyP c_draw [] 2 mixed
 co_applyP tr (i := 0) rfl E_mv (pre_init (by simp))
 co_applyP t0 (i := 1) rfl (E_ld (ht := ag_180)) (pre_init (by simp))
 co_applyP tr (i := 3) rfl E_nc (pre_init (by simp))
 co_applyP tr (i := 4) rfl (E_fa (hf := fo_99_0)) (pre_init (by simp))
 co_applyP tr (i := 5) rfl (E_fa (hf := fo_49_7)) (pre_init (by simp))
 co_applyP tc (i := 2) rfl rfl rfl (g2 L3 eb r i hE3 hi hi2 hr3)
 rintro _ _ _ ⟨rfl, rfl, rfl⟩
 refine ⟨pre_late (by simp), ?_⟩
 co_applyP to (i := 6) rfl ((E_ixa Tryz.underlying47 sz_32)) (pre_late (by simp))
 co_applyP anyE_nd
 intro hnd
 co_applyP te (i := 7) rfl (O_sm (hnd := hnd) (hm := hR3.p _ hb) (hi := by rw [psize]; omega) (hs := sz_32))
 rintro _ _ ⟨rfl, hU4⟩
 refine ⟨pre_late (by simp), ?_⟩
 co_applyP td (by kernel_rfl)
 change wpE ..
 co_applyP c_seq
 co_applyP c_region
 co_applyP oy rfl E_as
 co_applyP o_nil
 change wpE ..
 co_applyP c_ret
 change ∃ v, resE .. = some v ∧ _
 refine ⟨_, rfl, rfl, rfl, ?_⟩
 have h7 : (pcells x).setIfInBounds (7 + 0) (.int .u16 (ansOf i)) = pcells { x with r := put x.r 0 (ansOf i) } := pset_r x (by omega) _
 exact hR3.setP hb (x' := { x with r := put x.r 0 (ansOf i) }) (h7 ▸ hU4)
theorem refuse_0 : ∃ n, ∀ {σ : Type} {F : Fam σ} {Δ : ∀ s, Dom (F.R s) (F.D s)} {main : Bool} {s : σ} (L : Frag) (k : Int),
   CallsL Δ Tryz.prog main 111 [.int .i64 k, .nilIface].toArray n s L (fun s' v L' => s = s' ∧ L = L' ∧ v = .nilIface) := by
 apply Exists.intro
 intro σ F Δ main s L k
 co_applyP callsE 12 Tryz.func111 Tryz.ntmps111
 co_applyP c_seq
 co_applyP c_region
 co_applyP oy rfl E_as
 co_applyP o_nil
 change wpE ..
 co_applyP c_seq (n₂ := 0)
 co_applyP c_seq
 co_applyP c_region
 co_applyP oy rfl E_mv
 co_applyP oy rfl (E_ifn (v := .nilIface) (c := true) (hv := .inl ⟨rfl, rfl⟩) (hu := Tryz.underlying168))
 co_applyP o_nil
 change wpE ..
 co_applyP c_true rfl
 co_applyP c_seq
 co_applyP c_region
 co_applyP oy rfl E_as
 co_applyP o_nil
 change wpE ..
 co_applyP c_ret
 change ∃ v, resE .. = some v ∧ _
 exact ⟨_, rfl, rfl, rfl, rfl⟩
theorem refuse_1 : ∃ n, ∀ {σ : Type} {F : Fam σ} {Δ : ∀ s, Dom (F.R s) (F.D s)} {main : Bool} {s : σ} (L : Frag) (k : Int) (e : Nat × Nat), (∀ cs, (Δ s).New (.cells cs 210)) →
   CallsL Δ Tryz.prog main 111 [.int .i64 k, .iface 255 (ptq e)].toArray n s L (fun s' v L' => s = s' ∧ ∃ r, v = .iface 180 (ptr r) ∧ Add L r (.cells #[.int .i64 k, .iface 255 (ptq e)] 210) L') := by
 apply Exists.intro
 intro σ F Δ main s L k e hN
 have hi180 : ∀ ms : Array (String × TypeId), TypeDesc.pointer 210 ≠ .interface ms := fun _ => by simp
 co_applyP callsE 12 Tryz.func111 Tryz.ntmps111
 co_applyP c_seq
 co_applyP c_region
 co_applyP oy rfl E_as
 co_applyP o_nil
 change wpE ..
 co_applyP c_seq
 co_applyP c_seq
 co_applyP c_region
 co_applyP oy rfl E_mv
 co_applyP oy rfl (E_ifn (v := .iface 255 (ptq e)) (c := false) (hv := .inr ⟨_, _, rfl, rfl⟩) (hu := Tryz.underlying168))
 co_applyP o_nil
 change wpE ..
 co_applyP c_false rfl
 co_applyP c_skip
 change wpE ..
 co_applyP c_seq
 co_applyP c_region
 co_applyP oy rfl E_mv
 co_applyP oy rfl E_mv
 co_applyP oy rfl (E_build (bld210 k e))
 co_applyP oadd rfl (O_box (hN _))
 intro r L1 hA
 co_applyP oy rfl (E_mki hi180 (ht := Tryz.underlying180))
 co_applyP oy rfl E_as
 co_applyP o_nil
 change wpE ..
 co_applyP c_ret
 change ∃ v, resE .. = some v ∧ _
 exact ⟨_, rfl, rfl, r, rfl, hA⟩
end Go.Proofs.YtejkelcaljmnoaaGreatDoor
