/-
  Part 36 of the proof.
  No condition but those that each statement names.
-/
import Derived.Test.YtejkelcaljmnoaaGreatDoorHy35
set_option maxRecDepth 100000
set_option linter.unusedVariables false
set_option linter.unusedSimpArgs false
set_option linter.unusedSectionVars false
namespace Go.Proofs.YtejkelcaljmnoaaGreatDoor
open Go.Conc Go.Hx Go.Lo
structure NewT {R : World → World → Prop} {D : World → World → Array Event → Prop} (Δ : Dom R D) : Prop extends NewK Δ where
 n : ∀ cs, Δ.New (.cells cs 3)
abbrev nums (l : List Nat) : List Value := l.map fun (i : Nat) => Value.int .i64 (i : Nat)
def PS.frees (x : PS) (n : Nat) : List Nat := (List.range n).filter fun i => decide (x.f i = (0, 0))
theorem frees_t {x : PS} {i : Nat} (h : x.f i = (0, 0)) : x.frees (i + 1) = x.frees i ++ [i] := by
 unfold PS.frees; rw [List.range_succ, List.filter_append]; simp [h]
theorem frees_f {x : PS} {i : Nat} (h : ¬ x.f i = (0, 0)) : x.frees (i + 1) = x.frees i := by
 unfold PS.frees; rw [List.range_succ, List.filter_append]; simp [h]
theorem frees_len (x : PS) (n : Nat) : (x.frees n).length ≤ n := by
 unfold PS.frees
 have := List.length_filter_le (fun i => decide (x.f i = (0, 0))) (List.range n)
 simpa using this
theorem free_s : ∃ n, ∀ {σ : Type} {F : Fam σ} {Δ : ∀ s, Dom (F.R s) (F.D s)} {main : Bool} {s : σ} (L : Frag) (b : Nat) (x : PS), (∀ s, NewT (Δ s)) → Fun L → pb b x ∈ L →
   CallsL Δ Tryz.prog main 151 [ptr b].toArray n s L (fun s' v L' => s = s' ∧ ∃ a, v = slv a (nums (x.frees 6)).length ∧ slOk a (nums (x.frees 6)) 3 L' ∧ (∀ t ∈ L, a.b ≠ some t.1) ∧ Ext L L') := by
 obtain ⟨n1, g1⟩ := isNone_s
 apply Exists.intro
 intro σ F Δ main s L b x hN hF hb
 co_applyP callsE 22 Tryz.func151 Tryz.ntmps151
 co_applyP c_seq
 co_applyP c_region
 co_applyP oy rfl E_as
 co_applyP o_nil
 change wpE ..
 co_applyP c_seq
 co_applyP c_region
 co_applyP oy rfl E_as
 co_applyP o_nil
 change wpE ..
 co_applyP c_seq
 co_applyP c_seq
 co_applyP c_region
 co_applyP oy rfl E_mv
 co_applyP oy rfl E_nc
 co_applyP oy rfl (E_fa (hf := fo_99_2))
 co_applyP oy rfl (E_lda (ht := ag_97) (hs := sz_97) (hm := hb) (hi := by rw [psize]; omega))
 co_applyP oy rfl E_mv
 co_applyP o_nil
 change wpE ..
 co_applyP c_block
 rw [show (0 + 79 : Nat) = 79 from rfl, show (79 + 12 : Nat) = 91 from rfl, pext_files]
 co_applyP c_loop (fun c s' ε' L' => s' = s ∧ Ext L L' ∧ ∃ i a, i ≤ 6 ∧ c + i = 6 ∧ slOk a (nums (x.frees i)) 3 L' ∧ (∀ t ∈ L, a.b ≠ some t.1) ∧ kn ε' [(0, ptr b), (9, filesv x.f), (10, .int .i64 (i : Nat)), (3, slv a (nums (x.frees i)).length)]) 6
 · exact ⟨rfl, ⟨hF, fun _ h => h⟩, 0, ⟨none, []⟩, by omega, rfl, ⟨rfl, rfl⟩, fun t ht => by simp, rfl⟩
 rintro c s' ε' L' ⟨rfl, hE, i, a, hi, hc, ha, han, he⟩
 co_applyP wpE_kn he
 have ei : IntKind.i64.wrap ((i : Int) + 1) = ((i + 1 : Nat) : Int) := by simp [IntKind.wrap_i64]; omega
 have hfl := frees_len x i
 co_applyP c_seq
 co_applyP c_region
 co_applyP oy rfl E_lss
 co_applyP o_nil
 change wpE ..
 co_applyP c_seq
 co_applyP c_if rfl
 intro hlt
 · have hi6 : i < 6 := by simp at hlt; omega
   co_applyP c_skip
   change wpE ..
   co_applyP c_mid (fun s'' ε'' L'' => s' = s'' ∧ Ext L L'' ∧ ∃ a', slOk a' (nums (x.frees (i + 1))) 3 L'' ∧ (∀ t ∈ L, a'.b ≠ some t.1) ∧ kn ε'' [(0, ptr b), (9, filesv x.f), (10, .int .i64 (i : Nat)), (3, slv a' (nums (x.frees (i + 1))).length)])
   co_applyP c_block
   co_applyP c_seq
   co_applyP c_region
   co_applyP oy rfl E_mv
   co_applyP oy rfl (E_idx (idx97 x.f hi6))
   co_applyP oadd rfl (O_new (z := keyv (0, 0)) ((hN _).k _))
   intro nb L1 hA1
   co_applyP oy rfl E_as
   co_applyP oeN rfl (fun hnd => O_sa (hs := sz_96) (vs := [.int .i64 (x.f i).1, .int .i64 (x.f i).2]) (hnd := hnd) (hm := hA1.self) (hi := Nat.le_refl _))
   rintro _ L2 ⟨rfl, hU2⟩
   co_applyP o_nil
   change wpE ..
   co_applyP c_seq
   co_applyP c_region
   have hE2 : Ext L' L2 := ⟨hU2.fn, fun t ht => hU2.ne _ (hA1.sub _ ht) (hA1.new _ ht)⟩
   co_applyP oy rfl (E_lda (ht := ag_96) (hs := sz_96) (hm := hU2.self) (hi := Nat.le_refl _))
   co_applyP oc rfl rfl rfl (g1 L2 (x.f i) (hN _).k)
   rintro _ _ _ ⟨rfl, rfl, hE3⟩
   co_applyP o_nil
   change wpE ..
   rename_i L3
   have hE3' := hE2.trans hE3
   have ha3 := ha.mono fun c hc o ho => hE3'.s _ ho
   co_applyP c_if rfl
   intro hz
   co_applyP c_region
   co_applyP oy rfl E_mv
   co_applyP oy rfl E_mv
   · have hz' : x.f i = (0, 0) := by simpa using hz
     co_applyP oadd rfl (O_bs1 ((hN _).n _) (hu := Tryz.underlying54) (hs := sz_3) (hz := zr_3))
     intro nb4 L4 hA4
     have hr : Reads Tryz.prog L4 1 [Value.int .i64 (i : Nat)].length (.slice (some ⟨nb4, 0, none⟩) [Value.int .i64 (i : Nat)].length 1) [Value.int .i64 (i : Nat)].toArray := by
       have := reads_m (P := Tryz.prog) (sz := 1) (n := 1) (len := 1) (cap := 1) (o := 0) hA4.self (by simp)
       simpa using this
     co_applyP oeN rfl (fun hnd => O_apI (a := a) (xs := nums (x.frees i)) (ys := [Value.int .i64 (i : Nat)]) (hnd := hnd) (hN := (hN _).n) (ha := ha3.mono fun c hc o ho => hA4.sub _ ho) (hr := hr) (hpl := rfl) (h8 := by simp; omega) (h8' := by simp))
     rintro _ L5 ⟨a', rfl, hp⟩
     co_applyP oy rfl E_as
     co_applyP o_nil
     change _ = _ ∧ _ ∧ ∃ a', _ ∧ _ ∧ kn _ _
     have ef : nums (x.frees (i + 1)) = nums (x.frees i) ++ [Value.int .i64 (i : Nat)] := by rw [frees_t hz']; simp
     refine ⟨rfl, ⟨hp.fn, fun t ht => hp.sub _ (hA4.sub _ (hE3'.s _ (hE.s _ ht))) (han t ht)⟩, a', by rw [ef]; exact hp.ok, fun t ht e => ?_, by rw [ef]; rfl⟩
     rcases hp.d _ e with h | h
     · exact han t ht h
     · exact h _ (hA4.sub _ (hE3'.s _ (hE.s _ ht))) rfl
   intro hz
   co_applyP c_skip
   change _ = _ ∧ _ ∧ ∃ a', _ ∧ _ ∧ kn _ _
   have hz' : ¬ x.f i = (0, 0) := by simpa using hz
   exact ⟨rfl, hE.trans hE3', a, by rw [frees_f hz']; exact ha3, han, by rw [frees_f hz']; rfl⟩
   rintro s'' ε'' L'' ⟨rfl, hE4, a', ha', han', he4⟩
   co_applyP wpE_kn he4
   co_applyP c_region
   co_applyP oy rfl E_add
   co_applyP oy rfl E_mv
   co_applyP o_nil
   change ∃ k', k' < _ ∧ _
   exact ⟨c - 1, by omega, rfl, hE4, i + 1, a', by omega, by omega, ha', han', by rw [← ei]; rfl⟩
 intro hlt
 co_applyP c_exit
 change wpE ..
 co_applyP c_seq
 co_applyP c_region
 co_applyP oy rfl E_mv
 co_applyP oy rfl E_as
 co_applyP o_nil
 change wpE ..
 co_applyP c_ret
 change ∃ v, resE .. = some v ∧ _
 have hi6' : i = 6 := by simp at hlt; omega
 subst hi6'
 exact ⟨_, rfl, rfl, a, rfl, ha, han, hE⟩
def PS.piped (x : PS) (u i j : Nat) : PS := { x with f := put (put x.f i (u, 4)) j (u, 5), r := put (put x.r 0 i) 1 j }
def St.pipeR (S : St) (b : Nat) (x : PS) : Option Nat × St := if S.unused = 0 then (some 4, S) else match x.frees 6 with
 | i :: j :: _ => (none, (S.setY S.unused []).setP b (x.piped S.unused i j))
 | _ => (some 4, S)
theorem pipe_0 : ∃ n, ∀ {σ : Type} {F : Fam σ} {Δ : ∀ s, Dom (F.R s) (F.D s)} {main : Bool} {s : σ} (K : Nat) (A : Lay) (S : St) (Fr L : Frag) (eb : Nat → Nat × Nat) (b : Nat) (x : PS), (∀ s, NewT (Δ s)) → Rep K A S Fr L → Ers eb Fr → (b, x) ∈ S.ps → S.unused = 0 →
   CallsL Δ Tryz.prog main 136 [ptr K, ptr b].toArray n s L (fun s' v L' => s = s' ∧ v = erv eb 4 ∧ Rep K A S Fr L') := by
 obtain ⟨n0, g0⟩ := unused_s
 obtain ⟨n1, g1⟩ := free_s
 apply Exists.intro
 intro σ F Δ main s K A S Fr L eb b x hN hR hE hb hu
 co_applyP callsE 60 Tryz.func136 Tryz.ntmps136
 co_applyP c_seq
 co_applyP c_region
 co_applyP oy rfl E_as
 co_applyP o_nil
 change wpE ..
 co_applyP c_seq
 co_applyP c_region
 co_applyP oy rfl E_mv
 co_applyP oc rfl rfl rfl (g0 K A S Fr L (fun s => (hN s).k) hR)
 rintro _ _ _ ⟨rfl, rfl, hE1⟩
 co_applyP oy rfl E_mv
 rename_i L1
 have hR1 := hR.ext hE1
 co_applyP oc rfl rfl rfl (g1 L1 b x hN hE1.f (hR1.p _ hb))
 rintro _ _ _ ⟨rfl, a, rfl, ha, han, hE2⟩
 co_applyP oy rfl E_as
 co_applyP oy rfl E_as
 co_applyP o_nil
 change wpE ..
 co_applyP c_seq (n₂ := 0)
 co_applyP c_seq
 rename_i L2
 have hR2 := hR1.ext hE2
 have hg := (hE.mono hR2.fr).g 4 (by decide) (by decide)
 rw [hu]
 co_applyP c_region
 co_applyP oy rfl E_mv
 co_applyP oy rfl E_eql
 co_applyP oy rfl E_mv
 co_applyP ou rfl
 co_applyP ou rfl
 co_applyP ou rfl
 co_applyP oy rfl E_pick
 co_applyP o_nil
 change wpE ..
 co_applyP c_true rfl
 co_applyP c_seq
 co_applyP c_region
 co_applyP oy rfl (E_ld (ht := ag_168))
 co_applyP oy rfl E_as
 co_applyP o_nil
 change wpE ..
 co_applyP c_ret
 change ∃ v, resE .. = some v ∧ _
 exact ⟨_, rfl, rfl, rfl, hR2⟩
theorem pipe_1 : ∃ n, ∀ {σ : Type} {F : Fam σ} {Δ : ∀ s, Dom (F.R s) (F.D s)} {main : Bool} {s : σ} (K : Nat) (A : Lay) (S : St) (Fr L : Frag) (eb : Nat → Nat × Nat) (b : Nat) (x : PS), (∀ s, NewT (Δ s)) → Rep K A S Fr L → Ers eb Fr → (b, x) ∈ S.ps → S.unused ≠ 0 → (x.frees 6).length < 2 →
   CallsL Δ Tryz.prog main 136 [ptr K, ptr b].toArray n s L (fun s' v L' => s = s' ∧ v = erv eb 4 ∧ Rep K A S Fr L') := by
 obtain ⟨n0, g0⟩ := unused_s
 obtain ⟨n1, g1⟩ := free_s
 apply Exists.intro
 intro σ F Δ main s K A S Fr L eb b x hN hR hE hb hu hlt
 have eu : ((S.unused : Int) == 0) = false := by simp; omega
 co_applyP callsE 60 Tryz.func136 Tryz.ntmps136
 co_applyP c_seq
 co_applyP c_region
 co_applyP oy rfl E_as
 co_applyP o_nil
 change wpE ..
 co_applyP c_seq
 co_applyP c_region
 co_applyP oy rfl E_mv
 co_applyP oc rfl rfl rfl (g0 K A S Fr L (fun s => (hN s).k) hR)
 rintro _ _ _ ⟨rfl, rfl, hE1⟩
 co_applyP oy rfl E_mv
 rename_i L1
 have hR1 := hR.ext hE1
 co_applyP oc rfl rfl rfl (g1 L1 b x hN hE1.f (hR1.p _ hb))
 rintro _ _ _ ⟨rfl, a, rfl, ha, han, hE2⟩
 co_applyP oy rfl E_as
 co_applyP oy rfl E_as
 co_applyP o_nil
 change wpE ..
 co_applyP c_seq (n₂ := 0)
 co_applyP c_seq
 rename_i L2
 have hR2 := hR1.ext hE2
 have hg := (hE.mono hR2.fr).g 4 (by decide) (by decide)
 obtain ⟨base, cap, hv, hat⟩ := slv_view ha
 rw [hv]
 co_applyP c_region
 co_applyP oy rfl E_mv
 co_applyP oy rfl E_eql
 co_applyP oy rfl E_mv
 rw [eu]
 co_applyP oy rfl (E_mv)
 co_applyP oy rfl ((E_len (hu := Tryz.underlying54)))
 co_applyP oy rfl (E_lss)
 co_applyP oy rfl E_pick
 co_applyP o_nil
 change wpE ..
 have el : decide (((nums (x.frees 6)).length : Int) < 2) = true := by simp; omega
 rw [el]
 co_applyP c_true rfl
 co_applyP c_seq
 co_applyP c_region
 co_applyP oy rfl (E_ld (ht := ag_168))
 co_applyP oy rfl E_as
 co_applyP o_nil
 change wpE ..
 co_applyP c_ret
 change ∃ v, resE .. = some v ∧ _
 exact ⟨_, rfl, rfl, rfl, hR2⟩
theorem pipe_2 : ∃ n, ∀ {σ : Type} {F : Fam σ} {Δ : ∀ s, Dom (F.R s) (F.D s)} {main : Bool} {s : σ} (K : Nat) (A : Lay) (S : St) (Fr L : Frag) (eb : Nat → Nat × Nat) (b : Nat) (x : PS) (i j : Nat) (l : List Nat), (∀ s, NewT (Δ s)) → Rep K A S Fr L → (b, x) ∈ S.ps → S.unused ≠ 0 → x.frees 6 = i :: j :: l → i < 6 → j < 6 →
   CallsL Δ Tryz.prog main 136 [ptr K, ptr b].toArray n s L (fun s' v L' => s = s' ∧ v = .nilIface ∧ ∃ A', Rep K A' ((S.setY S.unused []).setP b (x.piped S.unused i j)) Fr L') := by
 obtain ⟨n0, g0⟩ := unused_s
 obtain ⟨n1, g1⟩ := free_s
 apply Exists.intro
 intro σ F Δ main s K A S Fr L eb b x i j l hN hR hb hu hij hi6 hj6
 have eu : ((S.unused : Int) == 0) = false := by simp; omega
 have hu5 := unused_lt S
 co_applyP callsE 60 Tryz.func136 Tryz.ntmps136
 co_applyP c_seq
 co_applyP c_region
 co_applyP oy rfl E_as
 co_applyP o_nil
 change wpE ..
 co_applyP c_seq
 co_applyP c_region
 co_applyP oy rfl E_mv
 co_applyP oc rfl rfl rfl (g0 K A S Fr L (fun s => (hN s).k) hR)
 rintro _ _ _ ⟨rfl, rfl, hE1⟩
 co_applyP oy rfl E_mv
 rename_i L1
 have hR1 := hR.ext hE1
 co_applyP oc rfl rfl rfl (g1 L1 b x hN hE1.f (hR1.p _ hb))
 rintro _ _ _ ⟨rfl, a, rfl, ha, han, hE2⟩
 co_applyP oy rfl E_as
 co_applyP oy rfl E_as
 co_applyP o_nil
 change wpE ..
 co_applyP c_seq
 co_applyP c_seq
 rename_i L2
 have hR2 := hR1.ext hE2
 obtain ⟨base, cap, hv, hat⟩ := slv_view ha
 obtain ⟨q, haq, hbase, hq0⟩ := hat 0 (.int .i64 (i : Nat)) (by rw [hij]; rfl)
 obtain ⟨q', haq', _, hq1⟩ := hat 1 (.int .i64 (j : Nat)) (by rw [hij]; rfl)
 obtain rfl : q = q' := by rw [haq] at haq'; exact Option.some.inj haq'
 have hlen : (nums (x.frees 6)).length = l.length + 2 := by rw [hij]; simp
 rw [hv, hbase]
 co_applyP c_region
 co_applyP oy rfl E_mv
 co_applyP oy rfl E_eql
 co_applyP oy rfl E_mv
 rw [eu]
 co_applyP oy rfl (E_mv)
 co_applyP oy rfl ((E_len (hu := Tryz.underlying54)))
 co_applyP oy rfl (E_lss)
 co_applyP oy rfl E_pick
 co_applyP o_nil
 change wpE ..
 have el : decide (((nums (x.frees 6)).length : Int) < 2) = false := by rw [hlen]; simp; omega
 rw [el]
 co_applyP c_false rfl
 co_applyP c_skip
 change wpE ..
 co_applyP c_seq
 co_applyP c_region
 co_applyP oy rfl E_mv
 co_applyP oy rfl E_mv
 co_applyP oy rfl E_nc
 co_applyP oy rfl (E_fa (hf := fo_115_5))
 co_applyP oy rfl (E_ixa Tryz.underlying113 sz_44)
 co_applyP osm rfl (hs := sz_44) (hm := hR2.k) (hi := by first | decide | (rw [psize]; omega) | (rw [ksize]; omega))
 intro L3 hU3
 have hqm : ∃ cs, (q, true, Obj.cells cs 3) ∈ L2 ∧ cs[0]? = some (.int .i64 (i : Nat)) ∧ cs[1]? = some (.int .i64 (j : Nat)) := by
   refine ⟨_, ha.mem haq, ?_, ?_⟩
   · rw [hij]; rfl
   · rw [hij]; rfl
 obtain ⟨cq, hq2, hcq0, hcq1⟩ := hqm
 have hqK : q ≠ K := hR2.fn.ne hq2 hR2.k (cells_ne (by decide))
 have hqb : q ≠ b := hR2.fn.ne hq2 (hR2.p _ hb) (cells_ne (by decide))
 have hR3 : Rep K (A.setY S.unused ⟨none, []⟩) (S.setY S.unused []) Fr L3 := by
   refine hR2.setBytes hu5 hU3.fn ?_ (fun t ht h1 h2 => hU3.ne _ ht h1) ⟨rfl, rfl⟩ (fun c hc => by cases hc)
   show (K, true, Obj.cells (kcells _) 115) ∈ L3
   have := hU3.self
   rw [kset_by _ hu5] at this
   rw [kst_by]
   exact this
 have hb3 : (b, x) ∈ (S.setY S.unused []).ps := hb
 have hq3 := hU3.ne _ hq2 hqK
 have a30 : At L3 q 0 (.int .i64 (i : Nat)) := ⟨true, _, _, _, hq3, hcq0⟩
 have hl0 : (0 : Int) < ((nums (x.frees 6)).length : Nat) := by rw [hlen]; omega
 have hl1 : (1 : Int) < ((nums (x.frees 6)).length : Nat) := by rw [hlen]; omega
 co_applyP o_nil
 change wpE ..
 co_applyP c_seq
 co_applyP c_draw [] 9 (nf := 0) mixed
 co_applyP tr (i := 0) rfl E_mv (pre_init (by simp))
 co_applyP tr (i := 1) rfl E_mv (pre_init (by simp))
 co_applyP tr (i := 2) rfl (E_ixs Tryz.underlying54 sz_3) (pre_init (by simp))
 co_applyP t0 (i := 3) rfl (E_ld (ht := ag_3)) (pre_init (by simp))
 co_applyP tr (i := 4) rfl E_mv (pre_init (by simp))
 co_applyP tr (i := 6) rfl E_nc (pre_init (by simp))
 co_applyP tr (i := 7) rfl (E_fa (hf := fo_99_2)) (pre_init (by simp))
 co_applyP tr (i := 5) rfl (E_build (bld96b _ _)) (pre_init (by simp))
 co_applyP tr (i := 8) rfl ((E_ixa Tryz.underlying97 sz_96)) (pre_init (by simp))
 have eo : ∀ j : Nat, 79 + j * 2 = 79 + 2 * j := fun j => by omega
 co_applyP anyE_nd
 intro hnd3
 co_applyP te (i := 9) rfl (O_sa (hs := sz_96) (vs := [.int .i64 ((S.unused, 4) : Nat × Nat).1, .int .i64 ((S.unused, 4) : Nat × Nat).2]) (hnd := hnd3) (hm := hR3.p _ hb3) (hi := by rw [psize]; simp; omega))
 rintro _ _ ⟨rfl, hU4⟩
 refine ⟨pre_late (by simp), ?_⟩
 rename_i L4
 rw [eo, pset_f x hi6 (S.unused, 4)] at hU4
 have hR4 := hR3.setP hb3 (x' := { x with f := put x.f i (S.unused, 4) }) hU4
 have hb4 : (b, { x with f := put x.f i (S.unused, 4) }) ∈ ((S.setY S.unused []).setP b { x with f := put x.f i (S.unused, 4) }).ps := mem_setP_self hb3
 have hq4 := hU4.ne _ hq3 hqb
 have a41 : At L4 q 1 (.int .i64 (j : Nat)) := ⟨true, _, _, _, hq4, hcq1⟩
 co_applyP td (by kernel_rfl)
 change wpE ..
 co_applyP c_seq
 co_applyP c_draw [] 9 (nf := 0) mixed
 co_applyP tr (i := 0) rfl E_mv (pre_init (by simp))
 co_applyP tr (i := 1) rfl E_mv (pre_init (by simp))
 co_applyP tr (i := 2) rfl (E_ixs Tryz.underlying54 sz_3) (pre_init (by simp))
 co_applyP t0 (i := 3) rfl (E_ld (ht := ag_3)) (pre_init (by simp))
 co_applyP tr (i := 4) rfl E_mv (pre_init (by simp))
 co_applyP tr (i := 6) rfl E_nc (pre_init (by simp))
 co_applyP tr (i := 7) rfl (E_fa (hf := fo_99_2)) (pre_init (by simp))
 co_applyP tr (i := 5) rfl (E_build (bld96b _ _)) (pre_init (by simp))
 co_applyP tr (i := 8) rfl ((E_ixa Tryz.underlying97 sz_96)) (pre_init (by simp))
 co_applyP anyE_nd
 intro hnd4
 co_applyP te (i := 9) rfl (O_sa (hs := sz_96) (vs := [.int .i64 ((S.unused, 5) : Nat × Nat).1, .int .i64 ((S.unused, 5) : Nat × Nat).2]) (hnd := hnd4) (hm := hR4.p _ hb4) (hi := by rw [psize]; simp; omega))
 rintro _ _ ⟨rfl, hU5⟩
 refine ⟨pre_late (by simp), ?_⟩
 rename_i L5
 rw [eo, pset_f _ hj6 (S.unused, 5)] at hU5
 have hR5 := hR4.setP hb4 (x' := { x with f := put (put x.f i (S.unused, 4)) j (S.unused, 5) }) hU5
 rw [setP_setP] at hR5
 have hb5 : (b, { x with f := put (put x.f i (S.unused, 4)) j (S.unused, 5) }) ∈ ((S.setY S.unused []).setP b { x with f := put (put x.f i (S.unused, 4)) j (S.unused, 5) }).ps := mem_setP_self hb3
 have hq5 := hU5.ne _ hq4 hqb
 have a50 : At L5 q 0 (.int .i64 (i : Nat)) := ⟨true, _, _, _, hq5, hcq0⟩
 have a51 : At L5 q 1 (.int .i64 (j : Nat)) := ⟨true, _, _, _, hq5, hcq1⟩
 have wi : IntKind.u16.wrap ((i : Nat) : Int) = ((i : Nat) : Int) := by rw [wrap_u16]; omega
 have wj : IntKind.u16.wrap ((j : Nat) : Int) = ((j : Nat) : Int) := by rw [wrap_u16]; omega
 co_applyP td (by kernel_rfl)
 change wpE ..
 co_applyP c_seq
 co_applyP c_draw [] 14 (nf := 0) mixed
 co_applyP tr (i := 0) rfl E_mv (pre_init (by simp))
 co_applyP tr (i := 1) rfl E_mv (pre_init (by simp))
 co_applyP tr (i := 2) rfl E_mv (pre_init (by simp))
 co_applyP tr (i := 3) rfl (E_ixs Tryz.underlying54 sz_3) (pre_init (by simp))
 co_applyP t0 (i := 4) rfl (E_ld (ht := ag_3)) (pre_init (by simp))
 co_applyP tr (i := 5) rfl (E_cv (hs := Tryz.underlying3) (ht := Tryz.underlying32)) (pre_init (by simp))
 co_applyP tr (i := 6) rfl E_mv (pre_init (by simp))
 co_applyP tr (i := 7) rfl (E_ixs Tryz.underlying54 sz_3) (pre_init (by simp))
 co_applyP t0 (i := 8) rfl (E_ld (ht := ag_3)) (pre_init (by simp))
 co_applyP tr (i := 9) rfl (E_cv (hs := Tryz.underlying3) (ht := Tryz.underlying32)) (pre_init (by simp))
 co_applyP tr (i := 10) rfl E_nc (pre_init (by simp))
 co_applyP tr (i := 11) rfl (E_fa (hf := fo_99_0)) (pre_init (by simp))
 co_applyP tr (i := 12) rfl (E_fa (hf := fo_49_7)) (pre_init (by simp))
 co_applyP tr (i := 13) rfl (E_ixa Tryz.underlying47 sz_32) (pre_init (by simp))
 co_applyP tr (i := 15) rfl E_nc (pre_init (by simp))
 co_applyP tr (i := 16) rfl (E_fa (hf := fo_99_0)) (pre_init (by simp))
 co_applyP tr (i := 17) rfl (E_fa (hf := fo_49_7)) (pre_init (by simp))
 rw [wi, wj]
 co_applyP anyE_nd
 intro hnd5
 co_applyP te (i := 14) rfl (O_sm (hnd := hnd5) (hm := hR5.p _ hb5) (hi := by rw [psize]; omega) (hs := sz_32))
 rintro _ _ ⟨rfl, hU6⟩
 refine ⟨pre_late (by simp), ?_⟩
 rename_i L6
 have p7 : ∀ (y : PS) (v : Int), (pcells y).setIfInBounds 7 (.int .u16 v) = pcells { y with r := put y.r 0 v } := fun y v => pset_r y (i := 0) (by omega) v
 have p8 : ∀ (y : PS) (v : Int), (pcells y).setIfInBounds 8 (.int .u16 v) = pcells { y with r := put y.r 1 v } := fun y v => pset_r y (i := 1) (by omega) v
 have hU6' : Upd L5 b (.cells (pcells { x with f := put (put x.f i (S.unused, 4)) j (S.unused, 5), r := put x.r 0 i }) 99) L6 := by
   have := hU6
   simp only [p7] at this
   exact this
 have hR6 := hR5.setP hb5 hU6'
 rw [setP_setP] at hR6
 co_applyP to (i := 18) rfl ((E_ixa Tryz.underlying47 sz_32)) (pre_late (by simp))
 co_applyP anyE_nd
 intro hnd6
 co_applyP te (i := 19) rfl (O_sm (hnd := hnd6) (hm := hR6.p _ (mem_setP_self hb3)) (hi := by rw [psize]; omega) (hs := sz_32))
 rintro _ _ ⟨rfl, hU7⟩
 refine ⟨pre_late (by simp), ?_⟩
 rename_i L7
 have hU7' : Upd L6 b (.cells (pcells (x.piped S.unused i j)) 99) L7 := by
   have := hU7
   simp only [p8] at this
   exact this
 have hR7 := hR6.setP (mem_setP_self hb3) hU7'
 rw [setP_setP] at hR7
 co_applyP td (by kernel_rfl)
 change wpE ..
 co_applyP c_seq
 co_applyP c_region
 co_applyP oy rfl E_as
 co_applyP o_nil
 change wpE ..
 co_applyP c_ret
 change ∃ v, resE .. = some v ∧ _
 exact ⟨_, rfl, rfl, rfl, _, hR7⟩
def St.taken (S : St) (c : Nat) (y : PS) : St := { S.setPs (S.ps ++ [(c, { y with id := S.last + 1 })]) with last := S.last + 1 }
def St.adopt (S : St) (c : Nat) (y : PS) : St := (S.taken c y).wake1 c { y with id := S.last + 1 }
theorem kset_last (k : KS) (v : Nat) : (kcells k).setIfInBounds 6 (.int .i64 (v : Nat)) = kcells { k with last := v } := rfl
theorem kst_taken (A : Lay) (S : St) (a' : Sl) (ps' : List (Nat × PS)) (ls : Nat) : kcells (kst (A.setA 0 a') { S.setPs ps' with last := ls }) = kcells { kst A S with procs := slv a' ps'.length, last := ls } := by
 unfold kcells kst Lay.setA put St.setPs
 simp
theorem add_s : ∃ n, ∀ {σ : Type} {F : Fam σ} {Δ : ∀ s, Dom (F.R s) (F.D s)} {main : Bool} {s : σ} (K : Nat) (A : Lay) (S : St) (Fr L : Frag) (c : Nat) (y : PS), (∀ cs, (Δ s).New (.cells cs 93)) → Rep K A S (pb c y :: Fr) L → (∀ t ∈ Fr, t.1 ≠ c) → S.ps.length < 8 → S.last < 4611686018427387904 → y.lv < 3 → (S.rows y.lv).length ≤ 8 →
   CallsL Δ Tryz.prog main 48 [ptr K, ptr c].toArray n s L (fun s' v L' => s = s' ∧ v = .tuple #[] ∧ ∃ A', Rep K A' (S.adopt c y) Fr L') := by
 obtain ⟨n1, g1⟩ := wake_s
 apply Exists.intro
 intro σ F Δ main s K A S Fr L c y hN hR hF h8 hl hlv hr8
 have w1 : IntKind.i64.wrap ((S.last : Int) + 1) = ((S.last + 1 : Nat) : Int) := by simp [IntKind.wrap_i64]; omega
 have hlast : At L K 6 (.int .i64 (S.last : Nat)) := hR.kat rfl
 have hcp : ∀ q ∈ S.ps, c ≠ q.1 := (hR.fd _ List.mem_cons_self).2.1
 co_applyP callsE 32 Tryz.func48 Tryz.ntmps48
 co_applyP c_seq
 co_applyP c_region
 co_applyP oy rfl E_mv
 co_applyP oy rfl E_nc
 co_applyP oy rfl (E_fa (hf := fo_115_3))
 co_applyP oy rfl (E_ld (ht := ag_3))
 co_applyP oy rfl E_add
 co_applyP oy rfl E_nc
 co_applyP oy rfl (E_fa (hf := fo_115_3))
 rw [w1]
 co_applyP osm rfl (hs := sz_3) (hm := hR.k) (hi := by first | decide | (rw [psize]; omega) | (rw [ksize]; omega))
 intro L1 hU1
 rw [kset_last] at hU1
 have hR1 : Rep K A { S with last := S.last + 1 } (pb c y :: Fr) L1 := hR.setK rfl rfl rfl rfl rfl rfl hU1
 have hlast1 : At L1 K 6 (.int .i64 ((S.last + 1 : Nat) : Nat)) := hR1.kat rfl
 co_applyP o_nil
 change wpE ..
 co_applyP c_seq
 co_applyP c_region
 co_applyP oy rfl E_mv
 co_applyP oy rfl E_mv
 co_applyP oy rfl E_nc
 co_applyP oy rfl (E_fa (hf := fo_115_3))
 co_applyP oy rfl (E_ld (ht := ag_3))
 co_applyP oy rfl E_nc
 co_applyP oy rfl (E_fa (hf := fo_99_0))
 co_applyP oy rfl (E_fa (hf := fo_49_0))
 co_applyP osm rfl (hs := sz_3) (hm := hR1.fr _ List.mem_cons_self) (hi := by first | decide | (rw [psize]; omega) | (rw [ksize]; omega))
 intro L2 hU2
 have hU2' : Upd L1 c (.cells (pcells { y with id := S.last + 1 }) 99) L2 := by rw [← pset_id]; exact hU2
 have hR2 : Rep K A { S with last := S.last + 1 } ((pb c { y with id := S.last + 1 } :: ([pb c y].filter fun t => !decide (t.1 = c))) ++ Fr) L2 := Rep.aside (G := [pb c y]) (F := Fr) hR1 List.mem_cons_self hF hU2'
 have hc2 : pb c { y with id := S.last + 1 } ∈ L2 := hU2'.self
 have hR2' : Rep K A { S with last := S.last + 1 } Fr L2 := hR2.less fun t ht => by simp [ht]
 have h5 : At L2 K 5 (slv (A.a 0) (S.ps.map (·.1)).length) := by rw [List.length_map]; exact hR2'.kat rfl
 co_applyP o_nil
 change wpE ..
 co_applyP c_seq
 co_applyP c_region
 co_applyP oy rfl E_mv
 co_applyP oy rfl E_mv
 co_applyP oy rfl E_nc
 co_applyP oy rfl (E_fa (hf := fo_115_2))
 co_applyP oy rfl (E_ld (ht := ag_91))
 co_applyP oy rfl E_mv
 co_applyP oadd rfl (O_bs1 (hN _) (hx := rfl) (hu := Tryz.underlying91) (hs := sz_93) (hz := zr_93))
 intro nb L3 hA3
 have hR3 := hR2'.add hA3
 have epa : (S.ps.map fun q => ptr q.1) = (S.ps.map (·.1)).map ptr := by rw [List.map_map]; rfl
 have hpa : slOk (A.a 0) ((S.ps.map (·.1)).map ptr) 93 L3 := by rw [← epa]; exact hR3.pa
 co_applyP oeN rfl (fun hnd => O_ap1 (a := A.a 0) (xs := S.ps.map (·.1)) (c := c) (hnd := hnd) (hN := hN) (ha := hpa) (h8 := by simp; omega) (hnb := hA3.self))
 rintro _ L4 ⟨a', rfl, hp⟩
 co_applyP oy rfl E_nc
 co_applyP oy rfl (E_fa (hf := fo_115_2))
 have hal : ∀ {b : Nat} {fl : Bool} {o : Obj}, (b, fl, o) ∈ L3 → (∀ c', o ≠ Obj.cells c' 93) → (A.a 0).b ≠ some b := fun hm ho hc => by
   obtain ⟨ys, hy⟩ := hR3.al _ _ hc
   exact ho _ (hR3.fn _ _ _ _ _ hm hy).2
 have hKa := hal hR3.k fun c => cells_ne (by decide)
 have hca := hal (hA3.sub _ hc2) fun c => cells_ne (by decide)
 co_applyP oeN rfl (fun hnd => O_sm (hs := sz_91) (hnd := hnd) (hm := hp.sub _ hR3.k hKa) (hi := by rw [ksize]; omega) (hp := slv_plain _ _))
 rintro _ L5 ⟨rfl, hU5⟩
 co_applyP o_nil
 change wpE ..
 co_applyP c_region
 co_applyP oy rfl E_mv
 co_applyP oy rfl E_mv
 have hKc : c ≠ K := hR2'.fn.ne hc2 hR2'.k (cells_ne (by decide))
 have hc5 := hU5.ne _ (hp.sub _ (hA3.sub _ hc2) hca) hKc
 have hR5 : Rep K (A.setA 0 a') (S.taken c y) Fr L5 := by
   refine Rep.setPs (S := { S with last := S.last + 1 }) hR3 (ps' := S.ps ++ [(c, { y with id := S.last + 1 })]) (ls := S.last + 1) hU5.fn ?_ (fun t ht h1 h2 => hU5.ne _ (hp.sub _ ht h2) h1) ?_ ?_ ?_ (by simp; omega) ?_ ?_
   · show (K, true, Obj.cells (kcells _) 115) ∈ L5
     have := hU5.self
     rw [kset_procs] at this
     rw [kst_taken]
     have el : (S.ps ++ [(c, { y with id := S.last + 1 })]).length = (S.ps.map (·.1)).length + 1 := by simp
     rw [el]
     exact this
   · have e2 : ((S.ps ++ [(c, { y with id := S.last + 1 })]).map fun (q : Nat × PS) => ptr q.1) = ((S.ps.map (·.1)) ++ [c]).map ptr := by simp
     rw [e2]
     refine hp.ok.mono fun d hd o ho => hU5.ne _ ho fun e => ?_
     have h1 := hp.ok.mem hd
     have e' : d = K := e
     rw [e'] at h1
     exact cells_ne (by decide) (hp.fn _ _ _ _ _ h1 (hp.sub _ hR3.k hKa)).2
   · intro q hq
     rcases List.mem_append.1 hq with h | h
     · exact hU5.ne _ (hp.sub _ (hR3.p q h) (hal (hR3.p q h) fun c => cells_ne (by decide))) (hR3.fn.ne (hR3.p q h) hR3.k (cells_ne (by decide)))
     · simp at h
       subst h
       exact hc5
   · rw [List.map_append]
     refine List.nodup_append.2 ⟨hR3.pn, by simp, fun u hu v hv => ?_⟩
     simp at hv
     subst hv
     rintro rfl
     obtain ⟨q, hq, e⟩ := List.mem_map.1 hu
     exact hcp q hq e.symm
   · intro t ht q hq
     rcases List.mem_append.1 hq with h | h
     · exact (hR3.fd t ht).2.1 q h
     · simp at h
       subst h
       exact hF t ht
   · intro d hd
     rcases hp.d d hd with h | h
     · exact .inl h
     · refine .inr ⟨fun i hi => ?_, fun t ht => h t (hR3.fr t ht)⟩
       obtain ⟨ys, hy⟩ := hR3.al i d hi
       exact h _ hy rfl
 have hb5 : (c, { y with id := S.last + 1 }) ∈ (S.taken c y).ps := List.mem_append_right _ List.mem_cons_self
 co_applyP oc rfl rfl rfl (g1 K _ _ Fr L5 c { y with id := S.last + 1 } hN hR5 hb5 hlv hr8 (fun e he => slot_ne e.1 hlv))
 rintro _ _ _ ⟨rfl, rfl, A6, hw6, hR6⟩
 co_applyP o_nil
 change ∃ v, resE .. = some v ∧ _
 exact ⟨_, rfl, rfl, rfl, A6, hR6⟩
end Go.Proofs.YtejkelcaljmnoaaGreatDoor
