/-
  Part 25 of the proof.
  No condition but those that each statement names.
-/
import Derived.Test.YtejkelcaljmnoaaGreatDoorHy24
import Derived.Test.YtejkelcaljmnoaaGreatDoorHy23
set_option maxRecDepth 100000
set_option linter.unusedVariables false
set_option linter.unusedSimpArgs false
set_option linter.unusedSectionVars false
namespace Go.Proofs.YtejkelcaljmnoaaGreatDoor
open Go.Conc Go.Hx Go.Lo
def isChildEnded (x : PS) (y : PS) : Bool := decide (y.par = x.id ∧ y.st = 6)
def St.childAt (S : St) (x : PS) : Option Nat := S.ps.findIdx? fun q => isChildEnded x q.2
def told (x y : PS) : PS := { x with r := put (put x.r 0 ((y.id : Int) % 65536)) 1 (y.stat % 65536) }
theorem idxF_testB {S : St} (hn : (S.ps.map (·.1)).Nodup) (p : PS → Bool) : (S.ps.map (·.1)).findIdx? (S.testB p) = S.ps.findIdx? fun q => p q.2 := by
 rw [List.findIdx?_map]
 have : ∀ q ∈ S.ps, (S.testB p ∘ (·.1)) q = p q.2 := fun q hq => by simp [St.testB, get_of hn (b := q.1) (x := q.2) hq]
 generalize S.ps = l at this ⊢
 induction l with
 | nil => rfl
 | cons q l ih =>
   rw [List.findIdx?_cons, List.findIdx?_cons, this q List.mem_cons_self, ih fun q hq => this q (List.mem_cons_of_mem _ hq)]
theorem collect_s : ∃ n, ∀ {σ : Type} {F : Fam σ} {Δ : ∀ s, Dom (F.R s) (F.D s)} {main : Bool} {s : σ} (K : Nat) (A : Lay) (S : St) (Fr L : Frag) (b : Nat) (x : PS), (∀ cs, (Δ s).New (.cells cs 93)) → Rep K A S Fr L → (b, x) ∈ S.ps → x.st ≠ 6 →
   CallsL Δ Tryz.prog main 130 [ptr K, ptr b].toArray n s L (fun s' v L' => s = s' ∧ match S.childAt x with
     | none => v = .bool false ∧ Rep K A S Fr L'
     | some i => v = .bool true ∧ ∃ c y a', S.ps[i]? = some (c, y) ∧ Rep K (A.setA 0 a') ({ S.setPs (S.ps.eraseIdx i) with last := S.last }.setP b (told x y)) (pb c y :: Fr) L') := by
 obtain ⟨n0, g0⟩ := collectClosure_s
 obtain ⟨n1, g1⟩ := indexFunc_s n0
 obtain ⟨n2, g2⟩ := delete_s
 apply Exists.intro
 intro σ F Δ main s K A S Fr L b x hN hR hb hx6
 co_applyP callsE 55 Tryz.func130 Tryz.ntmps130
 co_applyP c_seq
 co_applyP c_region
 co_applyP oadd rfl (O_box (hN _))
 intro xb L1 hA1
 have hR1 := hR.add hA1
 have hxb : At L1 xb 0 (ptr b) := ⟨true, _, _, _, hA1.self, rfl⟩
 obtain ⟨base, cap, hv, hat0⟩ := slv_view hR1.pa
 simp only [List.length_map] at hv
 have h5 : At L1 K 5 (.slice base (S.ps.map (·.1)).length cap) := by rw [List.length_map, ← hv]; exact hR1.kat rfl
 have hcl : ∀ c ∈ S.ps.map (·.1), ∀ L, Ext L1 L → CallsL Δ Tryz.prog main 148 ([] ++ [ptr c] ++ [ptr xb]).toArray n0 s L (fun s' v L' => s = s' ∧ v = .bool (S.testB (isChildEnded x) c) ∧ Ext L L') := by
   intro c hc L hE
   obtain ⟨q, hq, rfl⟩ := List.mem_map.1 hc
   have e : S.testB (isChildEnded x) q.1 = decide (q.2.par = x.id ∧ q.2.st = 6) := by simp [St.testB, get_of hR1.pn (b := q.1) (x := q.2) hq, isChildEnded]
   rw [e]
   exact g0 L b q.1 xb x q.2 (hE.s _ (hR1.p _ hb)) (hE.s _ (hR1.p _ hq)) (hE.at hxb)
 co_applyP oy rfl E_as
 co_applyP o_nil
 change wpE ..
 co_applyP c_seq
 co_applyP c_region
 co_applyP oy rfl E_mv
 co_applyP oy rfl E_nc
 co_applyP oy rfl (E_fa (hf := fo_115_2))
 co_applyP oy rfl (E_ld (ht := ag_91))
 co_applyP oy rfl E_mkf1
 co_applyP oc rfl rfl rfl (g1 L1 148 _ [] [ptr xb] (S.ps.map (·.1)) (S.testB (isChildEnded x)) base cap (fun i v hv => by obtain ⟨b, _, h2, h3⟩ := hat0 i v (by simpa using hv); exact ⟨b, h2, h3⟩) (by simpa using hR1.p8) Tryz.func148 rfl rfl hcl)
 rintro _ _ _ ⟨rfl, rfl, hE⟩
 co_applyP oy rfl E_as
 co_applyP o_nil
 change wpE ..
 co_applyP c_seq
 co_applyP c_seq
 co_applyP c_region
 co_applyP oy rfl E_mv
 co_applyP oy rfl E_lss
 co_applyP o_nil
 change wpE ..
 rename_i L2
 have hR2 := hR1.ext hE
 have hidx := idxF_testB hR.pn (isChildEnded x)
 co_applyP c_if rfl
 intro hc
 · have hnone : S.childAt x = none := by
     cases h : S.childAt x with
     | none => rfl
     | some i => unfold St.childAt at h; unfold idxF at hc; rw [hidx, h] at hc; simp at hc; omega
   co_applyP c_seq
   co_applyP c_region
   co_applyP oy rfl E_as
   co_applyP o_nil
   change wpE ..
   co_applyP c_ret
   change ∃ v, resE .. = some v ∧ _
   rw [hnone]
   exact ⟨_, rfl, rfl, rfl, hR2⟩
 intro hc
 obtain ⟨i, hsome⟩ : ∃ i, S.childAt x = some i := by
   cases h : S.childAt x with
   | none => unfold St.childAt at h; unfold idxF at hc; rw [hidx, h] at hc; simp at hc
   | some i => exact ⟨i, rfl⟩
 have hi : idxF (S.testB (isChildEnded x)) (S.ps.map (·.1)) = i := by unfold idxF; unfold St.childAt at hsome; rw [hidx, hsome]
 obtain ⟨hil, hti, _⟩ := List.findIdx?_eq_some_iff_getElem.1 hsome
 rw [hi, hsome]
 generalize hcy : S.ps[i] = cy at hti
 obtain ⟨c, y⟩ := cy
 have hcy' : S.ps[i]? = some (c, y) := by rw [List.getElem?_eq_getElem hil, hcy]
 have hcm : (c, y) ∈ S.ps := List.mem_of_getElem? hcy'
 obtain ⟨ab, hab, hbase, hav⟩ := hat0 i (ptr c) (by simp [hcy'])
 subst hbase
 have hav2 := hE.at hav
 have h52 := hE.at h5
 rw [List.length_map] at h52
 have h8 := hR.p8
 have ei : IntKind.i64.wrap ((i : Int) + 1) = (i : Int) + 1 := by simp [IntKind.wrap_i64]; omega
 have hcap : cap = S.ps.length + (A.a 0).junk.length := by
   unfold slv at hv; rw [hab] at hv
   simp only [Value.slice.injEq, true_and] at hv
   exact hv.symm
 subst hcap
 have hpa2 := hR2.pa.mem hab
 have hKab : K ≠ ab := hR2.fn.ne hR2.k hpa2 (cells_ne (by decide))
 have pab : ∀ q ∈ S.ps, q.1 ≠ ab := fun q hq => hR2.fn.ne (hR2.p _ hq) hpa2 (cells_ne (by decide))
 have hxab : xb ≠ ab := fun e => hA1.new _ (hR.pa.mem hab) e.symm
 have hxp : ∀ q ∈ S.ps, q.1 ≠ xb := fun q hq => hA1.new _ (hR.p _ hq)
 have hxK : K ≠ xb := hA1.new _ hR.k
 have g2' := g2 (Δ := Δ) (main := main) (s := s) L2 ab (S.ps.map fun q => ptr q.1) (A.a 0).junk i (by simpa using hil) (by simp; omega) (by simp [plainV]) hpa2
 rw [List.length_map] at g2'
 co_applyP c_skip
 change wpE ..
 co_applyP c_seq
 co_applyP c_region
 co_applyP oy rfl E_mv
 co_applyP oy rfl E_nc
 co_applyP oy rfl (E_fa (hf := fo_115_2))
 co_applyP oy rfl (E_ld (ht := ag_91))
 co_applyP oy rfl E_mv
 co_applyP oy rfl (E_ixs Tryz.underlying91 sz_93)
 co_applyP oy rfl (E_ld (ht := ag_93))
 co_applyP oy rfl E_as
 co_applyP o_nil
 change wpE ..
 co_applyP c_seq
 co_applyP c_region
 co_applyP oy rfl E_mv
 co_applyP oy rfl E_mv
 co_applyP oy rfl E_nc
 co_applyP oy rfl (E_fa (hf := fo_115_2))
 co_applyP oy rfl (E_ld (ht := ag_91))
 co_applyP oy rfl E_mv
 co_applyP oy rfl E_mv
 co_applyP oy rfl E_add
 rw [ei]
 co_applyP oc rfl rfl rfl (g2')
 rintro _ _ _ ⟨rfl, rfl, hU3⟩
 co_applyP oy rfl E_nc
 co_applyP oy rfl (E_fa (hf := fo_115_2))
 rename_i L3
 have hK3 := hU3.ne _ hR2.k hKab
 co_applyP oeN rfl (fun hnd => O_sm (hs := sz_91) (hnd := hnd) (hm := hK3) (hi := by rw [ksize]; omega))
 rintro _ L4 ⟨rfl, hU4⟩
 co_applyP o_nil
 change wpE ..
 co_applyP c_seq
 have hlen' : (S.ps.eraseIdx i).length = S.ps.length - 1 := by rw [List.length_eraseIdx]; simp [hil]
 have hemap : (S.ps.eraseIdx i).map (fun q => ptr q.1) = (S.ps.map fun q => ptr q.1).eraseIdx i := by simp [List.eraseIdx_eq_take_drop_succ]
 have hesub : ∀ q ∈ S.ps.eraseIdx i, q ∈ S.ps := fun q hq => List.mem_of_mem_eraseIdx hq
 have keep4 : ∀ t ∈ L2, t.1 ≠ K → t.1 ≠ ab → t ∈ L4 := fun t ht h1 h2 => hU4.ne _ (hU3.ne _ ht h2) h1
 have hR4 : Rep K (A.setA 0 ⟨some ab, .pointer none :: (A.a 0).junk⟩) { S.setPs (S.ps.eraseIdx i) with last := S.last } Fr L4 := by
   refine hR2.setPs hU4.fn ?_ (fun t ht h1 h2 => keep4 t ht h1 fun e => h2 (by rw [hab, e])) ?_ (fun q hq => keep4 _ (hR2.p _ (hesub q hq)) (hR2.fn.ne (hR2.p _ (hesub q hq)) hR2.k (cells_ne (by decide))) (pab _ (hesub q hq))) ?_ (by omega) (fun t ht q hq => (hR2.fd t ht).2.1 q (hesub q hq)) (fun b hb => .inl (by rw [hab]; exact hb))
   · have := hU4.self
     rw [kset_procs] at this
     unfold kb
     rw [kst_procs]
     have e1 : slv ⟨some ab, .pointer none :: (A.a 0).junk⟩ (S.ps.eraseIdx i).length = .slice (some ⟨ab, 0, none⟩) (S.ps.length - 1) (S.ps.length + (A.a 0).junk.length) := by
       unfold slv; simp only [hlen', List.length_cons]; congr 1; omega
     rw [e1]; exact this
   · rw [hemap]
     exact hU4.ne _ hU3.self (Ne.symm hKab)
   · rw [show (S.ps.eraseIdx i).map (·.1) = (S.ps.map (·.1)).eraseIdx i by simp [List.eraseIdx_eq_take_drop_succ]]
     exact hR2.pn.sublist (List.eraseIdx_sublist _ _)
 have hcb : c ≠ b := fun e => by
   subst e
   obtain rfl := nodup_val hR.pn hcm hb
   have : isChildEnded y y = true := hti
   simp [isChildEnded] at this
   exact hx6 this.2
 have hb4 : (b, x) ∈ S.ps.eraseIdx i := by
   obtain ⟨j, hj⟩ := List.getElem?_of_mem hb
   have hji : j ≠ i := fun e => by subst e; rw [hj] at hcy'; simp at hcy'; exact hcb hcy'.1.symm
   rw [List.mem_eraseIdx_iff_getElem?]
   exact ⟨j, hji, hj⟩
 have hpc4 : pb c y ∈ L4 := keep4 _ (hR2.p _ hcm) (hR2.fn.ne (hR2.p _ hcm) hR2.k (cells_ne (by decide))) (pab _ hcm)
 have hcn : ∀ q ∈ S.ps.eraseIdx i, c ≠ q.1 := fun q hq e => by
   obtain ⟨j, hji, hj⟩ := List.mem_eraseIdx_iff_getElem?.1 hq
   have hq' := List.mem_of_getElem? hj
   obtain ⟨qc, qy⟩ := q
   have e' : c = qc := e
   subst e'
   have e1 : (S.ps.map (·.1))[j]? = some c := by simp [hj]
   have e2 : (S.ps.map (·.1))[i]? = some c := by simp [hcy']
   obtain ⟨hj1, hj2⟩ := List.getElem?_eq_some_iff.1 e1
   obtain ⟨hi1, hi2⟩ := List.getElem?_eq_some_iff.1 e2
   rcases Nat.lt_or_gt_of_ne hji with g | g
   · exact absurd (hj2.trans hi2.symm) (List.pairwise_iff_getElem.1 hR.pn j i hj1 hi1 g)
   · exact absurd (hi2.trans hj2.symm) (List.pairwise_iff_getElem.1 hR.pn i j hi1 hj1 g)
 replace hR4 := hR4.beside hpc4 hcn
 have hxb4 : (xb, true, Obj.cells #[ptr b] 93) ∈ L4 := keep4 _ (hE.s _ hA1.self) (Ne.symm hxK) hxab
 have hx4 : At L4 xb 0 (ptr b) := ⟨true, _, _, _, hxb4, rfl⟩
 have hc40 : At L4 c 0 (.int .i64 (y.id : Nat)) := ⟨true, _, _, _, hpc4, rfl⟩
 have hc43 : At L4 c 3 (.int .i64 y.stat) := ⟨true, _, _, _, hpc4, rfl⟩
 have hxbm : ∀ (L : Frag), (xb, true, Obj.cells #[ptr b] 93) ∈ L → ∀ t ∈ [(xb, true, Obj.cells #[ptr b] 93)], t ∈ L := fun L h t ht => by simp at ht; rw [ht]; exact h
 have hbx : b ≠ xb := hxp _ hb
 co_applyP c_draw [(xb, true, Obj.cells #[ptr b] 93)] 18 (nf := 0) mixed
 co_applyP t0 (i := 0) rfl (E_ld (ht := ag_93)) (pre_init (hxbm _ hxb4))
 co_applyP tr (i := 1) rfl (E_ld (ht := ag_93)) (pre_init (hxbm _ hxb4))
 co_applyP tr (i := 2) rfl E_mv (pre_init (hxbm _ hxb4))
 co_applyP tr (i := 3) rfl E_nc (pre_init (hxbm _ hxb4))
 co_applyP tr (i := 4) rfl (E_fa (hf := fo_99_0)) (pre_init (hxbm _ hxb4))
 co_applyP tr (i := 5) rfl (E_fa (hf := fo_49_0)) (pre_init (hxbm _ hxb4))
 co_applyP t0 (i := 6) rfl (E_ld (ht := ag_3)) (pre_init (hxbm _ hxb4))
 co_applyP tr (i := 7) rfl (E_cv (hs := Tryz.underlying3) (ht := Tryz.underlying32)) (pre_init (hxbm _ hxb4))
 co_applyP tr (i := 8) rfl E_mv (pre_init (hxbm _ hxb4))
 co_applyP tr (i := 9) rfl E_nc (pre_init (hxbm _ hxb4))
 co_applyP tr (i := 10) rfl (E_fa (hf := fo_99_0)) (pre_init (hxbm _ hxb4))
 co_applyP tr (i := 11) rfl (E_fa (hf := fo_49_3)) (pre_init (hxbm _ hxb4))
 co_applyP t0 (i := 12) rfl (E_ld (ht := ag_3)) (pre_init (hxbm _ hxb4))
 co_applyP tr (i := 13) rfl (E_cv (hs := Tryz.underlying3) (ht := Tryz.underlying32)) (pre_init (hxbm _ hxb4))
 co_applyP tr (i := 14) rfl E_nc (pre_init (hxbm _ hxb4))
 co_applyP tr (i := 15) rfl (E_fa (hf := fo_99_0)) (pre_init (hxbm _ hxb4))
 co_applyP tr (i := 16) rfl (E_fa (hf := fo_49_7)) (pre_init (hxbm _ hxb4))
 co_applyP tr (i := 17) rfl (E_ixa Tryz.underlying47 sz_32) (pre_init (hxbm _ hxb4))
 co_applyP tr (i := 19) rfl E_nc (pre_init (hxbm _ hxb4))
 co_applyP tr (i := 20) rfl (E_fa (hf := fo_99_0)) (pre_init (hxbm _ hxb4))
 co_applyP tr (i := 21) rfl (E_fa (hf := fo_49_7)) (pre_init (hxbm _ hxb4))
 co_applyP anyE_nd
 intro hnd
 co_applyP te (i := 18) rfl (O_sm (hnd := hnd) (hm := hR4.p _ hb4) (hi := by rw [psize]; omega) (hs := sz_32))
 rintro _ _ ⟨rfl, hU5⟩
 refine ⟨pre_late (hxbm _ (hU5.ne _ hxb4 (Ne.symm hbx))), ?_⟩
 rename_i L5
 rw [wrap_u16] at hU5
 have h7 : (pcells x).setIfInBounds (7 + 0) (.int .u16 ((y.id : Int) % 65536)) = pcells { x with r := put x.r 0 ((y.id : Int) % 65536) } := pset_r x (by omega) _
 have hR5 := hR4.setP hb4 (x' := { x with r := put x.r 0 ((y.id : Int) % 65536) }) (h7 ▸ hU5)
 have hb5 : (b, { x with r := put x.r 0 ((y.id : Int) % 65536) }) ∈ ({ S.setPs (S.ps.eraseIdx i) with last := S.last }.setP b { x with r := put x.r 0 ((y.id : Int) % 65536) }).ps := mem_setP_self hb4
 have hxb5 := hU5.ne _ hxb4 (Ne.symm hbx)
 co_applyP to (i := 22) rfl ((E_ixa Tryz.underlying47 sz_32)) (pre_late (hxbm _ hxb5))
 co_applyP anyE_nd
 intro hnd'
 co_applyP te (i := 23) rfl (O_sm (hnd := hnd') (hm := hR5.p _ hb5) (hi := by rw [psize]; omega) (hs := sz_32))
 rintro _ _ ⟨rfl, hU6⟩
 refine ⟨pre_late (hxbm _ (hU6.ne _ hxb5 (Ne.symm hbx))), ?_⟩
 rw [wrap_u16] at hU6
 co_applyP td (by kernel_rfl)
 change wpE ..
 co_applyP c_seq
 co_applyP c_region
 co_applyP oy rfl E_as
 co_applyP o_nil
 change wpE ..
 co_applyP c_ret
 change ∃ v, resE .. = some v ∧ _
 have h8' : (pcells { x with r := put x.r 0 ((y.id : Int) % 65536) }).setIfInBounds (7 + 1) (.int .u16 (y.stat % 65536)) = pcells (told x y) := pset_r _ (by omega) _
 have hR6 := hR5.setP hb5 (x' := told x y) (h8' ▸ hU6)
 refine ⟨_, rfl, rfl, rfl, c, y, ⟨some ab, .pointer none :: (A.a 0).junk⟩, hcy', ?_⟩
 have e6 : ({ S.setPs (S.ps.eraseIdx i) with last := S.last }.setP b { x with r := put x.r 0 ((y.id : Int) % 65536) }).setP b (told x y) = ({ S.setPs (S.ps.eraseIdx i) with last := S.last } : St).setP b (told x y) := by
   unfold St.setP
   simp only [List.map_map]
   congr 1
   apply List.map_congr_left
   intro q _
   simp only [Function.comp]
   split
   · simp
   · rename_i h; simp [h]
 rw [e6] at hR6
 exact hR6
end Go.Proofs.YtejkelcaljmnoaaGreatDoor
namespace Go.Lo
open Go.Conc Go.Hx
section
variable {P : Program} {New : Obj → Prop} {N : Nat} {ε : Env} {L : Frag} {d : Option Tmp} {ty : TypeId} {ps : String} {af : Array Edge} {g : Option (Nat × Bool)}
theorem E_sln {t u e : TypeId} {x y : Operand} {base : Option Addr} {len cap : Nat} (hu : P.underlying t = some (.slice e)) (hx : ev ε x = some (.slice base len cap) := by rfl) (hy : ev ε y = some (.slice none 0 0) := by rfl) : EY P N ε L ⟨d, .binOp .eql t x y u, ty, ps, af, g⟩ (.bool base.isNone) := fun a ha => by
 refine y_of (fun _ => rfl) fun K hQ => ?_
 rw [ha.ev hx, ha.ev hy]
 show wpQ P (do pure (.bool (← Op.equal t (.slice base len cap) (.slice none 0 0)))) K L
 rw [wpQ_bind, equal_unf, Op.equalIn.eq_def, wpQ_bind, wpQ_underlying hu]
 cases base <;> exact hQ
theorem O_bs0 {t e : TypeId} {sz : Nat} (hN : New (.cells #[] e)) (hu : P.underlying t = some (.slice e)) (hs : sizeAt P e = some sz) :
   EO P New N ε L ⟨d, .buildSlice t 0 #[], ty, ps, af, g⟩ (fun r L'' => ∃ b, (∀ t ∈ L, t.1 ≠ b) ∧ r = .slice (some ⟨b, 0, none⟩) 0 0 ∧ L'' = (b, true, .cells #[] e) :: L) := by
 intro a ha
 simp only [execOp, List.map_toArray, List.map_nil]
 rw [wpS_bind]
 unfold Instr.buildSlice newRow
 rw [wpS_bind, wpS_underlying hu]
 simp only [wpS_bind, wpS_sizeOf hs, Nat.zero_mul]
 have e0 : Array.map (fun x => (#[] : Array Value)[x % (#[] : Array Value).size]!) (Array.range 0) = #[] := by simp
 simp only [gt_iff_lt, Nat.not_lt_zero, if_false, if_true, wpS_pure, wpS_bind, e0]
 have h0 : Instr.fill (fun i => some (i * sz, sz)) (#[] : Array Value) [] = some #[] := by simp [Instr.fill]
 simp only [h0, wpS_bind]
 exact wpS_newObj hN fun b hb => ⟨b, hb, rfl, rfl⟩
end
end Go.Lo
namespace Go.Proofs.YtejkelcaljmnoaaGreatDoor
open Go.Conc Go.Hx Go.Lo
theorem clone_s : ∃ n, ∀ {σ : Type} {F : Fam σ} {Δ : ∀ s, Dom (F.R s) (F.D s)} {main : Bool} {s : σ} (L : Frag) (Q : Nat) (xs junk : List Value), (∀ cs, (Δ s).New (.cells cs 93)) → (Q, true, Obj.cells (xs ++ junk).toArray 93) ∈ L → 0 < xs.length → xs.length ≤ 8 →
   CallsL Δ Tryz.prog main 129 [.slice (some ⟨Q, 0, none⟩) xs.length (xs.length + junk.length)].toArray n s L (fun s' v L' => s = s' ∧ ∃ b cap jk, v = .slice (some ⟨b, 0, none⟩) xs.length cap ∧ Ext L L' ∧ (∀ t ∈ L, t.1 ≠ b) ∧ (b, true, Obj.cells (xs ++ jk).toArray 93) ∈ L') := by
 apply Exists.intro
 intro σ F Δ main s L Q xs junk hN hQ h0 h8
 co_applyP callsE 8 Tryz.func129 Tryz.ntmps129
 co_applyP wpE_fun
 intro hF
 co_applyP c_seq
 co_applyP c_region
 co_applyP oy rfl E_as
 co_applyP o_nil
 change wpE ..
 co_applyP c_seq
 co_applyP c_seq
 co_applyP c_region
 co_applyP oy rfl E_mv
 co_applyP oy rfl (E_sln Tryz.underlying91)
 co_applyP o_nil
 change wpE ..
 co_applyP c_false rfl
 co_applyP c_skip
 change wpE ..
 co_applyP c_seq
 co_applyP c_region
 co_applyP oadd rfl (O_bs0 (hN _) Tryz.underlying91 sz_93)
 intro nb L1 hA
 co_applyP oy rfl E_mv
 have hQ1 := hA.sub _ hQ
 have hw : Reads Tryz.prog L1 1 0 (.slice (some ⟨nb, 0, none⟩) 0 0) #[] := by
   have := reads_m (P := Tryz.prog) (sz := 1) (n := 0) (len := 0) (cap := 0) (o := 0) hA.self (by simp)
   simpa using this
 have hr : Reads Tryz.prog L1 1 xs.length (.slice (some ⟨Q, 0, none⟩) xs.length (xs.length + junk.length)) xs.toArray := by
   have := reads_m (P := Tryz.prog) (sz := 1) (n := xs.length) (len := xs.length) (cap := xs.length + junk.length) (o := 0) hQ1 (by simp)
   simpa using this
 co_applyP oeN rfl (fun hnd => O_apn (by_ := 7) (hF := hA.fn) (hu := Tryz.underlying91) (hv := Tryz.underlying91) (hs := sz_93) (hb := byt_93) (hz0 := zr_93) (hw := hw) (hr := hr) (hc := by omega) (hbig := by omega) (hN := hN))
 rintro _ L2 ⟨b, cap, h1, h2, rfl, hA2⟩
 co_applyP oy rfl E_as
 co_applyP o_nil
 change wpE ..
 co_applyP c_ret
 change ∃ v, resE .. = some v ∧ _
 have e1 : #[] ++ xs.toArray ++ Builtin.zeroCells (Value.pointer none).cells (cap - (0 + xs.length)) = (xs ++ List.replicate (cap - (0 + xs.length)) (Value.pointer none)).toArray := by
   rw [zeroCells1 rfl]; apply Array.ext'; simp
 rw [e1] at hA2
 exact ⟨_, rfl, rfl, b, cap, _, by simp, ⟨hA2.fn, fun t ht => hA2.sub _ (hA.sub _ ht)⟩, fun t ht => hA2.new _ (hA.sub _ ht), hA2.self⟩
section
variable {S : St}
theorem Good.like (h : Good S) {b : Nat} {x x' : PS} (hb : (b, x) ∈ S.ps) (hs : x'.st = x.st) (hl : x'.lv = x.lv) : Good (S.setP b x') := by
 refine ⟨by rw [setP_fst]; exact h.pn, by rw [setP_len]; exact h.p8, fun q hq => ?_, h.rn, fun l hl' c hc => ?_, fun q hq h1 => ?_⟩
 · rcases mem_setP hq with rfl | ⟨h1, _⟩
   · rw [hl]; exact h.lv _ hb
   · exact h.lv q h1
 · obtain ⟨y, hy, h1, h2⟩ := h.rm l hl' c hc
   by_cases e : c = b
   · subst e
     obtain rfl := nodup_val h.pn hb hy
     exact ⟨x', mem_setP_self hb, by rw [hl]; exact h1, by rw [hs]; exact h2⟩
   · exact ⟨y, by simp only [St.setP, List.mem_map]; exact ⟨(c, y), hy, by simp [e]⟩, h1, h2⟩
 · rcases mem_setP hq with rfl | ⟨h2, _⟩
   · have := h.rr _ hb (by rw [← hs]; exact h1)
     show b ∈ S.rows x'.lv
     rw [hl]; exact this
   · exact h.rr q h2 h1
theorem Good.erase (h : Good S) {i c : Nat} {y : PS} (hi : S.ps[i]? = some (c, y)) (hy : y.st ≠ 1) {ls : Nat} : Good { S.setPs (S.ps.eraseIdx i) with last := ls } := by
 refine ⟨?_, ?_, fun q hq => h.lv q (List.mem_of_mem_eraseIdx hq), h.rn, fun l hl c' hc => ?_, fun q hq h1 => h.rr q (List.mem_of_mem_eraseIdx hq) h1⟩
 · show ((S.ps.eraseIdx i).map (·.1)).Nodup
   rw [show (S.ps.eraseIdx i).map (·.1) = (S.ps.map (·.1)).eraseIdx i by simp [List.eraseIdx_eq_take_drop_succ]]
   exact h.pn.sublist (List.eraseIdx_sublist _ _)
 · show (S.ps.eraseIdx i).length ≤ 8
   have := List.length_eraseIdx_le S.ps i
   have := h.p8
   omega
 · obtain ⟨z, hz, h1, h2⟩ := h.rm l hl c' hc
   refine ⟨z, ?_, h1, h2⟩
   show (c', z) ∈ S.ps.eraseIdx i
   obtain ⟨j, hj⟩ := List.getElem?_of_mem hz
   have hji : j ≠ i := fun e => by subst e; rw [hj] at hi; simp at hi; exact hy (by rw [← hi.2]; exact h2)
   rw [List.mem_eraseIdx_iff_getElem?]
   exact ⟨j, hji, hj⟩
end
def St.take (S : St) (b : Nat) (x : PS) (i : Nat) : St := match S.ps[i]? with
 | some q => ({ S.setPs (S.ps.eraseIdx i) with last := S.last } : St).setP b (told x q.2)
 | none => S
def St.parent1 (S : St) (b : Nat) : St := match S.get b with
 | some x => if x.st = 2 then (match S.childAt x with
   | some i => match S.ps[i]? with
     | some q => (S.take b x i).wake1 b (told x q.2)
     | none => S
   | none => S) else S
 | none => S
def St.parents (S : St) : List Nat → St
 | [] => S
 | b :: bs => (S.parent1 b).parents bs
theorem parents_append (S : St) (l m : List Nat) : S.parents (l ++ m) = (S.parents l).parents m := by
 induction l generalizing S with
 | nil => rfl
 | cons b l ih => simp only [List.cons_append, St.parents]; exact ih _
theorem Rep.fresh {K : Nat} {A : Lay} {S : St} {F L L' : Frag} (h : Rep K A S F L) (e : Ext L L') {b : Nat} {o : Obj} (hn : ∀ t ∈ L, t.1 ≠ b) (hm : (b, true, o) ∈ L') : Rep K A S ((b, true, o) :: F) L' :=
 { h.ext e with
   fr := fun t ht => by
     rcases List.mem_cons.1 ht with rfl | ht
     · exact hm
     · exact e.s _ (h.fr t ht)
   fd := fun t ht => by
     rcases List.mem_cons.1 ht with rfl | ht
     · exact ⟨fun e => hn _ h.k e.symm, fun q hq e => hn _ (h.p q hq) e.symm, fun i e => let ⟨_, hx⟩ := h.al i _ e; hn _ hx rfl, fun i e => let ⟨_, hx⟩ := h.yl i _ e; hn _ hx rfl, fun e => hn _ h.w e.symm⟩
     · exact h.fd t ht }
theorem childAt_spec {S : St} {x : PS} {i : Nat} (h : S.childAt x = some i) : ∃ q, S.ps[i]? = some q ∧ q.2.par = x.id ∧ q.2.st = 6 := by
 obtain ⟨hil, hti, _⟩ := List.findIdx?_eq_some_iff_getElem.1 h
 refine ⟨S.ps[i], List.getElem?_eq_getElem hil, ?_⟩
 simpa [isChildEnded] using hti
theorem get_none {S : St} {b : Nat} (h : ∀ q ∈ S.ps, q.1 ≠ b) : S.get b = none := by
 unfold St.get
 rw [List.find?_eq_none.2 fun q hq => by simpa using h q hq]; rfl
theorem lookAtParents_s : ∃ n, ∀ {σ : Type} {F : Fam σ} {Δ : ∀ s, Dom (F.R s) (F.D s)} {main : Bool} {s : σ} (K : Nat) (A : Lay) (S : St) (Fr L : Frag), (∀ cs, (Δ s).New (.cells cs 93)) → Rep K A S Fr L → Good S → S.ps ≠ [] →
   CallsL Δ Tryz.prog main 110 [ptr K].toArray n s L (fun s' v L' => s = s' ∧ v = .tuple #[] ∧ Good (S.parents (S.ps.map (·.1))) ∧ ∃ A' G, (∀ q ∈ S.ps, (∃ z, (q.1, z) ∈ (S.parents (S.ps.map (·.1))).ps) ∨ ∃ z, pb q.1 z ∈ G ∧ z.st = 6) ∧ Rep K A' (S.parents (S.ps.map (·.1))) (G ++ Fr) L') := by
 obtain ⟨n1, g1⟩ := collect_s
 obtain ⟨n2, g2⟩ := wake_s
 obtain ⟨n3, g3⟩ := clone_s
 apply Exists.intro
 intro σ F Δ main s K A S Fr L hN hR hG hne
 obtain ⟨Q, hQ⟩ : ∃ Q, (A.a 0).b = some Q := by
   cases h : (A.a 0).b with
   | some Q => exact ⟨Q, rfl⟩
   | none =>
     have := hR.pa
     unfold slOk at this
     rw [h] at this
     simp at this
     exact absurd this.1 hne
 have hpa := hR.pa.mem hQ
 have h8 := hR.p8
 have hpos : 0 < S.ps.length := List.length_pos_iff.2 hne
 have h5 : At L K 5 (.slice (some ⟨Q, 0, none⟩) (S.ps.map fun q => ptr q.1).length ((S.ps.map fun q => ptr q.1).length + (A.a 0).junk.length)) := by
   have e : slv (A.a 0) S.ps.length = .slice (some ⟨Q, 0, none⟩) (S.ps.map fun q => ptr q.1).length ((S.ps.map fun q => ptr q.1).length + (A.a 0).junk.length) := by unfold slv; rw [hQ]; simp
   rw [← e]; exact hR.kat rfl
 co_applyP callsE 29 Tryz.func110 Tryz.ntmps110
 co_applyP c_seq
 co_applyP c_region
 co_applyP oy rfl E_mv
 co_applyP oy rfl E_nc
 co_applyP oy rfl (E_fa (hf := fo_115_2))
 co_applyP oy rfl (E_ld (ht := ag_91))
 co_applyP oc rfl rfl rfl (g3 L Q (S.ps.map fun q => ptr q.1) (A.a 0).junk hN hpa (by simpa using hpos) (by simpa using h8))
 rintro _ _ _ ⟨rfl, cb, cap, jk, rfl, hE, hfr, hcb⟩
 co_applyP oy rfl (E_len (hu := Tryz.underlying91))
 co_applyP oy rfl E_mv
 co_applyP o_nil
 change wpE ..
 co_applyP c_block
 rename_i L1
 have hR1 := hR.fresh hE hfr hcb
 co_applyP c_loop (fun k s' ε' L' => s' = s ∧ ∃ l1 l2 A' G, S.ps = l1 ++ l2 ∧ Rep K A' (S.parents (l1.map (·.1))) (G ++ (cb, true, Obj.cells ((S.ps.map fun q => ptr q.1) ++ jk).toArray 93) :: Fr) L' ∧ Good (S.parents (l1.map (·.1))) ∧ (∀ q ∈ S.ps, (∃ z, (q.1, z) ∈ (S.parents (l1.map (·.1))).ps) ∨ ∃ z, pb q.1 z ∈ G ∧ z.st = 6) ∧ k + l1.length = 8 ∧ kn ε' [(10, .int .i64 l1.length), (9, .int .i64 (S.ps.map fun q => ptr q.1).length), (8, .slice (some ⟨cb, 0, none⟩) (S.ps.map fun q => ptr q.1).length cap), (0, ptr K)]) 8
 · exact ⟨rfl, [], S.ps, A, [], rfl, hR1, hG, fun q hq => .inl ⟨q.2, hq⟩, rfl, rfl⟩
 rintro k s' ε' L' ⟨rfl, l1, l2, A', G, hl, hR', hG', hall, hk, he⟩
 co_applyP wpE_kn he
 have hlen := congrArg List.length hl
 simp only [List.length_append] at hlen
 have hcb' := hR'.fr _ (List.mem_append_right G List.mem_cons_self)
 co_applyP c_seq
 co_applyP c_region
 co_applyP oy rfl E_lss
 co_applyP o_nil
 change wpE ..
 co_applyP c_seq
 co_applyP c_if rfl
 intro hlt
 · cases l2 with
   | nil => simp at hlt hlen; omega
   | cons q l2 =>
     simp at hlen
     have hav : At L' cb l1.length (ptr q.1) := ⟨true, _, _, _, hcb', by rw [List.getElem?_toArray, List.getElem?_append_left (by simp; omega), hl]; simp⟩
     have hlt' : (l1.length : Int) < (S.ps.map fun q => ptr q.1).length := by simpa using hlt
     have elen : IntKind.i64.wrap ((l1.length : Int) + 1) = ((l1 ++ [q]).length : Int) := by simp [IntKind.wrap_i64]; omega
     have hq : q ∈ S.ps := by rw [hl]; simp
     have hnext : S.parents ((l1 ++ [q]).map (·.1)) = (S.parents (l1.map (·.1))).parent1 q.1 := by rw [List.map_append, parents_append]; rfl
     generalize hS' : S.parents (l1.map (·.1)) = S' at *
     obtain ⟨z, hzm, hzc⟩ : ∃ z, pb q.1 z ∈ L' ∧ ((q.1, z) ∈ S'.ps ∨ (z.st = 6 ∧ ∀ r ∈ S'.ps, r.1 ≠ q.1)) := by
       rcases hall q hq with ⟨z, hz⟩ | ⟨z, hz, h6⟩
       · exact ⟨z, hR'.p _ hz, .inl hz⟩
       · have hm : pb q.1 z ∈ G ++ (cb, true, Obj.cells ((S.ps.map fun q => ptr q.1) ++ jk).toArray 93) :: Fr := List.mem_append_left _ hz
         exact ⟨z, hR'.fr _ hm, .inr ⟨h6, fun r hr => Ne.symm ((hR'.fd _ hm).2.1 r hr)⟩⟩
     have hz2 : At L' q.1 2 (.int .i64 (z.st : Nat)) := ⟨true, _, _, _, hzm, rfl⟩
     co_applyP c_skip
     change wpE ..
     co_applyP c_seq
     co_applyP c_block
     co_applyP c_seq
     co_applyP c_region
     co_applyP oy rfl (E_ixs Tryz.underlying91 sz_93)
     co_applyP oy rfl (E_ld (ht := ag_93))
     co_applyP oy rfl E_as
     co_applyP o_nil
     change wpE ..
     co_applyP c_mid (fun s'' ε'' L'' => s' = s'' ∧ ∃ (t : Bool) (A2 : Lay) (G2 : Frag) (S2 : St), Rep K A2 S2 (G2 ++ (cb, true, Obj.cells ((S.ps.map fun q => ptr q.1) ++ jk).toArray 93) :: Fr) L'' ∧ kn ε'' [(24, .bool t), (3, ptr q.1), (10, .int .i64 l1.length), (9, .int .i64 (S.ps.map fun q => ptr q.1).length), (8, .slice (some ⟨cb, 0, none⟩) (S.ps.map fun q => ptr q.1).length cap), (0, ptr K)] ∧ ((t = true ∧ z.st = 2 ∧ (q.1, z) ∈ S'.ps ∧ ∃ i c y, S'.childAt z = some i ∧ S'.ps[i]? = some (c, y) ∧ y.st = 6 ∧ S2 = ({ S'.setPs (S'.ps.eraseIdx i) with last := S'.last } : St).setP q.1 (told z y) ∧ G2 = pb c y :: G) ∨ (t = false ∧ S2 = S' ∧ G2 = G ∧ S'.parent1 q.1 = S')))
     co_applyP c_split (z.st = 2)
     intro h2
     · have hz : (q.1, z) ∈ S'.ps := by
         rcases hzc with h | ⟨h, _⟩
         · exact h
         · omega
       have hget := get_of hG'.pn hz
       have e2 : ((z.st : Int) == 2) = true := by simp; omega
       co_applyP c_region
       co_applyP oy rfl E_mv
       co_applyP oy rfl E_nc
       co_applyP oy rfl (E_fa (hf := fo_99_0))
       co_applyP oy rfl (E_fa (hf := fo_49_2))
       co_applyP oy rfl (E_ld (ht := ag_3))
       co_applyP oy rfl E_eql
       co_applyP oy rfl E_mv
       rw [e2]
       co_applyP oy rfl (E_mv)
       co_applyP oy rfl (E_mv)
       co_applyP oc rfl rfl rfl (g1 K A' S' _ L' q.1 z hN hR' hz (by omega))
       rintro _ _ _ ⟨rfl, hpost⟩
       co_applyP o_split (S'.childAt z = none)
       intro hca
       · rw [hca] at hpost
         obtain ⟨rfl, hR2⟩ := hpost
         co_applyP oy rfl E_pick
         co_applyP o_nil
         change _ = _ ∧ ∃ (t : Bool) (A2 : Lay) (G2 : Frag) (S2 : St), _
         have hn2 : S'.parent1 q.1 = S' := by unfold St.parent1; rw [hget]; simp only [h2, if_true, hca]
         exact ⟨rfl, false, A', G, S', hR2, rfl, .inr ⟨rfl, rfl, rfl, hn2⟩⟩
       intro hca
       obtain ⟨i, hi⟩ : ∃ i, S'.childAt z = some i := by
         cases h : S'.childAt z with
         | none => exact absurd h hca
         | some i => exact ⟨i, rfl⟩
       rw [hi] at hpost
       obtain ⟨rfl, c, y, a', hcy, hR2⟩ := hpost
       obtain ⟨qc, hqc, _, hq6⟩ := childAt_spec hi
       rw [hcy] at hqc
       obtain rfl : (c, y) = qc := by simpa using hqc
       co_applyP oy rfl E_pick
       co_applyP o_nil
       change _ = _ ∧ ∃ (t : Bool) (A2 : Lay) (G2 : Frag) (S2 : St), _
       exact ⟨rfl, true, _, pb c y :: G, _, hR2, rfl, .inl ⟨rfl, h2, hz, i, c, y, hi, hcy, hq6, rfl, rfl⟩⟩
     intro h2
     have e2 : ((z.st : Int) == 2) = false := by simp; omega
     have hn2 : S'.parent1 q.1 = S' := by
       rcases hzc with hz | ⟨_, hno⟩
       · unfold St.parent1; rw [get_of hG'.pn hz]; simp only [h2, if_false]
       · unfold St.parent1; rw [get_none hno]
     co_applyP c_region
     co_applyP oy rfl E_mv
     co_applyP oy rfl E_nc
     co_applyP oy rfl (E_fa (hf := fo_99_0))
     co_applyP oy rfl (E_fa (hf := fo_49_2))
     co_applyP oy rfl (E_ld (ht := ag_3))
     co_applyP oy rfl E_eql
     co_applyP oy rfl E_mv
     rw [e2]
     co_applyP ou rfl
     co_applyP ou rfl
     co_applyP ou rfl
     co_applyP oy rfl E_pick
     co_applyP o_nil
     change _ = _ ∧ ∃ (t : Bool) (A2 : Lay) (G2 : Frag) (S2 : St), _
     exact ⟨rfl, false, A', G, S', hR', rfl, .inr ⟨rfl, rfl, rfl, hn2⟩⟩
     rintro s'' ε'' L'' ⟨rfl, t, A2, G2, S2, hR2, he2, hcase⟩
     co_applyP wpE_kn he2
     co_applyP c_if rfl
     intro ht
     co_applyP c_region
     co_applyP oy rfl E_mv
     co_applyP oy rfl E_mv
     · have ht' : t = true := by simpa using ht
       obtain ⟨h2, hz, i, c, y, hi, hcy, hy6, rfl, rfl⟩ : z.st = 2 ∧ (q.1, z) ∈ S'.ps ∧ ∃ i c y, S'.childAt z = some i ∧ S'.ps[i]? = some (c, y) ∧ y.st = 6 ∧ S2 = ({ S'.setPs (S'.ps.eraseIdx i) with last := S'.last } : St).setP q.1 (told z y) ∧ G2 = pb c y :: G := by
         rcases hcase with h | h
         · exact h.2
         · rw [ht'] at h; exact absurd h.1 (by simp)
       have hget := get_of hG'.pn hz
       have hG2 : Good { S'.setPs (S'.ps.eraseIdx i) with last := S'.last } := hG'.erase hcy (by omega)
       have hzi : (q.1, z) ∈ S'.ps.eraseIdx i := by
         obtain ⟨j, hj⟩ := List.getElem?_of_mem hz
         have hji : j ≠ i := fun e => by subst e; rw [hj] at hcy; simp at hcy; have := hcy.2; subst this; omega
         rw [List.mem_eraseIdx_iff_getElem?]
         exact ⟨j, hji, hj⟩
       have hG3 : Good (({ S'.setPs (S'.ps.eraseIdx i) with last := S'.last } : St).setP q.1 (told z y)) := hG2.like hzi rfl rfl
       have hz3 : (q.1, told z y) ∈ (({ S'.setPs (S'.ps.eraseIdx i) with last := S'.last } : St).setP q.1 (told z y)).ps := mem_setP_self hzi
       have hn2 : S'.parent1 q.1 = (({ S'.setPs (S'.ps.eraseIdx i) with last := S'.last } : St).setP q.1 (told z y)).wake1 q.1 (told z y) := by
         unfold St.parent1; rw [hget]; simp only [h2, if_true, hi, hcy, St.take]
       rw [hn2] at hnext
       co_applyP oc rfl rfl rfl (g2 K _ _ _ _ q.1 (told z y) hN hR2 hz3 (hG3.lv _ hz3) (hG3.r8 (hG3.lv _ hz3)) (fun e _ => slot_ne _ (hG3.lv _ hz3)))
       rintro _ _ _ ⟨rfl, rfl, A3, hr2, hR3⟩
       co_applyP o_nil
       change wpE ..
       co_applyP c_region
       co_applyP oy rfl E_add
       co_applyP oy rfl E_mv
       co_applyP o_nil
       change ∃ k', k' < _ ∧ _
       refine ⟨k - 1, by omega, rfl, l1 ++ [q], l2, A3, pb c y :: G, by simp [hl], ?_, ?_, ?_, by simp; omega, ?_⟩
       · rw [hnext]; exact hR3
       · rw [hnext]; exact hG3.wake1 hz3 (by show z.st ≠ 1; omega)
       · intro r hr
         rcases hall r hr with ⟨w, hw⟩ | ⟨w, hw, h6⟩
         · by_cases erc : r.1 = c
           · exact .inr ⟨y, by rw [erc]; exact List.mem_cons_self, hy6⟩
           · left
             have hwi : (r.1, w) ∈ S'.ps.eraseIdx i := by
               obtain ⟨j, hj⟩ := List.getElem?_of_mem hw
               have hji : j ≠ i := fun e => by subst e; rw [hj] at hcy; simp at hcy; exact erc hcy.1
               rw [List.mem_eraseIdx_iff_getElem?]
               exact ⟨j, hji, hj⟩
             have : r.1 ∈ (S.parents ((l1 ++ [q]).map (·.1))).ps.map (·.1) := by
               rw [hnext]
               show r.1 ∈ ((({ S'.setPs (S'.ps.eraseIdx i) with last := S'.last } : St).setP q.1 (told z y)).setP q.1 _).ps.map (·.1)
               rw [setP_fst, setP_fst]
               exact List.mem_map.2 ⟨_, hwi, rfl⟩
             obtain ⟨u, hu, he⟩ := List.mem_map.1 this
             exact ⟨u.2, by rw [← he]; exact hu⟩
         · exact .inr ⟨w, List.mem_cons_of_mem _ hw, h6⟩
       · rw [← elen]; rfl
     intro ht
     co_applyP c_skip
     change wpE ..
     co_applyP c_region
     co_applyP oy rfl E_add
     co_applyP oy rfl E_mv
     co_applyP o_nil
     change ∃ k', k' < _ ∧ _
     have ht' : t = false := by simpa using ht
     obtain ⟨rfl, rfl, hn2⟩ : S2 = S' ∧ G2 = G ∧ S'.parent1 q.1 = S' := by
       rcases hcase with h | h
       · rw [ht'] at h; exact absurd h.1 (by simp)
       · exact h.2
     rw [hn2] at hnext
     refine ⟨k - 1, by omega, rfl, l1 ++ [q], l2, A2, G2, by simp [hl], ?_, ?_, ?_, by simp; omega, ?_⟩
     · rw [hnext]; exact hR2
     · rw [hnext]; exact hG'
     · rw [hnext]; exact hall
     · rw [← elen]; rfl
 intro hlt
 co_applyP c_exit
 change ∃ v, resE .. = some v ∧ _
 cases l2 with
 | nil =>
   have e : l1 = S.ps := by rw [hl]; simp
   subst e
   exact ⟨_, rfl, rfl, rfl, hG', A', G, hall, hR'.less fun t ht => (List.mem_append.1 ht).elim (fun h => List.mem_append_left _ h) fun h => List.mem_append_right _ (List.mem_cons_of_mem _ h)⟩
 | cons q l2 => simp at hlt hlen; omega
end Go.Proofs.YtejkelcaljmnoaaGreatDoor
