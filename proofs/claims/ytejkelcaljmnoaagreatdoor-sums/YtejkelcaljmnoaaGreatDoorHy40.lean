/-
  Part 40 of the proof.
  No condition but those that each statement names.
-/
import Derived.Test.YtejkelcaljmnoaaGreatDoorHy39
set_option maxRecDepth 100000
set_option linter.unusedVariables false
set_option linter.unusedSimpArgs false
set_option linter.unusedSectionVars false
namespace Go.Proofs.YtejkelcaljmnoaaGreatDoor
open Go.Conc Go.Hx Go.Lo
def PS.next (x : PS) : PS := { x with at_ := x.at_ + 1 }
theorem Running.setP {S : St} {b : Nat} {x x' : PS} (h : Running S b x) (hs : x'.st = x.st) (hl : x'.lv = x.lv) (hr : x'.r = x.r) (hf : x'.f = x.f) (hm : x'.m = x.m) : Running (S.setP b x') b x' :=
 ⟨h.i.alike h.m hs hl hr hf hm, mem_setP_self h.m, hs.trans h.s, h.o, h.n, h.l⟩
theorem step_t0 : ∃ n, ∀ {p : Par} {Sh : Loc → Prop} {E Dn : Nat} {PostB : World → Prop} {Aft : Goroutine → World → Prop} {W : World} {O : Nat} {G0 : List (Nat × Obj)} {vs : List Value} (K : Nat) (A : Lay) (S : St) (Fr L : Frag) (eb : Nat → Nat × Nat) (b : Nat) (x : PS), (∀ s, NewT (domT Tryz.prog p Sh E Dn PostB Aft W O G0 s)) → Rep K A S Fr L → Ers eb Fr → Running S b x → x.at_ < S.pn → S.pn ≤ 256 → S.pg x.at_ 0 = 9 → (S.setP b x.next).grantV b x.next (S.pg x.at_ 1) = none →
   CallsL (domT Tryz.prog p Sh E Dn PostB Aft W O G0) Tryz.prog false 85 [ptr K, ptr b, .chan (some E)].toArray n ((S.setP b x.next).grantE b x.next (S.pg x.at_ 1) ++ vs) L (fun s' v L' => vs = s' ∧ v = .nilIface ∧ ∃ A' G c, (∀ q ∈ S.ps, c ≠ q.1) ∧ Stays b ((S.setP b x.next).grantS b x.next (S.pg x.at_ 1) c) G ∧ Rep K A' ((S.setP b x.next).grantS b x.next (S.pg x.at_ 1) c) (G ++ Fr) L') := by
 obtain ⟨n0, g0⟩ := trap_0
 apply Exists.intro
 intro p Sh E Dn PostB Aft W O G0 vs K A S Fr L eb b x hN hR hE hu hp h256 h9 hV
 have hb := hu.m
 have hat : At L b 4 (.int .i64 (x.at_ : Nat)) := hR.pat hb (i := 4) rfl
 have hpg : At L K 4 (.slice (some ⟨A.g, 0, none⟩) S.pn A.gcap) := hR.kat rfl
 have e1 : decide ((S.pn : Int) ≤ (x.at_ : Int)) = false := by simp; omega
 obtain ⟨hge, hgs⟩ := gext hR hp
 have hRm : ∀ t ∈ [kb K (kst A S), pb b x, (A.g, true, Obj.cells A.gc 158)], t ∈ L := fun t ht => by
   simp only [List.mem_cons, List.mem_nil_iff, or_false] at ht
   rcases ht with rfl | rfl | rfl
   · exact hR.k
   · exact hR.p _ hb
   · exact hR.g
 have hatR : At [kb K (kst A S), pb b x, (A.g, true, Obj.cells A.gc 158)] b 4 (.int .i64 (x.at_ : Nat)) := ⟨true, _, _, _, List.mem_cons_of_mem _ List.mem_cons_self, rfl⟩
 have hpgR : At [kb K (kst A S), pb b x, (A.g, true, Obj.cells A.gc 158)] K 4 (.slice (some ⟨A.g, 0, none⟩) S.pn A.gcap) := ⟨true, _, _, _, List.mem_cons_self, rfl⟩
 have hgR : (A.g, true, Obj.cells A.gc 158) ∈ [kb K (kst A S), pb b x, (A.g, true, Obj.cells A.gc 158)] := List.mem_cons_of_mem _ (List.mem_cons_of_mem _ List.mem_cons_self)
 have eo : x.at_ * 4 = 4 * x.at_ := by omega
 have hlt : ((x.at_ : Nat) : Int) < (S.pn : Nat) := by omega
 co_applyP callsE 52 Tryz.func85 Tryz.ntmps85
 co_applyP c_seq
 co_applyP c_region
 co_applyP oy rfl E_as
 co_applyP o_nil
 change wpE ..
 co_applyP c_seq
 co_applyP c_seq
 co_applyP c_drawq mixed
 co_applyP tr (i := 0) rfl E_mv pI
 co_applyP tr (i := 1) rfl E_nc pI
 co_applyP tr (i := 2) rfl (E_fa (hf := fo_99_0)) pI
 co_applyP tr (i := 3) rfl (E_fa (hf := fo_49_4)) pI
 co_applyP tr (i := 4) rfl (E_ld (ht := ag_3)) pI
 co_applyP tr (i := 5) rfl E_mv pI
 co_applyP tr (i := 6) rfl E_nc pI
 co_applyP tr (i := 7) rfl (E_fa (hf := fo_115_1)) pI
 co_applyP tr (i := 8) rfl (E_ld (ht := ag_108)) pI
 co_applyP tr (i := 9) rfl (E_len (hu := Tryz.underlying108)) pI
 co_applyP tr (i := 10) rfl E_geq pI
 co_applyP td (by kernel_rfl)
 change wpE ..
 rw [e1]
 co_applyP c_false rfl
 co_applyP c_skip
 change wpE ..
 co_applyP c_seq
 co_applyP c_draw [kb K (kst A S), pb b x, (A.g, true, Obj.cells A.gc 158)] 11 (nf := 0) mixed
 co_applyP tr (i := 0) rfl E_mv (pre_init hRm)
 co_applyP tr (i := 1) rfl E_nc (pre_init hRm)
 co_applyP tr (i := 2) rfl (E_fa (hf := fo_115_1)) (pre_init hRm)
 co_applyP tr (i := 3) rfl (E_ld (ht := ag_108)) (pre_init hRm)
 co_applyP tr (i := 4) rfl E_mv (pre_init hRm)
 co_applyP tr (i := 5) rfl E_nc (pre_init hRm)
 co_applyP tr (i := 6) rfl (E_fa (hf := fo_99_0)) (pre_init hRm)
 co_applyP tr (i := 7) rfl (E_fa (hf := fo_49_4)) (pre_init hRm)
 co_applyP tr (i := 8) rfl (E_ld (ht := ag_3)) (pre_init hRm)
 co_applyP tr (i := 9) rfl (E_ixs Tryz.underlying108 sz_158) (pre_init hRm)
 co_applyP tr (i := 10) rfl (E_lda (ht := ag_158) (hs := sz_158) (hm := hgR) (hi := by omega)) (pre_init hRm)
 co_applyP tadd (i := 11) rfl (O_new (z := insnv 0 0 0 0) ((hN _).i _))
 intro nb L1 hA1
 refine ⟨pre_late fun t ht => hA1.sub _ (hRm t ht), ?_⟩
 co_applyP anyE_nd
 intro hnd1
 co_applyP te (i := 12) rfl (O_sa (hs := sz_158) (vs := [.int .u8 (S.pg x.at_ 0), .int .u8 (S.pg x.at_ 1), .int .u8 (S.pg x.at_ 2), .int .u8 (S.pg x.at_ 3)]) (hy := by rw [eo, hge]; rfl) (hnd := hnd1) (hm := hA1.self) (hi := Nat.le_refl _))
 rintro _ _ ⟨rfl, hU2⟩
 refine ⟨pre_late fun t ht => hU2.ne _ (hA1.sub _ (hRm t ht)) (hA1.new _ (hRm t ht)), ?_⟩
 rename_i L2
 have hR2 := hR.of hU2.fn fun t ht => hU2.ne _ (hA1.sub _ ht) (hA1.new _ ht)
 have hn2 : (nb, true, Obj.cells #[.int .u8 (S.pg x.at_ 0), .int .u8 (S.pg x.at_ 1), .int .u8 (S.pg x.at_ 2), .int .u8 (S.pg x.at_ 3)] 158) ∈ L2 := hU2.self
 have hn20 : At L2 nb 0 (.int .u8 (S.pg x.at_ 0)) := ⟨true, _, _, _, hn2, rfl⟩
 have hnbb : nb ≠ b := fun e => hA1.new _ (hR.p _ hb) e.symm
 have e9 : (S.pg x.at_ 0 == 9) = true := by simp [h9]
 have w1 : IntKind.i64.wrap ((x.at_ : Int) + 1) = ((x.at_ + 1 : Nat) : Int) := by simp [IntKind.wrap_i64]; omega
 have hat2 : At L2 b 4 (.int .i64 (x.at_ : Nat)) := hR2.pat hb (i := 4) rfl
 co_applyP td (by kernel_rfl)
 change wpE ..
 co_applyP c_seq (n₂ := 0)
 co_applyP c_seq
 co_applyP c_region
 co_applyP oy rfl (E_fa (hf := fo_158_0))
 co_applyP oy rfl (E_ld (ht := ag_5))
 co_applyP oy rfl E_eql
 co_applyP o_nil
 change wpE ..
 rw [e9]
 co_applyP c_true rfl
 co_applyP c_seq
 co_applyP c_region
 co_applyP oy rfl E_mv
 co_applyP oy rfl E_nc
 co_applyP oy rfl (E_fa (hf := fo_99_0))
 co_applyP oy rfl (E_fa (hf := fo_49_4))
 co_applyP oy rfl (E_ld (ht := ag_3))
 co_applyP oy rfl E_add
 co_applyP oy rfl E_nc
 co_applyP oy rfl (E_fa (hf := fo_99_0))
 co_applyP oy rfl (E_fa (hf := fo_49_4))
 rw [w1]
 co_applyP osm rfl (hs := sz_3) (hm := hR2.p _ hb) (hi := by first | decide | (rw [psize]; omega) | (rw [ksize]; omega))
 intro L3 hU3
 have hR3 := hR2.setP (x' := x.next) hb (by unfold PS.next; rw [← pset_at]; exact hU3)
 have hn31 : At L3 nb 1 (.int .u8 (S.pg x.at_ 1)) := ⟨true, _, _, _, hU3.ne _ hn2 hnbb, rfl⟩
 have hu3 : Running (S.setP b x.next) b x.next := hu.setP rfl rfl rfl rfl rfl
 have hcf : ∀ c, (∀ q ∈ (S.setP b x.next).ps, c ≠ q.1) → ∀ q ∈ S.ps, c ≠ q.1 := fun c h q hq e => by
   have : q.1 ∈ (S.setP b x.next).ps.map (·.1) := by rw [setP_fst]; exact List.mem_map.2 ⟨q, hq, rfl⟩
   obtain ⟨q', hq', e'⟩ := List.mem_map.1 this
   exact h q' hq' (by rw [e, ← e'])
 co_applyP o_nil
 change wpE ..
 co_applyP c_seq
 co_applyP c_region
 co_applyP oy rfl E_mv
 co_applyP oy rfl E_mv
 co_applyP oy rfl (E_fa (hf := fo_158_1))
 co_applyP oy rfl (E_ld (ht := ag_5))
 co_applyP oy rfl E_mv
 co_applyP oc rfl rfl rfl (g0 K A _ Fr L3 eb b x.next (S.pg x.at_ 1) hN hR3 hE hu3 hV)
 rintro _ _ _ ⟨rfl, rfl, A4, G, c, hc, hst, hR4⟩
 co_applyP oy rfl E_as
 co_applyP o_nil
 change wpE ..
 co_applyP c_ret
 change ∃ v, resE .. = some v ∧ _
 exact ⟨_, rfl, rfl, rfl, A4, G, c, hcf c hc, hst, hR4⟩
theorem step_t1 : ∃ n, ∀ {p : Par} {Sh : Loc → Prop} {E Dn : Nat} {PostB : World → Prop} {Aft : Goroutine → World → Prop} {W : World} {O : Nat} {G0 : List (Nat × Obj)} {vs : List Value} (K : Nat) (A : Lay) (S : St) (Fr L : Frag) (eb : Nat → Nat × Nat) (b : Nat) (x : PS) (i : Nat), (∀ s, NewT (domT Tryz.prog p Sh E Dn PostB Aft W O G0 s)) → Rep K A S Fr L → Ers eb Fr → Running S b x → x.at_ < S.pn → S.pn ≤ 256 → S.pg x.at_ 0 = 9 → (S.setP b x.next).grantV b x.next (S.pg x.at_ 1) = some i →
   CallsL (domT Tryz.prog p Sh E Dn PostB Aft W O G0) Tryz.prog false 85 [ptr K, ptr b, .chan (some E)].toArray n ((S.setP b x.next).grantE b x.next (S.pg x.at_ 1) ++ vs) L (fun s' v L' => vs = s' ∧ ∃ r, v = .iface 180 (ptr r) ∧ At L' r 1 (erv eb i) ∧ ∃ A' G c, (∀ q ∈ S.ps, c ≠ q.1) ∧ Stays b ((S.setP b x.next).grantS b x.next (S.pg x.at_ 1) c) G ∧ Rep K A' ((S.setP b x.next).grantS b x.next (S.pg x.at_ 1) c) (G ++ Fr) L') := by
 obtain ⟨n0, g0⟩ := trap_1
 apply Exists.intro
 intro p Sh E Dn PostB Aft W O G0 vs K A S Fr L eb b x i hN hR hE hu hp h256 h9 hV
 have hb := hu.m
 have hat : At L b 4 (.int .i64 (x.at_ : Nat)) := hR.pat hb (i := 4) rfl
 have hpg : At L K 4 (.slice (some ⟨A.g, 0, none⟩) S.pn A.gcap) := hR.kat rfl
 have e1 : decide ((S.pn : Int) ≤ (x.at_ : Int)) = false := by simp; omega
 obtain ⟨hge, hgs⟩ := gext hR hp
 have hRm : ∀ t ∈ [kb K (kst A S), pb b x, (A.g, true, Obj.cells A.gc 158)], t ∈ L := fun t ht => by
   simp only [List.mem_cons, List.mem_nil_iff, or_false] at ht
   rcases ht with rfl | rfl | rfl
   · exact hR.k
   · exact hR.p _ hb
   · exact hR.g
 have hatR : At [kb K (kst A S), pb b x, (A.g, true, Obj.cells A.gc 158)] b 4 (.int .i64 (x.at_ : Nat)) := ⟨true, _, _, _, List.mem_cons_of_mem _ List.mem_cons_self, rfl⟩
 have hpgR : At [kb K (kst A S), pb b x, (A.g, true, Obj.cells A.gc 158)] K 4 (.slice (some ⟨A.g, 0, none⟩) S.pn A.gcap) := ⟨true, _, _, _, List.mem_cons_self, rfl⟩
 have hgR : (A.g, true, Obj.cells A.gc 158) ∈ [kb K (kst A S), pb b x, (A.g, true, Obj.cells A.gc 158)] := List.mem_cons_of_mem _ (List.mem_cons_of_mem _ List.mem_cons_self)
 have eo : x.at_ * 4 = 4 * x.at_ := by omega
 have hlt : ((x.at_ : Nat) : Int) < (S.pn : Nat) := by omega
 co_applyP callsE 52 Tryz.func85 Tryz.ntmps85
 co_applyP c_seq
 co_applyP c_region
 co_applyP oy rfl E_as
 co_applyP o_nil
 change wpE ..
 co_applyP c_seq
 co_applyP c_seq
 co_applyP c_drawq mixed
 co_applyP tr (i := 0) rfl E_mv pI
 co_applyP tr (i := 1) rfl E_nc pI
 co_applyP tr (i := 2) rfl (E_fa (hf := fo_99_0)) pI
 co_applyP tr (i := 3) rfl (E_fa (hf := fo_49_4)) pI
 co_applyP tr (i := 4) rfl (E_ld (ht := ag_3)) pI
 co_applyP tr (i := 5) rfl E_mv pI
 co_applyP tr (i := 6) rfl E_nc pI
 co_applyP tr (i := 7) rfl (E_fa (hf := fo_115_1)) pI
 co_applyP tr (i := 8) rfl (E_ld (ht := ag_108)) pI
 co_applyP tr (i := 9) rfl (E_len (hu := Tryz.underlying108)) pI
 co_applyP tr (i := 10) rfl E_geq pI
 co_applyP td (by kernel_rfl)
 change wpE ..
 rw [e1]
 co_applyP c_false rfl
 co_applyP c_skip
 change wpE ..
 co_applyP c_seq
 co_applyP c_draw [kb K (kst A S), pb b x, (A.g, true, Obj.cells A.gc 158)] 11 (nf := 0) mixed
 co_applyP tr (i := 0) rfl E_mv (pre_init hRm)
 co_applyP tr (i := 1) rfl E_nc (pre_init hRm)
 co_applyP tr (i := 2) rfl (E_fa (hf := fo_115_1)) (pre_init hRm)
 co_applyP tr (i := 3) rfl (E_ld (ht := ag_108)) (pre_init hRm)
 co_applyP tr (i := 4) rfl E_mv (pre_init hRm)
 co_applyP tr (i := 5) rfl E_nc (pre_init hRm)
 co_applyP tr (i := 6) rfl (E_fa (hf := fo_99_0)) (pre_init hRm)
 co_applyP tr (i := 7) rfl (E_fa (hf := fo_49_4)) (pre_init hRm)
 co_applyP tr (i := 8) rfl (E_ld (ht := ag_3)) (pre_init hRm)
 co_applyP tr (i := 9) rfl (E_ixs Tryz.underlying108 sz_158) (pre_init hRm)
 co_applyP tr (i := 10) rfl (E_lda (ht := ag_158) (hs := sz_158) (hm := hgR) (hi := by omega)) (pre_init hRm)
 co_applyP tadd (i := 11) rfl (O_new (z := insnv 0 0 0 0) ((hN _).i _))
 intro nb L1 hA1
 refine ⟨pre_late fun t ht => hA1.sub _ (hRm t ht), ?_⟩
 co_applyP anyE_nd
 intro hnd1
 co_applyP te (i := 12) rfl (O_sa (hs := sz_158) (vs := [.int .u8 (S.pg x.at_ 0), .int .u8 (S.pg x.at_ 1), .int .u8 (S.pg x.at_ 2), .int .u8 (S.pg x.at_ 3)]) (hy := by rw [eo, hge]; rfl) (hnd := hnd1) (hm := hA1.self) (hi := Nat.le_refl _))
 rintro _ _ ⟨rfl, hU2⟩
 refine ⟨pre_late fun t ht => hU2.ne _ (hA1.sub _ (hRm t ht)) (hA1.new _ (hRm t ht)), ?_⟩
 rename_i L2
 have hR2 := hR.of hU2.fn fun t ht => hU2.ne _ (hA1.sub _ ht) (hA1.new _ ht)
 have hn2 : (nb, true, Obj.cells #[.int .u8 (S.pg x.at_ 0), .int .u8 (S.pg x.at_ 1), .int .u8 (S.pg x.at_ 2), .int .u8 (S.pg x.at_ 3)] 158) ∈ L2 := hU2.self
 have hn20 : At L2 nb 0 (.int .u8 (S.pg x.at_ 0)) := ⟨true, _, _, _, hn2, rfl⟩
 have hnbb : nb ≠ b := fun e => hA1.new _ (hR.p _ hb) e.symm
 have e9 : (S.pg x.at_ 0 == 9) = true := by simp [h9]
 have w1 : IntKind.i64.wrap ((x.at_ : Int) + 1) = ((x.at_ + 1 : Nat) : Int) := by simp [IntKind.wrap_i64]; omega
 have hat2 : At L2 b 4 (.int .i64 (x.at_ : Nat)) := hR2.pat hb (i := 4) rfl
 co_applyP td (by kernel_rfl)
 change wpE ..
 co_applyP c_seq (n₂ := 0)
 co_applyP c_seq
 co_applyP c_region
 co_applyP oy rfl (E_fa (hf := fo_158_0))
 co_applyP oy rfl (E_ld (ht := ag_5))
 co_applyP oy rfl E_eql
 co_applyP o_nil
 change wpE ..
 rw [e9]
 co_applyP c_true rfl
 co_applyP c_seq
 co_applyP c_region
 co_applyP oy rfl E_mv
 co_applyP oy rfl E_nc
 co_applyP oy rfl (E_fa (hf := fo_99_0))
 co_applyP oy rfl (E_fa (hf := fo_49_4))
 co_applyP oy rfl (E_ld (ht := ag_3))
 co_applyP oy rfl E_add
 co_applyP oy rfl E_nc
 co_applyP oy rfl (E_fa (hf := fo_99_0))
 co_applyP oy rfl (E_fa (hf := fo_49_4))
 rw [w1]
 co_applyP osm rfl (hs := sz_3) (hm := hR2.p _ hb) (hi := by first | decide | (rw [psize]; omega) | (rw [ksize]; omega))
 intro L3 hU3
 have hR3 := hR2.setP (x' := x.next) hb (by unfold PS.next; rw [← pset_at]; exact hU3)
 have hn31 : At L3 nb 1 (.int .u8 (S.pg x.at_ 1)) := ⟨true, _, _, _, hU3.ne _ hn2 hnbb, rfl⟩
 have hu3 : Running (S.setP b x.next) b x.next := hu.setP rfl rfl rfl rfl rfl
 have hcf : ∀ c, (∀ q ∈ (S.setP b x.next).ps, c ≠ q.1) → ∀ q ∈ S.ps, c ≠ q.1 := fun c h q hq e => by
   have : q.1 ∈ (S.setP b x.next).ps.map (·.1) := by rw [setP_fst]; exact List.mem_map.2 ⟨q, hq, rfl⟩
   obtain ⟨q', hq', e'⟩ := List.mem_map.1 this
   exact h q' hq' (by rw [e, ← e'])
 co_applyP o_nil
 change wpE ..
 co_applyP c_seq
 co_applyP c_region
 co_applyP oy rfl E_mv
 co_applyP oy rfl E_mv
 co_applyP oy rfl (E_fa (hf := fo_158_1))
 co_applyP oy rfl (E_ld (ht := ag_5))
 co_applyP oy rfl E_mv
 co_applyP oc rfl rfl rfl (g0 K A _ Fr L3 eb b x.next (S.pg x.at_ 1) i hN hR3 hE hu3 hV)
 rintro _ _ _ ⟨rfl, r, rfl, hr, A4, G, c, hc, hst, hR4⟩
 co_applyP oy rfl E_as
 co_applyP o_nil
 change wpE ..
 co_applyP c_ret
 change ∃ v, resE .. = some v ∧ _
 exact ⟨_, rfl, rfl, r, rfl, hr, A4, G, c, hcf c hc, hst, hR4⟩
theorem step_d : ∃ n, ∀ {σ : Type} {F : Fam σ} {Δ : ∀ s, Dom (F.R s) (F.D s)} {main : Bool} {s : σ} (K : Nat) (A : Lay) (S : St) (Fr L : Frag) (eb : Nat → Nat × Nat) (b : Nat) (x : PS) (ch : Value), (∀ cs, (Δ s).New (.cells cs 158)) → Rep K A S Fr L → Ers eb Fr → Inv S → (b, x) ∈ S.ps → x.at_ < S.pn → S.pn ≤ 256 → S.pg x.at_ 0 ≠ 9 → (∀ j, j < 4 → 0 ≤ S.pg x.at_ j ∧ S.pg x.at_ j < 256) →
   CallsL Δ Tryz.prog main 85 [ptr K, ptr b, ch].toArray n s L (fun s' v L' => s = s' ∧ match x.do (S.pg x.at_ 0) (S.pg x.at_ 1) (S.pg x.at_ 2) (S.pg x.at_ 3) with
     | .ok x' => v = .nilIface ∧ Rep K A (S.setP b x') Fr L'
     | .error e => v = errv (erv eb 0) (erv eb 1) (erv eb 10) e ∧ Rep K A S Fr L') := by
 obtain ⟨n0, g0⟩ := do_s
 apply Exists.intro
 intro σ F Δ main s K A S Fr L eb b x ch hN158 hR hE hI hb hp h256 h9 hby
 have hat : At L b 4 (.int .i64 (x.at_ : Nat)) := hR.pat hb (i := 4) rfl
 have hpg : At L K 4 (.slice (some ⟨A.g, 0, none⟩) S.pn A.gcap) := hR.kat rfl
 have e1 : decide ((S.pn : Int) ≤ (x.at_ : Int)) = false := by simp; omega
 obtain ⟨hge, hgs⟩ := gext hR hp
 have hRm : ∀ t ∈ [kb K (kst A S), pb b x, (A.g, true, Obj.cells A.gc 158)], t ∈ L := fun t ht => by
   simp only [List.mem_cons, List.mem_nil_iff, or_false] at ht
   rcases ht with rfl | rfl | rfl
   · exact hR.k
   · exact hR.p _ hb
   · exact hR.g
 have hatR : At [kb K (kst A S), pb b x, (A.g, true, Obj.cells A.gc 158)] b 4 (.int .i64 (x.at_ : Nat)) := ⟨true, _, _, _, List.mem_cons_of_mem _ List.mem_cons_self, rfl⟩
 have hpgR : At [kb K (kst A S), pb b x, (A.g, true, Obj.cells A.gc 158)] K 4 (.slice (some ⟨A.g, 0, none⟩) S.pn A.gcap) := ⟨true, _, _, _, List.mem_cons_self, rfl⟩
 have hgR : (A.g, true, Obj.cells A.gc 158) ∈ [kb K (kst A S), pb b x, (A.g, true, Obj.cells A.gc 158)] := List.mem_cons_of_mem _ (List.mem_cons_of_mem _ List.mem_cons_self)
 have eo : x.at_ * 4 = 4 * x.at_ := by omega
 have hlt : ((x.at_ : Nat) : Int) < (S.pn : Nat) := by omega
 co_applyP callsE 52 Tryz.func85 Tryz.ntmps85
 co_applyP c_seq
 co_applyP c_region
 co_applyP oy rfl E_as
 co_applyP o_nil
 change wpE ..
 co_applyP c_seq
 co_applyP c_seq
 co_applyP c_drawq mixed
 co_applyP tr (i := 0) rfl E_mv pI
 co_applyP tr (i := 1) rfl E_nc pI
 co_applyP tr (i := 2) rfl (E_fa (hf := fo_99_0)) pI
 co_applyP tr (i := 3) rfl (E_fa (hf := fo_49_4)) pI
 co_applyP tr (i := 4) rfl (E_ld (ht := ag_3)) pI
 co_applyP tr (i := 5) rfl E_mv pI
 co_applyP tr (i := 6) rfl E_nc pI
 co_applyP tr (i := 7) rfl (E_fa (hf := fo_115_1)) pI
 co_applyP tr (i := 8) rfl (E_ld (ht := ag_108)) pI
 co_applyP tr (i := 9) rfl (E_len (hu := Tryz.underlying108)) pI
 co_applyP tr (i := 10) rfl E_geq pI
 co_applyP td (by kernel_rfl)
 change wpE ..
 rw [e1]
 co_applyP c_false rfl
 co_applyP c_skip
 change wpE ..
 co_applyP c_seq
 co_applyP c_draw [kb K (kst A S), pb b x, (A.g, true, Obj.cells A.gc 158)] 11 (nf := 0) mixed
 co_applyP tr (i := 0) rfl E_mv (pre_init hRm)
 co_applyP tr (i := 1) rfl E_nc (pre_init hRm)
 co_applyP tr (i := 2) rfl (E_fa (hf := fo_115_1)) (pre_init hRm)
 co_applyP tr (i := 3) rfl (E_ld (ht := ag_108)) (pre_init hRm)
 co_applyP tr (i := 4) rfl E_mv (pre_init hRm)
 co_applyP tr (i := 5) rfl E_nc (pre_init hRm)
 co_applyP tr (i := 6) rfl (E_fa (hf := fo_99_0)) (pre_init hRm)
 co_applyP tr (i := 7) rfl (E_fa (hf := fo_49_4)) (pre_init hRm)
 co_applyP tr (i := 8) rfl (E_ld (ht := ag_3)) (pre_init hRm)
 co_applyP tr (i := 9) rfl (E_ixs Tryz.underlying108 sz_158) (pre_init hRm)
 co_applyP tr (i := 10) rfl (E_lda (ht := ag_158) (hs := sz_158) (hm := hgR) (hi := by omega)) (pre_init hRm)
 co_applyP tadd (i := 11) rfl (O_new (z := insnv 0 0 0 0) (hN158 _))
 intro nb L1 hA1
 refine ⟨pre_late fun t ht => hA1.sub _ (hRm t ht), ?_⟩
 co_applyP anyE_nd
 intro hnd1
 co_applyP te (i := 12) rfl (O_sa (hs := sz_158) (vs := [.int .u8 (S.pg x.at_ 0), .int .u8 (S.pg x.at_ 1), .int .u8 (S.pg x.at_ 2), .int .u8 (S.pg x.at_ 3)]) (hy := by rw [eo, hge]; rfl) (hnd := hnd1) (hm := hA1.self) (hi := Nat.le_refl _))
 rintro _ _ ⟨rfl, hU2⟩
 refine ⟨pre_late fun t ht => hU2.ne _ (hA1.sub _ (hRm t ht)) (hA1.new _ (hRm t ht)), ?_⟩
 rename_i L2
 have hR2 := hR.of hU2.fn fun t ht => hU2.ne _ (hA1.sub _ ht) (hA1.new _ ht)
 have hn2 : (nb, true, Obj.cells #[.int .u8 (S.pg x.at_ 0), .int .u8 (S.pg x.at_ 1), .int .u8 (S.pg x.at_ 2), .int .u8 (S.pg x.at_ 3)] 158) ∈ L2 := hU2.self
 have hn20 : At L2 nb 0 (.int .u8 (S.pg x.at_ 0)) := ⟨true, _, _, _, hn2, rfl⟩
 have hnbb : nb ≠ b := fun e => hA1.new _ (hR.p _ hb) e.symm
 have e9 : (S.pg x.at_ 0 == 9) = false := by simp [h9]
 have hgl : ∀ i ∈ [0, 1, 10], ∃ fl cs ty fr, (i, fl, Obj.cells cs ty fr) ∈ Fr ∧ cs[0]? = some (errv (erv eb 0) (erv eb 1) (erv eb 10) i) := fun i hi => by
   simp only [List.mem_cons, List.mem_nil_iff, or_false] at hi
   rcases hi with rfl | rfl | rfl
   · exact hE.g 0 (by decide) (by decide)
   · exact hE.g 1 (by decide) (by decide)
   · exact hE.g 10 (by decide) (by decide)
 co_applyP td (by kernel_rfl)
 change wpE ..
 co_applyP c_seq
 co_applyP c_seq
 co_applyP c_region
 co_applyP oy rfl (E_fa (hf := fo_158_0))
 co_applyP oy rfl (E_ld (ht := ag_5))
 co_applyP oy rfl E_eql
 co_applyP o_nil
 change wpE ..
 rw [e9]
 co_applyP c_false rfl
 co_applyP c_skip
 change wpE ..
 co_applyP c_seq
 co_applyP c_region
 co_applyP oy rfl E_mv
 co_applyP oy rfl (E_lda (ht := ag_158) (hs := sz_158) (hm := hn2) (hi := Nat.le_refl _))
 co_applyP oc rfl rfl rfl (g0 K A S Fr L2 b x (S.pg x.at_ 0) (S.pg x.at_ 1) (S.pg x.at_ 2) (S.pg x.at_ 3) (erv eb 0) (erv eb 1) (erv eb 10) hN158 hR2 hb (hI.wf _ hb) (by omega) (hby 1 (by omega)) (hby 2 (by omega)) (hby 3 (by omega)) hgl ⟨_, _, rfl⟩)
 rintro _ _ _ ⟨rfl, hpost⟩
 co_applyP oy rfl E_as
 co_applyP o_nil
 change wpE ..
 co_applyP c_ret
 change ∃ v, resE .. = some v ∧ _
 exact ⟨_, rfl, rfl, hpost⟩
def St.wake (S : St) : St := S.wakes (S.ps.map (·.1))
def St.boosts (S : St) : Prop := 0 < S.now ∧ ((S.now : Nat) : Int).tmod S.bo = 0
instance (S : St) : Decidable S.boosts := inferInstanceAs (Decidable (_ ∧ _))
def St.boost (S : St) : St := if S.boosts then (S.lifts (S.ps.map (·.1))).raises 2 else S
def St.lead (S : St) : St := S.wake.boost
structure Fix (S S' : St) : Prop where
 sl : S'.sl = S.sl
 bo : S'.bo = S.bo
 pn : S'.pn = S.pn
 pg : S'.pg = S.pg
 now : S'.now = S.now
theorem Fix.refl (S : St) : Fix S S := ⟨rfl, rfl, rfl, rfl, rfl⟩
theorem Fix.trans {S T U : St} (h : Fix S T) (k : Fix T U) : Fix S U := ⟨k.sl.trans h.sl, k.bo.trans h.bo, k.pn.trans h.pn, k.pg.trans h.pg, k.now.trans h.now⟩
theorem fix_wakes : ∀ (bs : List Nat) (S : St), Fix S (S.wakes bs)
 | [], S => Fix.refl S
 | b :: bs, S => by
   unfold St.wakes
   refine Fix.trans ?_ (fix_wakes bs _)
   split
   · split
     · exact ⟨rfl, rfl, rfl, rfl, rfl⟩
     · exact Fix.refl S
   · exact Fix.refl S
theorem fix_lifts : ∀ (bs : List Nat) (S : St), Fix S (S.lifts bs)
 | [], S => Fix.refl S
 | b :: bs, S => by
   unfold St.lifts
   refine Fix.trans ?_ (fix_lifts bs _)
   split
   · split
     · exact ⟨rfl, rfl, rfl, rfl, rfl⟩
     · exact Fix.refl S
   · exact Fix.refl S
theorem fix_boost (S : St) : Fix S S.boost := by
 unfold St.boost
 split
 · exact (fix_lifts _ S).trans ⟨rfl, rfl, rfl, rfl, rfl⟩
 · exact Fix.refl S
theorem fix_lead (S : St) : Fix S S.lead := (fix_wakes _ S).trans (fix_boost _)
def St.doR (S : St) (x : PS) : Except Nat PS := x.do (S.pg x.at_ 0) (S.pg x.at_ 1) (S.pg x.at_ 2) (S.pg x.at_ 3)
def St.runE (S : St) (b : Nat) (x : PS) : List Value := if S.pn ≤ x.at_ then [evt S.now 4 x.id 65281] else if S.pg x.at_ 0 = 9 then (S.setP b x.next).grantE b x.next (S.pg x.at_ 1) else match S.doR x with
 | .ok _ => []
 | .error _ => [evt S.now 4 x.id 65281]
def St.runS (S : St) (b : Nat) (x : PS) (c : Nat) : St := if S.pn ≤ x.at_ then S.fin b x 65281 else if S.pg x.at_ 0 = 9 then (match (S.setP b x.next).grantV b x.next (S.pg x.at_ 1) with
   | some i => ((S.setP b x.next).grantS b x.next (S.pg x.at_ 1) c).r0 b (ansOf i)
   | none => (S.setP b x.next).grantS b x.next (S.pg x.at_ 1) c) else match S.doR x with
 | .ok x' => S.setP b x'
 | .error _ => S.fin b x 65281
def PS.more (z : PS) : PS := { z with used := z.used + 1 }
def St.after (S : St) (b : Nat) : St := match S.get b with
 | some z => if z.st = 1 then (S.setP b z.more).turn b z.more else S.setP b z.more
 | none => S
set_option maxHeartbeats 1000000 in
theorem tick_0 : ∃ n, ∀ {p : Par} {Sh : Loc → Prop} {E Dn : Nat} {PostB : World → Prop} {Aft : Goroutine → World → Prop} {W : World} {O : Nat} {G0 : List (Nat × Obj)} {vs : List Value} (K : Nat) (A : Lay) (S : St) (Fr L : Frag) (eb : Nat → Nat × Nat), (∀ s, NewT (domT Tryz.prog p Sh E Dn PostB Aft W O G0 s)) → Rep K A S Fr L → Ers eb Fr → Inv S → S.bo ≠ 0 → S.lead.first = none →
   CallsL (domT Tryz.prog p Sh E Dn PostB Aft W O G0) Tryz.prog false 63 [ptr K, .chan (some E)].toArray n (evt S.lead.now 2 0 0 :: vs) L (fun s' v L' => vs = s' ∧ v = .tuple #[] ∧ ∃ A', Rep K A' S.lead Fr L') := by
 obtain ⟨n0, g0⟩ := wakeSleepers_s
 obtain ⟨n1, g1⟩ := raise_s
 obtain ⟨n2, g2⟩ := first_s
 obtain ⟨n3, g3⟩ := tell_s
 apply Exists.intro
 intro p Sh E Dn PostB Aft W O G0 vs K A S Fr L eb hN hR hE hI hbo hf
 co_applyP callsE 75 Tryz.func63 Tryz.ntmps63
 co_applyP c_seq
 co_applyP c_region
 co_applyP oy rfl E_mv
 co_applyP oc rfl rfl rfl (g0 K A S Fr L (hN _).r hR hI.g)
 rintro _ _ _ ⟨rfl, rfl, hG1, hrel, A1, hl1, hR1⟩
 co_applyP o_nil
 change wpE ..
 rename_i L1
 have hbo' : (S.wakes (S.ps.map (·.1))).bo ≠ 0 := by rw [show (S.wakes (S.ps.map (·.1))).bo = S.bo from (fix_wakes _ S).bo]; exact hbo
 have hn1 : At L1 K 16 (.int .i64 ((S.wakes (S.ps.map (·.1))).now : Nat)) := hR1.kat rfl
 have hb1 : At L1 K 3 (.int .i64 (S.wakes (S.ps.map (·.1))).bo) := hR1.kat rfl
 co_applyP c_mid (fun s'' ε'' L'' => (evt S.lead.now 2 0 0 :: vs) = s'' ∧ kn ε'' [(0, ptr K), (1, .chan (some E))] ∧ ∃ A', Rep K A' S.lead Fr L'')
 co_applyP c_split (0 < (S.wakes (S.ps.map (·.1))).now)
 intro h0
 · have e0 : decide ((0 : Int) < ((S.wakes (S.ps.map (·.1))).now : Nat)) = true := by simp; omega
   co_applyP c_split ((((S.wakes (S.ps.map (·.1))).now : Nat) : Int).tmod (S.wakes (S.ps.map (·.1))).bo = 0)
   intro hm
   · have hB : S.lead = ((S.wakes (S.ps.map (·.1))).lifts ((S.wakes (S.ps.map (·.1))).ps.map (·.1))).raises 2 := by unfold St.lead St.boost; rw [if_pos (show S.wake.boosts from ⟨h0, hm⟩)]; rfl
     co_applyP c_seq
     co_applyP c_drawq mixed
     co_applyP tr (i := 0) rfl E_mv pI
     co_applyP tr (i := 1) rfl E_nc pI
     co_applyP tr (i := 2) rfl (E_fa (hf := fo_115_7)) pI
     co_applyP tr (i := 3) rfl (E_ld (ht := ag_3)) pI
     co_applyP tr (i := 4) rfl E_gtr pI
     co_applyP tr (i := 5) rfl E_mv pI
     rw [e0]
     co_applyP tr (i := 6) rfl (E_mv) pI
     co_applyP tr (i := 7) rfl (E_nc) pI
     co_applyP tr (i := 8) rfl ((E_fa (hf := fo_115_7))) pI
     co_applyP tr (i := 9) rfl ((E_ld (ht := ag_3))) pI
     co_applyP tr (i := 10) rfl (E_mv) pI
     co_applyP tr (i := 11) rfl (E_nc) pI
     co_applyP tr (i := 12) rfl ((E_fa (hf := fo_115_0))) pI
     co_applyP tr (i := 13) rfl ((E_fa (hf := fo_26_1))) pI
     co_applyP tr (i := 14) rfl ((E_ld (ht := ag_3))) pI
     co_applyP tr (i := 15) rfl (E_rem) pI
     co_applyP tr (i := 16) rfl (E_eql) pI
     co_applyP tr (i := 17) rfl E_pick pI
     co_applyP td (by kernel_rfl)
     change wpE ..
     rw [hm]
     co_applyP c_true rfl
     co_applyP c_region
     co_applyP oy rfl E_mv
     co_applyP oc rfl rfl rfl (g1 K A1 _ Fr L1 (hN _).r hR1 (fun l hl => hG1.r8 hl))
     rintro _ _ _ ⟨rfl, rfl, A2, hl2, hR2⟩
     co_applyP o_nil
     change _ = _ ∧ kn _ _ ∧ ∃ A', _
     exact ⟨rfl, rfl, A2, by rw [hB]; exact hR2⟩
   intro hm
   have hB : S.lead = S.wakes (S.ps.map (·.1)) := by unfold St.lead St.boost; rw [if_neg (fun h => hm h.2)]; rfl
   have em : ((((S.wakes (S.ps.map (·.1))).now : Nat) : Int).tmod (S.wakes (S.ps.map (·.1))).bo == 0) = false := by simp [hm]
   co_applyP c_seq
   co_applyP c_drawq mixed
   co_applyP tr (i := 0) rfl E_mv pI
   co_applyP tr (i := 1) rfl E_nc pI
   co_applyP tr (i := 2) rfl (E_fa (hf := fo_115_7)) pI
   co_applyP tr (i := 3) rfl (E_ld (ht := ag_3)) pI
   co_applyP tr (i := 4) rfl E_gtr pI
   co_applyP tr (i := 5) rfl E_mv pI
   rw [e0]
   co_applyP tr (i := 6) rfl (E_mv) pI
   co_applyP tr (i := 7) rfl (E_nc) pI
   co_applyP tr (i := 8) rfl ((E_fa (hf := fo_115_7))) pI
   co_applyP tr (i := 9) rfl ((E_ld (ht := ag_3))) pI
   co_applyP tr (i := 10) rfl (E_mv) pI
   co_applyP tr (i := 11) rfl (E_nc) pI
   co_applyP tr (i := 12) rfl ((E_fa (hf := fo_115_0))) pI
   co_applyP tr (i := 13) rfl ((E_fa (hf := fo_26_1))) pI
   co_applyP tr (i := 14) rfl ((E_ld (ht := ag_3))) pI
   co_applyP tr (i := 15) rfl (E_rem) pI
   co_applyP tr (i := 16) rfl (E_eql) pI
   co_applyP tr (i := 17) rfl E_pick pI
   co_applyP td (by kernel_rfl)
   change wpE ..
   rw [em]
   co_applyP c_false rfl
   co_applyP c_skip
   change _ = _ ∧ kn _ _ ∧ ∃ A', _
   exact ⟨rfl, rfl, A1, by rw [hB]; exact hR1⟩
 intro h0
 have e0 : decide ((0 : Int) < ((S.wakes (S.ps.map (·.1))).now : Nat)) = false := by simp; omega
 have hB : S.lead = S.wakes (S.ps.map (·.1)) := by unfold St.lead St.boost; rw [if_neg (fun h => h0 h.1)]; rfl
 co_applyP c_seq
 co_applyP c_drawq mixed
 co_applyP tr (i := 0) rfl E_mv pI
 co_applyP tr (i := 1) rfl E_nc pI
 co_applyP tr (i := 2) rfl (E_fa (hf := fo_115_7)) pI
 co_applyP tr (i := 3) rfl (E_ld (ht := ag_3)) pI
 co_applyP tr (i := 4) rfl E_gtr pI
 co_applyP tr (i := 5) rfl E_mv pI
 rw [e0]
 co_applyP tu (i := 6) rfl pI
 co_applyP tu (i := 7) rfl pI
 co_applyP tu (i := 8) rfl pI
 co_applyP tu (i := 9) rfl pI
 co_applyP tu (i := 10) rfl pI
 co_applyP tu (i := 11) rfl pI
 co_applyP tu (i := 12) rfl pI
 co_applyP tu (i := 13) rfl pI
 co_applyP tu (i := 14) rfl pI
 co_applyP tu (i := 15) rfl pI
 co_applyP tu (i := 16) rfl pI
 co_applyP tr (i := 17) rfl E_pick pI
 co_applyP td (by kernel_rfl)
 change wpE ..
 co_applyP c_false rfl
 co_applyP c_skip
 change _ = _ ∧ kn _ _ ∧ ∃ A', _
 exact ⟨rfl, rfl, A1, by rw [hB]; exact hR1⟩
 rintro _ ε2 L2 ⟨rfl, he2, A2, hR2⟩
 co_applyP wpE_kn he2
 co_applyP c_seq
 co_applyP c_region
 co_applyP oy rfl E_mv
 co_applyP oy rfl E_nc
 co_applyP oy rfl (E_fa (hf := fo_115_4))
 co_applyP oc rfl rfl rfl (g2 K A2 _ Fr L2 hR2)
 rintro _ _ _ ⟨rfl, rfl, rfl⟩
 rw [hf]
 co_applyP oy rfl E_as
 co_applyP o_nil
 change wpE ..
 co_applyP c_seq (n₂ := 0)
 co_applyP c_seq
 co_applyP c_region
 co_applyP oy rfl E_mv
 co_applyP oy rfl (E_eqn (hu := Tryz.underlying93))
 co_applyP o_nil
 change wpE ..
 co_applyP c_true rfl
 co_applyP c_seq
 co_applyP c_region
 co_applyP oy rfl E_mv
 co_applyP oy rfl E_mv
 co_applyP oc rfl rfl rfl (g3 K A2 _ Fr L2 2 0 0 hR2)
 rintro _ _ _ ⟨rfl, rfl, rfl⟩
 co_applyP o_nil
 change wpE ..
 co_applyP c_ret
 change ∃ v, resE .. = some v ∧ _
 exact ⟨_, rfl, rfl, rfl, A2, hR2⟩
end Go.Proofs.YtejkelcaljmnoaaGreatDoor
