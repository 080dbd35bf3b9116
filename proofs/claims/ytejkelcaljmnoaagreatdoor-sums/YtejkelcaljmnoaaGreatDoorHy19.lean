/-
  Part 19 of the proof.
  No condition but those that each statement names.
-/
import Derived.Test.YtejkelcaljmnoaaGreatDoorHy18
set_option maxRecDepth 100000
set_option linter.unusedVariables false
set_option linter.unusedSimpArgs false
set_option linter.unusedSectionVars false
namespace Go.Proofs.YtejkelcaljmnoaaGreatDoor
open Go.Conc Go.Hx Go.Lo
theorem join_s : ∃ n, ∀ {σ : Type} {F : Fam σ} {Δ : ∀ s, Dom (F.R s) (F.D s)} {main : Bool} {s : σ} (K : Nat) (A : Lay) (S : St) (Fr L : Frag) (b : Nat) (x : PS), (∀ cs, (Δ s).New (.cells cs 93)) → Rep K A S Fr L → (b, x) ∈ S.ps → x.lv < 3 → (S.rows x.lv).length ≤ 8 → (∀ e ∈ S.wt, slot e.1 ≠ x.lv + 1) →
   CallsL Δ Tryz.prog main 91 [.pointer (some ⟨K, 7, none⟩), ptr b].toArray n s L (fun s' v L' => s = s' ∧ v = .tuple #[] ∧ ∃ A', LRel A A' ∧ Rep K A' (S.setRow x.lv (S.rows x.lv ++ [b])) Fr L') := by
 apply Exists.intro
 intro σ F Δ main s K A S Fr L b x hN hR hb hlv h8 hw
 have hx5 := hR.pat hb (i := 5) rfl
 have hx5' : At L b 5 (.int .i64 (x.lv : Int)) := hx5
 have hrow : At L K (7 + x.lv) (slv (A.a (x.lv + 1)) (S.rows x.lv).length) := hR.kat (kc_row _ hlv)
 clear hx5
 co_applyP callsE 24 Tryz.func91 Tryz.ntmps91
 co_applyP c_draw [pb b x] 17 (nf := 0) mixed
 co_applyP tr (i := 0) rfl E_mv (pre_init (by simpa using hR.p _ hb))
 co_applyP tr (i := 1) rfl E_mv (pre_init (by simpa using hR.p _ hb))
 co_applyP tr (i := 2) rfl E_nc (pre_init (by simpa using hR.p _ hb))
 co_applyP tr (i := 3) rfl (E_fa (hf := fo_99_0)) (pre_init (by simpa using hR.p _ hb))
 co_applyP tr (i := 4) rfl (E_fa (hf := fo_49_5)) (pre_init (by simpa using hR.p _ hb))
 co_applyP tr (i := 5) rfl (E_ld (ht := ag_3)) (pre_init (by simpa using hR.p _ hb))
 co_applyP tr (i := 6) rfl E_mv (pre_init (by simpa using hR.p _ hb))
 co_applyP tr (i := 7) rfl E_mv (pre_init (by simpa using hR.p _ hb))
 co_applyP tr (i := 8) rfl E_nc (pre_init (by simpa using hR.p _ hb))
 co_applyP tr (i := 9) rfl (E_fa (hf := fo_99_0)) (pre_init (by simpa using hR.p _ hb))
 co_applyP tr (i := 10) rfl (E_fa (hf := fo_49_5)) (pre_init (by simpa using hR.p _ hb))
 co_applyP t0 (i := 11) rfl (E_ld (ht := ag_3)) (pre_init (by simpa using hR.p _ hb))
 co_applyP tr (i := 12) rfl E_nc (pre_init (by simpa using hR.p _ hb))
 co_applyP tr (i := 13) rfl (E_ixa Tryz.underlying112 sz_91) (pre_init (by simpa using hR.p _ hb))
 co_applyP t0 (i := 14) rfl (E_ld (ht := ag_91)) (pre_init (by simpa using hR.p _ hb))
 co_applyP tr (i := 15) rfl E_mv (pre_init (by simpa using hR.p _ hb))
 co_applyP tr (i := 18) rfl E_nc (pre_init (by simpa using hR.p _ hb))
 co_applyP te (i := 16) rfl (O_bs1 (hN _) (hx := rfl) (hu := Tryz.underlying91) (hs := sz_93) (hz := zr_93))
 rintro _ _ ⟨nb, hnb, rfl, rfl⟩
 refine ⟨pre_more (by simpa using hR.p _ hb) (fun t ht => List.mem_cons_of_mem _ ht), ?_⟩
 co_applyP anyE_nd
 intro hnd
 have hA := add_cons (o := .cells #[ptr b] 93) hR.fn hnb
 have hR1 := hR.add hA
 have hpne : (A.a (x.lv + 1)).b ≠ some b := hR1.row_ne hlv (hR1.p _ hb) (cells_ne' (by decide))
 have hkne : (A.a (x.lv + 1)).b ≠ some K := hR1.row_ne hlv hR1.k (cells_ne' (by decide))
 co_applyP te (i := 17) rfl (O_ap1 (c := b) (hnd := hnd) (hN := hN) (ha := hR1.rw _ hlv) (h8 := by omega) (hnb := hA.self))
 rintro _ _ ⟨a', rfl, hp⟩
 refine ⟨pre_late (by simpa using hp.sub _ (hR1.p _ hb) hpne), ?_⟩
 co_applyP to (i := 19) rfl ((E_ixa Tryz.underlying112 sz_91)) (pre_late (by simpa using hp.sub _ (hR1.p _ hb) hpne))
 co_applyP anyE_nd
 intro hnd'
 co_applyP te (i := 20) rfl (O_sm (hnd := hnd') (hm := hp.sub _ hR1.k hkne) (hi := by rw [ksize]; omega) (hp := slv_plain _ _) (hs := sz_91))
 rintro _ _ ⟨rfl, hU⟩
 refine ⟨pre_late (by simpa using hU.ne _ (hp.sub _ (hR1.p _ hb) hpne) (hR1.fn.ne (hR1.p _ hb) hR1.k (cells_ne (by decide)))), ?_⟩
 co_applyP td (by kernel_rfl)
 change ∃ v, resE .. = some v ∧ _
 refine ⟨_, rfl, rfl, rfl, A.setA (x.lv + 1) a', LRel.set A hlv a', ?_⟩
 refine hR1.setRow hlv hU.fn ?_ (fun t ht h1 h2 => hU.ne t (hp.sub t ht h2) h1) ?_ ?_ hw
 · rw [kst_row _ _ _ _ _ (by omega)]
   have := hU.self
   rw [kset_row _ hlv] at this
   simpa using this
 · exact hp.ok.mono fun c hc o ho => hU.ne _ ho fun e => by
     have h1 := hp.ok.mem hc
     have e' : c = K := e
     rw [e'] at h1
     exact cells_ne (by decide) (hp.fn _ _ _ _ _ h1 (hp.sub _ hR1.k hkne)).2
 · intro c hc
   rcases hp.d c hc with h1 | h1
   · exact .inl h1
   · refine .inr ⟨fun i hi => ?_, fun t ht => h1 t (hR1.fr t ht)⟩
     obtain ⟨ys, hy⟩ := hR1.al i c hi
     exact h1 _ hy rfl
theorem setRow_same (S : St) (l : Nat) : S.setRow l (S.rows l) = S := by
 have : put S.rows l (S.rows l) = S.rows := by funext j; unfold put; split <;> simp_all
 unfold St.setRow; rw [this]
theorem erase_at {l1 l2 : List Nat} {b : Nat} (hn : ∀ c ∈ l1, c ≠ b) : (l1 ++ b :: l2).erase b = l1 ++ l2 := by
 rw [List.erase_append_right _ (fun h => hn b h rfl)]; simp
theorem eraseIdx_mid {α : Type} {l1 l2 : List α} {b : α} : (l1 ++ b :: l2).eraseIdx l1.length = l1 ++ l2 := by rw [List.eraseIdx_append_of_length_le (Nat.le_refl _)]; simp
theorem map_eraseIdx {α β : Type} (f : α → β) (l : List α) (i : Nat) : (l.eraseIdx i).map f = (l.map f).eraseIdx i := by
 rw [List.eraseIdx_eq_take_drop_succ, List.eraseIdx_eq_take_drop_succ]; simp
theorem leave_s : ∃ n, ∀ {σ : Type} {F : Fam σ} {Δ : ∀ s, Dom (F.R s) (F.D s)} {main : Bool} {s : σ} (K : Nat) (A : Lay) (S : St) (Fr L : Frag) (b : Nat) (x : PS), Rep K A S Fr L → (b, x) ∈ S.ps → x.lv < 3 → (S.rows x.lv).length ≤ 8 → (∀ c ∈ S.rows x.lv, ∃ y, (c, y) ∈ S.ps) → (∀ e ∈ S.wt, slot e.1 ≠ x.lv + 1) →
   CallsL Δ Tryz.prog main 97 [.pointer (some ⟨K, 7, none⟩), ptr b].toArray n s L (fun s' v L' => s = s' ∧ v = .tuple #[] ∧ ∃ A', LRel A A' ∧ Rep K A' (S.setRow x.lv ((S.rows x.lv).erase b)) Fr L') := by
 obtain ⟨n1, g1⟩ := index_s
 obtain ⟨n2, g2⟩ := delete_s
 apply Exists.intro
 intro σ F Δ main s K A S Fr L b x hR hb hlv h8 hm hw
 have hx5 : At L b 5 (.int .i64 (x.lv : Int)) := hR.pat hb (i := 5) rfl
 have hrow : At L K (7 + x.lv) (slv (A.a (x.lv + 1)) (S.rows x.lv).length) := hR.kat (kc_row _ hlv)
 co_applyP callsE 33 Tryz.func97 Tryz.ntmps97
 co_applyP c_seq
 co_applyP c_drawq mixed
 co_applyP tr (i := 0) rfl E_mv pI
 co_applyP tr (i := 1) rfl E_mv pI
 co_applyP tr (i := 2) rfl E_nc pI
 co_applyP tr (i := 3) rfl (E_fa (hf := fo_99_0)) pI
 co_applyP tr (i := 4) rfl (E_fa (hf := fo_49_5)) pI
 co_applyP tr (i := 5) rfl (E_ld (ht := ag_3)) pI
 co_applyP tr (i := 6) rfl E_nc pI
 co_applyP tr (i := 7) rfl (E_ixa Tryz.underlying112 sz_91) pI
 co_applyP tr (i := 8) rfl (E_ld (ht := ag_91)) pI
 co_applyP tr (i := 9) rfl E_as pI
 co_applyP td (by kernel_rfl)
 change wpE ..
 co_applyP c_seq
 co_applyP c_region
 co_applyP oy rfl E_mv
 co_applyP oy rfl E_mv
 co_applyP oc rfl rfl rfl (g1 L (A.a (x.lv + 1)) (S.rows x.lv) b h8 (hR.rw _ hlv) (fun c hc => by obtain ⟨y, hy⟩ := hm c hc; exact ⟨y, hR.p _ hy⟩) ⟨x, hR.p _ hb⟩)
 rintro _ _ _ ⟨rfl, rfl, rfl⟩
 co_applyP oy rfl E_as
 co_applyP o_nil
 change wpE ..
 co_applyP c_seq
 co_applyP c_region
 co_applyP oy rfl E_mv
 co_applyP oy rfl E_geq
 co_applyP o_nil
 change wpE ..
 co_applyP c_if rfl
 intro hi
 · by_cases hin : b ∈ S.rows x.lv
   · obtain ⟨l1, l2, hl, hn⟩ := List.eq_append_cons_of_mem hin
     have hn' : ∀ c ∈ l1, c ≠ b := fun c hc e => hn (e ▸ hc)
     have hix : idx (S.rows x.lv) b = (l1.length : Int) := idx_at hl hn' rfl
     have hll : l1.length < (S.rows x.lv).length := by rw [hl]; simp
     have hwr : IntKind.i64.wrap ((l1.length : Int) + 1) = (l1.length : Int) + 1 := by simp [IntKind.wrap_i64]; omega
     cases hQ : (A.a (x.lv + 1)).b with
     | none =>
       have := hR.rw _ hlv
       unfold slOk at this
       rw [hQ] at this
       rw [hl] at this; simp at this
     | some Q =>
       have hQm := (hR.rw _ hlv).mem hQ
       have hsv : slv (A.a (x.lv + 1)) (S.rows x.lv).length = .slice (some ⟨Q, 0, none⟩) ((S.rows x.lv).map ptr).length (((S.rows x.lv).map ptr).length + (A.a (x.lv + 1)).junk.length) := by unfold slv; rw [hQ]; simp
       have hpQ : b ≠ Q := fun e => hR.row_ne hlv (hR.p _ hb) (cells_ne' (by decide)) (by rw [hQ, e])
       have hkQ : K ≠ Q := fun e => hR.row_ne hlv hR.k (cells_ne' (by decide)) (by rw [hQ, e])
       rw [hix, hsv]
       co_applyP c_draw [pb b x] 10 mixed
       co_applyP tr (i := 0) rfl E_mv (pre_init (by simpa using hR.p _ hb))
       co_applyP tr (i := 1) rfl E_mv (pre_init (by simpa using hR.p _ hb))
       co_applyP tr (i := 2) rfl E_nc (pre_init (by simpa using hR.p _ hb))
       co_applyP tr (i := 3) rfl (E_fa (hf := fo_99_0)) (pre_init (by simpa using hR.p _ hb))
       co_applyP tr (i := 4) rfl (E_fa (hf := fo_49_5)) (pre_init (by simpa using hR.p _ hb))
       co_applyP tr (i := 5) rfl (E_ld (ht := ag_3)) (pre_init (by simpa using hR.p _ hb))
       co_applyP tr (i := 6) rfl E_mv (pre_init (by simpa using hR.p _ hb))
       co_applyP tr (i := 7) rfl E_mv (pre_init (by simpa using hR.p _ hb))
       co_applyP tr (i := 8) rfl E_mv (pre_init (by simpa using hR.p _ hb))
       co_applyP tr (i := 9) rfl E_add (pre_init (by simpa using hR.p _ hb))
       co_applyP tr (i := 11) rfl E_nc (pre_init (by simpa using hR.p _ hb))
       rw [hwr]
       co_applyP tc (i := 10) rfl rfl rfl (g2 L Q ((S.rows x.lv).map ptr) (A.a (x.lv + 1)).junk l1.length (by simpa using hll) (by simp; omega) (by simp [plainV]) hQm)
       rintro _ _ _ ⟨rfl, rfl, hU⟩
       refine ⟨pre_late (by simpa using hU.ne _ (hR.p _ hb) hpQ), ?_⟩
       co_applyP to (i := 12) rfl ((E_ixa Tryz.underlying112 sz_91)) (pre_late (by simpa using hU.ne _ (hR.p _ hb) hpQ))
       co_applyP anyE_nd
       intro hnd
       co_applyP te (i := 13) rfl (O_sm (hnd := hnd) (hm := hU.ne _ hR.k hkQ) (hi := by rw [ksize]; omega) (hs := sz_91))
       rintro _ _ ⟨rfl, hU'⟩
       refine ⟨pre_late (by simpa using hU'.ne _ (hU.ne _ (hR.p _ hb) hpQ) (hR.fn.ne (hR.p _ hb) hR.k (cells_ne (by decide)))), ?_⟩
       co_applyP td (by kernel_rfl)
       change ∃ v, resE .. = some v ∧ _
       have her : (S.rows x.lv).erase b = (S.rows x.lv).eraseIdx l1.length := by rw [hl, erase_at hn', eraseIdx_mid]
       have hlen' : ((S.rows x.lv).eraseIdx l1.length).length = (S.rows x.lv).length - 1 := by rw [List.length_eraseIdx]; simp [hll]
       refine ⟨_, rfl, rfl, rfl, A.setA (x.lv + 1) ⟨some Q, .pointer none :: (A.a (x.lv + 1)).junk⟩, LRel.set A hlv _, ?_⟩
       rw [her]
       refine hR.setRow hlv hU'.fn ?_ (fun t ht h1 h2 => hU'.ne t (hU.ne t ht fun e => h2 (by rw [hQ, e])) h1) ?_ (fun c hc => .inl (by rw [hQ]; exact hc)) hw
       · rw [kst_row _ _ _ _ _ (by omega)]
         have := hU'.self
         rw [kset_row _ hlv] at this
         have e9 : slv ⟨some Q, .pointer none :: (A.a (x.lv + 1)).junk⟩ ((S.rows x.lv).eraseIdx l1.length).length = .slice (some ⟨Q, 0, none⟩) (((S.rows x.lv).map ptr).length - 1) (((S.rows x.lv).map ptr).length + (A.a (x.lv + 1)).junk.length) := by
           unfold slv; simp [hlen']; omega
         rw [e9]; exact this
       · have := hU'.ne _ hU.self (Ne.symm hkQ)
         show (Q, true, _) ∈ _
         rw [map_eraseIdx]
         exact this
   · rw [idx_none (fun c hc e => hin (by rw [← e]; exact hc))] at hi
     simp at hi
 intro hi
 co_applyP c_skip
 change ∃ v, resE .. = some v ∧ _
 refine ⟨_, rfl, rfl, rfl, A, LRel.refl A, ?_⟩
 have hni : b ∉ S.rows x.lv := fun hin => by
   obtain ⟨l1, l2, hl, hn⟩ := List.eq_append_cons_of_mem hin
   rw [idx_at hl (fun c hc e => hn (by rw [← e]; exact hc)) rfl] at hi
   simp at hi
 rw [List.erase_of_not_mem hni, setRow_same]
 exact hR
theorem setP_setP (S : St) (b : Nat) (x y : PS) : (S.setP b x).setP b y = S.setP b y := by
 unfold St.setP
 simp only [List.map_map]
 congr 1
 apply List.map_congr_left
 intro q _
 simp only [Function.comp]
 split <;> simp_all
theorem mem_setP_ex {S : St} {b c : Nat} {x : PS} (h : ∃ y, (c, y) ∈ S.ps) : ∃ y, (c, y) ∈ (S.setP b x).ps := by
 obtain ⟨y, hy⟩ := h
 simp only [St.setP, List.mem_map]
 by_cases e : c = b
 · exact ⟨x, (c, y), hy, by simp [e]⟩
 · exact ⟨y, (c, y), hy, by simp [e]⟩
theorem wake_s : ∃ n, ∀ {σ : Type} {F : Fam σ} {Δ : ∀ s, Dom (F.R s) (F.D s)} {main : Bool} {s : σ} (K : Nat) (A : Lay) (S : St) (Fr L : Frag) (b : Nat) (x : PS), (∀ cs, (Δ s).New (.cells cs 93)) → Rep K A S Fr L → (b, x) ∈ S.ps → x.lv < 3 → (S.rows x.lv).length ≤ 8 → (∀ e ∈ S.wt, slot e.1 ≠ x.lv + 1) →
   CallsL Δ Tryz.prog main 75 [ptr K, ptr b].toArray n s L (fun s' v L' => s = s' ∧ v = .tuple #[] ∧ ∃ A', LRel A A' ∧ Rep K A' ((S.setP b { x with st := 1, used := 0 }).setRow x.lv (S.rows x.lv ++ [b])) Fr L') := by
 obtain ⟨n1, g1⟩ := join_s
 apply Exists.intro
 intro σ F Δ main s K A S Fr L b x hN hR hb hlv h8 hw
 co_applyP callsE 17 Tryz.func75 Tryz.ntmps75
 co_applyP c_seq
 co_applyP c_region
 co_applyP oy rfl E_mv
 co_applyP oy rfl E_nc
 co_applyP oy rfl (E_fa (hf := fo_99_0))
 co_applyP oy rfl (E_fa (hf := fo_49_2))
 co_applyP osm rfl (hs := sz_3) (hm := hR.p _ hb) (hi := by first | decide | (rw [psize]; omega) | (rw [ksize]; omega))
 intro L1 hU
 have hR1 := hR.setP (x' := { x with st := 1 }) hb hU
 co_applyP o_nil
 change wpE ..
 co_applyP c_seq
 co_applyP c_region
 co_applyP oy rfl E_mv
 co_applyP oy rfl E_nc
 co_applyP oy rfl (E_fa (hf := fo_99_0))
 co_applyP oy rfl (E_fa (hf := fo_49_6))
 co_applyP osm rfl (hs := sz_3) (hm := hR1.p _ (mem_setP_self hb)) (hi := by first | decide | (rw [psize]; omega) | (rw [ksize]; omega))
 intro L2 hU2
 have hR2 := hR1.setP (x' := { x with st := 1, used := 0 }) (mem_setP_self hb) hU2
 rw [setP_setP] at hR2
 co_applyP o_nil
 change wpE ..
 co_applyP c_region
 co_applyP oy rfl E_mv
 co_applyP oy rfl E_nc
 co_applyP oy rfl (E_fa (hf := fo_115_4))
 co_applyP oy rfl E_mv
 co_applyP oc rfl rfl rfl (g1 K A _ Fr L2 b _ hN hR2 (mem_setP_self hb) hlv h8 hw)
 rintro _ _ _ ⟨rfl, rfl, A', hr, hR3⟩
 co_applyP o_nil
 change ∃ v, resE .. = some v ∧ _
 exact ⟨_, rfl, rfl, rfl, A', hr, hR3⟩
theorem stop_s : ∃ n, ∀ {σ : Type} {F : Fam σ} {Δ : ∀ s, Dom (F.R s) (F.D s)} {main : Bool} {s : σ} (K : Nat) (A : Lay) (S : St) (Fr L : Frag) (b : Nat) (x : PS) (st : Nat), Rep K A S Fr L → (b, x) ∈ S.ps → x.lv < 3 → (S.rows x.lv).length ≤ 8 → (∀ c ∈ S.rows x.lv, ∃ y, (c, y) ∈ S.ps) → (∀ e ∈ S.wt, slot e.1 ≠ x.lv + 1) →
   CallsL Δ Tryz.prog main 107 [ptr K, ptr b, .int .i64 st].toArray n s L (fun s' v L' => s = s' ∧ v = .tuple #[] ∧ ∃ A', LRel A A' ∧ Rep K A' ((S.setP b { x with st := st }).setRow x.lv ((S.rows x.lv).erase b)) Fr L') := by
 obtain ⟨n1, g1⟩ := leave_s
 apply Exists.intro
 intro σ F Δ main s K A S Fr L b x st hR hb hlv h8 hm hw
 co_applyP callsE 16 Tryz.func107 Tryz.ntmps107
 co_applyP c_seq
 co_applyP c_region
 co_applyP oy rfl E_mv
 co_applyP oy rfl E_nc
 co_applyP oy rfl (E_fa (hf := fo_115_4))
 co_applyP oy rfl E_mv
 co_applyP oc rfl rfl rfl (g1 K A S Fr L b x hR hb hlv h8 hm hw)
 rintro _ _ _ ⟨rfl, rfl, A', hr, hR1⟩
 co_applyP o_nil
 change wpE ..
 co_applyP c_region
 co_applyP oy rfl E_mv
 co_applyP oy rfl E_mv
 co_applyP oy rfl E_nc
 co_applyP oy rfl (E_fa (hf := fo_99_0))
 co_applyP oy rfl (E_fa (hf := fo_49_2))
 co_applyP osm rfl (hs := sz_3) (hm := hR1.p _ hb) (hi := by first | decide | (rw [psize]; omega) | (rw [ksize]; omega))
 intro L2 hU2
 have hR2 := hR1.setP (x' := { x with st := st }) hb hU2
 co_applyP o_nil
 change ∃ v, resE .. = some v ∧ _
 exact ⟨_, rfl, rfl, rfl, A', hr, hR2⟩
def St.turn (S : St) (b : Nat) (x : PS) : St :=
 if (x.used : Int) < S.sl x.lv then S
 else
   let lv := min (x.lv + 1) 2
   let S1 := (S.setRow x.lv ((S.rows x.lv).erase b)).setP b { x with lv := lv, used := 0 }
   S1.setRow lv (S1.rows lv ++ [b])
theorem kc_sl (k : KS) {l : Nat} (hl : l < 3) : (kcells k)[l]? = some (.int .i64 (k.sl l)) := by
 rcases l with _ | _ | _ | l
 · rfl
 · rfl
 · rfl
 · omega
theorem turn_s : ∃ n, ∀ {σ : Type} {F : Fam σ} {Δ : ∀ s, Dom (F.R s) (F.D s)} {main : Bool} {s : σ} (K : Nat) (A : Lay) (S : St) (Fr L : Frag) (b : Nat) (x : PS), (∀ cs, (Δ s).New (.cells cs 93)) → Rep K A S Fr L → (b, x) ∈ S.ps → x.lv < 3 → (∀ l, l < 3 → (S.rows l).length ≤ 8) → (∀ c ∈ S.rows x.lv, ∃ y, (c, y) ∈ S.ps) → (∀ e ∈ S.wt, ∀ l, l < 3 → slot e.1 ≠ l + 1) →
   CallsL Δ Tryz.prog main 86 [ptr K, ptr b].toArray n s L (fun s' v L' => s = s' ∧ v = .tuple #[] ∧ ∃ A', LRel A A' ∧ Rep K A' (S.turn b x) Fr L') := by
 obtain ⟨n1, g1⟩ := leave_s
 obtain ⟨n2, g2⟩ := join_s
 apply Exists.intro
 intro σ F Δ main s K A S Fr L b x hN hR hb hlv h8 hm hw
 have hx5 : At L b 5 (.int .i64 (x.lv : Int)) := hR.pat hb (i := 5) rfl
 have hx6 : At L b 6 (.int .i64 (x.used : Int)) := hR.pat hb (i := 6) rfl
 have hsl : At L K x.lv (.int .i64 (S.sl x.lv)) := hR.kat (kc_sl _ hlv)
 co_applyP callsE 46 Tryz.func86 Tryz.ntmps86
 co_applyP c_seq
 co_applyP c_seq
 co_applyP c_drawq mixed
 co_applyP tr (i := 0) rfl E_mv pI
 co_applyP tr (i := 1) rfl E_nc pI
 co_applyP tr (i := 2) rfl (E_fa (hf := fo_99_0)) pI
 co_applyP tr (i := 3) rfl (E_fa (hf := fo_49_6)) pI
 co_applyP tr (i := 4) rfl (E_ld (ht := ag_3)) pI
 co_applyP tr (i := 5) rfl E_mv pI
 co_applyP tr (i := 6) rfl E_mv pI
 co_applyP tr (i := 7) rfl E_nc pI
 co_applyP tr (i := 8) rfl (E_fa (hf := fo_99_0)) pI
 co_applyP tr (i := 9) rfl (E_fa (hf := fo_49_5)) pI
 co_applyP tr (i := 10) rfl (E_ld (ht := ag_3)) pI
 co_applyP tr (i := 11) rfl E_nc pI
 co_applyP tr (i := 12) rfl (E_fa (hf := fo_115_0)) pI
 co_applyP tr (i := 13) rfl (E_fa (hf := fo_26_0)) pI
 co_applyP tr (i := 14) rfl (E_ixa Tryz.underlying24 sz_3) pI
 co_applyP tr (i := 15) rfl (E_ld (ht := ag_3)) pI
 co_applyP tr (i := 16) rfl E_lss pI
 co_applyP td (by kernel_rfl)
 change wpE ..
 co_applyP c_if rfl
 intro hc
 co_applyP c_ret
 change ∃ v, resE .. = some v ∧ _
 · refine ⟨_, rfl, rfl, rfl, A, LRel.refl A, ?_⟩
   have : (x.used : Int) < S.sl x.lv := by simpa using hc
   unfold St.turn; rw [if_pos this]; exact hR
 intro hc
 have hnl : ¬ (x.used : Int) < S.sl x.lv := by simpa using hc
 have emin : (if (2 : Int) < IntKind.i64.wrap ((x.lv : Int) + 1) then (2 : Int) else IntKind.i64.wrap ((x.lv : Int) + 1)) = ((min (x.lv + 1) 2 : Nat) : Int) := by
   have : IntKind.i64.wrap ((x.lv : Int) + 1) = (x.lv : Int) + 1 := by simp [IntKind.wrap_i64]; omega
   rw [this]; split <;> omega
 co_applyP c_skip
 change wpE ..
 co_applyP c_seq
 co_applyP c_region
 co_applyP oy rfl E_mv
 co_applyP oy rfl E_nc
 co_applyP oy rfl (E_fa (hf := fo_115_4))
 co_applyP oy rfl E_mv
 co_applyP oc rfl rfl rfl (g1 K A S Fr L b x hR hb hlv (h8 _ hlv) hm (fun e he => hw e he _ hlv))
 rintro _ _ _ ⟨rfl, rfl, A1, hr1, hR1⟩
 have hx5' := hR1.pat hb (i := 5) rfl
 have hx5'' : At _ b 5 (.int .i64 (x.lv : Int)) := hx5'
 clear hx5' hx5 hx6 hsl
 co_applyP o_nil
 change wpE ..
 co_applyP c_seq
 co_applyP c_region
 co_applyP oy rfl E_mv
 co_applyP oy rfl E_mv
 co_applyP oy rfl E_nc
 co_applyP oy rfl (E_fa (hf := fo_99_0))
 co_applyP oy rfl (E_fa (hf := fo_49_5))
 co_applyP oy rfl (E_ld (ht := ag_3))
 co_applyP oy rfl E_add
 co_applyP oy rfl E_min
 co_applyP oy rfl E_nc
 co_applyP oy rfl (E_fa (hf := fo_99_0))
 co_applyP oy rfl (E_fa (hf := fo_49_5))
 rw [emin]
 co_applyP osm rfl (hs := sz_3) (hm := hR1.p _ hb) (hi := by first | decide | (rw [psize]; omega) | (rw [ksize]; omega))
 intro L1 hU
 have hR2 := hR1.setP (x' := { x with lv := min (x.lv + 1) 2 }) hb hU
 co_applyP o_nil
 change wpE ..
 co_applyP c_seq
 co_applyP c_region
 co_applyP oy rfl E_mv
 co_applyP oy rfl E_nc
 co_applyP oy rfl (E_fa (hf := fo_99_0))
 co_applyP oy rfl (E_fa (hf := fo_49_6))
 co_applyP osm rfl (hs := sz_3) (hm := hR2.p _ (mem_setP_self hb)) (hi := by first | decide | (rw [psize]; omega) | (rw [ksize]; omega))
 intro L2 hU2
 have hR3 := hR2.setP (x' := { x with lv := min (x.lv + 1) 2, used := 0 }) (mem_setP_self hb) hU2
 rw [setP_setP] at hR3
 have hmin : min (x.lv + 1) 2 < 3 := by omega
 co_applyP o_nil
 change wpE ..
 co_applyP c_region
 co_applyP oy rfl E_mv
 co_applyP oy rfl E_nc
 co_applyP oy rfl (E_fa (hf := fo_115_4))
 co_applyP oy rfl E_mv
 co_applyP oc rfl rfl rfl (g2 K A1 _ Fr L2 b _ hN hR3 (mem_setP_self hb) hmin (by show (put S.rows x.lv ((S.rows x.lv).erase b) (min (x.lv + 1) 2)).length ≤ 8; unfold put; split; exact Nat.le_trans (List.length_erase_le) (h8 _ hlv); exact h8 _ hmin) (fun e he => hw e he _ hmin))
 rintro _ _ _ ⟨rfl, rfl, A3, hr3, hR4⟩
 co_applyP o_nil
 change ∃ v, resE .. = some v ∧ _
 refine ⟨_, rfl, rfl, rfl, A3, hr1.trans hr3, ?_⟩
 unfold St.turn; rw [if_neg hnl]; exact hR4
theorem nodup_len : ∀ {l m : List Nat}, l.Nodup → (∀ x ∈ l, x ∈ m) → l.length ≤ m.length
 | [], _, _, _ => by simp
 | x :: l, m, hn, hs => by
   have hx := hs x List.mem_cons_self
   have h1 := nodup_len (l := l) (m := m.erase x) (List.nodup_cons.1 hn).2 fun y hy => (List.mem_erase_of_ne fun e => (List.nodup_cons.1 hn).1 (by rw [← e]; exact hy)).2 (hs y (List.mem_cons_of_mem _ hy))
   have h2 := List.length_erase_of_mem hx
   have h3 := List.length_pos_of_mem hx
   simp only [List.length_cons]
   omega
def St.get (S : St) (b : Nat) : Option PS := (S.ps.find? fun q => q.1 == b).map (·.2)
structure Good (S : St) : Prop where
 pn : (S.ps.map (·.1)).Nodup
 p8 : S.ps.length ≤ 8
 lv : ∀ q ∈ S.ps, q.2.lv < 3
 rn : ∀ l, l < 3 → (S.rows l).Nodup
 rm : ∀ l, l < 3 → ∀ c ∈ S.rows l, ∃ y, (c, y) ∈ S.ps ∧ y.lv = l ∧ y.st = 1
 rr : ∀ q ∈ S.ps, q.2.st = 1 → q.1 ∈ S.rows q.2.lv
section
variable {S : St}
theorem get_of {b : Nat} {x : PS} (hn : (S.ps.map (·.1)).Nodup) (h : (b, x) ∈ S.ps) : S.get b = some x := by
 unfold St.get
 cases hf : S.ps.find? fun q => q.1 == b with
 | none =>
   have := List.find?_eq_none.1 hf (b, x) h
   simp at this
 | some q =>
   have h1 := List.mem_of_find?_eq_some hf
   have h2 := List.find?_some hf
   obtain ⟨c, y⟩ := q
   have e : c = b := by simpa using h2
   subst e
   simp [nodup_val hn h1 h]
theorem mem_of_get {b : Nat} {x : PS} (h : S.get b = some x) : (b, x) ∈ S.ps := by
 unfold St.get at h
 obtain ⟨q, hq, rfl⟩ := Option.map_eq_some_iff.1 h
 have h2 := List.find?_some hq
 have e : q.1 = b := by simpa using h2
 subst e
 exact List.mem_of_find?_eq_some hq
theorem Good.r8 (h : Good S) {l : Nat} (hl : l < 3) : (S.rows l).length ≤ 8 := by
 have := nodup_len (m := S.ps.map (·.1)) (h.rn l hl) fun c hc => by
   obtain ⟨y, hy, _⟩ := h.rm l hl c hc
   exact List.mem_map.2 ⟨_, hy, rfl⟩
 have h8 := h.p8
 simp at this
 omega
theorem Good.ex (h : Good S) {l : Nat} (hl : l < 3) : ∀ c ∈ S.rows l, ∃ y, (c, y) ∈ S.ps := fun c hc => by
 obtain ⟨y, hy, _⟩ := h.rm l hl c hc
 exact ⟨y, hy⟩
theorem slot_ne (k : Nat × Nat) {l : Nat} (hl : l < 3) : slot k ≠ l + 1 := by unfold slot; omega
def St.wake1 (S : St) (b : Nat) (x : PS) : St := (S.setP b { x with st := 1, used := 0 }).setRow x.lv (S.rows x.lv ++ [b])
theorem Good.wake1 (h : Good S) {b : Nat} {x : PS} (hb : (b, x) ∈ S.ps) (hs : x.st ≠ 1) : Good (S.wake1 b x) := by
 have hlv := h.lv _ hb
 have hnr : ∀ l, l < 3 → b ∉ S.rows l := fun l hl hm => by
   obtain ⟨y, hy, _, h1⟩ := h.rm l hl b hm
   rw [nodup_val h.pn hb hy] at hs
   exact hs h1
 have rows : ∀ l, (S.wake1 b x).rows l = if l = x.lv then S.rows x.lv ++ [b] else S.rows l := fun l => rfl
 refine ⟨by unfold St.wake1 St.setRow; rw [setP_fst]; exact h.pn, by unfold St.wake1 St.setRow; rw [setP_len]; exact h.p8, fun q hq => ?_, fun l hl => ?_, fun l hl c hc => ?_, fun q hq h1 => ?_⟩
 · rcases mem_setP hq with rfl | ⟨h1, _⟩
   · exact hlv
   · exact h.lv q h1
 · rw [rows]
   split
   · rename_i e
     refine List.nodup_append.2 ⟨h.rn _ hlv, by simp, fun a ha c hc => ?_⟩
     simp at hc
     subst hc
     exact fun e => hnr _ hlv (e ▸ ha)
   · exact h.rn l hl
 · rw [rows] at hc
   have old : ∀ l', l' < 3 → c ∈ S.rows l' → ∃ y, (c, y) ∈ (S.setP b { x with st := 1, used := 0 }).ps ∧ y.lv = l' ∧ y.st = 1 := fun l' hl' hc' => by
     obtain ⟨y, hy, h1, h2⟩ := h.rm l' hl' c hc'
     refine ⟨y, ?_, h1, h2⟩
     simp only [St.setP, List.mem_map]
     refine ⟨(c, y), hy, ?_⟩
     rw [if_neg]
     rintro rfl
     exact hnr l' hl' hc'
   split at hc
   · rename_i e
     subst e
     rcases List.mem_append.1 hc with h1 | h1
     · exact old _ hl h1
     · simp at h1
       subst h1
       exact ⟨_, mem_setP_self hb, rfl, rfl⟩
   · exact old l hl hc
 · rw [rows]
   rcases mem_setP hq with rfl | ⟨h2, h3⟩
   · simp
   · have := h.rr q h2 h1
     split
     · rename_i e; rw [e] at this; exact List.mem_append_left _ this
     · exact this
end
def St.wakes (S : St) : List Nat → St
 | [] => S
 | b :: bs => St.wakes (match S.get b with
   | some x => if x.st = 3 ∧ x.til = S.now then S.wake1 b x else S
   | none => S) bs
theorem wakes_append (S : St) (l m : List Nat) : S.wakes (l ++ m) = (S.wakes l).wakes m := by
 induction l generalizing S with
 | nil => rfl
 | cons b l ih => simp only [List.cons_append, St.wakes]; exact ih _
structure WRel (S S' : St) : Prop where
 f : S'.ps.map (·.1) = S.ps.map (·.1)
 now : S'.now = S.now
theorem WRel.refl (S : St) : WRel S S := ⟨rfl, rfl⟩
theorem wake1_rel (S : St) (b : Nat) (x : PS) : WRel S (S.wake1 b x) := ⟨setP_fst S b _, rfl⟩
theorem wakeSleepers_s : ∃ n, ∀ {σ : Type} {F : Fam σ} {Δ : ∀ s, Dom (F.R s) (F.D s)} {main : Bool} {s : σ} (K : Nat) (A : Lay) (S : St) (Fr L : Frag), (∀ cs, (Δ s).New (.cells cs 93)) → Rep K A S Fr L → Good S →
   CallsL Δ Tryz.prog main 80 [ptr K].toArray n s L (fun s' v L' => s = s' ∧ v = .tuple #[] ∧ Good (S.wakes (S.ps.map (·.1))) ∧ WRel S (S.wakes (S.ps.map (·.1))) ∧ ∃ A', LRel A A' ∧ Rep K A' (S.wakes (S.ps.map (·.1))) Fr L') := by
 obtain ⟨n1, g1⟩ := wake_s
 apply Exists.intro
 intro σ F Δ main s K A S Fr L hN hR hG
 obtain ⟨base, cap, hv, hat0⟩ := slv_view hR.pa
 simp only [List.length_map] at hv
 have h5 : At L K 5 (.slice base S.ps.length cap) := by rw [← hv]; exact hR.kat rfl
 co_applyP callsE 34 Tryz.func80 Tryz.ntmps80
 co_applyP c_seq
 co_applyP c_region
 co_applyP oy rfl E_mv
 co_applyP oy rfl E_nc
 co_applyP oy rfl (E_fa (hf := fo_115_2))
 co_applyP oy rfl (E_ld (ht := ag_91))
 co_applyP oy rfl (E_len (hu := Tryz.underlying91))
 co_applyP oy rfl E_mv
 co_applyP o_nil
 change wpE ..
 co_applyP c_block
 co_applyP c_loop (fun k s' ε' L' => s' = s ∧ ∃ l1 l2 A', S.ps = l1 ++ l2 ∧ LRel A A' ∧ Rep K A' (S.wakes (l1.map (·.1))) Fr L' ∧ Good (S.wakes (l1.map (·.1))) ∧ WRel S (S.wakes (l1.map (·.1))) ∧ k + l1.length = 8 ∧ kn ε' [(9, .int .i64 l1.length), (8, .int .i64 S.ps.length), (7, .slice base S.ps.length cap), (0, ptr K)]) 8
 · exact ⟨rfl, [], S.ps, A, rfl, LRel.refl A, hR, hG, WRel.refl S, rfl, rfl⟩
 rintro k s' ε' L' ⟨rfl, l1, l2, A', hl, hr, hR', hG', hW', hk, he⟩
 co_applyP wpE_kn he
 have hlen := congrArg List.length hl
 simp only [List.length_append] at hlen
 have h8 := hR.p8
 co_applyP c_seq
 co_applyP c_region
 co_applyP oy rfl E_lss
 co_applyP o_nil
 change wpE ..
 co_applyP c_seq
 co_applyP c_if rfl
 intro hc
 · cases l2 with
   | nil => simp at hc hlen; omega
   | cons q l2 =>
     have hat : ∃ b, base = some ⟨b, 0, none⟩ ∧ At L' b l1.length (ptr q.1) := by
       obtain ⟨b, hb1, hb2, _⟩ := hat0 l1.length (ptr q.1) (by rw [hl]; simp)
       have hpa := hR'.pa
       obtain ⟨base', cap', _, hat'⟩ := slv_view hpa
       have e1 : (S.wakes (l1.map (·.1))).ps.map (fun q => ptr q.1) = S.ps.map fun q => ptr q.1 := by
         have := congrArg (List.map ptr) hW'.f
         rw [List.map_map, List.map_map] at this
         exact this
       obtain ⟨b', hb1', _, hv'⟩ := hat' l1.length (ptr q.1) (by rw [e1, hl]; simp)
       rw [hr.a 0 (.inl rfl), hb1] at hb1'
       obtain rfl : b = b' := by simpa using hb1'
       exact ⟨b, hb2, hv'⟩
     obtain ⟨ab, rfl, hav⟩ := hat
     simp at hlen
     have hmem : q.1 ∈ (S.wakes (l1.map (·.1))).ps.map (·.1) := by rw [hW'.f, hl]; simp
     obtain ⟨⟨b, x⟩, hbx, hbq⟩ := List.mem_map.1 hmem
     have hbq' : b = q.1 := hbq
     subst hbq'
     have hx2 : At L' q.1 2 (.int .i64 (x.st : Int)) := hR'.pat hbx (i := 2) rfl
     have hx91 : At L' q.1 91 (.int .i64 x.til) := hR'.pat hbx (i := 91) rfl
     have hk16 : At L' K 16 (.int .i64 ((S.wakes (l1.map (·.1))).now : Int)) := hR'.kat rfl
     have hget := get_of hG'.pn hbx
     co_applyP c_skip
     change wpE ..
     co_applyP c_seq
     co_applyP c_block
     co_applyP c_seq
     co_applyP c_region
     co_applyP oy rfl (E_ixs Tryz.underlying91 sz_93)
     co_applyP oy rfl (E_ld (ht := ag_93))
     co_applyP oy rfl E_as
     co_applyP o_nil
     change wpE ..
     co_applyP c_seq
     co_applyP c_cut ([(29, .bool (decide (x.st = 3 ∧ x.til = (S.wakes (l1.map (·.1))).now))), (3, ptr q.1), (9, .int .i64 l1.length), (8, .int .i64 S.ps.length), (7, .slice (some ⟨ab, 0, none⟩) S.ps.length cap), (0, ptr K)])
     co_applyP c_drawq mixed
     co_applyP tr (i := 0) rfl E_mv pI
     co_applyP tr (i := 1) rfl E_nc pI
     co_applyP tr (i := 2) rfl (E_fa (hf := fo_99_0)) pI
     co_applyP tr (i := 3) rfl (E_fa (hf := fo_49_2)) pI
     co_applyP tr (i := 4) rfl (E_ld (ht := ag_3)) pI
     co_applyP tr (i := 5) rfl E_eql pI
     co_applyP tr (i := 6) rfl E_mv pI
     · by_cases h3 : x.st = 3
       · have e3 : ((x.st : Int) == 3) = true := by simp [h3]
         rw [e3]
         co_applyP tr (i := 7) rfl (E_mv) pI
         co_applyP tr (i := 8) rfl (E_nc) pI
         co_applyP tr (i := 9) rfl ((E_fa (hf := fo_99_3))) pI
         co_applyP tr (i := 10) rfl ((E_ld (ht := ag_3))) pI
         co_applyP tr (i := 11) rfl (E_mv) pI
         co_applyP tr (i := 12) rfl (E_nc) pI
         co_applyP tr (i := 13) rfl ((E_fa (hf := fo_115_7))) pI
         co_applyP tr (i := 14) rfl ((E_ld (ht := ag_3))) pI
         co_applyP tr (i := 15) rfl (E_eql) pI
         co_applyP tr (i := 16) rfl E_pick pI
         co_applyP td (by kernel_rfl)
         change _ = _ ∧ _ = _ ∧ kn _ _
         refine ⟨rfl, rfl, ?_⟩
         have e4 : (x.til == ((S.wakes (l1.map (·.1))).now : Int)) = decide (x.st = 3 ∧ x.til = (S.wakes (l1.map (·.1))).now) := by rw [Bool.eq_iff_iff]; simp [h3]
         rw [← e4]; rfl
       · have e3 : ((x.st : Int) == 3) = false := by simp; omega
         rw [e3]
         co_applyP tu (i := 7) rfl pI
         co_applyP tu (i := 8) rfl pI
         co_applyP tu (i := 9) rfl pI
         co_applyP tu (i := 10) rfl pI
         co_applyP tu (i := 11) rfl pI
         co_applyP tu (i := 12) rfl pI
         co_applyP tu (i := 13) rfl pI
         co_applyP tu (i := 14) rfl pI
         co_applyP tu (i := 15) rfl pI
         co_applyP tr (i := 16) rfl E_pick pI
         co_applyP td (by kernel_rfl)
         change _ = _ ∧ _ = _ ∧ kn _ _
         refine ⟨rfl, rfl, ?_⟩
         have e4 : false = decide (x.st = 3 ∧ x.til = (S.wakes (l1.map (·.1))).now) := by simp [h3]
         rw [← e4]; rfl
     have hnext : S.wakes ((l1 ++ [q]).map (·.1)) = if x.st = 3 ∧ x.til = (S.wakes (l1.map (·.1))).now then (S.wakes (l1.map (·.1))).wake1 q.1 x else S.wakes (l1.map (·.1)) := by
       rw [List.map_append, wakes_append]
       show St.wakes (match (S.wakes (l1.map (·.1))).get q.1 with | some x => _ | none => _) [] = _
       rw [hget]; rfl
     have elen : IntKind.i64.wrap ((l1.length : Int) + 1) = ((l1 ++ [q]).length : Int) := by simp [IntKind.wrap_i64]; omega
     co_applyP c_if rfl
     intro hw
     co_applyP c_region
     co_applyP oy rfl E_mv
     co_applyP oy rfl E_mv
     co_applyP oc rfl rfl rfl (g1 K A' _ Fr L' q.1 x hN hR' hbx (hG'.lv _ hbx) (hG'.r8 (hG'.lv _ hbx)) (fun e _ => slot_ne _ (hG'.lv _ hbx)))
     rintro _ _ _ ⟨rfl, rfl, A2, hr2, hR2⟩
     co_applyP o_nil
     change wpE ..
     co_applyP c_region
     co_applyP oy rfl E_add
     co_applyP oy rfl E_mv
     co_applyP o_nil
     change ∃ k', k' < _ ∧ _
     have hw' : x.st = 3 ∧ x.til = (S.wakes (l1.map (·.1))).now := by simpa using hw
     rw [if_pos hw'] at hnext
     refine ⟨k - 1, by omega, rfl, l1 ++ [q], l2, A2, by simp [hl], hr.trans hr2, ?_, ?_, ?_, by simp; omega, ?_⟩
     · rw [hnext]; exact hR2
     · rw [hnext]; exact hG'.wake1 hbx (by omega)
     · rw [hnext]; exact ⟨(wake1_rel _ _ _).f.trans hW'.f, (wake1_rel _ _ _).now.trans hW'.now⟩
     · rw [← elen]; rfl
     intro hw
     co_applyP c_skip
     change wpE ..
     co_applyP c_region
     co_applyP oy rfl E_add
     co_applyP oy rfl E_mv
     co_applyP o_nil
     change ∃ k', k' < _ ∧ _
     have hw' : ¬ (x.st = 3 ∧ x.til = (S.wakes (l1.map (·.1))).now) := by simpa using hw
     rw [if_neg hw'] at hnext
     refine ⟨k - 1, by omega, rfl, l1 ++ [q], l2, A', by simp [hl], hr, ?_, ?_, ?_, by simp; omega, ?_⟩
     · rw [hnext]; exact hR'
     · rw [hnext]; exact hG'
     · rw [hnext]; exact hW'
     · rw [← elen]; rfl
 intro hc
 co_applyP c_exit
 change ∃ v, resE .. = some v ∧ _
 cases l2 with
 | nil =>
   have e : l1 = S.ps := by rw [hl]; simp
   subst e
   exact ⟨_, rfl, rfl, rfl, hG', hW', A', hr, hR'⟩
 | cons q l2 => simp at hc hlen; omega
end Go.Proofs.YtejkelcaljmnoaaGreatDoor
