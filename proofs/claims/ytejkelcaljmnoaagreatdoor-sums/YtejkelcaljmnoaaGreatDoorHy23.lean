/-
  Part 23 of the proof.
  No condition but those that each statement names.
-/
import Derived.Test.YtejkelcaljmnoaaGreatDoorHy22
import Derived.Test.YtejkelcaljmnoaaGreatDoorHy21
set_option maxRecDepth 100000
set_option linter.unusedVariables false
set_option linter.unusedSimpArgs false
set_option linter.unusedSectionVars false
namespace Go.Proofs.YtejkelcaljmnoaaGreatDoor
open Go.Conc Go.Hx Go.Lo
structure WGood (S : St) : Prop where
 kn : (S.wt.map (·.1)).Nodup
 kk : ∀ e ∈ S.wt, okKey e.1
 rl : ∀ e ∈ S.wt, e.2.length ≤ 8
 ne : ∀ e ∈ S.wt, e.2 ≠ []
 rm : ∀ e ∈ S.wt, ∀ c ∈ e.2, ∃ y, (c, y) ∈ S.ps
def departW (b : Nat) (k : Nat × Nat) (l : Wt) : Wt := l.filterMap fun e => if e.1 = k then (if (e.2.filter fun c => !decide (c = b)).length = 0 then none else some (k, e.2.filter fun c => !decide (c = b))) else some e
def St.depart (S : St) (b : Nat) (k : Nat × Nat) : St := S.setW (departW b k S.wt)
theorem departW_skip {b : Nat} {k : Nat × Nat} {l : Wt} (h : ∀ e ∈ l, e.1 ≠ k) : departW b k l = l := by
 unfold departW
 induction l with
 | nil => rfl
 | cons e l ih =>
   rw [List.filterMap_cons_some (by rw [if_neg (h e List.mem_cons_self)])]
   rw [ih fun e he => h e (List.mem_cons_of_mem _ he)]
theorem departW_at {b : Nat} {k : Nat × Nat} {l1 l2 : Wt} {xs : List Nat} (h1 : ∀ e ∈ l1, e.1 ≠ k) (h2 : ∀ e ∈ l2, e.1 ≠ k) : departW b k (l1 ++ (k, xs) :: l2) = l1 ++ ((if (xs.filter fun c => !decide (c = b)).length = 0 then [] else [(k, xs.filter fun c => !decide (c = b))]) ++ l2) := by
 have e1 := departW_skip (b := b) h1
 have e2 := departW_skip (b := b) h2
 unfold departW at *
 rw [List.filterMap_append, e1, List.filterMap_cons, if_pos rfl]
 split
 · rename_i h; split at h
   · rw [if_pos ‹_›, e2]; rfl
   · cases h
 · rename_i h; split at h
   · cases h
   · rw [if_neg ‹_›, e2]; simp at h; rw [← h]; rfl
theorem split_key {l : Wt} {k : Nat × Nat} (hn : (l.map (·.1)).Nodup) (h : k ∈ l.map (·.1)) : ∃ l1 xs l2, l = l1 ++ (k, xs) :: l2 ∧ (∀ e ∈ l1, e.1 ≠ k) ∧ ∀ e ∈ l2, e.1 ≠ k := by
 obtain ⟨⟨k', xs⟩, he, rfl⟩ := List.mem_map.1 h
 obtain ⟨l1, l2, rfl⟩ := List.append_of_mem he
 rw [List.map_append, List.map_cons] at hn
 obtain ⟨h1, h2, h3⟩ := List.nodup_append.1 hn
 refine ⟨l1, xs, l2, rfl, fun e he e1 => ?_, fun e he e1 => ?_⟩
 · exact h3 e.1 (List.mem_map.2 ⟨e, he, rfl⟩) k' (by simp) e1
 · exact (List.nodup_cons.1 h2).1 (List.mem_map.2 ⟨e, he, e1⟩)
theorem modify_mid {α : Type} (f : α → α) (e : α) (Y : List α) : ∀ (X : List α), (X ++ e :: Y).modify X.length f = X ++ f e :: Y
 | [] => by simp
 | x :: X => by simp [modify_mid f e Y X]
theorem key96 : Key2 Tryz.prog 96 := by
 refine ⟨⟨_, _, Tryz.underlying96, ⟨by decide, rfl, ag_3, _, Tryz.underlying3⟩, ⟨by decide, rfl, ag_3, _, Tryz.underlying3⟩⟩, by kernel_rfl, fun e a b => by kernel_rfl⟩
theorem zr_91 : zeroAt Tryz.prog 91 = some (.slice none 0 0) := by kernel_rfl
theorem upd_same {L L' : Frag} {b : Nat} {o : Obj} (hF : Fun L) (h : (b, true, o) ∈ L) (u : Upd L b o L') : Ext L L' := ⟨u.fn, fun t ht => by
 by_cases e : t.1 = b
 · obtain ⟨b', fl, o'⟩ := t
   have e' : b' = b := e
   subst e'
   obtain ⟨rfl, rfl⟩ := hF _ _ _ _ _ ht h
   exact u.self
 · exact u.ne t ht e⟩
theorem departClosure_s : ∃ n, ∀ {σ : Type} {F : Fam σ} {Δ : ∀ s, Dom (F.R s) (F.D s)} {main : Bool} {s : σ} (L : Frag) (c b x : Nat) (cs cs' : Array Value) (ty ty' : TypeId), At L x 0 (ptr b) → (c, true, Obj.cells cs ty) ∈ L → (b, true, Obj.cells cs' ty') ∈ L →
   CallsL Δ Tryz.prog main 125 [ptr c, ptr x].toArray n s L (fun s' v L' => s = s' ∧ v = .bool (decide (c = b)) ∧ Ext L L') := by
 apply Exists.intro
 intro σ F Δ main s L c b x cs cs' ty ty' hx hc hb
 co_applyP callsE 7 Tryz.func125 Tryz.ntmps125
 co_applyP wpE_fun
 intro hF
 co_applyP c_seq
 co_applyP c_region
 co_applyP oy rfl E_as
 co_applyP o_nil
 change wpE ..
 co_applyP c_seq
 co_applyP c_region
 co_applyP oy rfl E_mv
 co_applyP oy rfl (E_ld (ht := ag_93))
 co_applyP oy rfl (E_eqa hc hb (hu := Tryz.underlying93) (hs := sz_99))
 co_applyP oy rfl E_as
 co_applyP o_nil
 change wpE ..
 co_applyP c_ret
 change ∃ v, resE .. = some v ∧ _
 exact ⟨_, rfl, rfl, by simp, hF, fun _ h => h⟩
theorem deleteFunc_0 : ∃ n, ∀ {σ : Type} {F : Fam σ} {Δ : ∀ s, Dom (F.R s) (F.D s)} {main : Bool} {s : σ} (L0 : Frag) (f : FuncId) (gf : Func) (c1 c2 : List Value), Tryz.prog.funcs[f]? = some gf → (gf.name == "runtime.NumGoroutine") = false → gf.body.isNone = false →
   CallsL Δ Tryz.prog main 124 [.slice none 0 0, .func (.func f) c1.toArray c2.toArray].toArray n s L0 (fun s' v L' => s = s' ∧ v = .slice none 0 0 ∧ Ext L0 L') := by
 obtain ⟨n1, g1⟩ := indexFunc_s 0
 apply Exists.intro
 intro σ F Δ main s L0 f gf c1 c2 hf hname hb
 co_applyP callsE 42 Tryz.func124 Tryz.ntmps124
 co_applyP c_seq
 co_applyP c_region
 co_applyP oy rfl E_as
 co_applyP o_nil
 change wpE ..
 co_applyP c_seq
 co_applyP c_region
 co_applyP oy rfl E_mv
 co_applyP oy rfl E_mv
 co_applyP oc rfl rfl rfl (g1 L0 f gf c1 c2 [] (fun _ => false) none 0 (fun i v hv => by simp at hv) (by simp) hf hname hb (fun c hcx => by simp at hcx))
 rintro _ _ _ ⟨rfl, rfl, hE1⟩
 co_applyP oy rfl E_as
 co_applyP o_nil
 change wpE ..
 co_applyP c_seq (n₂ := 0)
 co_applyP c_seq
 co_applyP c_region
 co_applyP oy rfl E_mv
 co_applyP oy rfl E_eql
 co_applyP o_nil
 change wpE ..
 co_applyP c_true rfl
 co_applyP c_seq
 co_applyP c_region
 co_applyP oy rfl E_mv
 co_applyP oy rfl E_as
 co_applyP o_nil
 change wpE ..
 co_applyP c_ret
 change ∃ v, resE .. = some v ∧ _
 exact ⟨_, rfl, rfl, rfl, hE1⟩
theorem depart_0 : ∃ n, ∀ {σ : Type} {F : Fam σ} {Δ : ∀ s, Dom (F.R s) (F.D s)} {main : Bool} {s : σ} (K : Nat) (A : Lay) (S : St) (Fr L : Frag) (b : Nat) (k : Nat × Nat), (∀ cs, (Δ s).New (.cells cs 93)) → (∀ cs, (Δ s).New (.cells cs 96)) → Rep K A S Fr L → (∀ e ∈ S.wt, e.1 ≠ k) →
   CallsL Δ Tryz.prog main 105 [ptr K, ptr b, keyv k].toArray n s L (fun s' v L' => s = s' ∧ v = .tuple #[] ∧ Rep K A S Fr L') := by
 obtain ⟨n1, g1⟩ := deleteFunc_0
 apply Exists.intro
 intro σ F Δ main s K A S Fr L b k hN hN2 hR hk
 co_applyP callsE 29 Tryz.func105 Tryz.ntmps105
 co_applyP c_seq
 co_applyP c_region
 co_applyP oadd rfl (O_box (hN _))
 intro xb L1 hA1
 co_applyP oadd rfl (O_box (hN2 _))
 intro xk L2 hA2
 have hR2 := (hR.add hA1).add hA2
 have hkx : At L2 K 15 (.map (some A.wt)) := hR2.kat rfl
 have hw2 := hR2.w
 rw [wobj_ents] at hw2
 have hkey := entsOf_key (A := A) (bs := A.born) hk
 co_applyP o_nil
 change wpE ..
 co_applyP c_seq
 co_applyP c_draw [] 7 mixed
 co_applyP tr (i := 0) rfl E_mv (pre_init (by simp))
 co_applyP tr (i := 1) rfl E_nc (pre_init (by simp))
 co_applyP tr (i := 2) rfl (E_fa (hf := fo_115_6)) (pre_init (by simp))
 co_applyP t0 (i := 3) rfl (E_ld (ht := ag_110)) (pre_init (by simp))
 co_applyP tr (i := 6) rfl E_mkf1 (pre_init (by simp))
 co_applyP t0 (i := 4) rfl (E_lda (ht := ag_96) (hs := sz_96) (hm := hA2.self) (hi := Nat.le_refl _)) (pre_init (by simp))
 co_applyP t0 (i := 5) rfl (E_lk (k := k) key96 Tryz.underlying110 zr_91 hw2) (pre_init (by simp))
 rw [lk_none hkey]
 co_applyP tc (i := 7) rfl rfl rfl (g1 L2 125 _ [] [ptr xb] Tryz.func125 rfl rfl)
 rintro _ _ _ ⟨rfl, rfl, hE⟩
 refine ⟨pre_late (by simp), ?_⟩
 rename_i L3
 have hR3 := hR2.ext hE
 have hkx3 := hE.at hkx
 have hw3 := hE.s _ hw2
 have hk3 := hE.s _ hA2.self
 co_applyP to (i := 8) rfl (E_as) (pre_late (by simp))
 co_applyP td (by kernel_rfl)
 change wpE ..
 co_applyP c_seq (n₂ := 0)
 co_applyP c_seq
 co_applyP c_region
 co_applyP oy rfl E_mv
 co_applyP oy rfl (E_len (hu := Tryz.underlying91))
 co_applyP oy rfl E_eql
 co_applyP o_nil
 change wpE ..
 co_applyP c_true rfl
 co_applyP c_seq
 co_applyP c_draw [] 5 (nf := 0) mixed
 co_applyP tr (i := 0) rfl E_mv (pre_init (by simp))
 co_applyP tr (i := 1) rfl E_nc (pre_init (by simp))
 co_applyP tr (i := 2) rfl (E_fa (hf := fo_115_6)) (pre_init (by simp))
 co_applyP t0 (i := 3) rfl (E_ld (ht := ag_110)) (pre_init (by simp))
 co_applyP t0 (i := 4) rfl (E_lda (ht := ag_96) (hs := sz_96) (hm := hk3) (hi := Nat.le_refl _)) (pre_init (by simp))
 co_applyP anyE_nd
 intro hnd
 co_applyP te (i := 5) rfl (O_del (k := k) hnd key96 Tryz.underlying110 hw3)
 rintro _ _ ⟨rfl, hU⟩
 refine ⟨pre_late (by simp), ?_⟩
 co_applyP td (by kernel_rfl)
 change wpE ..
 co_applyP c_ret
 change ∃ v, resE .. = some v ∧ _
 have hd : dlk k (entsOf A S.wt A.born) = entsOf A S.wt A.born := by unfold dlk; rw [lk_none hkey]
 rw [hd] at hU
 exact ⟨_, rfl, rfl, rfl, hR3.ext (upd_same hR3.fn hw3 hU)⟩
theorem depart_1 : ∃ n, ∀ {σ : Type} {F : Fam σ} {Δ : ∀ s, Dom (F.R s) (F.D s)} {main : Bool} {s : σ} (K : Nat) (A : Lay) (S : St) (Fr L : Frag) (b : Nat) (x : PS) (k : Nat × Nat) (l1 l2 : Wt) (xs : List Nat), (∀ cs, (Δ s).New (.cells cs 93)) → (∀ cs, (Δ s).New (.cells cs 96)) → Rep K A S Fr L → WGood S → (b, x) ∈ S.ps → S.wt = l1 ++ (k, xs) :: l2 → (∀ e ∈ l1, e.1 ≠ k) → (∀ e ∈ l2, e.1 ≠ k) →
   CallsL Δ Tryz.prog main 105 [ptr K, ptr b, keyv k].toArray n s L (fun s' v L' => s = s' ∧ v = .tuple #[] ∧ ∃ A', WLay A A' ∧ Rep K A' (S.depart b k) Fr L') := by
 obtain ⟨n0, g0⟩ := departClosure_s
 obtain ⟨n1, g1⟩ := deleteFunc_s n0
 apply Exists.intro
 intro σ F Δ main s K A S Fr L b x k l1 l2 xs hN hN2 hR hW hb hwt hl1 hl2
 have hin : (k, xs) ∈ S.wt := by rw [hwt]; simp
 have hkk : okKey k := hW.kk _ hin
 have hslot : ∀ e ∈ S.wt, e.1 ≠ k → slot e.1 ≠ slot k := fun e he hne h => hne (slot_inj (hW.kk e he) hkk h)
 obtain ⟨b1, c0, b2, hborn, hbl⟩ : ∃ b1 c0 b2, A.born = b1 ++ c0 :: b2 ∧ l1.length = b1.length := by
   have hl := hR.wl
   rw [hwt] at hl
   simp at hl
   refine ⟨A.born.take l1.length, A.born[l1.length]'(by omega), A.born.drop (l1.length + 1), by simp, by simp; omega⟩
 have hbl2 : l2.length = b2.length := by
   have hl := hR.wl
   rw [hwt, hborn] at hl
   simp at hl
   omega
 have hents : entsOf A S.wt A.born = entsOf A l1 b1 ++ (k, slv (A.a (slot k)) xs.length, c0) :: entsOf A l2 b2 := by
   rw [hwt, hborn, entsOf_append A hbl]; rfl
 have hlk : lk k (entsOf A S.wt A.born) 0 = some (l1.length, slv (A.a (slot k)) xs.length) := by
   rw [hents, lk_skip (entsOf_key hl1), entsOf_len A hbl]
   simp [lk]
 obtain ⟨Q, hQ⟩ : ∃ Q, (A.a (slot k)).b = some Q := by
   cases h : (A.a (slot k)).b with
   | some Q => exact ⟨Q, rfl⟩
   | none =>
     have := hR.wa _ hin
     unfold slOk at this
     rw [h] at this
     have h2 := hW.ne _ hin
     simp at this
     exact absurd this.1 h2
 have hslv : slv (A.a (slot k)) xs.length = .slice (some ⟨Q, 0, none⟩) xs.length (xs.length + (A.a (slot k)).junk.length) := by unfold slv; rw [hQ]
 rw [hslv] at hlk
 co_applyP callsE 29 Tryz.func105 Tryz.ntmps105
 co_applyP c_seq
 co_applyP c_region
 co_applyP oadd rfl (O_box (hN _))
 intro xb L1 hA1
 co_applyP oadd rfl (O_box (hN2 _))
 intro xk L2 hA2
 have hR2 := (hR.add hA1).add hA2
 have hkx : At L2 K 15 (.map (some A.wt)) := hR2.kat rfl
 have hw2 := hR2.w
 rw [wobj_ents] at hw2
 have hQ2 := (hR2.wa _ hin).mem hQ
 have hxb : (xb, true, Obj.cells #[ptr b] 93) ∈ L2 := hA2.sub _ hA1.self
 have hQ1 : (Q, true, Obj.cells (xs.map ptr ++ (A.a (slot k)).junk).toArray 93) ∈ L1 := ((hR.add hA1).wa _ hin).mem hQ
 have hxQ : xb ≠ Q := fun e => hA1.new _ ((hR.wa _ hin).mem hQ) e.symm
 have hkQ : xk ≠ Q := fun e => hA2.new _ hQ1 e.symm
 have pne : ∀ c y, (c, y) ∈ S.ps → c ≠ Q := fun c y hc => hR2.fn.ne (hR2.p _ hc) hQ2 (cells_ne (by decide))
 have hKQ : K ≠ Q := hR2.fn.ne hR2.k hQ2 (cells_ne (by decide))
 have hwQ : A.wt ≠ Q := hR2.fn.ne hw2 hQ2 (by simp [mapO])
 co_applyP o_nil
 change wpE ..
 co_applyP c_seq
 co_applyP c_draw [] 7 mixed
 co_applyP tr (i := 0) rfl E_mv (pre_init (by simp))
 co_applyP tr (i := 1) rfl E_nc (pre_init (by simp))
 co_applyP tr (i := 2) rfl (E_fa (hf := fo_115_6)) (pre_init (by simp))
 co_applyP t0 (i := 3) rfl (E_ld (ht := ag_110)) (pre_init (by simp))
 co_applyP tr (i := 6) rfl E_mkf1 (pre_init (by simp))
 co_applyP t0 (i := 4) rfl (E_lda (ht := ag_96) (hs := sz_96) (hm := hA2.self) (hi := Nat.le_refl _)) (pre_init (by simp))
 co_applyP t0 (i := 5) rfl (E_lk (k := k) key96 Tryz.underlying110 zr_91 hw2) (pre_init (by simp))
 rw [hlk]
 co_applyP tc (i := 7) rfl rfl rfl (g1 L2 125 _ [] [ptr xb] xs (fun c => decide (c = b)) Q (A.a (slot k)).junk hQ2 (hW.rl _ hin) Tryz.func125 rfl rfl (fun c hc L hE => by obtain ⟨y, hy⟩ := hW.rm _ hin c hc; exact g0 L c b xb _ _ _ _ ⟨true, _, _, _, hE.s _ hxb hxQ, rfl⟩ (hE.s _ (hR2.p _ hy) (pne _ _ hy)) (hE.s _ (hR2.p _ hb) (pne _ _ hb))))
 rintro _ _ _ ⟨rfl, jk, rfl, hE, hQ3, hjk⟩
 refine ⟨pre_late (by simp), ?_⟩
 rename_i L3
 have hk3 := hE.s _ hA2.self hkQ
 have hw3 := hE.s _ hw2 hwQ
 have hkx3 : At L3 K 15 (.map (some A.wt)) := ⟨true, _, _, _, hE.s _ hR2.k hKQ, rfl⟩
 have hdep : S.depart b k = S.setW (l1 ++ ((if (xs.filter fun c => !decide (c = b)).length = 0 then [] else [(k, xs.filter fun c => !decide (c = b))]) ++ l2)) := by unfold St.depart; rw [hwt, departW_at hl1 hl2]
 have hAs : ∀ (a' : Sl) (bo : List Nat) (cl : Nat) (l : Wt) (bs : List Nat), (∀ e ∈ l, e ∈ S.wt ∧ e.1 ≠ k) → entsOf (A.setW k a' bo cl) l bs = entsOf A l bs := fun a' bo cl l bs h => entsOf_congr fun e he => by
   have := hslot e (h e he).1 (h e he).2
   simp [Lay.setW, put, this]
 have hi1 : ∀ e ∈ l1, e ∈ S.wt ∧ e.1 ≠ k := fun e he => ⟨by rw [hwt]; simp [he], hl1 e he⟩
 have hi2 : ∀ e ∈ l2, e ∈ S.wt ∧ e.1 ≠ k := fun e he => ⟨by rw [hwt]; simp [he], hl2 e he⟩
 co_applyP to (i := 8) rfl (E_as) (pre_late (by simp))
 co_applyP td (by kernel_rfl)
 change wpE ..
 co_applyP c_seq
 co_applyP c_seq
 co_applyP c_region
 co_applyP oy rfl E_mv
 co_applyP oy rfl (E_len (hu := Tryz.underlying91))
 co_applyP oy rfl E_eql
 co_applyP o_nil
 change wpE ..
 co_applyP c_if rfl
 intro hc
 co_applyP c_seq
 · have hz : (xs.filter fun c => !decide (c = b)).length = 0 := by simpa using hc
   co_applyP c_draw [] 5 (nf := 0) mixed
   co_applyP tr (i := 0) rfl E_mv (pre_init (by simp))
   co_applyP tr (i := 1) rfl E_nc (pre_init (by simp))
   co_applyP tr (i := 2) rfl (E_fa (hf := fo_115_6)) (pre_init (by simp))
   co_applyP t0 (i := 3) rfl (E_ld (ht := ag_110)) (pre_init (by simp))
   co_applyP t0 (i := 4) rfl (E_lda (ht := ag_96) (hs := sz_96) (hm := hk3) (hi := Nat.le_refl _)) (pre_init (by simp))
   co_applyP anyE_nd
   intro hnd
   co_applyP te (i := 5) rfl (O_del (k := k) hnd key96 Tryz.underlying110 hw3)
   rintro _ _ ⟨rfl, hU⟩
   refine ⟨pre_late (by simp), ?_⟩
   co_applyP td (by kernel_rfl)
   change wpE ..
   co_applyP c_ret
   change ∃ v, resE .. = some v ∧ _
   have hd : dlk k (entsOf A S.wt A.born) = entsOf A (l1 ++ l2) (b1 ++ b2) := by
     unfold dlk; rw [hlk, hents, entsOf_append A hbl]
     simp only
     rw [List.eraseIdx_append_of_length_le (by rw [entsOf_len A hbl]; omega), entsOf_len A hbl]
     simp
   rw [hd] at hU
   refine ⟨_, rfl, rfl, rfl, A.setW k ⟨none, []⟩ (b1 ++ b2) A.clock, WLay.set A k _ _ _, ?_⟩
   rw [hdep, if_pos hz, List.nil_append]
   have hbs : (b1 ++ b2).Sublist A.born := by rw [hborn]; exact List.Sublist.append (List.Sublist.refl _) (List.sublist_cons_self _ _)
   refine hR2.setWait hU.fn (fun t ht h1 h2 => hU.ne _ (hE.s _ ht (fun e => h2 (by rw [hQ, e]))) h1) ?_ (by simp; omega) (hR.bn.sublist hbs) (fun x hx => hR.bc x (hbs.subset hx)) ?_ (fun b hb => by cases hb) (fun b hb => by cases hb)
   · rw [hAs _ _ _ _ _ (fun e he => (List.mem_append.1 he).elim (hi1 e) (hi2 e))]
     exact hU.self
   · intro e he
     have := (List.mem_append.1 he).elim (hi1 e) (hi2 e)
     exact .inr ⟨this.1, hslot e this.1 this.2⟩
 intro hc
 co_applyP c_skip
 change wpE ..
 have hz : ¬ (xs.filter fun c => !decide (c = b)).length = 0 := by simpa using hc
 co_applyP c_draw [] 6 (nf := 0) mixed
 co_applyP tr (i := 0) rfl E_mv (pre_init (by simp))
 co_applyP tr (i := 1) rfl E_nc (pre_init (by simp))
 co_applyP tr (i := 2) rfl (E_fa (hf := fo_115_6)) (pre_init (by simp))
 co_applyP t0 (i := 3) rfl (E_ld (ht := ag_110)) (pre_init (by simp))
 co_applyP tr (i := 5) rfl E_mv (pre_init (by simp))
 co_applyP t0 (i := 4) rfl (E_lda (ht := ag_96) (hs := sz_96) (hm := hk3) (hi := Nat.le_refl _)) (pre_init (by simp))
 co_applyP anyE_nd
 intro hnd
 co_applyP te (i := 6) rfl (O_mu (k := k) hnd key96 Tryz.underlying110 hw3)
 rintro _ _ ⟨rfl, hU⟩
 refine ⟨pre_late (by simp), ?_⟩
 co_applyP td (by kernel_rfl)
 change ∃ v, resE .. = some v ∧ _
 have hnew : upk k (.slice (some ⟨Q, 0, none⟩) (xs.filter fun c => !decide (c = b)).length (xs.length + (A.a (slot k)).junk.length)) (entsOf A S.wt A.born) A.clock = mapO (entsOf (A.setW k ⟨some Q, jk⟩ A.born A.clock) (l1 ++ (k, xs.filter fun c => !decide (c = b)) :: l2) A.born) A.clock := by
   unfold upk; rw [hlk, hents, hborn, entsOf_append _ hbl]
   simp only
   congr 1
   rw [← entsOf_len A hbl, modify_mid, hAs _ _ _ _ _ hi1]
   congr 1
   show _ = (k, slv ((A.setW k ⟨some Q, jk⟩ (b1 ++ c0 :: b2) A.clock).a (slot k)) _, c0) :: entsOf (A.setW k ⟨some Q, jk⟩ (b1 ++ c0 :: b2) A.clock) l2 b2
   rw [hAs _ _ _ _ _ hi2]
   have e1 : (A.setW k ⟨some Q, jk⟩ (b1 ++ c0 :: b2) A.clock).a (slot k) = ⟨some Q, jk⟩ := by simp [Lay.setW, put]
   rw [e1]
   unfold slv
   simp only
   rw [hjk]
 rw [hnew] at hU
 refine ⟨_, rfl, rfl, rfl, A.setW k ⟨some Q, jk⟩ A.born A.clock, WLay.set A k _ _ _, ?_⟩
 rw [hdep, if_neg hz, List.singleton_append]
 refine hR2.setWait hU.fn (fun t ht h1 h2 => hU.ne _ (hE.s _ ht (fun e => h2 (by rw [hQ, e]))) h1) hU.self (by rw [hR.wl, hwt]; simp) hR.bn hR.bc ?_ (fun b hb => ?_) (fun b hb => .inl (by rw [hQ]; exact hb))
 · intro e he
   rcases List.mem_append.1 he with h | h
   · exact .inr ⟨(hi1 e h).1, hslot e (hi1 e h).1 (hi1 e h).2⟩
   · rcases List.mem_cons.1 h with rfl | h
     · exact .inl ⟨rfl, hU.ne _ hQ3 (Ne.symm hwQ)⟩
     · exact .inr ⟨(hi2 e h).1, hslot e (hi2 e h).1 (hi2 e h).2⟩
 · obtain rfl : Q = b := by simpa using hb
   exact ⟨_, hU.ne _ hQ3 (Ne.symm hwQ)⟩
end Go.Proofs.YtejkelcaljmnoaaGreatDoor
namespace Go.Lo
open Go.Conc Go.Hx
section
variable {P : Program} {New : Obj → Prop} {N : Nat} {ε : Env} {L : Frag} {d : Option Tmp} {ty : TypeId} {ps : String} {af : Array Edge} {g : Option (Nat × Bool)}
theorem E_sl0 {t : TypeId} {x : Operand} {w v : Value} (hv : evR P (Instr.sliceAt t w none none none) [] = some (v, [])) (hx : ev ε x = some w := by rfl) : EY P N ε L ⟨d, .slice t x none none none, ty, ps, af, g⟩ v := fun a ha => by
 refine y_of (fun _ => rfl) fun K hK => ?_
 show wpQ P (Instr.sliceAt t (a.eval x) none none none) K L
 rw [ha.ev hx]
 exact wpQ_ev0 hv hK
theorem E_eqk {t u : TypeId} {x y : Operand} {k k' : Nat × Nat} (H : Key2 P t) (hg : ∀ x y, evR P (eqGuard .eql t x y (kv k) (kv k')) [] = some ((), [])) (hx : ev ε x = some (kv k) := by rfl) (hy : ev ε y = some (kv k') := by rfl) : EY P N ε L ⟨d, .binOp .eql t x y u, ty, ps, af, g⟩ (.bool (decide (k = k'))) := fun a ha => by
 refine y_of (fun _ => rfl) fun K hQ => ?_
 rw [ha.ev hx, ha.ev hy, wpQ_bind]
 refine wpQ_ev0 (hg _ _) ?_
 show wpQ P (do pure (.bool (← Op.equal t (kv k) (kv k')))) K L
 rw [wpQ_bind]
 exact wpQ_eqKey H hQ
end
end Go.Lo
namespace Go.Proofs.YtejkelcaljmnoaaGreatDoor
open Go.Conc Go.Hx Go.Lo
theorem eqg96 (k k' : Nat × Nat) (x y : Operand) : evR Tryz.prog (eqGuard .eql 96 x y (kv k) (kv k')) [] = some ((), []) := by kernel_rfl
theorem sl97 (b : Nat) : evR Tryz.prog (Instr.sliceAt 97 (.pointer (some ⟨b, 79, none⟩)) none none none) [] = some (.slice (some ⟨b, 79, none⟩) 6 6, []) := by kernel_rfl
def PS.idxE (x : PS) (k : Nat × Nat) : Int := match (List.range 6).findIdx? fun i => decide (k = x.f i) with
 | some i => i
 | none => -1
def PS.has (x : PS) (k : Nat × Nat) : Bool := (List.range 6).any fun i => decide (k = x.f i)
theorem idxE_has (x : PS) (k : Nat × Nat) : decide (0 ≤ x.idxE k) = x.has k := by
 unfold PS.idxE PS.has
 cases h : (List.range 6).findIdx? fun i => decide (k = x.f i) with
 | none =>
   have := List.findIdx?_eq_none_iff.1 h
   rw [List.any_eq_false.2 fun i hi => by simpa using this i hi]
   rfl
 | some i =>
   obtain ⟨h1, h2, _⟩ := List.findIdx?_eq_some_iff_getElem.1 h
   rw [List.any_eq_true.2 ⟨_, List.getElem_mem h1, h2⟩]
   simp
theorem indexE_s : ∃ n, ∀ {σ : Type} {F : Fam σ} {Δ : ∀ s, Dom (F.R s) (F.D s)} {main : Bool} {s : σ} (L : Frag) (b : Nat) (x : PS) (k : Nat × Nat), (∀ cs, (Δ s).New (.cells cs 96)) → pb b x ∈ L →
   CallsL Δ Tryz.prog main 173 [.slice (some ⟨b, 79, none⟩) 6 6, keyv k].toArray n s L (fun s' v L' => s = s' ∧ v = .int .i64 (x.idxE k) ∧ Ext L L') := by
 apply Exists.intro
 intro σ F Δ main s L b x k hN hb
 co_applyP callsE 19 Tryz.func173 Tryz.ntmps173
 co_applyP c_seq
 co_applyP c_region
 co_applyP oadd rfl (O_box (hN _))
 intro xk L1 hA
 have hb1 := hA.sub _ hb
 co_applyP oy rfl E_as
 co_applyP o_nil
 change wpE ..
 co_applyP c_seq
 co_applyP c_seq
 co_applyP c_region
 co_applyP oy rfl E_mv
 co_applyP oy rfl (E_len (hu := Tryz.underlying250))
 co_applyP oy rfl E_mv
 co_applyP o_nil
 change wpE ..
 co_applyP c_block
 co_applyP c_loop (fun c s' ε' L' => s' = s ∧ L' = L1 ∧ ∃ i, i ≤ 6 ∧ (∀ j, j < i → k ≠ x.f j) ∧ c + i = 6 ∧ kn ε' [(8, .int .i64 (i : Nat)), (7, .int .i64 6), (0, .slice (some ⟨b, 79, none⟩) 6 6), (3, ptr xk)]) 6
 · exact ⟨rfl, rfl, 0, by omega, fun j hj => by omega, rfl, rfl⟩
 rintro c s' ε' L' ⟨rfl, rfl, i, hi, hn, hc, he⟩
 co_applyP wpE_kn he
 co_applyP c_seq
 co_applyP c_region
 co_applyP oy rfl E_lss
 co_applyP o_nil
 change wpE ..
 co_applyP c_seq
 co_applyP c_if rfl
 intro hlt
 · have hi6 : i < 6 := by simp at hlt; omega
   have ei : IntKind.i64.wrap ((i : Int) + 1) = ((i + 1 : Nat) : Int) := by simp [IntKind.wrap_i64]; omega
   have eo : 79 + i * 2 = 79 + 2 * i := by omega
   co_applyP c_skip
   change wpE ..
   co_applyP c_seq
   co_applyP c_block
   co_applyP c_seq
   co_applyP c_region
   co_applyP oy rfl E_mv
   co_applyP oy rfl E_as
   co_applyP o_nil
   change wpE ..
   co_applyP c_seq
   co_applyP c_drawq mixed
   co_applyP tr (i := 0) rfl (E_lda (ht := ag_96) (hs := sz_96) (hm := hA.self) (hi := Nat.le_refl _)) pI
   co_applyP tr (i := 1) rfl E_mv pI
   co_applyP tr (i := 2) rfl E_mv pI
   co_applyP tr (i := 3) rfl (E_ixs Tryz.underlying250 sz_96) pI
   co_applyP tr (i := 4) rfl (E_lda (ht := ag_96) (hs := sz_96) (hm := hb1) (hi := by rw [psize]; omega)) pI
   rw [eo, pext_f x hi6]
   co_applyP tr (i := 5) rfl (E_eqk (k := k) (k' := x.f i) key96 (eqg96 k (x.f i))) pI
   co_applyP td (by kernel_rfl)
   change wpE ..
   co_applyP c_if rfl
   intro ht
   co_applyP c_seq
   co_applyP c_region
   co_applyP oy rfl E_mv
   co_applyP oy rfl E_as
   co_applyP o_nil
   change wpE ..
   co_applyP c_ret
   change ∃ v, resE .. = some v ∧ _
   · have ht' : k = x.f i := by simpa using ht
     have e1 : x.idxE k = i := by
       unfold PS.idxE
       have : ((List.range 6).findIdx? fun i => decide (k = x.f i)) = some i := by
         rw [List.findIdx?_eq_some_iff_getElem]
         refine ⟨by simpa using hi6, by simpa using ht', fun j hj => by simpa using hn j hj⟩
       rw [this]
     exact ⟨_, rfl, rfl, by rw [e1], hA.fn, hA.sub⟩
   intro ht
   co_applyP c_skip
   change wpE ..
   co_applyP c_region
   co_applyP oy rfl E_add
   co_applyP oy rfl E_mv
   co_applyP o_nil
   change ∃ k', k' < _ ∧ _
   have ht' : ¬ k = x.f i := by simpa using ht
   refine ⟨c - 1, by omega, rfl, rfl, i + 1, by omega, fun j hj => ?_, by omega, by rw [← ei]; rfl⟩
   by_cases e : j = i
   · rw [e]; exact ht'
   · exact hn j (by omega)
 intro hlt
 co_applyP c_exit
 change wpE ..
 co_applyP c_seq
 co_applyP c_region
 co_applyP oy rfl E_as
 co_applyP o_nil
 change wpE ..
 co_applyP c_ret
 change ∃ v, resE .. = some v ∧ _
 have hi6 : i = 6 := by simp at hlt; omega
 subst hi6
 have e1 : x.idxE k = -1 := by
   unfold PS.idxE
   rw [List.findIdx?_eq_none_iff.2 fun j hj => by simpa using hn j (by simpa using hj)]
 exact ⟨_, rfl, rfl, by rw [e1], hA.fn, hA.sub⟩
theorem containsE_s : ∃ n, ∀ {σ : Type} {F : Fam σ} {Δ : ∀ s, Dom (F.R s) (F.D s)} {main : Bool} {s : σ} (L : Frag) (b : Nat) (x : PS) (k : Nat × Nat), (∀ cs, (Δ s).New (.cells cs 96)) → pb b x ∈ L →
   CallsL Δ Tryz.prog main 168 [.slice (some ⟨b, 79, none⟩) 6 6, keyv k].toArray n s L (fun s' v L' => s = s' ∧ v = .bool (x.has k) ∧ Ext L L') := by
 obtain ⟨n1, g1⟩ := indexE_s
 apply Exists.intro
 intro σ F Δ main s L b x k hN hb
 co_applyP callsE 9 Tryz.func168 Tryz.ntmps168
 co_applyP c_seq
 co_applyP c_region
 co_applyP oadd rfl (O_box (hN _))
 intro xk L1 hA
 co_applyP oy rfl E_as
 co_applyP o_nil
 change wpE ..
 co_applyP c_seq
 co_applyP c_region
 co_applyP oy rfl E_mv
 co_applyP oy rfl (E_lda (ht := ag_96) (hs := sz_96) (hm := hA.self) (hi := Nat.le_refl _))
 co_applyP oc rfl rfl rfl (g1 L1 b x k hN (hA.sub _ hb))
 rintro _ _ _ ⟨rfl, rfl, hE⟩
 co_applyP oy rfl E_geq
 co_applyP oy rfl E_as
 co_applyP o_nil
 change wpE ..
 co_applyP c_ret
 change ∃ v, resE .. = some v ∧ _
 exact ⟨_, rfl, rfl, by rw [← idxE_has], Ext.trans ⟨hA.fn, hA.sub⟩ hE⟩
theorem openClosure_s : ∃ n, ∀ {σ : Type} {F : Fam σ} {Δ : ∀ s, Dom (F.R s) (F.D s)} {main : Bool} {s : σ} (L : Frag) (b xk : Nat) (x : PS) (k : Nat × Nat), (∀ cs, (Δ s).New (.cells cs 96)) → pb b x ∈ L → (xk, true, Obj.cells (keyv k).cells 96) ∈ L →
   CallsL Δ Tryz.prog main 167 [ptr b, ptr xk].toArray n s L (fun s' v L' => s = s' ∧ v = .bool (x.has k) ∧ Ext L L') := by
 obtain ⟨n1, g1⟩ := containsE_s
 apply Exists.intro
 intro σ F Δ main s L b xk x k hN hb hk
 co_applyP callsE 10 Tryz.func167 Tryz.ntmps167
 co_applyP c_seq
 co_applyP c_region
 co_applyP oy rfl E_as
 co_applyP o_nil
 change wpE ..
 co_applyP c_seq
 co_applyP c_draw [] 5 mixed
 co_applyP tr (i := 0) rfl E_mv (pre_init (by simp))
 co_applyP tr (i := 1) rfl E_nc (pre_init (by simp))
 co_applyP tr (i := 2) rfl (E_fa (hf := fo_99_2)) (pre_init (by simp))
 co_applyP tr (i := 3) rfl (E_sl0 (sl97 b)) (pre_init (by simp))
 co_applyP t0 (i := 4) rfl (E_lda (ht := ag_96) (hs := sz_96) (hm := hk) (hi := Nat.le_refl _)) (pre_init (by simp))
 co_applyP tc (i := 5) rfl rfl rfl (g1 L b x k hN hb)
 rintro _ _ _ ⟨rfl, rfl, hE⟩
 refine ⟨pre_late (by simp), ?_⟩
 co_applyP to (i := 6) rfl (E_as) (pre_late (by simp))
 co_applyP td (by kernel_rfl)
 change wpE ..
 co_applyP c_ret
 change ∃ v, resE .. = some v ∧ _
 exact ⟨_, rfl, rfl, rfl, hE⟩
theorem idxF_any (test : Nat → Bool) (xs : List Nat) : decide (0 ≤ idxF test xs) = xs.any test := by
 unfold idxF
 cases h : xs.findIdx? test with
 | none =>
   have := List.findIdx?_eq_none_iff.1 h
   rw [List.any_eq_false.2 fun i hi => by simpa using this i hi]
   rfl
 | some i =>
   obtain ⟨h1, h2, _⟩ := List.findIdx?_eq_some_iff_getElem.1 h
   rw [List.any_eq_true.2 ⟨_, List.getElem_mem h1, h2⟩]
   simp
theorem containsFunc_s (nf : Nat) : ∃ n, ∀ {σ : Type} {F : Fam σ} {Δ : ∀ s, Dom (F.R s) (F.D s)} {main : Bool} {s : σ} (L0 : Frag) (f : FuncId) (gf : Func) (c1 c2 : List Value) (xs : List Nat) (test : Nat → Bool) (base : Option Addr) (cap : Nat),
   (∀ i v, (xs.map ptr)[i]? = some v → ∃ b, base = some ⟨b, 0, none⟩ ∧ At L0 b i v) → xs.length ≤ 8 → Tryz.prog.funcs[f]? = some gf → (gf.name == "runtime.NumGoroutine") = false → gf.body.isNone = false →
   (∀ c ∈ xs, ∀ L, Ext L0 L → CallsL Δ Tryz.prog main f (c1 ++ [ptr c] ++ c2).toArray nf s L (fun s' v L' => s = s' ∧ v = .bool (test c) ∧ Ext L L')) →
   CallsL Δ Tryz.prog main 149 [.slice base xs.length cap, .func (.func f) c1.toArray c2.toArray].toArray n s L0 (fun s' v L' => s = s' ∧ v = .bool (xs.any test) ∧ Ext L0 L') := by
 obtain ⟨n1, g1⟩ := indexFunc_s nf
 apply Exists.intro
 intro σ F Δ main s L0 f gf c1 c2 xs test base cap hat h8 hf hname hb hc
 co_applyP callsE 9 Tryz.func149 Tryz.ntmps149
 co_applyP c_seq
 co_applyP c_region
 co_applyP oy rfl E_as
 co_applyP o_nil
 change wpE ..
 co_applyP c_seq
 co_applyP c_region
 co_applyP oy rfl E_mv
 co_applyP oy rfl E_mv
 co_applyP oc rfl rfl rfl (g1 L0 f gf c1 c2 xs test base cap hat h8 hf hname hb hc)
 rintro _ _ _ ⟨rfl, rfl, hE⟩
 co_applyP oy rfl E_geq
 co_applyP oy rfl E_as
 co_applyP o_nil
 change wpE ..
 co_applyP c_ret
 change ∃ v, resE .. = some v ∧ _
 exact ⟨_, rfl, rfl, by rw [← idxF_any], hE⟩
def St.isOpen (S : St) (k : Nat × Nat) : Bool := S.ps.any fun q => q.2.has k
def St.testB (S : St) (p : PS → Bool) (c : Nat) : Bool := match S.get c with
 | some y => p y
 | none => false
theorem any_testB {S : St} (hn : (S.ps.map (·.1)).Nodup) (p : PS → Bool) : (S.ps.map (·.1)).any (S.testB p) = S.ps.any fun q => p q.2 := by
 rw [List.any_map]
 rw [Bool.eq_iff_iff, List.any_eq_true, List.any_eq_true]
 constructor
 · rintro ⟨q, hq, h⟩
   refine ⟨q, hq, ?_⟩
   simpa [Function.comp, St.testB, get_of hn (b := q.1) (x := q.2) hq] using h
 · rintro ⟨q, hq, h⟩
   refine ⟨q, hq, ?_⟩
   simpa [Function.comp, St.testB, get_of hn (b := q.1) (x := q.2) hq] using h
theorem isOpen_s : ∃ n, ∀ {σ : Type} {F : Fam σ} {Δ : ∀ s, Dom (F.R s) (F.D s)} {main : Bool} {s : σ} (K : Nat) (A : Lay) (S : St) (Fr L : Frag) (k : Nat × Nat), (∀ cs, (Δ s).New (.cells cs 96)) → Rep K A S Fr L →
   CallsL Δ Tryz.prog main 161 [ptr K, keyv k].toArray n s L (fun s' v L' => s = s' ∧ v = .bool (S.isOpen k) ∧ Ext L L') := by
 obtain ⟨n0, g0⟩ := openClosure_s
 obtain ⟨n1, g1⟩ := containsFunc_s n0
 apply Exists.intro
 intro σ F Δ main s K A S Fr L k hN hR
 co_applyP callsE 11 Tryz.func161 Tryz.ntmps161
 co_applyP c_seq
 co_applyP c_region
 co_applyP oadd rfl (O_box (hN _))
 intro xk L1 hA
 have hR1 := hR.add hA
 obtain ⟨base, cap, hv, hat0⟩ := slv_view hR1.pa
 simp only [List.length_map] at hv
 have h5 : At L1 K 5 (.slice base (S.ps.map (·.1)).length cap) := by rw [List.length_map, ← hv]; exact hR1.kat rfl
 co_applyP oy rfl E_as
 co_applyP o_nil
 change wpE ..
 co_applyP c_seq
 co_applyP c_region
 co_applyP oy rfl E_mv
 co_applyP oy rfl E_nc
 co_applyP oy rfl (E_fa (hf := fo_115_2))
 co_applyP oy rfl (E_ld (ht := ag_91))
 co_applyP oy rfl E_mkf1
 have hcl : ∀ c ∈ S.ps.map (·.1), ∀ L, Ext L1 L → CallsL Δ Tryz.prog main 167 ([] ++ [ptr c] ++ [ptr xk]).toArray n0 s L (fun s' v L' => s = s' ∧ v = .bool (S.testB (fun y => y.has k) c) ∧ Ext L L') := by
   intro c hc L hE
   obtain ⟨q, hq, rfl⟩ := List.mem_map.1 hc
   have e : S.testB (fun y => y.has k) q.1 = q.2.has k := by simp [St.testB, get_of hR1.pn (b := q.1) (x := q.2) hq]
   rw [e]
   exact g0 L q.1 xk q.2 k hN (hE.s _ (hR1.p _ hq)) (hE.s _ hA.self)
 co_applyP oc rfl rfl rfl (g1 L1 167 _ [] [ptr xk] (S.ps.map (·.1)) (S.testB fun y => y.has k) base cap (fun i v hv => by obtain ⟨b, _, h2, h3⟩ := hat0 i v (by simpa using hv); exact ⟨b, h2, h3⟩) (by simpa using hR1.p8) Tryz.func167 rfl rfl hcl)
 rintro _ _ _ ⟨rfl, rfl, hE⟩
 co_applyP oy rfl E_as
 co_applyP o_nil
 change wpE ..
 co_applyP c_ret
 change ∃ v, resE .. = some v ∧ _
 exact ⟨_, rfl, rfl, by rw [any_testB hR1.pn]; rfl, Ext.trans ⟨hA.fn, hA.sub⟩ hE⟩
end Go.Proofs.YtejkelcaljmnoaaGreatDoor
