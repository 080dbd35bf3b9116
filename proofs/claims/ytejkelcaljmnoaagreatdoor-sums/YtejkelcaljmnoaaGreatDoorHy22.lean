/-
  Part 22 of the proof.
  No condition but those that each statement names.
-/
import Derived.Test.YtejkelcaljmnoaaGreatDoorHy21
set_option maxRecDepth 100000
set_option linter.unusedVariables false
set_option linter.unusedSimpArgs false
set_option linter.unusedSectionVars false
namespace Go.Proofs.YtejkelcaljmnoaaGreatDoor
open Go.Conc Go.Hx Go.Lo
structure ExtQ (Q : Nat) (L L' : Frag) : Prop where
 f : Fun L'
 s : ∀ t ∈ L, t.1 ≠ Q → t ∈ L'
theorem Ext.q {Q : Nat} {L L' : Frag} (h : Ext L L') : ExtQ Q L L' := ⟨h.f, fun t ht _ => h.s t ht⟩
theorem ExtQ.trans {Q : Nat} {L L' L'' : Frag} (h : ExtQ Q L L') (k : ExtQ Q L' L'') : ExtQ Q L L'' := ⟨k.f, fun t ht hn => k.s t (h.s t ht hn) hn⟩
theorem _root_.Go.Lo.Upd.q {Q : Nat} {L L' : Frag} {o : Obj} (h : Upd L Q o L') : ExtQ Q L L' := ⟨h.fn, fun t ht hn => h.ne t ht hn⟩
theorem df_get (A M B C : List Value) (q : Value) : (A ++ M ++ q :: B ++ C).toArray[A.length + M.length]? = some q := by
 rw [List.getElem?_toArray]
 have : A ++ M ++ q :: B ++ C = (A ++ M) ++ (q :: (B ++ C)) := by simp
 rw [this, List.getElem?_append_right (by simp)]
 simp
theorem df_set (A M B C : List Value) (m q : Value) : (A ++ (m :: M) ++ q :: B ++ C).toArray.setIfInBounds A.length q = ((A ++ [q]) ++ (M ++ [q]) ++ B ++ C).toArray := by
 rw [List.setIfInBounds_toArray]
 have : A ++ (m :: M) ++ q :: B ++ C = A ++ (m :: (M ++ q :: (B ++ C))) := by simp
 rw [this, List.set_append_right _ _ (Nat.le_refl _)]
 simp
theorem df_clr (A M C : List Value) (z : Value) : puts (A ++ M ++ ([] : List Value) ++ C).toArray A.length (List.replicate M.length z) = (A ++ (List.replicate M.length z ++ C)).toArray := by
 rw [puts_list _ _ _ (by simp)]
 congr 1
 simp [List.take_append_of_le_length, List.drop_append]
theorem deleteFunc_s (nf : Nat) : ∃ n, ∀ {σ : Type} {F : Fam σ} {Δ : ∀ s, Dom (F.R s) (F.D s)} {main : Bool} {s : σ} (L0 : Frag) (f : FuncId) (gf : Func) (c1 c2 : List Value) (xs : List Nat) (test : Nat → Bool) (Q : Nat) (junk : List Value),
   (Q, true, Obj.cells (xs.map ptr ++ junk).toArray 93) ∈ L0 → xs.length ≤ 8 → Tryz.prog.funcs[f]? = some gf → (gf.name == "runtime.NumGoroutine") = false → gf.body.isNone = false →
   (∀ c ∈ xs, ∀ L, ExtQ Q L0 L → CallsL Δ Tryz.prog main f (c1 ++ [ptr c] ++ c2).toArray nf s L (fun s' v L' => s = s' ∧ v = .bool (test c) ∧ Ext L L')) →
   CallsL Δ Tryz.prog main 124 [.slice (some ⟨Q, 0, none⟩) xs.length (xs.length + junk.length), .func (.func f) c1.toArray c2.toArray].toArray n s L0 (fun s' v L' => s = s' ∧ ∃ jk, v = .slice (some ⟨Q, 0, none⟩) (xs.filter fun c => !test c).length (xs.length + junk.length) ∧ ExtQ Q L0 L' ∧ (Q, true, Obj.cells ((xs.filter fun c => !test c).map ptr ++ jk).toArray 93) ∈ L' ∧ (xs.filter fun c => !test c).length + jk.length = xs.length + junk.length) := by
 obtain ⟨n1, g1⟩ := indexFunc_s nf
 apply Exists.intro
 intro σ F Δ main s L0 f gf c1 c2 xs test Q junk hQ h8 hf hname hb hc
 co_applyP callsE 42 Tryz.func124 Tryz.ntmps124
 co_applyP c_seq
 co_applyP c_region
 co_applyP oy rfl E_as
 co_applyP o_nil
 change wpE ..
 co_applyP c_seq
 co_applyP c_region
 co_applyP oy rfl E_mv
 co_applyP oy rfl E_mv
 co_applyP oc rfl rfl rfl (g1 L0 f gf c1 c2 xs test (some ⟨Q, 0, none⟩) (xs.length + junk.length) (fun i v hv => ⟨Q, rfl, true, _, _, _, hQ, by rw [List.getElem?_toArray, List.getElem?_append_left (List.getElem?_eq_some_iff.1 hv).1]; exact hv⟩) h8 hf hname hb (fun c hcx L hE => hc c hcx L hE.q))
 rintro _ _ _ ⟨rfl, rfl, hE1⟩
 rename_i L1
 co_applyP oy rfl E_as
 co_applyP o_nil
 change wpE ..
 co_applyP c_seq
 co_applyP c_seq
 co_applyP c_region
 co_applyP oy rfl E_mv
 co_applyP oy rfl E_eql
 co_applyP o_nil
 change wpE ..
 co_applyP c_if rfl
 intro hi
 · have hnone : xs.findIdx? test = none := by
     cases h : xs.findIdx? test with
     | none => rfl
     | some i => unfold idxF at hi; rw [h] at hi; simp at hi
   have hall := List.findIdx?_eq_none_iff.1 hnone
   have hys : (xs.filter fun c => !test c) = xs := List.filter_eq_self.2 fun c hcx => by simpa using hall c hcx
   co_applyP c_seq
   co_applyP c_region
   co_applyP oy rfl E_mv
   co_applyP oy rfl E_as
   co_applyP o_nil
   change wpE ..
   co_applyP c_ret
   change ∃ v, resE .. = some v ∧ _
   exact ⟨_, rfl, rfl, junk, by rw [hys], hE1.q, by rw [hys]; exact hE1.s _ hQ, by rw [hys]⟩
 intro hi
 obtain ⟨i, hsome⟩ : ∃ i, xs.findIdx? test = some i := by
   cases h : xs.findIdx? test with
   | none => unfold idxF at hi; rw [h] at hi; simp at hi
   | some i => exact ⟨i, rfl⟩
 have hidx : idxF test xs = i := by unfold idxF; rw [hsome]
 obtain ⟨hil, hti, hbef⟩ := List.findIdx?_eq_some_iff_getElem.1 hsome
 have ei : IntKind.i64.wrap ((i : Int) + 1) = ((i + 1 : Nat) : Int) := by simp [IntKind.wrap_i64]; omega
 rw [hidx]
 co_applyP c_skip
 change wpE ..
 co_applyP c_seq
 co_applyP c_seq
 co_applyP c_region
 co_applyP oy rfl E_mv
 co_applyP oy rfl E_add
 co_applyP oy rfl E_as
 co_applyP o_nil
 change wpE ..
 co_applyP c_block
 rw [ei]
 have hfi : ((xs.take (i + 1)).filter fun c => !test c) = xs.take i := by
   rw [List.take_add_one, List.filter_append]
   have h1 : ((xs.take i).filter fun c => !test c) = xs.take i := List.filter_eq_self.2 fun c hcx => by
     obtain ⟨j, hj⟩ := List.getElem?_of_mem hcx
     rw [List.getElem?_take] at hj
     split at hj
     · rename_i hlt
       obtain ⟨hl, he⟩ := List.getElem?_eq_some_iff.1 hj
       have := hbef j hlt
       rw [he] at this
       simpa using this
     · cases hj
   rw [h1]
   have h2 : xs[i]?.toList.filter (fun c => !test c) = [] := by simp [hil, hti]
   rw [h2]; simp
 co_applyP c_loop (fun k s' ε' L' => s' = s ∧ ExtQ Q L0 L' ∧ ∃ l1 l2 mid, xs = l1 ++ l2 ∧ mid.length + (l1.filter fun c => !test c).length = l1.length ∧ 0 < mid.length ∧ l2.length ≤ k ∧ (Q, true, Obj.cells ((l1.filter fun c => !test c).map ptr ++ mid ++ l2.map ptr ++ junk).toArray 93) ∈ L' ∧ kn ε' [(6, .int .i64 l1.length), (5, .int .i64 (l1.filter fun c => !test c).length), (0, .slice (some ⟨Q, 0, none⟩) xs.length (xs.length + junk.length)), (1, .func (.func f) c1.toArray c2.toArray)]) 8
 · refine ⟨rfl, hE1.q, xs.take (i + 1), xs.drop (i + 1), [ptr xs[i]], by simp, by rw [hfi]; simp; omega, by simp, by simp; omega, ?_, ?_⟩
   · rw [hfi]
     have e0 : (xs.take i).map ptr ++ [ptr xs[i]] ++ (xs.drop (i + 1)).map ptr = xs.map ptr := by
       rw [← List.map_singleton (f := ptr), ← List.map_append, ← List.map_append]
       congr 1
       simp
     rw [e0]
     exact hE1.s _ hQ
   · have e1 : (xs.take (i + 1)).length = i + 1 := by simp; omega
     have e2 : (xs.take i).length = i := by simp; omega
     rw [hfi, e1, e2]; rfl
 rintro k s' ε' L' ⟨rfl, hE, l1, l2, mid, hl, hm, hm0, hk, hQ', he⟩
 co_applyP wpE_kn he
 have hlen := congrArg List.length hl
 simp only [List.length_append] at hlen
 co_applyP c_seq
 co_applyP c_seq
 co_applyP c_region
 co_applyP oy rfl E_mv
 co_applyP oy rfl E_mv
 co_applyP oy rfl (E_len (hu := Tryz.underlying91))
 co_applyP oy rfl E_lss
 co_applyP o_nil
 change wpE ..
 co_applyP c_if rfl
 intro hlt
 · cases l2 with
   | nil => simp at hlt hlen; omega
   | cons q l2 =>
     simp at hlen hk
     obtain ⟨m, M, rfl⟩ : ∃ m M, mid = m :: M := by
       cases mid with
       | nil => simp at hm0
       | cons m M => exact ⟨m, M, rfl⟩
     simp only [List.length_cons] at hm
     have hav : At L' Q l1.length (ptr q) := by
       refine ⟨true, _, _, _, hQ', ?_⟩
       have := df_get ((l1.filter fun c => !test c).map ptr) (m :: M) (l2.map ptr) junk (ptr q)
       rw [show ((l1.filter fun c => !test c).map ptr).length + (m :: M).length = l1.length by rw [List.length_map, List.length_cons]; omega] at this
       exact this
     have elen : IntKind.i64.wrap ((l1.length : Int) + 1) = ((l1 ++ [q]).length : Int) := by simp [IntKind.wrap_i64]; omega
     co_applyP c_skip
     change wpE ..
     co_applyP c_seq
     co_applyP c_block
     co_applyP c_seq
     co_applyP c_region
     co_applyP oy rfl E_mv
     co_applyP oy rfl E_mv
     co_applyP oy rfl (E_ixs Tryz.underlying91 sz_93)
     co_applyP oy rfl (E_ld (ht := ag_93))
     co_applyP oy rfl E_as
     co_applyP o_nil
     change wpE ..
     co_applyP c_seq
     co_applyP c_region
     co_applyP oy rfl E_mv
     co_applyP oy rfl E_mv
     co_applyP ov rfl (vs := [ptr q]) (hf := hf) (hname := hname) (hb := hb) (hcall := hc q (by rw [hl]; simp) L' hE)
     rintro _ _ _ ⟨rfl, rfl, hE2⟩
     co_applyP oy rfl E_not
     co_applyP o_nil
     change wpE ..
     have hQ2 := hE2.s _ hQ'
     co_applyP c_if rfl
     intro ht
     co_applyP c_seq
     co_applyP c_region
     co_applyP oy rfl E_mv
     co_applyP oy rfl E_mv
     co_applyP oy rfl E_mv
     co_applyP oy rfl (E_ixs Tryz.underlying91 sz_93)
     · have ht' : test q = false := by simpa using ht
       co_applyP oeN rfl (fun hnd => O_sm (hs := sz_93) (hnd := hnd) (hm := hQ2) (hi := by simp))
       rintro _ L3 ⟨rfl, hU⟩
       co_applyP o_nil
       change wpE ..
       co_applyP c_region
       co_applyP oy rfl E_mv
       co_applyP oy rfl E_add
       co_applyP oy rfl E_as
       co_applyP o_nil
       change wpE ..
       co_applyP c_region
       co_applyP oy rfl E_mv
       co_applyP oy rfl E_add
       co_applyP oy rfl E_as
       co_applyP o_nil
       change ∃ k', k' < _ ∧ _
       have hfl : ((l1 ++ [q]).filter fun c => !test c) = (l1.filter fun c => !test c) ++ [q] := by simp [ht']
       have elen2 : IntKind.i64.wrap (((l1.filter fun c => !test c).length : Int) + 1) = (((l1 ++ [q]).filter fun c => !test c).length : Int) := by rw [hfl]; simp [IntKind.wrap_i64]; omega
       refine ⟨k - 1, by omega, rfl, (hE.trans hE2.q).trans hU.q, l1 ++ [q], l2, M ++ [ptr q], by simp [hl], by rw [hfl]; simp; omega, by simp, by omega, ?_, ?_⟩
       · have e1 := df_set ((l1.filter fun c => !test c).map ptr) M (l2.map ptr) junk m (ptr q)
         rw [List.length_map] at e1
         have := hU.self
         rw [hfl, List.map_append]
         exact (e1 ▸ this)
       · rw [← elen, ← elen2]; rfl
     intro ht
     co_applyP c_skip
     change wpE ..
     co_applyP c_region
     co_applyP oy rfl E_mv
     co_applyP oy rfl E_add
     co_applyP oy rfl E_as
     co_applyP o_nil
     change ∃ k', k' < _ ∧ _
     have ht' : test q = true := by simpa using ht
     have hfl : ((l1 ++ [q]).filter fun c => !test c) = (l1.filter fun c => !test c) := by simp [ht']
     refine ⟨k - 1, by omega, rfl, hE.trans hE2.q, l1 ++ [q], l2, (m :: M) ++ [ptr q], by simp [hl], by rw [hfl]; simp; omega, by simp, by omega, ?_, ?_⟩
     · rw [hfl]
       have e0 : (l1.filter fun c => !test c).map ptr ++ ((m :: M) ++ [ptr q]) ++ l2.map ptr ++ junk = (l1.filter fun c => !test c).map ptr ++ (m :: M) ++ (q :: l2).map ptr ++ junk := by simp
       rw [e0]; exact hQ2
     · rw [← elen, hfl]; rfl
 intro hlt
 cases l2 with
 | cons q l2 => simp at hlt hlen; omega
 | nil =>
 have e : l1 = xs := by rw [hl]; simp
 subst e
 co_applyP c_exit
 change wpE ..
 co_applyP c_seq
 co_applyP c_region
 co_applyP oy rfl E_mv
 co_applyP oy rfl E_mv
 co_applyP oy rfl (E_sll Tryz.underlying91 sz_93)
 have ecut : cutAt 0 (((l1.filter fun c => !test c).length : Nat) : Int).toNat (l1.length + junk.length) 1 = (l1.filter fun c => !test c).length := by unfold cutAt; split <;> omega
 have ecut0 : cutAt 0 0 (l1.length + junk.length) 1 = 0 := by unfold cutAt; split <;> omega
 have en : l1.length - (((l1.filter fun c => !test c).length : Nat) : Int).toNat = mid.length := by omega
 rw [ecut, en]
 co_applyP oeN rfl (fun hnd => O_clr (hnd := hnd) (hu := Tryz.underlying91) (hz0 := zr_93) (hzp := rfl) (hm := hQ') (ho := by simp))
 rintro _ L3 ⟨rfl, hU⟩
 co_applyP o_nil
 change wpE ..
 co_applyP c_seq
 co_applyP c_region
 co_applyP oy rfl E_mv
 co_applyP oy rfl E_mv
 co_applyP oy rfl (E_slh Tryz.underlying91 sz_93)
 co_applyP oy rfl E_as
 co_applyP o_nil
 change wpE ..
 co_applyP c_ret
 change ∃ v, resE .. = some v ∧ _
 have e1 := df_clr ((l1.filter fun c => !test c).map ptr) mid junk (.pointer none)
 rw [List.length_map] at e1
 refine ⟨_, rfl, rfl, List.replicate mid.length (.pointer none) ++ junk, by rw [ecut0]; rfl, hE.trans hU.q, ?_, by simp; omega⟩
 have := hU.self
 exact (e1 ▸ this)
abbrev Wt := List ((Nat × Nat) × List Nat)
def entsOf (A : Lay) (l : Wt) (bs : List Nat) : Ents := (l.zip bs).map fun e => (e.1.1, slv (A.a (slot e.1.1)) e.1.2.length, e.2)
theorem wobj_ents (A : Lay) (S : St) : wobj A S = mapO (entsOf A S.wt A.born) A.clock := by
 unfold wobj mapO entsOf
 rw [List.map_map]; rfl
theorem entsOf_append (A : Lay) {l1 l2 : Wt} {b1 b2 : List Nat} (h : l1.length = b1.length) : entsOf A (l1 ++ l2) (b1 ++ b2) = entsOf A l1 b1 ++ entsOf A l2 b2 := by
 unfold entsOf; rw [List.zip_append h, List.map_append]
theorem entsOf_len (A : Lay) {l : Wt} {b : List Nat} (h : l.length = b.length) : (entsOf A l b).length = l.length := by
 unfold entsOf; simp [h]
theorem lk_skip {k : Nat × Nat} : ∀ {l m : Ents} {i : Nat}, (∀ e ∈ l, e.1 ≠ k) → lk k (l ++ m) i = lk k m (i + l.length)
 | [], m, i, _ => rfl
 | e :: l, m, i, h => by
   have h1 := h e List.mem_cons_self
   simp only [List.cons_append, lk, if_neg (Ne.symm h1), List.length_cons]
   rw [lk_skip fun e he => h e (List.mem_cons_of_mem _ he)]
   congr 1; omega
theorem lk_none {k : Nat × Nat} {l : Ents} {i : Nat} (h : ∀ e ∈ l, e.1 ≠ k) : lk k l i = none := by
 have := lk_skip (m := []) (i := i) h
 rw [List.append_nil] at this
 rw [this]; rfl
theorem entsOf_key {A : Lay} {l : Wt} {bs : List Nat} {k : Nat × Nat} (h : ∀ e ∈ l, e.1 ≠ k) : ∀ e ∈ entsOf A l bs, e.1 ≠ k := by
 intro e he
 unfold entsOf at he
 obtain ⟨p, hp, rfl⟩ := List.mem_map.1 he
 exact h _ (List.of_mem_zip hp).1
theorem entsOf_congr {A A' : Lay} {l : Wt} {bs : List Nat} (h : ∀ e ∈ l, A'.a (slot e.1) = A.a (slot e.1)) : entsOf A' l bs = entsOf A l bs := by
 unfold entsOf
 apply List.map_congr_left
 intro e he
 rw [h _ (List.of_mem_zip he).1]
def okKey (k : Nat × Nat) : Prop := k.2 < 10
theorem slot_inj {k k' : Nat × Nat} (h : okKey k) (h' : okKey k') (e : slot k = slot k') : k = k' := by
 unfold slot at e; unfold okKey at h h'
 exact Prod.ext (by omega) (by omega)
def Lay.setW (A : Lay) (k : Nat × Nat) (a' : Sl) (born : List Nat) (clock : Nat) : Lay := { A with a := put A.a (slot k) a', born := born, clock := clock }
def St.setW (S : St) (wt : Wt) : St := { S with wt := wt }
structure WLay (A A' : Lay) : Prop where
 a : ∀ i, i < 100 → A'.a i = A.a i
 y : A'.y = A.y
 w : A'.wt = A.wt
 g : A'.g = A.g ∧ A'.gcap = A.gcap ∧ A'.gc = A.gc
theorem WLay.refl (A : Lay) : WLay A A := ⟨fun _ _ => rfl, rfl, rfl, ⟨rfl, rfl, rfl⟩⟩
theorem WLay.set (A : Lay) (k : Nat × Nat) (a' : Sl) (born : List Nat) (clock : Nat) : WLay A (A.setW k a' born clock) := ⟨fun i hi => by simp [Lay.setW, put]; intro e; unfold slot at e; omega, rfl, rfl, ⟨rfl, rfl, rfl⟩⟩
section
variable {K : Nat} {A : Lay} {S : St} {F L L' : Frag}
theorem Rep.setWait (h : Rep K A S F L) {k : Nat × Nat} {a' : Sl} {wt' : Wt} {born' : List Nat} {clock' : Nat} (hf : Fun L') (hs : ∀ t ∈ L, t.1 ≠ A.wt → (A.a (slot k)).b ≠ some t.1 → t ∈ L') (hw : (A.wt, true, mapO (entsOf (A.setW k a' born' clock') wt' born') clock') ∈ L') (hl : born'.length = wt'.length) (hbn : born'.Nodup) (hbc : ∀ x ∈ born', x < clock')
   (ha : ∀ e ∈ wt', (e.1 = k ∧ slOk a' (e.2.map ptr) 93 L') ∨ (e ∈ S.wt ∧ slot e.1 ≠ slot k)) (hal : ∀ b, a'.b = some b → ∃ xs, (b, true, Obj.cells xs 93) ∈ L')
   (hd : ∀ b, a'.b = some b → (A.a (slot k)).b = some b ∨ ((∀ i, (A.a i).b ≠ some b) ∧ ∀ t ∈ F, t.1 ≠ b)) : Rep K (A.setW k a' born' clock') (S.setW wt') F L' := by
 have ty : ∀ {b : Nat} {fl : Bool} {o : Obj}, (b, fl, o) ∈ L → (∀ c, o ≠ Obj.cells c 93) → (A.a (slot k)).b ≠ some b := fun hm ho hb => by
   obtain ⟨xs, hx⟩ := h.al _ _ hb
   exact ho _ (h.fn _ _ _ _ _ hm hx).2
 have arr : ∀ (a : Sl) (xs : List Value) (e : TypeId), (∀ b, a.b = some b → (A.a (slot k)).b ≠ some b) → slOk a xs e L → slOk a xs e L' := fun a xs e hne ha => by
   refine ha.mono fun c hc o ho => hs _ ho ?_ (hne c hc)
   exact h.fn.ne (ha.mem hc) h.w (by simp [wobj])
 have hdn : ∀ i, i ≠ slot k → ∀ b, (A.a i).b = some b → (A.a (slot k)).b ≠ some b := fun i hi b hb e => h.d i (slot k) hi (by rw [hb]; simp) (by rw [hb, e])
 have pA : ∀ i, i ≠ slot k → (A.setW k a' born' clock').a i = A.a i := fun i hi => by simp [Lay.setW, put, hi]
 have pS : (A.setW k a' born' clock').a (slot k) = a' := by simp [Lay.setW, put]
 have low : ∀ i, i < 100 → i ≠ slot k := fun i hi e => by unfold slot at e; omega
 have ek : kcells (kst (A.setW k a' born' clock') (S.setW wt')) = kcells (kst A S) := by
   unfold kcells kst
   simp only [pA 0 (low 0 (by omega)), pA (0 + 1) (low _ (by omega)), pA (1 + 1) (low _ (by omega)), pA (2 + 1) (low _ (by omega))]
   rfl
 exact { h with
   fn := hf
   k := by unfold kb; rw [ek]; exact hs _ h.k (h.fn.ne h.k h.w (by simp [wobj])) (ty h.k fun c => cells_ne (by decide))
   g := hs _ h.g (h.fn.ne h.g h.w (by simp [wobj])) (ty h.g fun c => cells_ne (by decide))
   p := fun q hq => hs _ (h.p q hq) (h.fn.ne (h.p q hq) h.w (by simp [wobj])) (ty (h.p q hq) fun c => cells_ne (by decide))
   pa := by rw [pA 0 (low 0 (by omega))]; exact arr _ _ _ (hdn 0 (low 0 (by omega))) h.pa
   rw := fun l hl => by rw [pA _ (low _ (by omega))]; exact arr _ _ _ (hdn _ (low _ (by omega))) (h.rw l hl)
   ya := fun i hi => arr _ _ _ (fun b hb => ty ((h.ya i hi).mem hb) fun c => cells_ne (by decide)) (h.ya i hi)
   w := by rw [wobj_ents]; exact hw
   wl := hl
   bn := hbn
   bc := hbc
   wa := fun e he => by
     rcases ha e he with ⟨h1, h2⟩ | ⟨h1, h2⟩
     · rw [h1, pS]; exact h2
     · rw [pA _ h2]; exact arr _ _ _ (hdn _ h2) (h.wa e h1)
   al := fun i c hc => by
     by_cases ei : i = slot k
     · subst ei; rw [pS] at hc; exact hal c hc
     · rw [pA i ei] at hc
       obtain ⟨xs, hx⟩ := h.al i c hc
       exact ⟨xs, hs _ hx (h.fn.ne hx h.w (by simp [wobj])) (hdn i ei c hc)⟩
   yl := fun i c hc => by
     obtain ⟨xs, hx⟩ := h.yl i c hc
     exact ⟨xs, hs _ hx (h.fn.ne hx h.w (by simp [wobj])) (ty hx fun c => cells_ne (by decide))⟩
   d := fun i j hij hi => by
     by_cases ei : i = slot k
     · subst ei
       rw [pA j (Ne.symm hij), pS]
       rw [pS] at hi
       intro e
       cases hb : a'.b with
       | none => exact hi hb
       | some b =>
         rcases hd b hb with h1 | h1
         · exact h.d (slot k) j hij (by rw [h1]; simp) (by rw [h1, ← e, hb])
         · exact h1.1 j (by rw [← e, hb])
     · rw [pA i ei]
       rw [pA i ei] at hi
       by_cases ej : j = slot k
       · subst ej
         rw [pS]
         intro e
         cases hb : a'.b with
         | none => rw [hb] at e; exact hi e
         | some b =>
           rcases hd b hb with h1 | h1
           · exact h.d i (slot k) ei hi (by rw [h1, e, hb])
           · exact h1.1 i (by rw [e, hb])
       · rw [pA j ej]; exact h.d i j hij hi
   fr := fun t ht => hs _ (h.fr t ht) (h.fd t ht).2.2.2.2 ((h.fd t ht).2.2.1 _)
   fd := fun t ht => by
     refine ⟨(h.fd t ht).1, (h.fd t ht).2.1, fun i => ?_, (h.fd t ht).2.2.2⟩
     by_cases ei : i = slot k
     · subst ei
       rw [pS]
       intro e
       rcases hd _ e with h1 | h1
       · exact (h.fd t ht).2.2.1 _ h1
       · exact h1.2 t ht rfl
     · rw [pA i ei]; exact (h.fd t ht).2.2.1 i }
end
end Go.Proofs.YtejkelcaljmnoaaGreatDoor
