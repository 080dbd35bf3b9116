/-
  Part 4 of the proof.
  No condition but those that each statement names.
-/
import Derived.Test.YtejkelcaljmnoaaGreatDoorHy03
set_option maxRecDepth 100000
set_option maxHeartbeats 4000000
set_option linter.unusedVariables false
set_option linter.unusedSimpArgs false
set_option linter.unusedSectionVars false
namespace Go.Proofs.YtejkelcaljmnoaaGreatDoor
open Go.Conc Go.Hx Go.Lo
structure ExtQ (Q : Nat) (L L' : Frag) : Prop where
 f : Fun L'
 s : ∀ t ∈ L, t.1 ≠ Q → t ∈ L'
theorem Ext.q {Q : Nat} {L L' : Frag} (h : Ext L L') : ExtQ Q L L' := ⟨h.f, fun t ht _ => h.s t ht⟩
theorem ExtQ.trans {Q : Nat} {L L' L'' : Frag} (h : ExtQ Q L L') (k : ExtQ Q L' L'') : ExtQ Q L L'' := ⟨k.f, fun t ht hn => k.s t (h.s t ht hn) hn⟩
theorem _root_.Go.Lo.Upd.q {Q : Nat} {L L' : Frag} {o : Obj} (h : Upd L Q o L') : ExtQ Q L L' := ⟨h.fn, fun t ht hn => h.ne t ht hn⟩
theorem y9 (A M B C : List Value) (q : Value) : (A ++ M ++ q :: B ++ C).toArray[A.length + M.length]? = some q := by
 rw [List.getElem?_toArray];have : A ++ M ++ q :: B ++ C = (A ++ M) ++ (q :: (B ++ C)) := by simp
 rw [this, List.getElem?_append_right (by simp)];simp
theorem za (A M B C : List Value) (m q : Value) : (A ++ (m :: M) ++ q :: B ++ C).toArray.setIfInBounds A.length q = ((A ++ [q]) ++ (M ++ [q]) ++ B ++ C).toArray := by
 rw [List.setIfInBounds_toArray];have : A ++ (m :: M) ++ q :: B ++ C = A ++ (m :: (M ++ q :: (B ++ C))) := by simp
 rw [this, List.set_append_right _ _ (Nat.le_refl _)];simp
theorem zb (A M C : List Value) (z : Value) : puts (A ++ M ++ ([] : List Value) ++ C).toArray A.length (List.replicate M.length z) = (A ++ (List.replicate M.length z ++ C)).toArray := by
 rw [co _ _ _ (by simp)];congr 1;simp [List.take_append_of_le_length, List.drop_append]
theorem mt (nf : Nat) : ∃ n, ∀ {σ} {F : Fam σ} {Δ : DM F} {main s} (L0 : Frag) (f : FuncId) (gf : Func) (c1 c2 : List Value) (xs : List Nat) (test : Nat → Bool) (Q : Nat) (junk : List Value),
   (Q, true, Obj.cells (xs.map ptr ++ junk).toArray 93) ∈ L0 → xs.length ≤ 8 → Tryz.prog.funcs[f]? = some gf → (gf.name == "runtime.NumGoroutine") = false → gf.body.isNone = false →
   (∀ c ∈ xs, ∀ L, ExtQ Q L0 L → CallsL Δ Tryz.prog main f (c1 ++ [ptr c] ++ c2).toArray nf s L (fun s' v L' => s = s' ∧ v = .bool (test c) ∧ Ext L L')) →
   CallsL Δ Tryz.prog main 124 [.slice (some ⟨Q, 0, none⟩) xs.length (xs.length + junk.length), .func (.func f) c1.toArray c2.toArray].toArray n s L0 (fun s' v L' => s = s' ∧ ∃ jk, v = .slice (some ⟨Q, 0, none⟩) (xs.filter fun c => !test c).length (xs.length + junk.length) ∧ ExtQ Q L0 L' ∧ (Q, true, Obj.cells ((xs.filter fun c => !test c).map ptr ++ jk).toArray 93) ∈ L' ∧ (xs.filter fun c => !test c).length + jk.length = xs.length + junk.length) := by
 obtain ⟨n1, g1⟩ := eW nf;apply Exists.intro;intro σ F Δ main s L0 f gf c1 c2 xs test Q junk hQ h8 hf hname hb hc;co_applyP aB 42 Tryz.func124 Tryz.ntmps124;co_applyP aa;co_applyP oan rfl;co_applyP aa;co_applyP om rfl rfl rfl ae;co_applyP oc rfl rfl rfl (g1 L0 f gf c1 c2 xs test (some ⟨Q, 0, none⟩) (xs.length + junk.length) (fun i v hv => ⟨Q, rfl, true, _, _, _, hQ, by rw [List.getElem?_toArray, List.getElem?_append_left (List.getElem?_eq_some_iff.1 hv).1]; exact hv⟩) h8 hf hname hb (fun c hcx L hE => hc c hcx L hE.q));rintro _ _ _ ⟨rfl, rfl, hE1⟩;rename_i L1;co_applyP oan rfl;co_applyP aq;co_applyP aa;co_applyP om rfl rfl rfl aA;co_applyP ah;co_applyP bk rfl;intro hi
 · have hnone : xs.findIdx? test = none := by
     cases h : xs.findIdx? test with
     | none => rfl
     | some i => unfold idxF at hi; rw [h] at hi; simp at hi
   have hall := List.findIdx?_eq_none_iff.1 hnone;have hys : (xs.filter fun c => !test c) = xs := List.filter_eq_self.2 fun c hcx => by simpa using hall c hcx
   co_applyP aa;co_applyP oy rfl ae;co_applyP oan rfl;co_applyP aK;change ∃ v, resE .. = some v ∧ _;exact ⟨_, rfl, rfl, junk, by rw [hys], hE1.q, by rw [hys]; exact hE1.s _ hQ, by rw [hys]⟩
 intro hi;obtain ⟨i, hsome⟩ : ∃ i, xs.findIdx? test = some i := by
   cases h : xs.findIdx? test with
   | none => unfold idxF at hi; rw [h] at hi; simp at hi
   | some i => exact ⟨i, rfl⟩
 have hidx : idxF test xs = i := by unfold idxF; rw [hsome]
 obtain ⟨hil, hti, hbef⟩ := List.findIdx?_eq_some_iff_getElem.1 hsome;have ei : IntKind.i64.wrap ((i : Int) + 1) = ((i + 1 : Nat) : Int) := by simp [IntKind.wrap_i64]; omega
 rw [hidx];co_applyP aD;co_applyP aq;co_applyP aa;co_applyP om rfl rfl rfl aR;co_applyP oan rfl;co_applyP aI;rw [ei];have hfi : ((xs.take (i + 1)).filter fun c => !test c) = xs.take i := by
   rw [List.take_add_one, List.filter_append];have h1 : ((xs.take i).filter fun c => !test c) = xs.take i := List.filter_eq_self.2 fun c hcx => by
     obtain ⟨j, hj⟩ := List.getElem?_of_mem hcx;rw [List.getElem?_take] at hj
     split at hj
     · rename_i hlt;obtain ⟨hl, he⟩ := List.getElem?_eq_some_iff.1 hj;have := hbef j hlt;rw [he] at this;simpa using this
     · cases hj
   rw [h1];have h2 : xs[i]?.toList.filter (fun c => !test c) = [] := by simp [hil, hti]
   rw [h2]; simp
 co_applyP bK (fun k s' ε' L' => s' = s ∧ ExtQ Q L0 L' ∧ ∃ l1 l2 mid, xs = l1 ++ l2 ∧ mid.length + (l1.filter fun c => !test c).length = l1.length ∧ 0 < mid.length ∧ l2.length ≤ k ∧ (Q, true, Obj.cells ((l1.filter fun c => !test c).map ptr ++ mid ++ l2.map ptr ++ junk).toArray 93) ∈ L' ∧ kn ε' [(6, .int .i64 l1.length), (5, .int .i64 (l1.filter fun c => !test c).length), (0, .slice (some ⟨Q, 0, none⟩) xs.length (xs.length + junk.length)), (1, .func (.func f) c1.toArray c2.toArray)]) 8
 · refine ⟨rfl, hE1.q, xs.take (i + 1), xs.drop (i + 1), [ptr xs[i]], by simp, by rw [hfi]; simp; omega, by simp, by simp; omega, ?_, ?_⟩
   · rw [hfi];have e0 : (xs.take i).map ptr ++ [ptr xs[i]] ++ (xs.drop (i + 1)).map ptr = xs.map ptr := by
       rw [← List.map_singleton (f := ptr), ← List.map_append, ← List.map_append];congr 1;simp
     rw [e0];exact hE1.s _ hQ
   · have e1 : (xs.take (i + 1)).length = i + 1 := by simp; omega
     have e2 : (xs.take i).length = i := by simp; omega
     rw [hfi, e1, e2]; rfl
 rintro k s' ε' L' ⟨rfl, hE, l1, l2, mid, hl, hm, hm0, hk, hQ', he⟩;co_applyP aV he;have hlen := congrArg List.length hl;simp only [List.length_append] at hlen;co_applyP aq;co_applyP aa;co_applyP om rfl rfl rfl ae;co_applyP oy rfl (bB (hu := U91));co_applyP oy rfl cF;co_applyP ah;co_applyP bk rfl;intro hlt
 · cases l2 with
   | nil => simp at hlt hlen; omega
   | cons q l2 =>
     simp at hlen hk;obtain ⟨m, M, rfl⟩ : ∃ m M, mid = m :: M := by
       cases mid with
       | nil => simp at hm0
       | cons m M => exact ⟨m, M, rfl⟩
     simp only [List.length_cons] at hm;have hav : At L' Q l1.length (ptr q) := by
       refine ⟨true, _, _, _, hQ', ?_⟩;have := y9 ((l1.filter fun c => !test c).map ptr) (m :: M) (l2.map ptr) junk (ptr q);rw [show ((l1.filter fun c => !test c).map ptr).length + (m :: M).length = l1.length by rw [List.length_map, List.length_cons]; omega] at this;exact this
     have elen : IntKind.i64.wrap ((l1.length : Int) + 1) = ((l1 ++ [q]).length : Int) := by simp [IntKind.wrap_i64]; omega
     co_applyP aD;co_applyP aq;co_applyP aI;co_applyP aa;co_applyP om rfl rfl rfl ae;co_applyP oy rfl (bH U91 bN);co_applyP oy rfl (aF (ht := dz));co_applyP oan rfl;co_applyP aa;co_applyP om rfl rfl rfl ae;co_applyP ov rfl (vs := [ptr q]) (hf := hf) (hname := hname) (hb := hb) (hcall := hc q (by rw [hl]; simp) L' hE);rintro _ _ _ ⟨rfl, rfl, hE2⟩;co_applyP oy rfl cN;co_applyP ah;change wpE ..;have hQ2 := hE2.s _ hQ';co_applyP bk rfl;intro ht;co_applyP aa;co_applyP om rfl rfl rfl ae;co_applyP om rfl rfl rfl (bH U91 bN)
     · have ht' : test q = false := by simpa using ht
       co_applyP oeN rfl (fun hnd => fq (hs := bN) (hnd := hnd) (hm := hQ2) (hi := by simp));rintro _ L3 ⟨rfl, hU⟩;co_applyP ah;co_applyP ax;co_applyP om rfl rfl rfl aR;co_applyP oan rfl;co_applyP ax;co_applyP om rfl rfl rfl aR;co_applyP oan rfl;change ∃ k', k' < _ ∧ _;have hfl : ((l1 ++ [q]).filter fun c => !test c) = (l1.filter fun c => !test c) ++ [q] := by simp [ht']
       have elen2 : IntKind.i64.wrap (((l1.filter fun c => !test c).length : Int) + 1) = (((l1 ++ [q]).filter fun c => !test c).length : Int) := by rw [hfl]; simp [IntKind.wrap_i64]; omega
       refine ⟨k - 1, by omega, rfl, (hE.trans hE2.q).trans hU.q, l1 ++ [q], l2, M ++ [ptr q], by simp [hl], by rw [hfl]; simp; omega, by simp, by omega, ?_, ?_⟩
       · have e1 := za ((l1.filter fun c => !test c).map ptr) M (l2.map ptr) junk m (ptr q);rw [List.length_map] at e1;have := hU.self;rw [hfl, List.map_append];exact (e1 ▸ this)
       · rw [← elen, ← elen2]; rfl
     intro ht;co_applyP aD;co_applyP ax;co_applyP om rfl rfl rfl aR;co_applyP oan rfl;change ∃ k', k' < _ ∧ _;have ht' : test q = true := by simpa using ht
     have hfl : ((l1 ++ [q]).filter fun c => !test c) = (l1.filter fun c => !test c) := by simp [ht']
     refine ⟨k - 1, by omega, rfl, hE.trans hE2.q, l1 ++ [q], l2, (m :: M) ++ [ptr q], by simp [hl], by rw [hfl]; simp; omega, by simp, by omega, ?_, ?_⟩
     · rw [hfl];have e0 : (l1.filter fun c => !test c).map ptr ++ ((m :: M) ++ [ptr q]) ++ l2.map ptr ++ junk = (l1.filter fun c => !test c).map ptr ++ (m :: M) ++ (q :: l2).map ptr ++ junk := by simp
       rw [e0]; exact hQ2
     · rw [← elen, hfl]; rfl
 intro hlt;cases l2 with
 | cons q l2 => simp at hlt hlen; omega
 | nil =>
 have e : l1 = xs := by rw [hl]; simp
 subst e;co_applyP bS;co_applyP aa;co_applyP om rfl rfl rfl ae;co_applyP oy rfl (tL U91 bN);have ecut : cutAt 0 (((l1.filter fun c => !test c).length : Nat) : Int).toNat (l1.length + junk.length) 1 = (l1.filter fun c => !test c).length := by unfold cutAt; split <;> omega
 have ecut0 : cutAt 0 0 (l1.length + junk.length) 1 = 0 := by unfold cutAt; split <;> omega
 have en : l1.length - (((l1.filter fun c => !test c).length : Nat) : Int).toNat = mid.length := by omega
 rw [ecut, en];co_applyP oeN rfl (fun hnd => tO (hnd := hnd) (hu := U91) (hz0 := iy) (hzp := rfl) (hm := hQ') (ho := by simp));rintro _ L3 ⟨rfl, hU⟩;co_applyP ah;co_applyP aa;co_applyP om rfl rfl rfl ae;co_applyP oy rfl (tK U91 bN);co_applyP oan rfl;co_applyP aK;change ∃ v, resE .. = some v ∧ _;have e1 := zb ((l1.filter fun c => !test c).map ptr) mid junk (.pointer none);rw [List.length_map] at e1;refine ⟨_, rfl, rfl, List.replicate mid.length (.pointer none) ++ junk, by rw [ecut0]; rfl, hE.trans hU.q, ?_, by simp; omega⟩;have := hU.self;exact (e1 ▸ this)
abbrev Wt := List ((Nat × Nat) × List Nat)
def entsOf (A : Lay) (l : Wt) (bs : List Nat) : Ents := (l.zip bs).map fun e => (e.1.1, slv (A.a (slot e.1.1)) e.1.2.length, e.2)
theorem cJ (A : Lay) (S : St) : wobj A S = mapO (entsOf A S.wt A.born) A.clock := by
 unfold wobj mapO entsOf;rw [List.map_map]; rfl
theorem cx (A : Lay) {l1 l2 : Wt} {b1 b2 : List Nat} (h : l1.length = b1.length) : entsOf A (l1 ++ l2) (b1 ++ b2) = entsOf A l1 b1 ++ entsOf A l2 b2 := by
 unfold entsOf; rw [List.zip_append h, List.map_append]
theorem dQ (A : Lay) {l : Wt} {b : List Nat} (h : l.length = b.length) : (entsOf A l b).length = l.length := by
 unfold entsOf; simp [h]
theorem jE {k : Nat × Nat} : ∀ {l m : Ents} {i : Nat}, (∀ e ∈ l, e.1 ≠ k) → lk k (l ++ m) i = lk k m (i + l.length)
 | [], m, i, _ => rfl
 | e :: l, m, i, h => by
   have h1 := h e List.mem_cons_self;simp only [List.cons_append, lk, if_neg (Ne.symm h1), List.length_cons];rw [jE fun e he => h e (List.mem_cons_of_mem _ he)];congr 1; omega
theorem iB {k : Nat × Nat} {l : Ents} {i : Nat} (h : ∀ e ∈ l, e.1 ≠ k) : lk k l i = none := by
 have := jE (m := []) (i := i) h;rw [List.append_nil] at this;rw [this]; rfl
theorem dR {A : Lay} {l : Wt} {bs : List Nat} {k : Nat × Nat} (h : ∀ e ∈ l, e.1 ≠ k) : ∀ e ∈ entsOf A l bs, e.1 ≠ k := by
 intro e he;unfold entsOf at he;obtain ⟨p, hp, rfl⟩ := List.mem_map.1 he;exact h _ (List.of_mem_zip hp).1
theorem eh {A A' : Lay} {l : Wt} {bs : List Nat} (h : ∀ e ∈ l, A'.a (slot e.1) = A.a (slot e.1)) : entsOf A' l bs = entsOf A l bs := by
 unfold entsOf;apply List.map_congr_left;intro e he;rw [h _ (List.of_mem_zip he).1]
def okKey (k : Nat × Nat) : Prop := k.2 < 10
theorem km {k k' : Nat × Nat} (h : okKey k) (h' : okKey k') (e : slot k = slot k') : k = k' := by
 unfold slot at e; unfold okKey at h h';exact Prod.ext (by omega) (by omega)
def Lay.setW (A : Lay) (k : Nat × Nat) (a' : Sl) (born : List Nat) (clock : Nat) : Lay := { A with a := put A.a (slot k) a', born := born, clock := clock }
def St.setW (S : St) (wt : Wt) : St := { S with wt := wt }
structure WLay (A A' : Lay) : Prop where
 a : ∀ i, i < 100 → A'.a i = A.a i
 y : A'.y = A.y
 w : A'.wt = A.wt
 g : A'.g = A.g ∧ A'.gcap = A.gcap ∧ A'.gc = A.gc
theorem WLay.refl (A : Lay) : WLay A A := ⟨fun _ _ => rfl, rfl, rfl, ⟨rfl, rfl, rfl⟩⟩
theorem WLay.set (A : Lay) (k : Nat × Nat) (a' : Sl) (born : List Nat) (clock : Nat) : WLay A (A.setW k a' born clock) := ⟨fun i hi => by simp [Lay.setW, put]; intro e; unfold slot at e; omega, rfl, rfl, ⟨rfl, rfl, rfl⟩⟩
section
variable {K : Nat} {A : Lay} {S : St} {F L L' : Frag}
theorem Rep.setWait (h : Rep K A S F L) {k : Nat × Nat} {a' : Sl} {wt' : Wt} {born' : List Nat} {clock' : Nat} (hf : Fun L') (hs : ∀ t ∈ L, t.1 ≠ A.wt → (A.a (slot k)).b ≠ some t.1 → t ∈ L') (hw : (A.wt, true, mapO (entsOf (A.setW k a' born' clock') wt' born') clock') ∈ L') (hl : born'.length = wt'.length) (hbn : born'.Nodup) (hbc : ∀ x ∈ born', x < clock')
   (ha : ∀ e ∈ wt', (e.1 = k ∧ slOk a' (e.2.map ptr) 93 L') ∨ (e ∈ S.wt ∧ slot e.1 ≠ slot k)) (hal : ∀ b, a'.b = some b → ∃ xs, (b, true, Obj.cells xs 93) ∈ L')
   (hd : ∀ b, a'.b = some b → (A.a (slot k)).b = some b ∨ ((∀ i, (A.a i).b ≠ some b) ∧ ∀ t ∈ F, t.1 ≠ b)) : Rep K (A.setW k a' born' clock') (S.setW wt') F L' := by
 have ty : ∀ {b : Nat} {fl : Bool} {o : Obj}, (b, fl, o) ∈ L → (∀ c, o ≠ Obj.cells c 93) → (A.a (slot k)).b ≠ some b := fun hm ho hb => by
   obtain ⟨xs, hx⟩ := h.al _ _ hb;exact ho _ (h.fn _ _ _ _ _ hm hx).2
 have arr : ∀ (a : Sl) (xs : List Value) (e : TypeId), (∀ b, a.b = some b → (A.a (slot k)).b ≠ some b) → slOk a xs e L → slOk a xs e L' := fun a xs e hne ha => by
   refine ha.mono fun c hc o ho => hs _ ho ?_ (hne c hc);exact h.fn.ne (ha.mem hc) h.w (by simp [wobj])
 have hdn : ∀ i, i ≠ slot k → ∀ b, (A.a i).b = some b → (A.a (slot k)).b ≠ some b := fun i hi b hb e => h.d i (slot k) hi (by rw [hb]; simp) (by rw [hb, e]);have pA : ∀ i, i ≠ slot k → (A.setW k a' born' clock').a i = A.a i := fun i hi => by simp [Lay.setW, put, hi]
 have pS : (A.setW k a' born' clock').a (slot k) = a' := by simp [Lay.setW, put]
 have low : ∀ i, i < 100 → i ≠ slot k := fun i hi e => by unfold slot at e; omega
 have ek : kcells (kst (A.setW k a' born' clock') (S.setW wt')) = kcells (kst A S) := by
   unfold kcells kst;simp only [pA 0 (low 0 (by omega)), pA (0 + 1) (low _ (by omega)), pA (1 + 1) (low _ (by omega)), pA (2 + 1) (low _ (by omega))];rfl
 exact { h with
   fn := hf
   k := by unfold kb; rw [ek]; exact hs _ h.k (h.fn.ne h.k h.w (by simp [wobj])) (ty h.k fun c => aE (by decide))
   g := hs _ h.g (h.fn.ne h.g h.w (by simp [wobj])) (ty h.g fun c => aE (by decide))
   p := fun q hq => hs _ (h.p q hq) (h.fn.ne (h.p q hq) h.w (by simp [wobj])) (ty (h.p q hq) fun c => aE (by decide))
   pa := by rw [pA 0 (low 0 (by omega))]; exact arr _ _ _ (hdn 0 (low 0 (by omega))) h.pa
   rw := fun l hl => by rw [pA _ (low _ (by omega))]; exact arr _ _ _ (hdn _ (low _ (by omega))) (h.rw l hl)
   ya := fun i hi => arr _ _ _ (fun b hb => ty ((h.ya i hi).mem hb) fun c => aE (by decide)) (h.ya i hi)
   w := by rw [cJ]; exact hw
   wl := hl
   bn := hbn
   bc := hbc
   wa := fun e he => by
     rcases ha e he with ⟨h1, h2⟩ | ⟨h1, h2⟩
     · rw [h1, pS]; exact h2
     · rw [pA _ h2]; exact arr _ _ _ (hdn _ h2) (h.wa e h1)
   al := fun i c hc => by
     by_cases ei : i = slot k
     · subst ei; rw [pS] at hc; exact hal c hc
     · rw [pA i ei] at hc;obtain ⟨xs, hx⟩ := h.al i c hc;exact ⟨xs, hs _ hx (h.fn.ne hx h.w (by simp [wobj])) (hdn i ei c hc)⟩
   yl := fun i c hc => by
     obtain ⟨xs, hx⟩ := h.yl i c hc;exact ⟨xs, hs _ hx (h.fn.ne hx h.w (by simp [wobj])) (ty hx fun c => aE (by decide))⟩
   d := fun i j hij hi => by
     by_cases ei : i = slot k
     · subst ei;rw [pA j (Ne.symm hij), pS];rw [pS] at hi;intro e;cases hb : a'.b with
       | none => exact hi hb
       | some b =>
         rcases hd b hb with h1 | h1
         · exact h.d (slot k) j hij (by rw [h1]; simp) (by rw [h1, ← e, hb])
         · exact h1.1 j (by rw [← e, hb])
     · rw [pA i ei];rw [pA i ei] at hi;by_cases ej : j = slot k
       · subst ej;rw [pS];intro e;cases hb : a'.b with
         | none => rw [hb] at e; exact hi e
         | some b =>
           rcases hd b hb with h1 | h1
           · exact h.d i (slot k) ei hi (by rw [h1, e, hb])
           · exact h1.1 i (by rw [e, hb])
       · rw [pA j ej]; exact h.d i j hij hi
   fr := fun t ht => hs _ (h.fr t ht) (h.fd t ht).2.2.2.2 ((h.fd t ht).2.2.1 _)
   fd := fun t ht => by
     refine ⟨(h.fd t ht).1, (h.fd t ht).2.1, fun i => ?_, (h.fd t ht).2.2.2⟩;by_cases ei : i = slot k
     · subst ei;rw [pS];intro e;rcases hd _ e with h1 | h1
       · exact (h.fd t ht).2.2.1 _ h1
       · exact h1.2 t ht rfl
     · rw [pA i ei]; exact (h.fd t ht).2.2.1 i }
end
structure WGood (S : St) : Prop where
 kn : (S.wt.map (·.1)).Nodup
 kk : ∀ e ∈ S.wt, okKey e.1
 rl : ∀ e ∈ S.wt, e.2.length ≤ 8
 ne : ∀ e ∈ S.wt, e.2 ≠ []
 rm : ∀ e ∈ S.wt, ∀ c ∈ e.2, ∃ y, (c, y) ∈ S.ps
def departW (b : Nat) (k : Nat × Nat) (l : Wt) : Wt := l.filterMap fun e => if e.1 = k then (if (e.2.filter fun c => !decide (c = b)).length = 0 then none else some (k, e.2.filter fun c => !decide (c = b))) else some e
def St.depart (S : St) (b : Nat) (k : Nat × Nat) : St := S.setW (departW b k S.wt)
theorem eq {b : Nat} {k : Nat × Nat} {l : Wt} (h : ∀ e ∈ l, e.1 ≠ k) : departW b k l = l := by
 unfold departW
 induction l with
 | nil => rfl
 | cons e l ih =>
   rw [List.filterMap_cons_some (by rw [if_neg (h e List.mem_cons_self)])];rw [ih fun e he => h e (List.mem_cons_of_mem _ he)]
theorem ko {b : Nat} {k : Nat × Nat} {l1 l2 : Wt} {xs : List Nat} (h1 : ∀ e ∈ l1, e.1 ≠ k) (h2 : ∀ e ∈ l2, e.1 ≠ k) : departW b k (l1 ++ (k, xs) :: l2) = l1 ++ ((if (xs.filter fun c => !decide (c = b)).length = 0 then [] else [(k, xs.filter fun c => !decide (c = b))]) ++ l2) := by
 have e1 := eq (b := b) h1;have e2 := eq (b := b) h2;unfold departW at *;rw [List.filterMap_append, e1, List.filterMap_cons, if_pos rfl]
 split
 · rename_i h; split at h
   · rw [if_pos ‹_›, e2]; rfl
   · cases h
 · rename_i h; split at h
   · cases h
   · rw [if_neg ‹_›, e2]; simp at h; rw [← h]; rfl
theorem cK {l : Wt} {k : Nat × Nat} (hn : (l.map (·.1)).Nodup) (h : k ∈ l.map (·.1)) : ∃ l1 xs l2, l = l1 ++ (k, xs) :: l2 ∧ (∀ e ∈ l1, e.1 ≠ k) ∧ ∀ e ∈ l2, e.1 ≠ k := by
 obtain ⟨⟨k', xs⟩, he, rfl⟩ := List.mem_map.1 h;obtain ⟨l1, l2, rfl⟩ := List.append_of_mem he;rw [List.map_append, List.map_cons] at hn;obtain ⟨h1, h2, h3⟩ := List.nodup_append.1 hn;refine ⟨l1, xs, l2, rfl, fun e he e1 => ?_, fun e he e1 => ?_⟩
 · exact h3 e.1 (List.mem_map.2 ⟨e, he, rfl⟩) k' (by simp) e1
 · exact (List.nodup_cons.1 h2).1 (List.mem_map.2 ⟨e, he, e1⟩)
theorem kq {α : Type} (f : α → α) (e : α) (Y : List α) : ∀ (X : List α), (X ++ e :: Y).modify X.length f = X ++ f e :: Y
 | [] => by simp
 | x :: X => by simp [kq f e Y X]
theorem eO : Key2 Tryz.prog 96 := by
 refine ⟨⟨_, _, Tryz.underlying96, ⟨by decide, rfl, aY, _, U3⟩, ⟨by decide, rfl, aY, _, U3⟩⟩, by kernel_rfl, fun e a b => by kernel_rfl⟩
theorem iC : zeroAt Tryz.prog 91 = some (.slice none 0 0) := by kernel_rfl
theorem upd_same {L L' : Frag} {b : Nat} {o : Obj} (hF : Fun L) (h : (b, true, o) ∈ L) (u : Upd L b o L') : Ext L L' := ⟨u.fn, fun t ht => by
 by_cases e : t.1 = b
 · obtain ⟨b', fl, o'⟩ := t;have e' : b' = b := e;subst e';obtain ⟨rfl, rfl⟩ := hF _ _ _ _ _ ht h;exact u.self
 · exact u.ne t ht e⟩
theorem jv : ∃ n, ∀ {σ} {F : Fam σ} {Δ : DM F} {main s} (L : Frag) (c b x : Nat) (cs cs' : Array Value) (ty ty' : TypeId), At L x 0 (ptr b) → (c, true, Obj.cells cs ty) ∈ L → (b, true, Obj.cells cs' ty') ∈ L →
   CallsL Δ Tryz.prog main 125 [ptr c, ptr x].toArray n s L (fun s' v L' => s = s' ∧ v = .bool (decide (c = b)) ∧ Ext L L') := by
 apply Exists.intro;intro σ F Δ main s L c b x cs cs' ty ty' hx hc hb;co_applyP aB 7 Tryz.func125 Tryz.ntmps125;co_applyP iq;intro hF;co_applyP aa;co_applyP oan rfl;co_applyP aa;co_applyP om rfl rfl rfl (aF (ht := dz));co_applyP oy rfl (yd hc hb (hu := U93) (hs := yf));co_applyP oan rfl;co_applyP aK;change ∃ v, resE .. = some v ∧ _;exact ⟨_, rfl, rfl, by simp, hF, fun _ h => h⟩
theorem mu : ∃ n, ∀ {σ} {F : Fam σ} {Δ : DM F} {main s} (L0 : Frag) (f : FuncId) (gf : Func) (c1 c2 : List Value), Tryz.prog.funcs[f]? = some gf → (gf.name == "runtime.NumGoroutine") = false → gf.body.isNone = false →
   CallsL Δ Tryz.prog main 124 [.slice none 0 0, .func (.func f) c1.toArray c2.toArray].toArray n s L0 (fun s' v L' => s = s' ∧ v = .slice none 0 0 ∧ Ext L0 L') := by
 obtain ⟨n1, g1⟩ := eW 0;apply Exists.intro;intro σ F Δ main s L0 f gf c1 c2 hf hname hb;co_applyP aB 42 Tryz.func124 Tryz.ntmps124;co_applyP aa;co_applyP oan rfl;co_applyP aa;co_applyP om rfl rfl rfl ae;co_applyP oc rfl rfl rfl (g1 L0 f gf c1 c2 [] (fun _ => false) none 0 (fun i v hv => by simp at hv) (by simp) hf hname hb (fun c hcx => by simp at hcx));rintro _ _ _ ⟨rfl, rfl, hE1⟩;co_applyP oan rfl;co_applyP aq (n₂ := 0);co_applyP aa;co_applyP om rfl rfl rfl aA;co_applyP ah;co_applyP aQ rfl;co_applyP aa;co_applyP oy rfl ae;co_applyP oan rfl;co_applyP aK;change ∃ v, resE .. = some v ∧ _;exact ⟨_, rfl, rfl, rfl, hE1⟩
theorem uk : ∃ n, ∀ {σ} {F : Fam σ} {Δ : DM F} {main s} (K : Nat) (A : Lay) (S : St) (Fr L : Frag) (b : Nat) (k : Nat × Nat), (∀ cs, (Δ s).New (.cells cs 93)) → (∀ cs, (Δ s).New (.cells cs 96)) → Rep K A S Fr L → (∀ e ∈ S.wt, e.1 ≠ k) →
   CallsL Δ Tryz.prog main 105 [ptr K, ptr b, keyv k].toArray n s L (fun s' v L' => s = s' ∧ v = .tuple #[] ∧ Rep K A S Fr L') := by
 obtain ⟨n1, g1⟩ := mu;apply Exists.intro;intro σ F Δ main s K A S Fr L b k hN hN2 hR hk;co_applyP aB 29 Tryz.func105 Tryz.ntmps105;co_applyP aa;co_applyP bT rfl (cn (hN _));intro xb L1 hA1;co_applyP bT rfl (cn (hN2 _));intro xk L2 hA2;have hR2 := (hR.add hA1).add hA2;have hkx : At L2 K 15 (.map (some A.wt)) := hR2.kat rfl;have hw2 := hR2.w;rw [cJ] at hw2;have hkey := dR (A := A) (bs := A.born) hk;co_applyP ah;co_applyP aq;co_applyP bi [] 7 aT;co_applyP tr 0 rfl ae pN;co_applyP tr 1 rfl aJ pN;co_applyP tr 2 rfl (au (hf := cI)) pN;co_applyP t0 3 rfl (aF (ht := dN)) pN;co_applyP tr 6 rfl ma pN;co_applyP t0 4 rfl (ba (ht := bM) (hs := bh) (hm := hA2.self) (hi := Nat.le_refl _)) pN;co_applyP t0 5 rfl (nN (k := k) eO Tryz.underlying110 iC hw2) pN;rw [iB hkey];co_applyP tc 7 rfl rfl rfl (g1 L2 125 _ [] [ptr xb] Tryz.func125 rfl rfl);rintro _ _ _ ⟨rfl, rfl, hE⟩;refine ⟨ay (by simp), ?_⟩;rename_i L3;have hR3 := hR2.ext hE;have hkx3 := hE.at hkx;have hw3 := hE.s _ hw2;have hk3 := hE.s _ hA2.self;co_applyP to 8 rfl (bL) (ay (by simp));co_applyP td (by kernel_rfl);co_applyP aq (n₂ := 0);co_applyP aa;co_applyP om rfl rfl rfl (bB (hu := U91));co_applyP oy rfl aA;co_applyP ah;co_applyP aQ rfl;co_applyP aq;co_applyP bi [] 5 (nf := 0) aT;co_applyP tr 0 rfl ae pN;co_applyP tr 1 rfl aJ pN;co_applyP tr 2 rfl (au (hf := cI)) pN;co_applyP t0 3 rfl (aF (ht := dN)) pN;co_applyP t0 4 rfl (ba (ht := bM) (hs := bh) (hm := hk3) (hi := Nat.le_refl _)) pN;co_applyP a0;intro hnd;co_applyP te (i := 5) rfl (yn (k := k) hnd eO Tryz.underlying110 hw3);rintro _ _ ⟨rfl, hU⟩;refine ⟨ay (by simp), ?_⟩;co_applyP td (by kernel_rfl);co_applyP aK;change ∃ v, resE .. = some v ∧ _;have hd : dlk k (entsOf A S.wt A.born) = entsOf A S.wt A.born := by unfold dlk; rw [iB hkey]
 rw [hd] at hU;exact ⟨_, rfl, rfl, rfl, hR3.ext (upd_same hR3.fn hw3 hU)⟩
theorem ul : ∃ n, ∀ {σ} {F : Fam σ} {Δ : DM F} {main s} (K : Nat) (A : Lay) (S : St) (Fr L : Frag) (b : Nat) (x : PS) (k : Nat × Nat) (l1 l2 : Wt) (xs : List Nat), (∀ cs, (Δ s).New (.cells cs 93)) → (∀ cs, (Δ s).New (.cells cs 96)) → Rep K A S Fr L → WGood S → (b, x) ∈ S.ps → S.wt = l1 ++ (k, xs) :: l2 → (∀ e ∈ l1, e.1 ≠ k) → (∀ e ∈ l2, e.1 ≠ k) →
   CallsL Δ Tryz.prog main 105 [ptr K, ptr b, keyv k].toArray n s L (fun s' v L' => s = s' ∧ v = .tuple #[] ∧ ∃ A', WLay A A' ∧ Rep K A' (S.depart b k) Fr L') := by
 obtain ⟨n0, g0⟩ := jv;obtain ⟨n1, g1⟩ := mt n0;apply Exists.intro;intro σ F Δ main s K A S Fr L b x k l1 l2 xs hN hN2 hR hW hb hwt hl1 hl2;have hin : (k, xs) ∈ S.wt := by rw [hwt]; simp
 have hkk : okKey k := hW.kk _ hin;have hslot : ∀ e ∈ S.wt, e.1 ≠ k → slot e.1 ≠ slot k := fun e he hne h => hne (km (hW.kk e he) hkk h);obtain ⟨b1, c0, b2, hborn, hbl⟩ : ∃ b1 c0 b2, A.born = b1 ++ c0 :: b2 ∧ l1.length = b1.length := by
   have hl := hR.wl;rw [hwt] at hl;simp at hl;refine ⟨A.born.take l1.length, A.born[l1.length]'(by omega), A.born.drop (l1.length + 1), by simp, by simp; omega⟩
 have hbl2 : l2.length = b2.length := by
   have hl := hR.wl;rw [hwt, hborn] at hl;simp at hl;omega
 have hents : entsOf A S.wt A.born = entsOf A l1 b1 ++ (k, slv (A.a (slot k)) xs.length, c0) :: entsOf A l2 b2 := by
   rw [hwt, hborn, cx A hbl]; rfl
 have hlk : lk k (entsOf A S.wt A.born) 0 = some (l1.length, slv (A.a (slot k)) xs.length) := by
   rw [hents, jE (dR hl1), dQ A hbl];simp [lk]
 obtain ⟨Q, hQ⟩ : ∃ Q, (A.a (slot k)).b = some Q := by
   cases h : (A.a (slot k)).b with
   | some Q => exact ⟨Q, rfl⟩
   | none =>
     have := hR.wa _ hin;unfold slOk at this;rw [h] at this;have h2 := hW.ne _ hin;simp at this;exact absurd this.1 h2
 have hslv : slv (A.a (slot k)) xs.length = .slice (some ⟨Q, 0, none⟩) xs.length (xs.length + (A.a (slot k)).junk.length) := by unfold slv; rw [hQ]
 rw [hslv] at hlk;co_applyP aB 29 Tryz.func105 Tryz.ntmps105;co_applyP aa;co_applyP bT rfl (cn (hN _));intro xb L1 hA1;co_applyP bT rfl (cn (hN2 _));intro xk L2 hA2;have hR2 := (hR.add hA1).add hA2;have hkx : At L2 K 15 (.map (some A.wt)) := hR2.kat rfl;have hw2 := hR2.w;rw [cJ] at hw2;have hQ2 := (hR2.wa _ hin).mem hQ;have hxb : (xb, true, Obj.cells #[ptr b] 93) ∈ L2 := hA2.sub _ hA1.self;have hQ1 : (Q, true, Obj.cells (xs.map ptr ++ (A.a (slot k)).junk).toArray 93) ∈ L1 := ((hR.add hA1).wa _ hin).mem hQ;have hxQ : xb ≠ Q := fun e => hA1.new _ ((hR.wa _ hin).mem hQ) e.symm;have hkQ : xk ≠ Q := fun e => hA2.new _ hQ1 e.symm;have pne : ∀ c y, (c, y) ∈ S.ps → c ≠ Q := fun c y hc => hR2.fn.ne (hR2.p _ hc) hQ2 (aE (by decide));have hKQ : K ≠ Q := hR2.fn.ne hR2.k hQ2 (aE (by decide));have hwQ : A.wt ≠ Q := hR2.fn.ne hw2 hQ2 (by simp [mapO]);co_applyP ah;co_applyP aq;co_applyP bi [] 7 aT;co_applyP tr 0 rfl ae pN;co_applyP tr 1 rfl aJ pN;co_applyP tr 2 rfl (au (hf := cI)) pN;co_applyP t0 3 rfl (aF (ht := dN)) pN;co_applyP tr 6 rfl ma pN;co_applyP t0 4 rfl (ba (ht := bM) (hs := bh) (hm := hA2.self) (hi := Nat.le_refl _)) pN;co_applyP t0 5 rfl (nN (k := k) eO Tryz.underlying110 iC hw2) pN;rw [hlk];co_applyP tc 7 rfl rfl rfl (g1 L2 125 _ [] [ptr xb] xs (fun c => decide (c = b)) Q (A.a (slot k)).junk hQ2 (hW.rl _ hin) Tryz.func125 rfl rfl (fun c hc L hE => by obtain ⟨y, hy⟩ := hW.rm _ hin c hc; exact g0 L c b xb _ _ _ _ ⟨true, _, _, _, hE.s _ hxb hxQ, rfl⟩ (hE.s _ (hR2.p _ hy) (pne _ _ hy)) (hE.s _ (hR2.p _ hb) (pne _ _ hb))));rintro _ _ _ ⟨rfl, jk, rfl, hE, hQ3, hjk⟩;refine ⟨ay (by simp), ?_⟩;rename_i L3;have hk3 := hE.s _ hA2.self hkQ;have hw3 := hE.s _ hw2 hwQ;have hkx3 : At L3 K 15 (.map (some A.wt)) := ⟨true, _, _, _, hE.s _ hR2.k hKQ, rfl⟩;have hdep : S.depart b k = S.setW (l1 ++ ((if (xs.filter fun c => !decide (c = b)).length = 0 then [] else [(k, xs.filter fun c => !decide (c = b))]) ++ l2)) := by unfold St.depart; rw [hwt, ko hl1 hl2]
 have hAs : ∀ (a' : Sl) (bo : List Nat) (cl : Nat) (l : Wt) (bs : List Nat), (∀ e ∈ l, e ∈ S.wt ∧ e.1 ≠ k) → entsOf (A.setW k a' bo cl) l bs = entsOf A l bs := fun a' bo cl l bs h => eh fun e he => by
   have := hslot e (h e he).1 (h e he).2;simp [Lay.setW, put, this]
 have hi1 : ∀ e ∈ l1, e ∈ S.wt ∧ e.1 ≠ k := fun e he => ⟨by rw [hwt]; simp [he], hl1 e he⟩;have hi2 : ∀ e ∈ l2, e ∈ S.wt ∧ e.1 ≠ k := fun e he => ⟨by rw [hwt]; simp [he], hl2 e he⟩;co_applyP to 8 rfl (bL) (ay (by simp));co_applyP td (by kernel_rfl);co_applyP aq;co_applyP aa;co_applyP om rfl rfl rfl (bB (hu := U91));co_applyP oy rfl aA;co_applyP ah;co_applyP bk rfl;intro hc;co_applyP aq
 · have hz : (xs.filter fun c => !decide (c = b)).length = 0 := by simpa using hc
   co_applyP bi [] 5 (nf := 0) aT;co_applyP tr 0 rfl ae pN;co_applyP tr 1 rfl aJ pN;co_applyP tr 2 rfl (au (hf := cI)) pN;co_applyP t0 3 rfl (aF (ht := dN)) pN;co_applyP t0 4 rfl (ba (ht := bM) (hs := bh) (hm := hk3) (hi := Nat.le_refl _)) pN;co_applyP a0;intro hnd;co_applyP te (i := 5) rfl (yn (k := k) hnd eO Tryz.underlying110 hw3);rintro _ _ ⟨rfl, hU⟩;refine ⟨ay (by simp), ?_⟩;co_applyP td (by kernel_rfl);co_applyP aK;change ∃ v, resE .. = some v ∧ _;have hd : dlk k (entsOf A S.wt A.born) = entsOf A (l1 ++ l2) (b1 ++ b2) := by
     unfold dlk; rw [hlk, hents, cx A hbl];simp only;rw [List.eraseIdx_append_of_length_le (by rw [dQ A hbl]; omega), dQ A hbl];simp
   rw [hd] at hU;refine ⟨_, rfl, rfl, rfl, A.setW k ⟨none, []⟩ (b1 ++ b2) A.clock, WLay.set A k _ _ _, ?_⟩;rw [hdep, if_pos hz, List.nil_append];have hbs : (b1 ++ b2).Sublist A.born := by rw [hborn]; exact List.Sublist.append (List.Sublist.refl _) (List.sublist_cons_self _ _)
   refine hR2.setWait hU.fn (fun t ht h1 h2 => hU.ne _ (hE.s _ ht (fun e => h2 (by rw [hQ, e]))) h1) ?_ (by simp; omega) (hR.bn.sublist hbs) (fun x hx => hR.bc x (hbs.subset hx)) ?_ (fun b hb => by cases hb) (fun b hb => by cases hb)
   · rw [hAs _ _ _ _ _ (fun e he => (List.mem_append.1 he).elim (hi1 e) (hi2 e))];exact hU.self
   · intro e he;have := (List.mem_append.1 he).elim (hi1 e) (hi2 e);exact .inr ⟨this.1, hslot e this.1 this.2⟩
 intro hc;co_applyP aD;change wpE ..;have hz : ¬ (xs.filter fun c => !decide (c = b)).length = 0 := by simpa using hc
 co_applyP bi [] 6 (nf := 0) aT;co_applyP tr 0 rfl ae pN;co_applyP tr 1 rfl aJ pN;co_applyP tr 2 rfl (au (hf := cI)) pN;co_applyP t0 3 rfl (aF (ht := dN)) pN;co_applyP tr 5 rfl ae pN;co_applyP t0 4 rfl (ba (ht := bM) (hs := bh) (hm := hk3) (hi := Nat.le_refl _)) pN;co_applyP a0;intro hnd;co_applyP te (i := 6) rfl (BK (k := k) hnd eO Tryz.underlying110 hw3);rintro _ _ ⟨rfl, hU⟩;refine ⟨ay (by simp), ?_⟩;co_applyP td (by kernel_rfl);change ∃ v, resE .. = some v ∧ _;have hnew : upk k (.slice (some ⟨Q, 0, none⟩) (xs.filter fun c => !decide (c = b)).length (xs.length + (A.a (slot k)).junk.length)) (entsOf A S.wt A.born) A.clock = mapO (entsOf (A.setW k ⟨some Q, jk⟩ A.born A.clock) (l1 ++ (k, xs.filter fun c => !decide (c = b)) :: l2) A.born) A.clock := by
   unfold upk; rw [hlk, hents, hborn, cx _ hbl];simp only;congr 1;rw [← dQ A hbl, kq, hAs _ _ _ _ _ hi1];congr 1;show _ = (k, slv ((A.setW k ⟨some Q, jk⟩ (b1 ++ c0 :: b2) A.clock).a (slot k)) _, c0) :: entsOf (A.setW k ⟨some Q, jk⟩ (b1 ++ c0 :: b2) A.clock) l2 b2;rw [hAs _ _ _ _ _ hi2];have e1 : (A.setW k ⟨some Q, jk⟩ (b1 ++ c0 :: b2) A.clock).a (slot k) = ⟨some Q, jk⟩ := by simp [Lay.setW, put]
   rw [e1];unfold slv;simp only;rw [hjk]
 rw [hnew] at hU;refine ⟨_, rfl, rfl, rfl, A.setW k ⟨some Q, jk⟩ A.born A.clock, WLay.set A k _ _ _, ?_⟩;rw [hdep, if_neg hz, List.singleton_append];refine hR2.setWait hU.fn (fun t ht h1 h2 => hU.ne _ (hE.s _ ht (fun e => h2 (by rw [hQ, e]))) h1) hU.self (by rw [hR.wl, hwt]; simp) hR.bn hR.bc ?_ (fun b hb => ?_) (fun b hb => .inl (by rw [hQ]; exact hb))
 · intro e he;rcases List.mem_append.1 he with h | h
   · exact .inr ⟨(hi1 e h).1, hslot e (hi1 e h).1 (hi1 e h).2⟩
   · rcases List.mem_cons.1 h with rfl | h
     · exact .inl ⟨rfl, hU.ne _ hQ3 (Ne.symm hwQ)⟩
     · exact .inr ⟨(hi2 e h).1, hslot e (hi2 e h).1 (hi2 e h).2⟩
 · obtain rfl : Q = b := by simpa using hb
   exact ⟨_, hU.ne _ hQ3 (Ne.symm hwQ)⟩
end Go.Proofs.YtejkelcaljmnoaaGreatDoor
namespace Go.Lo
open Go.Conc Go.Hx
section
variable {P : Program} {New : Obj → Prop} {N : Nat} {ε : Env} {L : Frag} {d : Option Tmp} {ty : TypeId} {ps : String} {af : Array Edge} {g : Option (Nat × Bool)}
theorem AK {t : TypeId} {x : Operand} {w v : Value} (hv : evR P (Instr.sliceAt t w none none none) [] = some (v, [])) (hx : ev ε x = some w := by rfl) : EY P N ε L ⟨d, .slice t x none none none, ty, ps, af, g⟩ v := fun a ha => by
 refine cR (fun _ => rfl) fun K hK => ?_;show wpQ P (Instr.sliceAt t (a.eval x) none none none) K L;rw [ha.ev hx];exact bj hv hK
theorem yo {t u : TypeId} {x y : Operand} {k k' : Nat × Nat} (H : Key2 P t) (hg : ∀ x y, evR P (eqGuard .eql t x y (kv k) (kv k')) [] = some ((), [])) (hx : ev ε x = some (kv k) := by rfl) (hy : ev ε y = some (kv k') := by rfl) : EY P N ε L ⟨d, .binOp .eql t x y u, ty, ps, af, g⟩ (.bool (decide (k = k'))) := fun a ha => by
 refine cR (fun _ => rfl) fun K hQ => ?_;rw [ha.ev hx, ha.ev hy, ar];refine bj (hg _ _) ?_;show wpQ P (do pure (.bool (← Op.equal t (kv k) (kv k')))) K L;rw [ar];exact lw H hQ
end
end Go.Lo
namespace Go.Proofs.YtejkelcaljmnoaaGreatDoor
open Go.Conc Go.Hx Go.Lo
theorem yp (k k' : Nat × Nat) (x y : Operand) : evR Tryz.prog (eqGuard .eql 96 x y (kv k) (kv k')) [] = some ((), []) := by kernel_rfl
theorem BL (b : Nat) : evR Tryz.prog (Instr.sliceAt 97 (.pointer (some ⟨b, 79, none⟩)) none none none) [] = some (.slice (some ⟨b, 79, none⟩) 6 6, []) := by kernel_rfl
def PS.idxE (x : PS) (k : Nat × Nat) : Int := match (List.range 6).findIdx? fun i => decide (k = x.f i) with
 | some i => i
 | none => -1
def PS.has (x : PS) (k : Nat × Nat) : Bool := (List.range 6).any fun i => decide (k = x.f i)
theorem um (x : PS) (k : Nat × Nat) : decide (0 ≤ x.idxE k) = x.has k := by
 unfold PS.idxE PS.has;cases h : (List.range 6).findIdx? fun i => decide (k = x.f i) with
 | none =>
   have := List.findIdx?_eq_none_iff.1 h;rw [List.any_eq_false.2 fun i hi => by simpa using this i hi];rfl
 | some i =>
   obtain ⟨h1, h2, _⟩ := List.findIdx?_eq_some_iff_getElem.1 h;rw [List.any_eq_true.2 ⟨_, List.getElem_mem h1, h2⟩];simp
theorem uo : ∃ n, ∀ {σ} {F : Fam σ} {Δ : DM F} {main s} (L : Frag) (b : Nat) (x : PS) (k : Nat × Nat), (∀ cs, (Δ s).New (.cells cs 96)) → pb b x ∈ L →
   CallsL Δ Tryz.prog main 173 [.slice (some ⟨b, 79, none⟩) 6 6, keyv k].toArray n s L (fun s' v L' => s = s' ∧ v = .int .i64 (x.idxE k) ∧ Ext L L') := by
 apply Exists.intro;intro σ F Δ main s L b x k hN hb;co_applyP aB 19 Tryz.func173 Tryz.ntmps173;co_applyP aa;co_applyP bT rfl (cn (hN _));intro xk L1 hA;have hb1 := hA.sub _ hb;co_applyP oan rfl;co_applyP aq;co_applyP aa;co_applyP om rfl rfl rfl (bB (hu := Tryz.underlying250));co_applyP oy rfl ae;co_applyP ah;co_applyP aI;co_applyP bK (fun c s' ε' L' => s' = s ∧ L' = L1 ∧ ∃ i, i ≤ 6 ∧ (∀ j, j < i → k ≠ x.f j) ∧ c + i = 6 ∧ kn ε' [(8, .int .i64 (i : Nat)), (7, .int .i64 6), (0, .slice (some ⟨b, 79, none⟩) 6 6), (3, ptr xk)]) 6
 · exact ⟨rfl, rfl, 0, by omega, fun j hj => by omega, rfl, rfl⟩
 rintro c s' ε' L' ⟨rfl, rfl, i, hi, hn, hc, he⟩;co_applyP aV he;co_applyP aa;co_applyP oy rfl cF;co_applyP ah;co_applyP aq;co_applyP bk rfl;intro hlt
 · have hi6 : i < 6 := by simp at hlt; omega
   have ei : IntKind.i64.wrap ((i : Int) + 1) = ((i + 1 : Nat) : Int) := by simp [IntKind.wrap_i64]; omega
   have eo : 79 + i * 2 = 79 + 2 * i := by omega
   co_applyP aD;co_applyP aq;co_applyP aI;co_applyP aa;co_applyP oy rfl ae;co_applyP oan rfl;co_applyP aq;co_applyP bq aT;co_applyP tr 0 rfl (ba (ht := bM) (hs := bh) (hm := hA.self) (hi := Nat.le_refl _)) pI;co_applyP tr 1 rfl ae pI;co_applyP tr 2 rfl ae pI;co_applyP tr 3 rfl (bH Tryz.underlying250 bh) pI;co_applyP tr 4 rfl (ba (ht := bM) (hs := bh) (hm := hb1) (hi := by rw [bf]; omega)) pI;rw [eo, pl x hi6];co_applyP tr 5 rfl (yo (k := k) (k' := x.f i) eO (yp k (x.f i))) pI;co_applyP td (by kernel_rfl);co_applyP bk rfl;intro ht;co_applyP aa;co_applyP oy rfl ae;co_applyP oan rfl;co_applyP aK;change ∃ v, resE .. = some v ∧ _
   · have ht' : k = x.f i := by simpa using ht
     have e1 : x.idxE k = i := by
       unfold PS.idxE;have : ((List.range 6).findIdx? fun i => decide (k = x.f i)) = some i := by
         rw [List.findIdx?_eq_some_iff_getElem];refine ⟨by simpa using hi6, by simpa using ht', fun j hj => by simpa using hn j hj⟩
       rw [this]
     exact ⟨_, rfl, rfl, by rw [e1], hA.fn, hA.sub⟩
   intro ht;co_applyP aD;co_applyP ax;co_applyP oy rfl aR;co_applyP oy rfl ae;co_applyP ah;change ∃ k', k' < _ ∧ _;have ht' : ¬ k = x.f i := by simpa using ht
   refine ⟨c - 1, by omega, rfl, rfl, i + 1, by omega, fun j hj => ?_, by omega, by rw [← ei]; rfl⟩;by_cases e : j = i
   · rw [e]; exact ht'
   · exact hn j (by omega)
 intro hlt;co_applyP bS;co_applyP aa;co_applyP oan rfl;co_applyP aK;change ∃ v, resE .. = some v ∧ _;have hi6 : i = 6 := by simp at hlt; omega
 subst hi6;have e1 : x.idxE k = -1 := by
   unfold PS.idxE;rw [List.findIdx?_eq_none_iff.2 fun j hj => by simpa using hn j (by simpa using hj)]
 exact ⟨_, rfl, rfl, by rw [e1], hA.fn, hA.sub⟩
theorem nO : ∃ n, ∀ {σ} {F : Fam σ} {Δ : DM F} {main s} (L : Frag) (b : Nat) (x : PS) (k : Nat × Nat), (∀ cs, (Δ s).New (.cells cs 96)) → pb b x ∈ L →
   CallsL Δ Tryz.prog main 168 [.slice (some ⟨b, 79, none⟩) 6 6, keyv k].toArray n s L (fun s' v L' => s = s' ∧ v = .bool (x.has k) ∧ Ext L L') := by
 obtain ⟨n1, g1⟩ := uo;apply Exists.intro;intro σ F Δ main s L b x k hN hb;co_applyP aB 9 Tryz.func168 Tryz.ntmps168;co_applyP aa;co_applyP bT rfl (cn (hN _));intro xk L1 hA;co_applyP oan rfl;co_applyP aa;co_applyP om rfl rfl rfl (ba (ht := bM) (hs := bh) (hm := hA.self) (hi := Nat.le_refl _));co_applyP oc rfl rfl rfl (g1 L1 b x k hN (hA.sub _ hb));rintro _ _ _ ⟨rfl, rfl, hE⟩;co_applyP oy rfl fh;co_applyP oan rfl;co_applyP aK;change ∃ v, resE .. = some v ∧ _;exact ⟨_, rfl, rfl, by rw [← um], Ext.trans ⟨hA.fn, hA.sub⟩ hE⟩
theorem la : ∃ n, ∀ {σ} {F : Fam σ} {Δ : DM F} {main s} (L : Frag) (b xk : Nat) (x : PS) (k : Nat × Nat), (∀ cs, (Δ s).New (.cells cs 96)) → pb b x ∈ L → (xk, true, Obj.cells (keyv k).cells 96) ∈ L →
   CallsL Δ Tryz.prog main 167 [ptr b, ptr xk].toArray n s L (fun s' v L' => s = s' ∧ v = .bool (x.has k) ∧ Ext L L') := by
 obtain ⟨n1, g1⟩ := nO;apply Exists.intro;intro σ F Δ main s L b xk x k hN hb hk;co_applyP aB 10 Tryz.func167 Tryz.ntmps167;co_applyP aa;co_applyP oan rfl;co_applyP aq;co_applyP bi [] 5 aT;co_applyP tr 0 rfl ae pN;co_applyP tr 1 rfl aJ pN;co_applyP tr 2 rfl (au (hf := eg)) pN;co_applyP tr 3 rfl (AK (BL b)) pN;co_applyP t0 4 rfl (ba (ht := bM) (hs := bh) (hm := hk) (hi := Nat.le_refl _)) pN;co_applyP tc 5 rfl rfl rfl (g1 L b x k hN hb);rintro _ _ _ ⟨rfl, rfl, hE⟩;refine ⟨ay (by simp), ?_⟩;co_applyP to 6 rfl (bL) (ay (by simp));co_applyP td (by kernel_rfl);co_applyP aK;change ∃ v, resE .. = some v ∧ _;exact ⟨_, rfl, rfl, rfl, hE⟩
theorem uq (test : Nat → Bool) (xs : List Nat) : decide (0 ≤ idxF test xs) = xs.any test := by
 unfold idxF;cases h : xs.findIdx? test with
 | none =>
   have := List.findIdx?_eq_none_iff.1 h;rw [List.any_eq_false.2 fun i hi => by simpa using this i hi];rfl
 | some i =>
   obtain ⟨h1, h2, _⟩ := List.findIdx?_eq_some_iff_getElem.1 h;rw [List.any_eq_true.2 ⟨_, List.getElem_mem h1, h2⟩];simp
theorem dB (nf : Nat) : ∃ n, ∀ {σ} {F : Fam σ} {Δ : DM F} {main s} (L0 : Frag) (f : FuncId) (gf : Func) (c1 c2 : List Value) (xs : List Nat) (test : Nat → Bool) (base : Option Addr) (cap : Nat),
   (∀ i v, (xs.map ptr)[i]? = some v → ∃ b, base = some ⟨b, 0, none⟩ ∧ At L0 b i v) → xs.length ≤ 8 → Tryz.prog.funcs[f]? = some gf → (gf.name == "runtime.NumGoroutine") = false → gf.body.isNone = false →
   (∀ c ∈ xs, ∀ L, Ext L0 L → CallsL Δ Tryz.prog main f (c1 ++ [ptr c] ++ c2).toArray nf s L (fun s' v L' => s = s' ∧ v = .bool (test c) ∧ Ext L L')) →
   CallsL Δ Tryz.prog main 149 [.slice base xs.length cap, .func (.func f) c1.toArray c2.toArray].toArray n s L0 (fun s' v L' => s = s' ∧ v = .bool (xs.any test) ∧ Ext L0 L') := by
 obtain ⟨n1, g1⟩ := eW nf;apply Exists.intro;intro σ F Δ main s L0 f gf c1 c2 xs test base cap hat h8 hf hname hb hc;co_applyP aB 9 Tryz.func149 Tryz.ntmps149;co_applyP aa;co_applyP oan rfl;co_applyP aa;co_applyP om rfl rfl rfl ae;co_applyP oc rfl rfl rfl (g1 L0 f gf c1 c2 xs test base cap hat h8 hf hname hb hc);rintro _ _ _ ⟨rfl, rfl, hE⟩;co_applyP oy rfl fh;co_applyP oan rfl;co_applyP aK;change ∃ v, resE .. = some v ∧ _;exact ⟨_, rfl, rfl, by rw [← uq], hE⟩
def St.isOpen (S : St) (k : Nat × Nat) : Bool := S.ps.any fun q => q.2.has k
def St.testB (S : St) (p : PS → Bool) (c : Nat) : Bool := match S.get c with
 | some y => p y
 | none => false
theorem gq {S : St} (hn : (S.ps.map (·.1)).Nodup) (p : PS → Bool) : (S.ps.map (·.1)).any (S.testB p) = S.ps.any fun q => p q.2 := by
 rw [List.any_map];rw [Bool.eq_iff_iff, List.any_eq_true, List.any_eq_true];constructor
 · rintro ⟨q, hq, h⟩;refine ⟨q, hq, ?_⟩;simpa [Function.comp, St.testB, bl hn (b := q.1) (x := q.2) hq] using h
 · rintro ⟨q, hq, h⟩;refine ⟨q, hq, ?_⟩;simpa [Function.comp, St.testB, bl hn (b := q.1) (x := q.2) hq] using h
theorem iD : ∃ n, ∀ {σ} {F : Fam σ} {Δ : DM F} {main s} (K : Nat) (A : Lay) (S : St) (Fr L : Frag) (k : Nat × Nat), (∀ cs, (Δ s).New (.cells cs 96)) → Rep K A S Fr L →
   CallsL Δ Tryz.prog main 161 [ptr K, keyv k].toArray n s L (fun s' v L' => s = s' ∧ v = .bool (S.isOpen k) ∧ Ext L L') := by
 obtain ⟨n0, g0⟩ := la;obtain ⟨n1, g1⟩ := dB n0;apply Exists.intro;intro σ F Δ main s K A S Fr L k hN hR;co_applyP aB 11 Tryz.func161 Tryz.ntmps161;co_applyP aa;co_applyP bT rfl (cn (hN _));intro xk L1 hA;have hR1 := hR.add hA;obtain ⟨base, cap, hv, hat0⟩ := bw hR1.pa;simp only [List.length_map] at hv;have h5 : At L1 K 5 (.slice base (S.ps.map (·.1)).length cap) := by rw [List.length_map, ← hv]; exact hR1.kat rfl
 co_applyP oan rfl;co_applyP aa;co_applyP om rfl rfl rfl aJ;co_applyP oy rfl (au (hf := bO));co_applyP oy rfl (aF (ht := dp));co_applyP oy rfl ma;have hcl : ∀ c ∈ S.ps.map (·.1), ∀ L, Ext L1 L → CallsL Δ Tryz.prog main 167 ([] ++ [ptr c] ++ [ptr xk]).toArray n0 s L (fun s' v L' => s = s' ∧ v = .bool (S.testB (fun y => y.has k) c) ∧ Ext L L') := by
   intro c hc L hE;obtain ⟨q, hq, rfl⟩ := List.mem_map.1 hc;have e : S.testB (fun y => y.has k) q.1 = q.2.has k := by simp [St.testB, bl hR1.pn (b := q.1) (x := q.2) hq]
   rw [e];exact g0 L q.1 xk q.2 k hN (hE.s _ (hR1.p _ hq)) (hE.s _ hA.self)
 co_applyP oc rfl rfl rfl (g1 L1 167 _ [] [ptr xk] (S.ps.map (·.1)) (S.testB fun y => y.has k) base cap (fun i v hv => by obtain ⟨b, _, h2, h3⟩ := hat0 i v (by simpa using hv); exact ⟨b, h2, h3⟩) (by simpa using hR1.p8) Tryz.func167 rfl rfl hcl);rintro _ _ _ ⟨rfl, rfl, hE⟩;co_applyP oan rfl;co_applyP aK;change ∃ v, resE .. = some v ∧ _;exact ⟨_, rfl, rfl, by rw [gq hR1.pn]; rfl, Ext.trans ⟨hA.fn, hA.sub⟩ hE⟩
theorem kr : ∃ n, ∀ {σ} {F : Fam σ} {Δ : DM F} {main s} (K : Nat) (A : Lay) (S : St) (Fr L : Frag) (b : Nat) (x : PS) (k : Nat × Nat), (∀ cs, (Δ s).New (.cells cs 93)) → (∀ cs, (Δ s).New (.cells cs 96)) → Rep K A S Fr L → WGood S → (b, x) ∈ S.ps →
   CallsL Δ Tryz.prog main 105 [ptr K, ptr b, keyv k].toArray n s L (fun s' v L' => s = s' ∧ v = .tuple #[] ∧ ∃ A', WLay A A' ∧ Rep K A' (S.depart b k) Fr L') := by
 obtain ⟨n0, g0⟩ := uk;obtain ⟨n1, g1⟩ := ul;refine ⟨n0 + n1, fun {σ F Δ main s} K A S Fr L b x k hN hN2 hR hW hb => aM (∀ e ∈ S.wt, e.1 ≠ k) (fun h => ?_) fun h => ?_⟩
 · refine aO (g0 K A S Fr L b k hN hN2 hR h) fun s' v L' ⟨h1, h2, h3⟩ => ⟨h1, h2, A, WLay.refl A, ?_⟩;have e : S.depart b k = S := by unfold St.depart; rw [eq h]; rfl
   rw [e]; exact h3
 · have hk : k ∈ S.wt.map (·.1) := by
     refine Decidable.byContradiction fun hn => h fun e he e1 => hn (List.mem_map.2 ⟨e, he, e1⟩)
   obtain ⟨l1, xs, l2, h1, h2, h3⟩ := cK hW.kn hk;exact g1 K A S Fr L b x k l1 l2 xs hN hN2 hR hW hb h1 h2 h3
theorem dC (a b : Int) : evR Tryz.prog (Instr.build 96 [(0, .int .i64 a), (1, .int .i64 b)].toArray) [] = some (.agg #[.int .i64 a, .int .i64 b], []) := by kernel_rfl
def otherE (k : Nat × Nat) : Nat × Nat := if k.2 = 4 then (k.1, 5) else (k.1, 4)
theorem mv : ∃ n, ∀ {σ} {F : Fam σ} {Δ : DM F} {main s} (L : Frag) (k : Nat × Nat), (∀ cs, (Δ s).New (.cells cs 96)) →
   CallsM Δ Tryz.prog main 171 [keyv k].toArray n s L (fun s' v L' => s = s' ∧ v = keyv (otherE k) ∧ Ext L L') := by
 apply Exists.intro;intro σ F Δ main s L k hN;co_applyP mr 12 Tryz.func171 Tryz.ntmps171;co_applyP aa;co_applyP bT rfl (cn (hN _));intro xk L1 hA1;co_applyP bT rfl (eV (z := keyv (0, 0)) (hN _));intro xr L2 hA2;have hk2 := hA2.sub _ hA1.self;have h0 : At L2 xk 0 (.int .i64 (k.1 : Nat)) := ⟨true, _, _, _, hk2, rfl⟩;have h1 : At L2 xk 1 (.int .i64 (k.2 : Nat)) := ⟨true, _, _, _, hk2, rfl⟩;co_applyP ah;co_applyP aq;co_applyP aa;co_applyP oy rfl (au (hf := iv));co_applyP oy rfl (aF (ht := aY));co_applyP oy rfl aA;co_applyP ah;co_applyP bk rfl;intro hc;co_applyP aa;co_applyP oy rfl (au (hf := dU));co_applyP oy rfl (aF (ht := aY))
 · have h4 : k.2 = 4 := by have : (k.2 : Int) = 4 := by simpa using hc
                           omega
   co_applyP oy rfl (bt (dC _ _));co_applyP oeN rfl (fun hnd => fH (hs := bh) (vs := [.int .i64 (k.1 : Nat), .int .i64 5]) (hnd := hnd) (hm := hA2.self) (hi := Nat.le_refl _));rintro _ L3 ⟨rfl, hU⟩;co_applyP ah;co_applyP aK;change ∃ v, resM _ _ _ _ v ∧ _;refine ⟨_, ⟨_, _, xr, 0, 2, true, _, _, rfl, rfl, bM, bh, hU.self, Nat.le_refl _, rfl⟩, rfl, by simp [otherE, h4]; rfl, hU.fn, fun t ht => hU.ne _ (hA2.sub _ (hA1.sub _ ht)) (hA2.new _ (hA1.sub _ ht))⟩
 intro hc;co_applyP aD;co_applyP aa;co_applyP oy rfl (au (hf := dU));co_applyP oy rfl (aF (ht := aY))
 have h4 : ¬ k.2 = 4 := by have : ¬ (k.2 : Int) = 4 := by simpa using hc
                           omega
 co_applyP oy rfl (bt (dC _ _));co_applyP oeN rfl (fun hnd => fH (hs := bh) (vs := [.int .i64 (k.1 : Nat), .int .i64 4]) (hnd := hnd) (hm := hA2.self) (hi := Nat.le_refl _));rintro _ L3 ⟨rfl, hU⟩;co_applyP ah;co_applyP aK;change ∃ v, resM _ _ _ _ v ∧ _;refine ⟨_, ⟨_, _, xr, 0, 2, true, _, _, rfl, rfl, bM, bh, hU.self, Nat.le_refl _, rfl⟩, rfl, by simp [otherE, h4]; rfl, hU.fn, fun t ht => hU.ne _ (hA2.sub _ (hA1.sub _ ht)) (hA2.new _ (hA1.sub _ ht))⟩
def St.canBeDone (S : St) (x : PS) (k : Nat × Nat) : Bool := if S.isOpen (otherE k) then (if k.2 = 4 then decide (0 < (S.by_ k.1).length) else decide (((S.by_ k.1).length : Int) + x.r 2 ≤ 8)) else true
theorem qz (k : KS) {i : Nat} (hi : i < 5) : (kcells k)[10 + i]? = some (k.by_ i) := by
 rcases i with _ | _ | _ | _ | _ | i
 · rfl
 · rfl
 · rfl
 · rfl
 · rfl
 · omega
theorem fM : ∃ n, ∀ {σ} {F : Fam σ} {Δ : DM F} {main s} (K : Nat) (A : Lay) (S : St) (Fr L : Frag) (b : Nat) (x : PS) (k : Nat × Nat), (∀ cs, (Δ s).New (.cells cs 96)) → Rep K A S Fr L → (b, x) ∈ S.ps → WF x → k.1 < 5 → (S.by_ k.1).length ≤ 8 →
   CallsL Δ Tryz.prog main 165 [ptr K, ptr b, keyv k].toArray n s L (fun s' v L' => s = s' ∧ v = .bool (S.canBeDone x k) ∧ Ext L L') := by
 obtain ⟨n0, g0⟩ := mv;obtain ⟨n1, g1⟩ := iD;apply Exists.intro;intro σ F Δ main s K A S Fr L b x k hN hR hb hx hk5 h8;obtain ⟨base, cap, hv, _⟩ : ∃ base cap, slv (A.y k.1) (S.by_ k.1).length = .slice base (S.by_ k.1).length cap ∧ True := by
   obtain ⟨base, cap, h, _⟩ := bw (hR.ya k.1 hk5);simp only [List.length_map] at h;exact ⟨base, cap, h, trivial⟩
 have wx := hx.r 2 (by omega);co_applyP aB 38 Tryz.func165 Tryz.ntmps165;co_applyP aa;co_applyP bT rfl (cn (hN _));intro xk L1 hA1;have hR1 := hR.add hA1;have h0 : At L1 xk 0 (.int .i64 (k.1 : Nat)) := ⟨true, _, _, _, hA1.self, rfl⟩;have hky : At L1 K (10 + k.1) (.slice base (S.by_ k.1).length cap) := by rw [← hv]; exact hR1.kat (qz _ hk5)
 have hE1 : Ext L L1 := ⟨hA1.fn, hA1.sub⟩;co_applyP oan rfl;co_applyP aq;co_applyP bq aT;co_applyP tr 0 rfl ae pI;co_applyP tr 1 rfl (au (hf := dU)) pI;co_applyP tr 2 rfl (aF (ht := aY)) pI;co_applyP tr 3 rfl aJ pI;co_applyP tr 4 rfl (au (hf := eM)) pI;co_applyP tr 5 rfl (aX o7 gK) pI;co_applyP tr 6 rfl (aF (ht := qj)) pI;co_applyP tr 7 rfl (bB (hu := U44)) pI;co_applyP tr 8 rfl bL pI;co_applyP td (by kernel_rfl);co_applyP aI;co_applyP aa;co_applyP om rfl rfl rfl (ba (ht := bM) (hs := bh) (hm := hA1.self) (hi := Nat.le_refl _));co_applyP ocm rfl rfl rfl (g0 L1 k hN);rintro _ _ _ ⟨rfl, rfl, hE2⟩;rename_i L2;co_applyP oc rfl rfl rfl (g1 K A S Fr L2 (otherE k) hN (hR1.ext hE2));rintro _ _ _ ⟨rfl, rfl, hE3⟩;co_applyP oy rfl cN;co_applyP oan rfl;change wpE ..;rename_i L3;have hR3 := (hR1.ext hE2).ext hE3;have h1 : At L3 xk 1 (.int .i64 (k.2 : Nat)) := ⟨true, _, _, _, hE3.s _ (hE2.s _ hA1.self), rfl⟩;have h2 : At L3 b 9 (.int .u16 (x.r 2)) := hR3.pat hb (bg x (i := 2) (by omega));have w2 : IntKind.i64.wrap (x.r 2) = x.r 2 := by simp [IntKind.wrap_i64]; omega
 have w3 : IntKind.i64.wrap (((S.by_ k.1).length : Int) + x.r 2) = ((S.by_ k.1).length : Int) + x.r 2 := by simp [IntKind.wrap_i64]; omega
 co_applyP bk rfl;intro ho;co_applyP aa;co_applyP oan rfl;co_applyP aK;change ∃ v, resE .. = some v ∧ _
 · have ho' : S.isOpen (otherE k) = false := by simpa using ho
   exact ⟨_, rfl, rfl, by simp [St.canBeDone, ho'], hE1.trans (hE2.trans hE3)⟩
 intro ho;co_applyP aa;co_applyP oy rfl (au (hf := iv));co_applyP oy rfl (aF (ht := aY));co_applyP oy rfl aA;co_applyP oan rfl;change wpE ..;have ho' : S.isOpen (otherE k) = true := by simpa using ho
 co_applyP bk rfl;intro hc;co_applyP aa;co_applyP om rfl rfl rfl dn;co_applyP oan rfl;co_applyP aK;change ∃ v, resE .. = some v ∧ _
 · have h4 : k.2 = 4 := by have : (k.2 : Int) = 4 := by simpa using hc
                           omega
   exact ⟨_, rfl, rfl, by simp [St.canBeDone, ho', h4], hE1.trans (hE2.trans hE3)⟩
 intro hc;co_applyP aa;co_applyP om rfl rfl rfl ae;co_applyP oy rfl aJ;co_applyP oy rfl (au (hf := aC));co_applyP oy rfl (au (hf := aS));co_applyP oy rfl (aX U47 aZ);co_applyP oy rfl (aF (ht := cH));co_applyP oy rfl (cp (hs := U32) (ht := U3));co_applyP oy rfl aR;co_applyP oy rfl nu;co_applyP oan rfl;co_applyP aK;change ∃ v, resE .. = some v ∧ _
 have h4 : ¬ k.2 = 4 := by have : ¬ (k.2 : Int) = 4 := by simpa using hc
                           omega
 exact ⟨_, rfl, rfl, by rw [w2, w3]; simp [St.canBeDone, ho', h4], hE1.trans (hE2.trans hE3)⟩
theorem zc (a b : Nat) : ((a : Int) == (b : Int)) = decide (a = b) := by rw [Bool.eq_iff_iff]; simp; omega
theorem dD : ∃ n, ∀ {σ} {F : Fam σ} {Δ : DM F} {main s} (L : Frag) (p c : Nat) (x y : PS), pb p x ∈ L → pb c y ∈ L →
   CallsL Δ Tryz.prog main 128 [ptr p, ptr c].toArray n s L (fun s' v L' => s = s' ∧ L = L' ∧ v = .bool (decide (y.par = x.id))) := by
 apply Exists.intro;intro σ F Δ main s L p c x y hp hc;have h1 : At L c 1 (.int .i64 y.par) := ⟨true, _, _, _, hc, rfl⟩;have h2 : At L p 0 (.int .i64 x.id) := ⟨true, _, _, _, hp, rfl⟩;co_applyP aB 16 Tryz.func128 Tryz.ntmps128;co_applyP aa;co_applyP oan rfl;co_applyP aq;co_applyP bq aT;co_applyP tr 0 rfl ae pI;co_applyP tr 1 rfl aJ pI;co_applyP tr 2 rfl (au (hf := aC)) pI;co_applyP tr 3 rfl (au (hf := qk)) pI;co_applyP tr 4 rfl (aF (ht := aY)) pI;co_applyP tr 5 rfl ae pI;co_applyP tr 6 rfl aJ pI;co_applyP tr 7 rfl (au (hf := aC)) pI;co_applyP tr 8 rfl (au (hf := dT)) pI;co_applyP tr 9 rfl (aF (ht := aY)) pI;co_applyP tr 10 rfl aA pI;co_applyP tr 11 rfl bL pI;co_applyP td (by kernel_rfl);co_applyP aK;change ∃ v, resE .. = some v ∧ _;exact ⟨_, rfl, rfl, rfl, by rw [zc]⟩
theorem iZ : ∃ n, ∀ {σ} {F : Fam σ} {Δ : DM F} {main s} (L : Frag) (p c xb : Nat) (x y : PS), pb p x ∈ L → pb c y ∈ L → At L xb 0 (ptr p) →
   CallsL Δ Tryz.prog main 148 [ptr c, ptr xb].toArray n s L (fun s' v L' => s = s' ∧ v = .bool (decide (y.par = x.id ∧ y.st = 6)) ∧ Ext L L') := by
 obtain ⟨n1, g1⟩ := dD;apply Exists.intro;intro σ F Δ main s L p c xb x y hp hc hb;have h1 : At L c 2 (.int .i64 y.st) := ⟨true, _, _, _, hc, rfl⟩;co_applyP aB 15 Tryz.func148 Tryz.ntmps148;co_applyP iq;intro hF;co_applyP aa;co_applyP oan rfl;co_applyP aa;co_applyP oy rfl (aF (ht := dz));co_applyP oy rfl ae;co_applyP oc rfl rfl rfl (g1 L p c x y hp hc);rintro _ _ _ ⟨rfl, rfl, rfl⟩;co_applyP oy rfl ae;co_applyP qr (y.par = x.id);intro hpar
 · rw [decide_eq_true hpar];co_applyP om rfl rfl rfl (aJ);co_applyP oy rfl ((au (hf := aC)));co_applyP oy rfl ((au (hf := cZ)));co_applyP oy rfl ((aF (ht := aY)));co_applyP oy rfl (aA);co_applyP oy rfl aP;co_applyP oan rfl;co_applyP aK;change ∃ v, resE .. = some v ∧ _;refine ⟨_, rfl, rfl, ?_, hF, fun _ h => h⟩;have e : ((y.st : Int) == 6) = decide (y.par = x.id ∧ y.st = 6) := by rw [Bool.eq_iff_iff]; simp [hpar]; omega
   rw [← e]; rfl
 intro hpar;rw [decide_eq_false hpar];co_applyP ou rfl;co_applyP ou rfl;co_applyP ou rfl;co_applyP ou rfl;co_applyP ou rfl;co_applyP ou rfl;co_applyP oy rfl aP;co_applyP oan rfl;co_applyP aK;change ∃ v, resE .. = some v ∧ _;refine ⟨_, rfl, rfl, ?_, hF, fun _ h => h⟩;have e : false = decide (y.par = x.id ∧ y.st = 6) := by simp [hpar]
 rw [← e]; rfl
def St.orphs (S : St) (id : Nat) : List Nat → St
 | [] => S
 | b :: bs => St.orphs (match S.get b with
   | some y => if y.par = id then S.setP b { y with par := 1 } else S
   | none => S) id bs
theorem mw (S : St) (id : Nat) (l m : List Nat) : S.orphs id (l ++ m) = (S.orphs id l).orphs id m := by
 induction l generalizing S with
 | nil => rfl
 | cons b l ih => simp only [List.cons_append, St.orphs]; exact ih _
structure ORel (S S' : St) : Prop where
 f : S'.ps.map (·.1) = S.ps.map (·.1)
 v : ∀ b y, (b, y) ∈ S.ps → ∃ z, (b, z) ∈ S'.ps ∧ { z with par := y.par } = y
 r : S'.rows = S.rows ∧ S'.by_ = S.by_ ∧ S'.wt = S.wt ∧ S'.now = S.now ∧ S'.last = S.last
theorem ORel.refl (S : St) : ORel S S := ⟨rfl, fun b y h => ⟨y, h, rfl⟩, rfl, rfl, rfl, rfl, rfl⟩
theorem ORel.step {S S' : St} (h : ORel S S') (hn : (S'.ps.map (·.1)).Nodup) {b : Nat} {y : PS} (hb : (b, y) ∈ S'.ps) : ORel S (S'.setP b { y with par := 1 }) := by
 refine ⟨by rw [aW]; exact h.f, fun c w hc => ?_, h.r⟩;obtain ⟨z, hz, he⟩ := h.v c w hc;by_cases e : c = b
 · subst e;obtain rfl := bp hn hb hz;exact ⟨_, av hz, by simpa using he⟩
 · exact ⟨z, by simp only [St.setP, List.mem_map]; exact ⟨(c, z), hz, by simp [e]⟩, he⟩
theorem ur : ∃ n, ∀ {σ} {F : Fam σ} {Δ : DM F} {main s} (K : Nat) (A : Lay) (S : St) (Fr L : Frag) (b : Nat) (x : PS), Rep K A S Fr L → (b, x) ∈ S.ps →
   CallsL Δ Tryz.prog main 109 [ptr K, ptr b].toArray n s L (fun s' v L' => s = s' ∧ v = .tuple #[] ∧ ORel S (S.orphs x.id (S.ps.map (·.1))) ∧ Rep K A (S.orphs x.id (S.ps.map (·.1))) Fr L') := by
 obtain ⟨n1, g1⟩ := dD;apply Exists.intro;intro σ F Δ main s K A S Fr L b x hR hb;obtain ⟨base, cap, hv, hat0⟩ := bw hR.pa;simp only [List.length_map] at hv;have h5 : At L K 5 (.slice base S.ps.length cap) := by rw [← hv]; exact hR.kat rfl
 co_applyP aB 23 Tryz.func109 Tryz.ntmps109;co_applyP aa;co_applyP om rfl rfl rfl aJ;co_applyP oy rfl (au (hf := bO));co_applyP oy rfl (aF (ht := dp));co_applyP oy rfl (bB (hu := U91));co_applyP oy rfl ae;co_applyP ah;co_applyP aI;co_applyP bK (fun k s' ε' L' => s' = s ∧ ∃ l1 l2, S.ps = l1 ++ l2 ∧ Rep K A (S.orphs x.id (l1.map (·.1))) Fr L' ∧ ORel S (S.orphs x.id (l1.map (·.1))) ∧ k + l1.length = 8 ∧ kn ε' [(11, .int .i64 l1.length), (10, .int .i64 S.ps.length), (9, .slice base S.ps.length cap), (1, ptr b), (0, ptr K)]) 8
 · exact ⟨rfl, [], S.ps, rfl, hR, ORel.refl S, rfl, rfl⟩
 rintro k s' ε' L' ⟨rfl, l1, l2, hl, hR', hO, hk, he⟩;co_applyP aV he;have hlen := congrArg List.length hl;simp only [List.length_append] at hlen;have h8 := hR.p8;co_applyP aa;co_applyP oy rfl cF;co_applyP ah;co_applyP aq;co_applyP bk rfl;intro hlt
 · cases l2 with
   | nil => simp at hlt hlen; omega
   | cons q l2 =>
     have hat : ∃ ab, base = some ⟨ab, 0, none⟩ ∧ At L' ab l1.length (ptr q.1) := by
       obtain ⟨ab, hb1, hb2, _⟩ := hat0 l1.length (ptr q.1) (by rw [hl]; simp);obtain ⟨base', cap', _, hat'⟩ := bw hR'.pa;have e1 : (S.orphs x.id (l1.map (·.1))).ps.map (fun q => ptr q.1) = S.ps.map fun q => ptr q.1 := by
         have := congrArg (List.map ptr) hO.f;rw [List.map_map, List.map_map] at this;exact this
       obtain ⟨b', hb1', _, hv'⟩ := hat' l1.length (ptr q.1) (by rw [e1, hl]; simp);rw [hb1] at hb1';obtain rfl : ab = b' := by simpa using hb1'
       exact ⟨ab, hb2, hv'⟩
     obtain ⟨ab, rfl, hav⟩ := hat;simp at hlen;obtain ⟨z, hz, hze⟩ := hO.v q.1 q.2 (by rw [hl]; simp);obtain ⟨w, hw, hwe⟩ := hO.v b x hb;have hwid : w.id = x.id := by have := congrArg PS.id hwe; exact this
     have hget := bl hR'.pn hz;have elen : IntKind.i64.wrap ((l1.length : Int) + 1) = ((l1 ++ [q]).length : Int) := by simp [IntKind.wrap_i64]; omega
     have hnext : S.orphs x.id ((l1 ++ [q]).map (·.1)) = if z.par = x.id then (S.orphs x.id (l1.map (·.1))).setP q.1 { z with par := 1 } else S.orphs x.id (l1.map (·.1)) := by
       rw [List.map_append, mw];show St.orphs (match (S.orphs x.id (l1.map (·.1))).get q.1 with | some y => _ | none => _) x.id [] = _;rw [hget]; rfl
     co_applyP aD;co_applyP aq;co_applyP aI;co_applyP aa;co_applyP oy rfl (bH U91 bN);co_applyP oy rfl (aF (ht := dz));co_applyP oan rfl;co_applyP aa;co_applyP om rfl rfl rfl ae;co_applyP oc rfl rfl rfl (g1 L' b q.1 w z (hR'.p _ hw) (hR'.p _ hz));rintro _ _ _ ⟨rfl, rfl, rfl⟩;co_applyP ah;co_applyP bk rfl;intro hc;co_applyP ax;co_applyP om rfl rfl rfl aJ;co_applyP oy rfl (au (hf := aC));co_applyP oy rfl (au (hf := qk))
     · have hp : z.par = x.id := by rw [← hwid]; simpa using hc
       co_applyP osm rfl (hs := de) (hm := hR'.p _ hz) (hi := by first | decide | (rw [bf]; omega) | (rw [bC]; omega));intro L2 hU;have hR2 := hR'.setP hz (x' := { z with par := 1 }) hU;co_applyP ah;co_applyP ax;co_applyP oy rfl aR;co_applyP oy rfl ae;co_applyP ah;change ∃ k', k' < _ ∧ _;rw [if_pos hp] at hnext;exact ⟨k - 1, by omega, rfl, l1 ++ [q], l2, by simp [hl], by rw [hnext]; exact hR2, by rw [hnext]; exact hO.step hR'.pn hz, by simp; omega, by rw [← elen]; rfl⟩
     intro hc;co_applyP aD;co_applyP ax;co_applyP oy rfl aR;co_applyP oy rfl ae;co_applyP ah;change ∃ k', k' < _ ∧ _;have hp : ¬ z.par = x.id := by rw [← hwid]; simpa using hc
     rw [if_neg hp] at hnext;exact ⟨k - 1, by omega, rfl, l1 ++ [q], l2, by simp [hl], by rw [hnext]; exact hR', by rw [hnext]; exact hO, by simp; omega, by rw [← elen]; rfl⟩
 intro hlt;co_applyP bS;change ∃ v, resE .. = some v ∧ _;cases l2 with
 | nil =>
   have e : l1 = S.ps := by rw [hl]; simp
   subst e;exact ⟨_, rfl, rfl, rfl, hO, hR'⟩
 | cons q l2 => simp at hlt hlen; omega
def St.setPs (S : St) (ps : List (Nat × PS)) : St := { S with ps := ps }
section
variable {K : Nat} {A : Lay} {S : St} {F L L' : Frag}
theorem Rep.setPs (h : Rep K A S F L) {a' : Sl} {ps' : List (Nat × PS)} {ls : Nat} (hf : Fun L') (hk : kb K (kst (A.setA 0 a') { S.setPs ps' with last := ls }) ∈ L') (hs : ∀ t ∈ L, t.1 ≠ K → (A.a 0).b ≠ some t.1 → t ∈ L') (ha : slOk a' (ps'.map fun q => ptr q.1) 93 L')
   (hp : ∀ q ∈ ps', pb q.1 q.2 ∈ L') (hpn : (ps'.map (·.1)).Nodup) (hp8 : ps'.length ≤ 8) (hpF : ∀ t ∈ F, ∀ q ∈ ps', t.1 ≠ q.1)
   (hd : ∀ b, a'.b = some b → (A.a 0).b = some b ∨ ((∀ i, (A.a i).b ≠ some b) ∧ ∀ t ∈ F, t.1 ≠ b)) : Rep K (A.setA 0 a') { S.setPs ps' with last := ls } F L' := by
 have hal : ∀ b, (A.a 0).b = some b → (b, true, Obj.cells ((S.ps.map fun q => ptr q.1) ++ (A.a 0).junk).toArray 93) ∈ L := fun b hb => h.pa.mem hb;have ty : ∀ {b : Nat} {fl : Bool} {o : Obj}, (b, fl, o) ∈ L → (∀ c, o ≠ Obj.cells c 93) → (A.a 0).b ≠ some b := fun hm ho hb => ho _ (h.fn _ _ _ _ _ hm (hal _ hb)).2;have arr : ∀ (a : Sl) (xs : List Value) (e : TypeId), e ≠ 115 → (∀ b, a.b = some b → (A.a 0).b ≠ some b) → slOk a xs e L → slOk a xs e L' := fun a xs e he hne ha => by
   refine ha.mono fun c hc o ho => hs _ ho ?_ (hne c hc);exact h.fn.ne (ha.mem hc) h.k (aE he)
 have hdn : ∀ i, i ≠ 0 → ∀ b, (A.a i).b = some b → (A.a 0).b ≠ some b := fun i hi b hb e => h.d i 0 hi (by rw [hb]; simp) (by rw [hb, e]);have pA : ∀ i, i ≠ 0 → (A.setA 0 a').a i = A.a i := fun i hi => by simp [Lay.setA, put, hi]
 have p0 : (A.setA 0 a').a 0 = a' := by simp [Lay.setA, put]
 exact { h with
   fn := hf
   k := hk
   g := hs _ h.g (h.fn.ne h.g h.k (aE (by decide))) (ty h.g fun c => aE (by decide))
   p := hp
   pn := hpn
   p8 := hp8
   pa := by rw [p0]; exact ha
   rw := fun l hl => by rw [pA _ (by omega)]; exact arr _ _ _ (by decide) (hdn _ (by omega)) (h.rw l hl)
   ya := fun i hi => arr _ _ _ (by decide) (fun b hb => ty ((h.ya i hi).mem hb) fun c => aE (by decide)) (h.ya i hi)
   w := by
     have : wobj (A.setA 0 a') { S.setPs ps' with last := ls } = wobj A S := by
       rw [cJ, cJ];show mapO (entsOf (A.setA 0 a') S.wt A.born) A.clock = _;rw [eh fun e _ => pA _ (by unfold slot; omega)]
     rw [this];exact hs _ h.w (h.fn.ne h.w h.k (by simp [wobj])) (ty h.w fun c => by simp [wobj])
   wa := fun e he => by rw [pA _ (by unfold slot; omega)]; exact arr _ _ _ (by decide) (hdn _ (by unfold slot; omega)) (h.wa e he)
   al := fun i c hc => by
     by_cases ei : i = 0
     · subst ei;rw [p0] at hc;exact ⟨_, ha.mem hc⟩
     · rw [pA i ei] at hc;obtain ⟨xs, hx⟩ := h.al i c hc;exact ⟨xs, hs _ hx (h.fn.ne hx h.k (aE (by decide))) (hdn i ei c hc)⟩
   yl := fun i c hc => by
     obtain ⟨xs, hx⟩ := h.yl i c hc;exact ⟨xs, hs _ hx (h.fn.ne hx h.k (aE (by decide))) (ty hx fun c => aE (by decide))⟩
   d := fun i j hij hi => by
     by_cases ei : i = 0
     · subst ei;rw [pA j (Ne.symm hij), p0];rw [p0] at hi;intro e;cases hb : a'.b with
       | none => exact hi hb
       | some b =>
         rcases hd b hb with h1 | h1
         · exact h.d 0 j hij (by rw [h1]; simp) (by rw [h1, ← e, hb])
         · exact h1.1 j (by rw [← e, hb])
     · rw [pA i ei];rw [pA i ei] at hi;by_cases ej : j = 0
       · subst ej;rw [p0];intro e;cases hb : a'.b with
         | none => rw [hb] at e; exact hi e
         | some b =>
           rcases hd b hb with h1 | h1
           · exact h.d i 0 ei hi (by rw [h1, e, hb])
           · exact h1.1 i (by rw [e, hb])
       · rw [pA j ej]; exact h.d i j hij hi
   fr := fun t ht => hs _ (h.fr t ht) (h.fd t ht).1 ((h.fd t ht).2.2.1 _)
   fd := fun t ht => by
     refine ⟨(h.fd t ht).1, hpF t ht, fun i => ?_, (h.fd t ht).2.2.2⟩;by_cases ei : i = 0
     · subst ei;rw [p0];intro e;rcases hd _ e with h1 | h1
       · exact (h.fd t ht).2.2.1 _ h1
       · exact h1.2 t ht rfl
     · rw [pA i ei]; exact (h.fd t ht).2.2.1 i }
theorem Rep.beside (h : Rep K A S F L) {c : Nat} {y : PS} (hm : pb c y ∈ L) (hp : ∀ q ∈ S.ps, c ≠ q.1) : Rep K A S (pb c y :: F) L :=
 { h with
   fr := fun t ht => by
     rcases List.mem_cons.1 ht with rfl | ht
     · exact hm
     · exact h.fr t ht
   fd := fun t ht => by
     rcases List.mem_cons.1 ht with rfl | ht
     · refine ⟨h.fn.ne hm h.k (aE (by decide)), hp, fun i e => ?_, fun i e => ?_, h.fn.ne hm h.w (by simp [wobj])⟩
       · obtain ⟨xs, hx⟩ := h.al i _ e;exact aE (by decide) (h.fn _ _ _ _ _ hm hx).2
       · obtain ⟨xs, hx⟩ := h.yl i _ e;exact aE (by decide) (h.fn _ _ _ _ _ hm hx).2
     · exact h.fd t ht }
theorem ks (k : KS) (v : Value) : (kcells k).setIfInBounds 5 v = kcells { k with procs := v } := rfl
theorem rR (A : Lay) (S : St) (a' : Sl) (ps' : List (Nat × PS)) : kcells (kst (A.setA 0 a') { S.setPs ps' with last := S.last }) = kcells { kst A S with procs := slv a' ps'.length } := by
 unfold kcells kst Lay.setA put St.setPs;simp
end
def isChildEnded (x : PS) (y : PS) : Bool := decide (y.par = x.id ∧ y.st = 6)
def St.childAt (S : St) (x : PS) : Option Nat := S.ps.findIdx? fun q => isChildEnded x q.2
def told (x y : PS) : PS := { x with r := put (put x.r 0 ((y.id : Int) % 65536)) 1 (y.stat % 65536) }
theorem pp {S : St} (hn : (S.ps.map (·.1)).Nodup) (p : PS → Bool) : (S.ps.map (·.1)).findIdx? (S.testB p) = S.ps.findIdx? fun q => p q.2 := by
 rw [List.findIdx?_map];have : ∀ q ∈ S.ps, (S.testB p ∘ (·.1)) q = p q.2 := fun q hq => by simp [St.testB, bl hn (b := q.1) (x := q.2) hq]
 generalize S.ps = l at this ⊢
 induction l with
 | nil => rfl
 | cons q l ih =>
   rw [List.findIdx?_cons, List.findIdx?_cons, this q List.mem_cons_self, ih fun q hq => this q (List.mem_cons_of_mem _ hq)]
theorem i8 : ∃ n, ∀ {σ} {F : Fam σ} {Δ : DM F} {main s} (K : Nat) (A : Lay) (S : St) (Fr L : Frag) (b : Nat) (x : PS), (∀ cs, (Δ s).New (.cells cs 93)) → Rep K A S Fr L → (b, x) ∈ S.ps → x.st ≠ 6 →
   CallsL Δ Tryz.prog main 130 [ptr K, ptr b].toArray n s L (fun s' v L' => s = s' ∧ match S.childAt x with
     | none => v = .bool false ∧ Rep K A S Fr L'
     | some i => v = .bool true ∧ ∃ c y a', S.ps[i]? = some (c, y) ∧ Rep K (A.setA 0 a') ({ S.setPs (S.ps.eraseIdx i) with last := S.last }.setP b (told x y)) (pb c y :: Fr) L') := by
 obtain ⟨n0, g0⟩ := iZ;obtain ⟨n1, g1⟩ := eW n0;obtain ⟨n2, g2⟩ := nK;apply Exists.intro;intro σ F Δ main s K A S Fr L b x hN hR hb hx6;co_applyP aB 55 Tryz.func130 Tryz.ntmps130;co_applyP aa;co_applyP bT rfl (cn (hN _));intro xb L1 hA1;have hR1 := hR.add hA1;have hxb : At L1 xb 0 (ptr b) := ⟨true, _, _, _, hA1.self, rfl⟩;obtain ⟨base, cap, hv, hat0⟩ := bw hR1.pa;simp only [List.length_map] at hv;have h5 : At L1 K 5 (.slice base (S.ps.map (·.1)).length cap) := by rw [List.length_map, ← hv]; exact hR1.kat rfl
 have hcl : ∀ c ∈ S.ps.map (·.1), ∀ L, Ext L1 L → CallsL Δ Tryz.prog main 148 ([] ++ [ptr c] ++ [ptr xb]).toArray n0 s L (fun s' v L' => s = s' ∧ v = .bool (S.testB (isChildEnded x) c) ∧ Ext L L') := by
   intro c hc L hE;obtain ⟨q, hq, rfl⟩ := List.mem_map.1 hc;have e : S.testB (isChildEnded x) q.1 = decide (q.2.par = x.id ∧ q.2.st = 6) := by simp [St.testB, bl hR1.pn (b := q.1) (x := q.2) hq, isChildEnded]
   rw [e];exact g0 L b q.1 xb x q.2 (hE.s _ (hR1.p _ hb)) (hE.s _ (hR1.p _ hq)) (hE.at hxb)
 co_applyP oan rfl;co_applyP aa;co_applyP om rfl rfl rfl aJ;co_applyP oy rfl (au (hf := bO));co_applyP oy rfl (aF (ht := dp));co_applyP oy rfl ma;co_applyP oc rfl rfl rfl (g1 L1 148 _ [] [ptr xb] (S.ps.map (·.1)) (S.testB (isChildEnded x)) base cap (fun i v hv => by obtain ⟨b, _, h2, h3⟩ := hat0 i v (by simpa using hv); exact ⟨b, h2, h3⟩) (by simpa using hR1.p8) Tryz.func148 rfl rfl hcl);rintro _ _ _ ⟨rfl, rfl, hE⟩;co_applyP oan rfl;co_applyP aq;co_applyP aa;co_applyP om rfl rfl rfl cF;co_applyP ah;change wpE ..;rename_i L2;have hR2 := hR1.ext hE;have hidx := pp hR.pn (isChildEnded x);co_applyP bk rfl;intro hc
 · have hnone : S.childAt x = none := by
     cases h : S.childAt x with
     | none => rfl
     | some i => unfold St.childAt at h; unfold idxF at hc; rw [hidx, h] at hc; simp at hc; omega
   co_applyP aa;co_applyP oan rfl;co_applyP aK;change ∃ v, resE .. = some v ∧ _;rw [hnone];exact ⟨_, rfl, rfl, rfl, hR2⟩
 intro hc;obtain ⟨i, hsome⟩ : ∃ i, S.childAt x = some i := by
   cases h : S.childAt x with
   | none => unfold St.childAt at h; unfold idxF at hc; rw [hidx, h] at hc; simp at hc
   | some i => exact ⟨i, rfl⟩
 have hi : idxF (S.testB (isChildEnded x)) (S.ps.map (·.1)) = i := by unfold idxF; unfold St.childAt at hsome; rw [hidx, hsome]
 obtain ⟨hil, hti, _⟩ := List.findIdx?_eq_some_iff_getElem.1 hsome;rw [hi, hsome];generalize hcy : S.ps[i] = cy at hti;obtain ⟨c, y⟩ := cy;have hcy' : S.ps[i]? = some (c, y) := by rw [List.getElem?_eq_getElem hil, hcy]
 have hcm : (c, y) ∈ S.ps := List.mem_of_getElem? hcy';obtain ⟨ab, hab, hbase, hav⟩ := hat0 i (ptr c) (by simp [hcy']);subst hbase;have hav2 := hE.at hav;have h52 := hE.at h5;rw [List.length_map] at h52;have h8 := hR.p8;have ei : IntKind.i64.wrap ((i : Int) + 1) = (i : Int) + 1 := by simp [IntKind.wrap_i64]; omega
 have hcap : cap = S.ps.length + (A.a 0).junk.length := by
   unfold slv at hv; rw [hab] at hv;simp only [Value.slice.injEq, true_and] at hv;exact hv.symm
 subst hcap;have hpa2 := hR2.pa.mem hab;have hKab : K ≠ ab := hR2.fn.ne hR2.k hpa2 (aE (by decide));have pab : ∀ q ∈ S.ps, q.1 ≠ ab := fun q hq => hR2.fn.ne (hR2.p _ hq) hpa2 (aE (by decide));have hxab : xb ≠ ab := fun e => hA1.new _ (hR.pa.mem hab) e.symm;have hxp : ∀ q ∈ S.ps, q.1 ≠ xb := fun q hq => hA1.new _ (hR.p _ hq);have hxK : K ≠ xb := hA1.new _ hR.k;have g2' := g2 (Δ := Δ) (main := main) (s := s) L2 ab (S.ps.map fun q => ptr q.1) (A.a 0).junk i (by simpa using hil) (by simp; omega) (by simp [plainV]) hpa2;rw [List.length_map] at g2';co_applyP aD;co_applyP aa;co_applyP om rfl rfl rfl aJ;co_applyP oy rfl (au (hf := bO));co_applyP oy rfl (aF (ht := dp));co_applyP om rfl rfl rfl (bH U91 bN);co_applyP oy rfl (aF (ht := dz));co_applyP oan rfl;co_applyP aa;co_applyP om rfl rfl rfl ae;co_applyP oy rfl aJ;co_applyP oy rfl (au (hf := bO));co_applyP oy rfl (aF (ht := dp));co_applyP om rfl rfl rfl ae;co_applyP oy rfl aR;rw [ei];co_applyP oc rfl rfl rfl (g2');rintro _ _ _ ⟨rfl, rfl, hU3⟩;co_applyP oy rfl aJ;co_applyP oy rfl (au (hf := bO));rename_i L3;have hK3 := hU3.ne _ hR2.k hKab;co_applyP oeN rfl (fun hnd => fq (hs := eK) (hnd := hnd) (hm := hK3) (hi := by rw [bC]; omega));rintro _ L4 ⟨rfl, hU4⟩;co_applyP ah;co_applyP aq;have hlen' : (S.ps.eraseIdx i).length = S.ps.length - 1 := by rw [List.length_eraseIdx]; simp [hil]
 have hemap : (S.ps.eraseIdx i).map (fun q => ptr q.1) = (S.ps.map fun q => ptr q.1).eraseIdx i := by simp [List.eraseIdx_eq_take_drop_succ]
 have hesub : ∀ q ∈ S.ps.eraseIdx i, q ∈ S.ps := fun q hq => List.mem_of_mem_eraseIdx hq;have keep4 : ∀ t ∈ L2, t.1 ≠ K → t.1 ≠ ab → t ∈ L4 := fun t ht h1 h2 => hU4.ne _ (hU3.ne _ ht h2) h1;have hR4 : Rep K (A.setA 0 ⟨some ab, .pointer none :: (A.a 0).junk⟩) { S.setPs (S.ps.eraseIdx i) with last := S.last } Fr L4 := by
   refine hR2.setPs hU4.fn ?_ (fun t ht h1 h2 => keep4 t ht h1 fun e => h2 (by rw [hab, e])) ?_ (fun q hq => keep4 _ (hR2.p _ (hesub q hq)) (hR2.fn.ne (hR2.p _ (hesub q hq)) hR2.k (aE (by decide))) (pab _ (hesub q hq))) ?_ (by omega) (fun t ht q hq => (hR2.fd t ht).2.1 q (hesub q hq)) (fun b hb => .inl (by rw [hab]; exact hb))
   · have := hU4.self;rw [ks] at this;unfold kb;rw [rR];have e1 : slv ⟨some ab, .pointer none :: (A.a 0).junk⟩ (S.ps.eraseIdx i).length = .slice (some ⟨ab, 0, none⟩) (S.ps.length - 1) (S.ps.length + (A.a 0).junk.length) := by
       unfold slv; simp only [hlen', List.length_cons]; congr 1; omega
     rw [e1]; exact this
   · rw [hemap];exact hU4.ne _ hU3.self (Ne.symm hKab)
   · rw [show (S.ps.eraseIdx i).map (·.1) = (S.ps.map (·.1)).eraseIdx i by simp [List.eraseIdx_eq_take_drop_succ]];exact hR2.pn.sublist (List.eraseIdx_sublist _ _)
 have hcb : c ≠ b := fun e => by
   subst e;obtain rfl := bp hR.pn hcm hb;have : isChildEnded y y = true := hti;simp [isChildEnded] at this;exact hx6 this.2
 have hb4 : (b, x) ∈ S.ps.eraseIdx i := by
   obtain ⟨j, hj⟩ := List.getElem?_of_mem hb;have hji : j ≠ i := fun e => by subst e; rw [hj] at hcy'; simp at hcy'; exact hcb hcy'.1.symm
   rw [List.mem_eraseIdx_iff_getElem?];exact ⟨j, hji, hj⟩
 have hpc4 : pb c y ∈ L4 := keep4 _ (hR2.p _ hcm) (hR2.fn.ne (hR2.p _ hcm) hR2.k (aE (by decide))) (pab _ hcm);have hcn : ∀ q ∈ S.ps.eraseIdx i, c ≠ q.1 := fun q hq e => by
   obtain ⟨j, hji, hj⟩ := List.mem_eraseIdx_iff_getElem?.1 hq;have hq' := List.mem_of_getElem? hj;obtain ⟨qc, qy⟩ := q;have e' : c = qc := e;subst e';have e1 : (S.ps.map (·.1))[j]? = some c := by simp [hj]
   have e2 : (S.ps.map (·.1))[i]? = some c := by simp [hcy']
   obtain ⟨hj1, hj2⟩ := List.getElem?_eq_some_iff.1 e1;obtain ⟨hi1, hi2⟩ := List.getElem?_eq_some_iff.1 e2;rcases Nat.lt_or_gt_of_ne hji with g | g
   · exact absurd (hj2.trans hi2.symm) (List.pairwise_iff_getElem.1 hR.pn j i hj1 hi1 g)
   · exact absurd (hi2.trans hj2.symm) (List.pairwise_iff_getElem.1 hR.pn i j hi1 hj1 g)
 replace hR4 := hR4.beside hpc4 hcn;have hxb4 : (xb, true, Obj.cells #[ptr b] 93) ∈ L4 := keep4 _ (hE.s _ hA1.self) (Ne.symm hxK) hxab;have hx4 : At L4 xb 0 (ptr b) := ⟨true, _, _, _, hxb4, rfl⟩;have hc40 : At L4 c 0 (.int .i64 (y.id : Nat)) := ⟨true, _, _, _, hpc4, rfl⟩;have hc43 : At L4 c 3 (.int .i64 y.stat) := ⟨true, _, _, _, hpc4, rfl⟩;have hxbm : ∀ (L : Frag), (xb, true, Obj.cells #[ptr b] 93) ∈ L → ∀ t ∈ [(xb, true, Obj.cells #[ptr b] 93)], t ∈ L := fun L h t ht => by simp at ht; rw [ht]; exact h
 have hbx : b ≠ xb := hxp _ hb;co_applyP bi [(xb, true, Obj.cells #[ptr b] 93)] 18 (nf := 0) aT;co_applyP t0 0 rfl (aF (ht := dz)) (ak (hxbm _ hxb4));co_applyP tr 1 rfl (aF (ht := dz)) (ak (hxbm _ hxb4));co_applyP tr 2 rfl ae (ak (hxbm _ hxb4));co_applyP tr 3 rfl aJ (ak (hxbm _ hxb4));co_applyP tr 4 rfl (au (hf := aC)) (ak (hxbm _ hxb4));co_applyP tr 5 rfl (au (hf := dT)) (ak (hxbm _ hxb4));co_applyP t0 6 rfl (aF (ht := aY)) (ak (hxbm _ hxb4));co_applyP tr 7 rfl (cp (hs := U3) (ht := U32)) (ak (hxbm _ hxb4));co_applyP tr 8 rfl ae (ak (hxbm _ hxb4));co_applyP tr 9 rfl aJ (ak (hxbm _ hxb4));co_applyP tr 10 rfl (au (hf := aC)) (ak (hxbm _ hxb4));co_applyP tr 11 rfl (au (hf := ql)) (ak (hxbm _ hxb4));co_applyP t0 12 rfl (aF (ht := aY)) (ak (hxbm _ hxb4));co_applyP tr 13 rfl (cp (hs := U3) (ht := U32)) (ak (hxbm _ hxb4));co_applyP tr 14 rfl aJ (ak (hxbm _ hxb4));co_applyP tr 15 rfl (au (hf := aC)) (ak (hxbm _ hxb4));co_applyP tr 16 rfl (au (hf := aS)) (ak (hxbm _ hxb4));co_applyP tr 17 rfl (aX U47 aZ) (ak (hxbm _ hxb4));co_applyP tr 19 rfl aJ (ak (hxbm _ hxb4));co_applyP tr 20 rfl (au (hf := aC)) (ak (hxbm _ hxb4));co_applyP tr 21 rfl (au (hf := aS)) (ak (hxbm _ hxb4));co_applyP a0;intro hnd;co_applyP te (i := 18) rfl (fq (hnd := hnd) (hm := hR4.p _ hb4) (hi := by rw [bf]; omega) (hs := aZ));rintro _ _ ⟨rfl, hU5⟩;refine ⟨ay (hxbm _ (hU5.ne _ hxb4 (Ne.symm hbx))), ?_⟩;rename_i L5;rw [cW] at hU5;have h7 : (pcells x).setIfInBounds (7 + 0) (.int .u16 ((y.id : Int) % 65536)) = pcells { x with r := put x.r 0 ((y.id : Int) % 65536) } := dP x (by omega) _;have hR5 := hR4.setP hb4 (x' := { x with r := put x.r 0 ((y.id : Int) % 65536) }) (h7 ▸ hU5);have hb5 : (b, { x with r := put x.r 0 ((y.id : Int) % 65536) }) ∈ ({ S.setPs (S.ps.eraseIdx i) with last := S.last }.setP b { x with r := put x.r 0 ((y.id : Int) % 65536) }).ps := av hb4;have hxb5 := hU5.ne _ hxb4 (Ne.symm hbx);co_applyP to 22 rfl ((aX U47 aZ)) (ay (hxbm _ hxb5));co_applyP a0;intro hnd';co_applyP te (i := 23) rfl (fq (hnd := hnd') (hm := hR5.p _ hb5) (hi := by rw [bf]; omega) (hs := aZ));rintro _ _ ⟨rfl, hU6⟩;refine ⟨ay (hxbm _ (hU6.ne _ hxb5 (Ne.symm hbx))), ?_⟩;rw [cW] at hU6;co_applyP td (by kernel_rfl);co_applyP aa;co_applyP oan rfl;co_applyP aK;change ∃ v, resE .. = some v ∧ _;have h8' : (pcells { x with r := put x.r 0 ((y.id : Int) % 65536) }).setIfInBounds (7 + 1) (.int .u16 (y.stat % 65536)) = pcells (told x y) := dP _ (by omega) _
 have hR6 := hR5.setP hb5 (x' := told x y) (h8' ▸ hU6);refine ⟨_, rfl, rfl, rfl, c, y, ⟨some ab, .pointer none :: (A.a 0).junk⟩, hcy', ?_⟩;have e6 : ({ S.setPs (S.ps.eraseIdx i) with last := S.last }.setP b { x with r := put x.r 0 ((y.id : Int) % 65536) }).setP b (told x y) = ({ S.setPs (S.ps.eraseIdx i) with last := S.last } : St).setP b (told x y) := by
   unfold St.setP;simp only [List.map_map];congr 1;apply List.map_congr_left;intro q _;simp only [Function.comp]
   split
   · simp
   · rename_i h; simp [h]
 rw [e6] at hR6;exact hR6
end Go.Proofs.YtejkelcaljmnoaaGreatDoor
namespace Go.Lo
open Go.Conc Go.Hx
section
variable {P : Program} {New : Obj → Prop} {N : Nat} {ε : Env} {L : Frag} {d : Option Tmp} {ty : TypeId} {ps : String} {af : Array Edge} {g : Option (Nat × Bool)}
theorem AL {t u e : TypeId} {x y : Operand} {base : Option Addr} {len cap : Nat} (hu : P.underlying t = some (.slice e)) (hx : ev ε x = some (.slice base len cap) := by rfl) (hy : ev ε y = some (.slice none 0 0) := by rfl) : EY P N ε L ⟨d, .binOp .eql t x y u, ty, ps, af, g⟩ (.bool base.isNone) := fun a ha => by
 refine cR (fun _ => rfl) fun K hQ => ?_;rw [ha.ev hx, ha.ev hy];show wpQ P (do pure (.bool (← Op.equal t (.slice base len cap) (.slice none 0 0)))) K L;rw [ar, dL, Op.equalIn.eq_def, ar, aH hu];cases base <;> exact hQ
theorem AM {t e : TypeId} {sz : Nat} (hN : New (.cells #[] e)) (hu : P.underlying t = some (.slice e)) (hs : sizeAt P e = some sz) :
   EO P New N ε L ⟨d, .buildSlice t 0 #[], ty, ps, af, g⟩ (fun r L'' => ∃ b, (∀ t ∈ L, t.1 ≠ b) ∧ r = .slice (some ⟨b, 0, none⟩) 0 0 ∧ L'' = (b, true, .cells #[] e) :: L) := by
 intro a ha;simp only [execOp, List.map_toArray, List.map_nil];rw [aj];unfold Instr.buildSlice newRow;rw [aj, aN hu];simp only [aj, bI hs, Nat.zero_mul];have e0 : Array.map (fun x => (#[] : Array Value)[x % (#[] : Array Value).size]!) (Array.range 0) = #[] := by simp
 simp only [gt_iff_lt, Nat.not_lt_zero, if_false, if_true, bm, aj, e0];have h0 : Instr.fill (fun i => some (i * sz, sz)) (#[] : Array Value) [] = some #[] := by simp [Instr.fill]
 simp only [h0, aj];exact bY hN fun b hb => ⟨b, hb, rfl, rfl⟩
end
end Go.Lo
namespace Go.Proofs.YtejkelcaljmnoaaGreatDoor
open Go.Conc Go.Hx Go.Lo
theorem wU : ∃ n, ∀ {σ} {F : Fam σ} {Δ : DM F} {main s} (L : Frag) (Q : Nat) (xs junk : List Value), (∀ cs, (Δ s).New (.cells cs 93)) → (Q, true, Obj.cells (xs ++ junk).toArray 93) ∈ L → 0 < xs.length → xs.length ≤ 8 →
   CallsL Δ Tryz.prog main 129 [.slice (some ⟨Q, 0, none⟩) xs.length (xs.length + junk.length)].toArray n s L (fun s' v L' => s = s' ∧ ∃ b cap jk, v = .slice (some ⟨b, 0, none⟩) xs.length cap ∧ Ext L L' ∧ (∀ t ∈ L, t.1 ≠ b) ∧ (b, true, Obj.cells (xs ++ jk).toArray 93) ∈ L') := by
 apply Exists.intro;intro σ F Δ main s L Q xs junk hN hQ h0 h8;co_applyP aB 8 Tryz.func129 Tryz.ntmps129;co_applyP iq;intro hF;co_applyP aa;co_applyP oan rfl;co_applyP aq;co_applyP aa;co_applyP om rfl rfl rfl (AL U91);co_applyP ah;co_applyP ai rfl;co_applyP aD;co_applyP aa;co_applyP bT rfl (AM (hN _) U91 bN);intro nb L1 hA;co_applyP oy rfl ae;have hQ1 := hA.sub _ hQ;have hw : Reads Tryz.prog L1 1 0 (.slice (some ⟨nb, 0, none⟩) 0 0) #[] := by
   have := cB (P := Tryz.prog) (sz := 1) (n := 0) (len := 0) (cap := 0) (o := 0) hA.self (by simp);simpa using this
 have hr : Reads Tryz.prog L1 1 xs.length (.slice (some ⟨Q, 0, none⟩) xs.length (xs.length + junk.length)) xs.toArray := by
   have := cB (P := Tryz.prog) (sz := 1) (n := xs.length) (len := xs.length) (cap := xs.length + junk.length) (o := 0) hQ1 (by simp);simpa using this
 co_applyP oeN rfl (fun hnd => lq (by_ := 7) (hF := hA.fn) (hu := U91) (hv := U91) (hs := bN) (hb := pe) (hz0 := iy) (hw := hw) (hr := hr) (hc := by omega) (hbig := by omega) (hN := hN));rintro _ L2 ⟨b, cap, h1, h2, rfl, hA2⟩;co_applyP oan rfl;co_applyP aK;change ∃ v, resE .. = some v ∧ _;have e1 : #[] ++ xs.toArray ++ Builtin.zeroCells (Value.pointer none).cells (cap - (0 + xs.length)) = (xs ++ List.replicate (cap - (0 + xs.length)) (Value.pointer none)).toArray := by
   rw [eN rfl]; apply Array.ext'; simp
 rw [e1] at hA2;exact ⟨_, rfl, rfl, b, cap, _, by simp, ⟨hA2.fn, fun t ht => hA2.sub _ (hA.sub _ ht)⟩, fun t ht => hA2.new _ (hA.sub _ ht), hA2.self⟩
section
variable {S : St}
theorem Good.like (h : Good S) {b : Nat} {x x' : PS} (hb : (b, x) ∈ S.ps) (hs : x'.st = x.st) (hl : x'.lv = x.lv) : Good (S.setP b x') := by
 refine ⟨by rw [aW]; exact h.pn, by rw [d7]; exact h.p8, fun q hq => ?_, h.rn, fun l hl' c hc => ?_, fun q hq h1 => ?_⟩
 · rcases aU hq with rfl | ⟨h1, _⟩
   · rw [hl]; exact h.lv _ hb
   · exact h.lv q h1
 · obtain ⟨y, hy, h1, h2⟩ := h.rm l hl' c hc;by_cases e : c = b
   · subst e;obtain rfl := bp h.pn hb hy;exact ⟨x', av hb, by rw [hl]; exact h1, by rw [hs]; exact h2⟩
   · exact ⟨y, by simp only [St.setP, List.mem_map]; exact ⟨(c, y), hy, by simp [e]⟩, h1, h2⟩
 · rcases aU hq with rfl | ⟨h2, _⟩
   · have := h.rr _ hb (by rw [← hs]; exact h1);show b ∈ S.rows x'.lv;rw [hl]; exact this
   · exact h.rr q h2 h1
theorem Good.erase (h : Good S) {i c : Nat} {y : PS} (hi : S.ps[i]? = some (c, y)) (hy : y.st ≠ 1) {ls : Nat} : Good { S.setPs (S.ps.eraseIdx i) with last := ls } := by
 refine ⟨?_, ?_, fun q hq => h.lv q (List.mem_of_mem_eraseIdx hq), h.rn, fun l hl c' hc => ?_, fun q hq h1 => h.rr q (List.mem_of_mem_eraseIdx hq) h1⟩
 · show ((S.ps.eraseIdx i).map (·.1)).Nodup;rw [show (S.ps.eraseIdx i).map (·.1) = (S.ps.map (·.1)).eraseIdx i by simp [List.eraseIdx_eq_take_drop_succ]];exact h.pn.sublist (List.eraseIdx_sublist _ _)
 · show (S.ps.eraseIdx i).length ≤ 8;have := List.length_eraseIdx_le S.ps i;have := h.p8;omega
 · obtain ⟨z, hz, h1, h2⟩ := h.rm l hl c' hc;refine ⟨z, ?_, h1, h2⟩;show (c', z) ∈ S.ps.eraseIdx i;obtain ⟨j, hj⟩ := List.getElem?_of_mem hz;have hji : j ≠ i := fun e => by subst e; rw [hj] at hi; simp at hi; exact hy (by rw [← hi.2]; exact h2)
   rw [List.mem_eraseIdx_iff_getElem?];exact ⟨j, hji, hj⟩
end
def St.take (S : St) (b : Nat) (x : PS) (i : Nat) : St := match S.ps[i]? with
 | some q => ({ S.setPs (S.ps.eraseIdx i) with last := S.last } : St).setP b (told x q.2)
 | none => S
def St.parent1 (S : St) (b : Nat) : St := match S.get b with
 | some x => if x.st = 2 then (match S.childAt x with
   | some i => match S.ps[i]? with
     | some q => (S.take b x i).wake1 b (told x q.2)
     | none => S
   | none => S) else S
 | none => S
def St.parents (S : St) : List Nat → St
 | [] => S
 | b :: bs => (S.parent1 b).parents bs
theorem ku (S : St) (l m : List Nat) : S.parents (l ++ m) = (S.parents l).parents m := by
 induction l generalizing S with
 | nil => rfl
 | cons b l ih => simp only [List.cons_append, St.parents]; exact ih _
theorem Rep.fresh {K : Nat} {A : Lay} {S : St} {F L L' : Frag} (h : Rep K A S F L) (e : Ext L L') {b : Nat} {o : Obj} (hn : ∀ t ∈ L, t.1 ≠ b) (hm : (b, true, o) ∈ L') : Rep K A S ((b, true, o) :: F) L' :=
 { h.ext e with
   fr := fun t ht => by
     rcases List.mem_cons.1 ht with rfl | ht
     · exact hm
     · exact e.s _ (h.fr t ht)
   fd := fun t ht => by
     rcases List.mem_cons.1 ht with rfl | ht
     · exact ⟨fun e => hn _ h.k e.symm, fun q hq e => hn _ (h.p q hq) e.symm, fun i e => let ⟨_, hx⟩ := h.al i _ e; hn _ hx rfl, fun i e => let ⟨_, hx⟩ := h.yl i _ e; hn _ hx rfl, fun e => hn _ h.w e.symm⟩
     · exact h.fd t ht }
theorem eA {S : St} {x : PS} {i : Nat} (h : S.childAt x = some i) : ∃ q, S.ps[i]? = some q ∧ q.2.par = x.id ∧ q.2.st = 6 := by
 obtain ⟨hil, hti, _⟩ := List.findIdx?_eq_some_iff_getElem.1 h;refine ⟨S.ps[i], List.getElem?_eq_getElem hil, ?_⟩;simpa [isChildEnded] using hti
theorem iE {S : St} {b : Nat} (h : ∀ q ∈ S.ps, q.1 ≠ b) : S.get b = none := by
 unfold St.get;rw [List.find?_eq_none.2 fun q hq => by simpa using h q hq]; rfl
theorem jw : ∃ n, ∀ {σ} {F : Fam σ} {Δ : DM F} {main s} (K : Nat) (A : Lay) (S : St) (Fr L : Frag), (∀ cs, (Δ s).New (.cells cs 93)) → Rep K A S Fr L → Good S → S.ps ≠ [] →
   CallsL Δ Tryz.prog main 110 [ptr K].toArray n s L (fun s' v L' => s = s' ∧ v = .tuple #[] ∧ Good (S.parents (S.ps.map (·.1))) ∧ ∃ A' G, (∀ q ∈ S.ps, (∃ z, (q.1, z) ∈ (S.parents (S.ps.map (·.1))).ps) ∨ ∃ z, pb q.1 z ∈ G ∧ z.st = 6) ∧ Rep K A' (S.parents (S.ps.map (·.1))) (G ++ Fr) L') := by
 obtain ⟨n1, g1⟩ := i8;obtain ⟨n2, g2⟩ := j9;obtain ⟨n3, g3⟩ := wU;apply Exists.intro;intro σ F Δ main s K A S Fr L hN hR hG hne;obtain ⟨Q, hQ⟩ : ∃ Q, (A.a 0).b = some Q := by
   cases h : (A.a 0).b with
   | some Q => exact ⟨Q, rfl⟩
   | none =>
     have := hR.pa;unfold slOk at this;rw [h] at this;simp at this;exact absurd this.1 hne
 have hpa := hR.pa.mem hQ;have h8 := hR.p8;have hpos : 0 < S.ps.length := List.length_pos_iff.2 hne;have h5 : At L K 5 (.slice (some ⟨Q, 0, none⟩) (S.ps.map fun q => ptr q.1).length ((S.ps.map fun q => ptr q.1).length + (A.a 0).junk.length)) := by
   have e : slv (A.a 0) S.ps.length = .slice (some ⟨Q, 0, none⟩) (S.ps.map fun q => ptr q.1).length ((S.ps.map fun q => ptr q.1).length + (A.a 0).junk.length) := by unfold slv; rw [hQ]; simp
   rw [← e]; exact hR.kat rfl
 co_applyP aB 29 Tryz.func110 Tryz.ntmps110;co_applyP aa;co_applyP om rfl rfl rfl aJ;co_applyP oy rfl (au (hf := bO));co_applyP oy rfl (aF (ht := dp));co_applyP oc rfl rfl rfl (g3 L Q (S.ps.map fun q => ptr q.1) (A.a 0).junk hN hpa (by simpa using hpos) (by simpa using h8));rintro _ _ _ ⟨rfl, cb, cap, jk, rfl, hE, hfr, hcb⟩;co_applyP oy rfl (bB (hu := U91));co_applyP oy rfl ae;co_applyP ah;co_applyP aI;rename_i L1;have hR1 := hR.fresh hE hfr hcb;co_applyP bK (fun k s' ε' L' => s' = s ∧ ∃ l1 l2 A' G, S.ps = l1 ++ l2 ∧ Rep K A' (S.parents (l1.map (·.1))) (G ++ (cb, true, Obj.cells ((S.ps.map fun q => ptr q.1) ++ jk).toArray 93) :: Fr) L' ∧ Good (S.parents (l1.map (·.1))) ∧ (∀ q ∈ S.ps, (∃ z, (q.1, z) ∈ (S.parents (l1.map (·.1))).ps) ∨ ∃ z, pb q.1 z ∈ G ∧ z.st = 6) ∧ k + l1.length = 8 ∧ kn ε' [(10, .int .i64 l1.length), (9, .int .i64 (S.ps.map fun q => ptr q.1).length), (8, .slice (some ⟨cb, 0, none⟩) (S.ps.map fun q => ptr q.1).length cap), (0, ptr K)]) 8
 · exact ⟨rfl, [], S.ps, A, [], rfl, hR1, hG, fun q hq => .inl ⟨q.2, hq⟩, rfl, rfl⟩
 rintro k s' ε' L' ⟨rfl, l1, l2, A', G, hl, hR', hG', hall, hk, he⟩;co_applyP aV he;have hlen := congrArg List.length hl;simp only [List.length_append] at hlen;have hcb' := hR'.fr _ (List.mem_append_right G List.mem_cons_self);co_applyP aa;co_applyP oy rfl cF;co_applyP ah;co_applyP aq;co_applyP bk rfl;intro hlt
 · cases l2 with
   | nil => simp at hlt hlen; omega
   | cons q l2 =>
     simp at hlen;have hav : At L' cb l1.length (ptr q.1) := ⟨true, _, _, _, hcb', by rw [List.getElem?_toArray, List.getElem?_append_left (by simp; omega), hl]; simp⟩;have hlt' : (l1.length : Int) < (S.ps.map fun q => ptr q.1).length := by simpa using hlt
     have elen : IntKind.i64.wrap ((l1.length : Int) + 1) = ((l1 ++ [q]).length : Int) := by simp [IntKind.wrap_i64]; omega
     have hq : q ∈ S.ps := by rw [hl]; simp
     have hnext : S.parents ((l1 ++ [q]).map (·.1)) = (S.parents (l1.map (·.1))).parent1 q.1 := by rw [List.map_append, ku]; rfl
     generalize hS' : S.parents (l1.map (·.1)) = S' at *;obtain ⟨z, hzm, hzc⟩ : ∃ z, pb q.1 z ∈ L' ∧ ((q.1, z) ∈ S'.ps ∨ (z.st = 6 ∧ ∀ r ∈ S'.ps, r.1 ≠ q.1)) := by
       rcases hall q hq with ⟨z, hz⟩ | ⟨z, hz, h6⟩
       · exact ⟨z, hR'.p _ hz, .inl hz⟩
       · have hm : pb q.1 z ∈ G ++ (cb, true, Obj.cells ((S.ps.map fun q => ptr q.1) ++ jk).toArray 93) :: Fr := List.mem_append_left _ hz;exact ⟨z, hR'.fr _ hm, .inr ⟨h6, fun r hr => Ne.symm ((hR'.fd _ hm).2.1 r hr)⟩⟩
     have hz2 : At L' q.1 2 (.int .i64 (z.st : Nat)) := ⟨true, _, _, _, hzm, rfl⟩;co_applyP aD;co_applyP aq;co_applyP aI;co_applyP aa;co_applyP oy rfl (bH U91 bN);co_applyP oy rfl (aF (ht := dz));co_applyP oan rfl;co_applyP dZ (fun s'' ε'' L'' => s' = s'' ∧ ∃ (t : Bool) (A2 : Lay) (G2 : Frag) (S2 : St), Rep K A2 S2 (G2 ++ (cb, true, Obj.cells ((S.ps.map fun q => ptr q.1) ++ jk).toArray 93) :: Fr) L'' ∧ kn ε'' [(24, .bool t), (3, ptr q.1), (10, .int .i64 l1.length), (9, .int .i64 (S.ps.map fun q => ptr q.1).length), (8, .slice (some ⟨cb, 0, none⟩) (S.ps.map fun q => ptr q.1).length cap), (0, ptr K)] ∧ ((t = true ∧ z.st = 2 ∧ (q.1, z) ∈ S'.ps ∧ ∃ i c y, S'.childAt z = some i ∧ S'.ps[i]? = some (c, y) ∧ y.st = 6 ∧ S2 = ({ S'.setPs (S'.ps.eraseIdx i) with last := S'.last } : St).setP q.1 (told z y) ∧ G2 = pb c y :: G) ∨ (t = false ∧ S2 = S' ∧ G2 = G ∧ S'.parent1 q.1 = S')));co_applyP bR (z.st = 2);intro h2
     · have hz : (q.1, z) ∈ S'.ps := by
         rcases hzc with h | ⟨h, _⟩
         · exact h
         · omega
       have hget := bl hG'.pn hz;have e2 : ((z.st : Int) == 2) = true := by simp; omega
       co_applyP ax;co_applyP om rfl rfl rfl aJ;co_applyP oy rfl (au (hf := aC));co_applyP oy rfl (au (hf := cZ));co_applyP oy rfl (aF (ht := aY));co_applyP oy rfl aA;co_applyP oy rfl ae;rw [e2];co_applyP om rfl rfl rfl (ae);co_applyP oc rfl rfl rfl (g1 K A' S' _ L' q.1 z hN hR' hz (by omega));rintro _ _ _ ⟨rfl, hpost⟩;co_applyP qr (S'.childAt z = none);intro hca
       · rw [hca] at hpost;obtain ⟨rfl, hR2⟩ := hpost;co_applyP oy rfl aP;co_applyP ah;change _ = _ ∧ ∃ (t : Bool) (A2 : Lay) (G2 : Frag) (S2 : St), _;have hn2 : S'.parent1 q.1 = S' := by unfold St.parent1; rw [hget]; simp only [h2, if_true, hca]
         exact ⟨rfl, false, A', G, S', hR2, rfl, .inr ⟨rfl, rfl, rfl, hn2⟩⟩
       intro hca;obtain ⟨i, hi⟩ : ∃ i, S'.childAt z = some i := by
         cases h : S'.childAt z with
         | none => exact absurd h hca
         | some i => exact ⟨i, rfl⟩
       rw [hi] at hpost;obtain ⟨rfl, c, y, a', hcy, hR2⟩ := hpost;obtain ⟨qc, hqc, _, hq6⟩ := eA hi;rw [hcy] at hqc;obtain rfl : (c, y) = qc := by simpa using hqc
       co_applyP oy rfl aP;co_applyP ah;change _ = _ ∧ ∃ (t : Bool) (A2 : Lay) (G2 : Frag) (S2 : St), _;exact ⟨rfl, true, _, pb c y :: G, _, hR2, rfl, .inl ⟨rfl, h2, hz, i, c, y, hi, hcy, hq6, rfl, rfl⟩⟩
     intro h2;have e2 : ((z.st : Int) == 2) = false := by simp; omega
     have hn2 : S'.parent1 q.1 = S' := by
       rcases hzc with hz | ⟨_, hno⟩
       · unfold St.parent1; rw [bl hG'.pn hz]; simp only [h2, if_false]
       · unfold St.parent1; rw [iE hno]
     co_applyP ax;co_applyP om rfl rfl rfl aJ;co_applyP oy rfl (au (hf := aC));co_applyP oy rfl (au (hf := cZ));co_applyP oy rfl (aF (ht := aY));co_applyP oy rfl aA;co_applyP oy rfl ae;rw [e2];co_applyP ou rfl;co_applyP ou rfl;co_applyP ou rfl;co_applyP oy rfl aP;co_applyP ah;change _ = _ ∧ ∃ (t : Bool) (A2 : Lay) (G2 : Frag) (S2 : St), _;exact ⟨rfl, false, A', G, S', hR', rfl, .inr ⟨rfl, rfl, rfl, hn2⟩⟩;rintro s'' ε'' L'' ⟨rfl, t, A2, G2, S2, hR2, he2, hcase⟩;co_applyP aV he2;co_applyP bk rfl;intro ht;co_applyP ax;co_applyP om rfl rfl rfl ae
     · have ht' : t = true := by simpa using ht
       obtain ⟨h2, hz, i, c, y, hi, hcy, hy6, rfl, rfl⟩ : z.st = 2 ∧ (q.1, z) ∈ S'.ps ∧ ∃ i c y, S'.childAt z = some i ∧ S'.ps[i]? = some (c, y) ∧ y.st = 6 ∧ S2 = ({ S'.setPs (S'.ps.eraseIdx i) with last := S'.last } : St).setP q.1 (told z y) ∧ G2 = pb c y :: G := by
         rcases hcase with h | h
         · exact h.2
         · rw [ht'] at h; exact absurd h.1 (by simp)
       have hget := bl hG'.pn hz;have hG2 : Good { S'.setPs (S'.ps.eraseIdx i) with last := S'.last } := hG'.erase hcy (by omega);have hzi : (q.1, z) ∈ S'.ps.eraseIdx i := by
         obtain ⟨j, hj⟩ := List.getElem?_of_mem hz;have hji : j ≠ i := fun e => by subst e; rw [hj] at hcy; simp at hcy; have := hcy.2; subst this; omega
         rw [List.mem_eraseIdx_iff_getElem?];exact ⟨j, hji, hj⟩
       have hG3 : Good (({ S'.setPs (S'.ps.eraseIdx i) with last := S'.last } : St).setP q.1 (told z y)) := hG2.like hzi rfl rfl;have hz3 : (q.1, told z y) ∈ (({ S'.setPs (S'.ps.eraseIdx i) with last := S'.last } : St).setP q.1 (told z y)).ps := av hzi;have hn2 : S'.parent1 q.1 = (({ S'.setPs (S'.ps.eraseIdx i) with last := S'.last } : St).setP q.1 (told z y)).wake1 q.1 (told z y) := by
         unfold St.parent1; rw [hget]; simp only [h2, if_true, hi, hcy, St.take]
       rw [hn2] at hnext;co_applyP oc rfl rfl rfl (g2 K _ _ _ _ q.1 (told z y) hN hR2 hz3 (hG3.lv _ hz3) (hG3.r8 (hG3.lv _ hz3)) (fun e _ => cT _ (hG3.lv _ hz3)));rintro _ _ _ ⟨rfl, rfl, A3, hr2, hR3⟩;co_applyP ah;co_applyP ax;co_applyP oy rfl aR;co_applyP oy rfl ae;co_applyP ah;change ∃ k', k' < _ ∧ _;refine ⟨k - 1, by omega, rfl, l1 ++ [q], l2, A3, pb c y :: G, by simp [hl], ?_, ?_, ?_, by simp; omega, ?_⟩
       · rw [hnext]; exact hR3
       · rw [hnext]; exact hG3.wake1 hz3 (by show z.st ≠ 1; omega)
       · intro r hr;rcases hall r hr with ⟨w, hw⟩ | ⟨w, hw, h6⟩
         · by_cases erc : r.1 = c
           · exact .inr ⟨y, by rw [erc]; exact List.mem_cons_self, hy6⟩
           · left;have hwi : (r.1, w) ∈ S'.ps.eraseIdx i := by
               obtain ⟨j, hj⟩ := List.getElem?_of_mem hw;have hji : j ≠ i := fun e => by subst e; rw [hj] at hcy; simp at hcy; exact erc hcy.1
               rw [List.mem_eraseIdx_iff_getElem?];exact ⟨j, hji, hj⟩
             have : r.1 ∈ (S.parents ((l1 ++ [q]).map (·.1))).ps.map (·.1) := by
               rw [hnext];show r.1 ∈ ((({ S'.setPs (S'.ps.eraseIdx i) with last := S'.last } : St).setP q.1 (told z y)).setP q.1 _).ps.map (·.1);rw [aW, aW];exact List.mem_map.2 ⟨_, hwi, rfl⟩
             obtain ⟨u, hu, he⟩ := List.mem_map.1 this;exact ⟨u.2, by rw [← he]; exact hu⟩
         · exact .inr ⟨w, List.mem_cons_of_mem _ hw, h6⟩
       · rw [← elen]; rfl
     intro ht;co_applyP aD;co_applyP ax;co_applyP oy rfl aR;co_applyP oy rfl ae;co_applyP ah;change ∃ k', k' < _ ∧ _;have ht' : t = false := by simpa using ht
     obtain ⟨rfl, rfl, hn2⟩ : S2 = S' ∧ G2 = G ∧ S'.parent1 q.1 = S' := by
       rcases hcase with h | h
       · rw [ht'] at h; exact absurd h.1 (by simp)
       · exact h.2
     rw [hn2] at hnext;refine ⟨k - 1, by omega, rfl, l1 ++ [q], l2, A2, G2, by simp [hl], ?_, ?_, ?_, by simp; omega, ?_⟩
     · rw [hnext]; exact hR2
     · rw [hnext]; exact hG'
     · rw [hnext]; exact hall
     · rw [← elen]; rfl
 intro hlt;co_applyP bS;change ∃ v, resE .. = some v ∧ _;cases l2 with
 | nil =>
   have e : l1 = S.ps := by rw [hl]; simp
   subst e;exact ⟨_, rfl, rfl, rfl, hG', A', G, hall, hR'.less fun t ht => (List.mem_append.1 ht).elim (fun h => List.mem_append_left _ h) fun h => List.mem_append_right _ (List.mem_cons_of_mem _ h)⟩
 | cons q l2 => simp at hlt hlen; omega
theorem iF : ∃ n, ∀ {σ} {F : Fam σ} {Δ : DM F} {main s} (L : Frag) (k : Nat × Nat), (∀ cs, (Δ s).New (.cells cs 96)) →
   CallsL Δ Tryz.prog main 126 [keyv k].toArray n s L (fun s' v L' => s = s' ∧ v = .bool (decide (k = (0, 0))) ∧ Ext L L') := by
 apply Exists.intro;intro σ F Δ main s L k hN;co_applyP aB 6 Tryz.func126 Tryz.ntmps126;co_applyP aa;co_applyP bT rfl (cn (hN _));intro xk L1 hA;co_applyP oan rfl;co_applyP aa;co_applyP oy rfl (ba (ht := bM) (hs := bh) (hm := hA.self) (hi := Nat.le_refl _));co_applyP oy rfl (bt ui);co_applyP oy rfl (yo (k := k) (k' := (0, 0)) eO (yp k (0, 0)));co_applyP oan rfl;co_applyP aK;change ∃ v, resE .. = some v ∧ _;exact ⟨_, rfl, rfl, rfl, hA.fn, hA.sub⟩
section
variable {P : Program} {New : Obj → Prop} {N : Nat} {ε : Env} {L : Frag} {d : Option Tmp} {ty t u e e2 : TypeId} {ps : String} {af : Array Edge} {g : Option (Nat × Bool)} {x y : Operand}
theorem pr {sz : Nat} {yb : Option Addr} {yc : Nat} {vs : Array Value} (hx : ev ε x = some (.slice none 0 0) := by rfl) (hy : ev ε y = some (.slice yb 0 yc) := by rfl) (hu : P.underlying t = some (.slice e)) (hv : P.underlying u = some (.slice e2)) (hs : sizeAt P e = some sz) (hr : Reads P L sz 0 (.slice yb 0 yc) vs) :
   EO P New N ε L ⟨d, .call ⟨.builtin .append, #[x, y], #[t, u]⟩, ty, ps, af, g⟩ (fun r L' => r = .slice none 0 0 ∧ L = L') := by
 intro a ha;refine cP (s := Builtin.append_ #[t, u] ty #[.slice none 0 0, .slice yb 0 yc]) (fun _ => by simp [builtin, ha.ev hx, ha.ev hy]) ?_;unfold Builtin.append_;simp only [List.getElem?_toArray, List.getElem?_cons_zero, List.getElem?_cons_succ];rw [aj, aN hu];simp only [];rw [aj, bI hs];rw [aj, aN hv, aj, bm];simp only [Bool.false_eq_true, if_false, Bool.not_false, if_true, Builtin.lenOf];rw [aj, bm];simp only [Nat.add_zero, Nat.le_refl, if_true];rw [aj];refine hr.r New _ ?_;exact ⟨rfl, rfl⟩
end
structure ApR (L : Frag) (a : Sl) (zs : List Nat) (a' : Sl) (L' : Frag) : Prop where
 ok : slOk a' (zs.map ptr) 93 L'
 fn : Fun L'
 sub : ∀ t ∈ L, a.b ≠ some t.1 → t ∈ L'
 d : ∀ b, a'.b = some b → a.b = some b ∨ ∀ t ∈ L, t.1 ≠ b
section
variable {New : Obj → Prop} {N : Nat} {ε : Env} {L : Frag} {d : Option Tmp} {ty : TypeId} {ps : String} {af : Array Edge} {g : Option (Nat × Bool)} {x y : Operand}
theorem lx {a : Sl} {xs : List Nat} (ha : slOk a (xs.map ptr) 93 L) : Reads Tryz.prog L 1 xs.length (slv a xs.length) (xs.map ptr).toArray := by
 cases hab : a.b with
 | none =>
   unfold slOk at ha;rw [hab] at ha;obtain rfl : xs = [] := by simpa using ha.1
   have e3 : slv a 0 = .slice none 0 0 := by unfold slv; rw [hab]
   show Reads Tryz.prog L 1 0 (slv a 0) #[];rw [e3]; exact dM
 | some b =>
   have hm := ha.mem hab;have e3 : slv a xs.length = .slice (some ⟨b, 0, none⟩) xs.length (xs.length + a.junk.length) := by unfold slv; rw [hab]
   rw [e3];have := cB (P := Tryz.prog) (sz := 1) (n := xs.length) (len := xs.length) (cap := xs.length + a.junk.length) (o := 0) hm (by simp);have e7 : (xs.map ptr ++ a.junk).take xs.length = xs.map ptr := by rw [List.take_append_of_le_length (by simp)]; exact List.take_of_length_le (by simp)
   simpa [e7] using this
theorem AN {a a2 : Sl} {xs ys : List Nat} (hx : ev ε x = some (slv a xs.length) := by rfl) (hy : ev ε y = some (slv a2 ys.length) := by rfl) (hnd : (L.map (·.1)).Nodup) (hN : ∀ cs, New (.cells cs 93)) (ha : slOk a (xs.map ptr) 93 L) (ha2 : slOk a2 (ys.map ptr) 93 L) (h8 : xs.length ≤ 1000) (h8' : ys.length ≤ 1000) :
   EO Tryz.prog New N ε L ⟨d, .call ⟨.builtin .append, #[x, y], #[91, 91]⟩, ty, ps, af, g⟩ (fun r L' => ∃ a', r = slv a' (xs ++ ys).length ∧ ApR L a (xs ++ ys) a' L') := by
 have hws := lx ha;have hr := lx ha2;obtain ⟨yb, yc, hyb⟩ : ∃ yb yc, slv a2 ys.length = .slice yb ys.length yc := by
   unfold slv;cases hb : a2.b with
   | none =>
     unfold slOk at ha2;rw [hb] at ha2;obtain rfl : ys = [] := by simpa using ha2.1
     exact ⟨none, 0, rfl⟩
   | some b => exact ⟨_, _, rfl⟩
 rw [hyb] at hy hr
 have grow : ∀ (cap0 : Nat), (∃ base, slv a xs.length = .slice base xs.length cap0) → cap0 < xs.length + ys.length →
     EO Tryz.prog New N ε L ⟨d, .call ⟨.builtin .append, #[x, y], #[91, 91]⟩, ty, ps, af, g⟩ (fun r L' => ∃ a', r = slv a' (xs ++ ys).length ∧ ApR L a (xs ++ ys) a' L') := by
   rintro cap0 ⟨base, hb⟩ hc;rw [hb] at hws hx;intro ac hac;refine bV ?_ _ _ (lq (by_ := 7) (New := New) hx hy (bF hnd) U91 U91 bN pe iy hws hr hc (by omega) hN ac hac);intro r L' q;cases r <;> try exact q.elim
   · obtain ⟨b, cap, h1, h2, rfl, hA⟩ := q;rw [eN rfl] at hA;refine ⟨⟨some b, List.replicate (cap - (xs.length + ys.length)) (.pointer none)⟩, ?_, ?_, hA.fn, fun t ht _ => hA.sub t ht, fun b' hb' => .inr ?_⟩
     · unfold slv; simp; omega
     · have e5 : (xs.map ptr).toArray ++ (ys.map ptr).toArray ++ (List.replicate (cap - (xs.length + ys.length)) (Value.pointer none)).toArray = ((xs ++ ys).map ptr ++ List.replicate (cap - (xs.length + ys.length)) (Value.pointer none)).toArray := by
         apply Array.ext'; simp
       rw [e5] at hA;exact hA.self
     · obtain rfl : b = b' := by simpa using hb'
       exact hA.new
   · obtain ⟨b, cap, _, _, e, _⟩ := q; cases e
 cases hab : a.b with
 | none =>
   have h2 := ha;unfold slOk at h2;rw [hab] at h2;obtain ⟨e1, e2⟩ := h2;obtain rfl : xs = [] := by simpa using e1
   have e3 : slv a 0 = .slice none 0 0 := by unfold slv; rw [hab]
   by_cases h0 : 0 < ys.length
   · exact grow 0 ⟨none, e3⟩ (by simpa using h0)
   · obtain rfl : ys = [] := List.length_eq_zero_iff.1 (by omega);intro ac hac;rw [List.length_nil, e3] at hx;refine bV ?_ _ _ (pr (New := New) hx hy U91 U91 bN hr ac hac);intro r L' q;cases r <;> try exact q.elim
     · obtain ⟨rfl, rfl⟩ := q;exact ⟨a, e3.symm, ha, bF hnd, fun t ht _ => ht, fun b hb => by rw [hab] at hb; cases hb⟩
     · exact absurd q.1 (by simp [undef])
 | some b =>
   have hm := ha.mem hab;have e3 : slv a xs.length = .slice (some ⟨b, 0, none⟩) xs.length (xs.length + a.junk.length) := by unfold slv; rw [hab]
   by_cases hj : ys.length ≤ a.junk.length
   · intro ac hac;rw [e3] at hx;refine bV ?_ _ _ (jY (New := New) hx hy hnd U91 U91 bN hr (by omega) hm (by simp; omega) (by simp [plainV]) ac hac);intro r L' q;cases r <;> try exact q.elim
     · obtain ⟨rfl, hU⟩ := q;have e4 : puts (xs.map ptr ++ a.junk).toArray (0 + xs.length * 1) (ys.map ptr).toArray.toList = ((xs ++ ys).map ptr ++ a.junk.drop ys.length).toArray := by
         rw [co _ _ _ (by simp; omega)];have e6 : (xs.map ptr ++ a.junk).drop (xs.length + ys.length) = a.junk.drop ys.length := by
           rw [List.drop_append]; simp
         have e7 : (xs.map ptr ++ a.junk).take xs.length = xs.map ptr := by rw [List.take_append_of_le_length (by simp)]; exact List.take_of_length_le (by simp)
         simp [e6, e7]
       rw [e4] at hU;refine ⟨⟨some b, a.junk.drop ys.length⟩, ?_, hU.self, hU.fn, fun t ht hne => hU.ne t ht fun e => hne (by rw [hab, e]), fun b' hb' => .inl (by rw [hab]; exact hb')⟩;unfold slv; simp; omega
     · exact absurd q.1 (by simp [undef])
   · exact grow (xs.length + a.junk.length) ⟨_, e3⟩ (by omega)
end
def St.raise1 (S : St) (l : Nat) : St := (S.setRow 0 (S.rows 0 ++ S.rows l)).setRow l []
def St.raises (S : St) : Nat → St
 | 0 => S
 | n + 1 => (S.raises n).raise1 (n + 1)
theorem kw (S : St) {n j : Nat} (h : n < j) : (S.raises n).rows j = S.rows j := by
 induction n with
 | zero => rfl
 | succ n ih =>
   show put (put (S.raises n).rows 0 _) (n + 1) [] j = _;unfold put;rw [if_neg (by omega), if_neg (by omega)];exact ih (by omega)
theorem kx (S : St) (h : ∀ l, l < 3 → (S.rows l).length ≤ 8) : ∀ n, n < 3 → ((S.raises n).rows 0).length ≤ 8 * (n + 1)
 | 0, _ => h 0 (by omega)
 | n + 1, hn => by
   have h1 := kx S h n (by omega);have h2 : ((S.raises n).rows (n + 1)).length ≤ 8 := by rw [kw S (by omega)]; exact h _ hn
   have e : (S.raises (n + 1)).rows 0 = (S.raises n).rows 0 ++ (S.raises n).rows (n + 1) := by
     simp [St.raises, St.raise1, St.setRow, put]
   rw [e, List.length_append];omega
theorem nP : ∃ n, ∀ {σ} {F : Fam σ} {Δ : DM F} {main s} (K : Nat) (A : Lay) (S : St) (Fr L : Frag), (∀ cs, (Δ s).New (.cells cs 93)) → Rep K A S Fr L → (∀ l, l < 3 → (S.rows l).length ≤ 8) →
   CallsL Δ Tryz.prog main 92 [.pointer (some ⟨K, 7, none⟩)].toArray n s L (fun s' v L' => s = s' ∧ v = .tuple #[] ∧ ∃ A', LRel A A' ∧ Rep K A' (S.raises 2) Fr L') := by
 apply Exists.intro;intro σ F Δ main s K A S Fr L hN hR h8;co_applyP aB 24 Tryz.func92 Tryz.ntmps92;co_applyP aa;co_applyP oan rfl;co_applyP aI;co_applyP bK (fun k s' ε' L' => s' = s ∧ ∃ n A', n ≤ 2 ∧ k + n = 2 ∧ LRel A A' ∧ Rep K A' (S.raises n) Fr L' ∧ kn ε' [(2, .int .i64 ((n + 1 : Nat) : Int)), (0, .pointer (some ⟨K, 7, none⟩))]) 2
 · exact ⟨rfl, 0, A, by omega, rfl, LRel.refl A, hR, rfl⟩
 rintro k s' ε' L' ⟨rfl, n, A', hn, hk, hr, hR', he⟩;co_applyP aV he;co_applyP aq;co_applyP aa;co_applyP om rfl rfl rfl cF;co_applyP ah;co_applyP bk rfl;intro hlt
 · have hn2 : n < 2 := by
     have : ((n + 1 : Nat) : Int) < 3 := by simpa using hlt
     omega
   have h0 : At L' K 7 (slv (A'.a (0 + 1)) ((S.raises n).rows 0).length) := hR'.kat (j8 (kst A' (S.raises n)) (l := 0) (by omega));have h1 : At L' K (7 + (n + 1)) (slv (A'.a (n + 1 + 1)) ((S.raises n).rows (n + 1)).length) := hR'.kat (j8 (kst A' (S.raises n)) (l := n + 1) (by omega));have hl0 := kx S h8 n (by omega);have hl1 : ((S.raises n).rows (n + 1)).length ≤ 8 := by rw [kw S (by omega)]; exact h8 _ (by omega)
   have elen : IntKind.i64.wrap (((n + 1 : Nat) : Int) + 1) = ((n + 1 + 1 : Nat) : Int) := by simp [IntKind.wrap_i64]; omega
   have hix : ((n + 1 : Nat) : Int) < 3 := by omega
   have hkne : (A'.a (0 + 1)).b ≠ some K := hR'.row_ne (l := 0) (by omega) hR'.k (fj (by decide));co_applyP aD;co_applyP aq;co_applyP aI;co_applyP aq;co_applyP bi [] 10 (nf := 0) aT;co_applyP tr 0 rfl ae pN;co_applyP tr 1 rfl ae pN;co_applyP tr 2 rfl aJ pN;co_applyP tr 3 rfl (aX mh eK) pN;co_applyP t0 4 rfl (aF (ht := dp)) pN;co_applyP tr 5 rfl ae pN;co_applyP tr 6 rfl ae pN;co_applyP tr 7 rfl aJ pN;co_applyP tr 8 rfl (aX mh eK) pN;co_applyP t0 9 rfl (aF (ht := dp)) pN;co_applyP tr 11 rfl aJ pN;co_applyP a0;intro hnd;co_applyP te (i := 10) rfl (AN (a := A'.a (0 + 1)) (a2 := A'.a (n + 1 + 1)) (hnd := hnd) (hN := hN) (ha := hR'.rw 0 (by omega)) (ha2 := hR'.rw (n + 1) (by omega)) (h8 := by omega) (h8' := by omega));rintro _ _ ⟨a', rfl, hp⟩;refine ⟨ay (by simp), ?_⟩;rename_i L2;co_applyP to 12 rfl ((aX mh eK)) (ay (by simp));co_applyP a0;intro hnd';co_applyP te (i := 13) rfl (fq (hnd := hnd') (hm := hp.sub _ hR'.k hkne) (hi := by rw [bC]; omega) (hp := fi _ _) (hs := eK));rintro _ _ ⟨rfl, hU⟩;refine ⟨ay (by simp), ?_⟩;rename_i L3;have e7 : (kcells (kst A' (S.raises n))).setIfInBounds (7 + 0) (slv a' ((S.raises n).rows 0 ++ (S.raises n).rows (n + 1)).length) = kcells (kst (A'.setA (0 + 1) a') ((S.raises n).setRow 0 ((S.raises n).rows 0 ++ (S.raises n).rows (n + 1)))) := by
     rw [iz _ (by omega), jD _ _ _ _ _ (by omega)]
   have hR3 : Rep K (A'.setA (0 + 1) a') ((S.raises n).setRow 0 ((S.raises n).rows 0 ++ (S.raises n).rows (n + 1))) Fr L3 := by
     refine hR'.setRow (l := 0) (by omega) hU.fn ?_ (fun t ht h1 h2 => hU.ne _ (hp.sub _ ht h2) h1) ?_ (fun b hb => ?_) (fun e _ => cT _ (by omega))
     · show (K, true, Obj.cells (kcells _) 115) ∈ L3;rw [← e7]; exact hU.self
     · refine hp.ok.mono fun c hc o ho => hU.ne _ ho fun e => ?_;rcases hp.d c hc with h | h
       · exact hkne (by rw [h]; exact congrArg some e)
       · exact h _ hR'.k e.symm
     · rcases hp.d b hb with h | h
       · exact .inl h
       · exact .inr ⟨fun i hi => by obtain ⟨xs, hx⟩ := hR'.al i b hi; exact h _ hx rfl, fun t ht => h _ (hR'.fr t ht)⟩
   co_applyP td (by kernel_rfl);co_applyP ax;co_applyP om rfl rfl rfl ae;co_applyP oy rfl aJ;co_applyP oy rfl (aX mh eK);co_applyP oeN rfl (fun hnd => fq (hs := eK) (hnd := hnd) (hm := hR3.k) (hi := by rw [bC]; omega));rintro _ L4 ⟨rfl, hU4⟩;co_applyP ah;co_applyP ax;co_applyP om rfl rfl rfl aR;co_applyP oan rfl;change ∃ k', k' < _ ∧ _;have e8 : (kcells (kst (A'.setA (0 + 1) a') ((S.raises n).setRow 0 ((S.raises n).rows 0 ++ (S.raises n).rows (n + 1))))).setIfInBounds (7 + (n + 1)) (slv ⟨none, []⟩ ([] : List Nat).length) = kcells (kst ((A'.setA (0 + 1) a').setA (n + 1 + 1) ⟨none, []⟩) (S.raises (n + 1))) := by
     rw [iz _ (by omega)];exact (congrArg kcells (jD (A'.setA (0 + 1) a') ((S.raises n).setRow 0 ((S.raises n).rows 0 ++ (S.raises n).rows (n + 1))) (n + 1) ⟨none, []⟩ [] (by omega))).symm
   have hR4 : Rep K ((A'.setA (0 + 1) a').setA (n + 1 + 1) ⟨none, []⟩) (S.raises (n + 1)) Fr L4 := by
     refine hR3.setRow (l := n + 1) (xs := []) (by omega) hU4.fn ?_ (fun t ht h1 _ => hU4.ne _ ht h1) ⟨rfl, rfl⟩ (fun b hb => by cases hb) (fun e _ => cT _ (by omega));exact Eq.mp (congrArg (fun c => (K, true, Obj.cells c 115) ∈ L4) e8) hU4.self
   refine ⟨k - 1, by omega, rfl, n + 1, _, by omega, by omega, (hr.trans (LRel.set A' (l := 0) (by omega) a')).trans (LRel.set _ (l := n + 1) (by omega) _), hR4, ?_⟩;rw [← elen]; rfl
 intro hlt;co_applyP bS;change ∃ v, resE .. = some v ∧ _;have hn2 : n = 2 := by
   have : ¬ ((n + 1 : Nat) : Int) < 3 := by simpa using hlt
   omega
 subst hn2;exact ⟨_, rfl, rfl, rfl, A', hr, hR'⟩
def St.lifts (S : St) : List Nat → St
 | [] => S
 | b :: bs => St.lifts (match S.get b with
   | some x => if x.st ≠ 6 ∧ 0 < x.lv then S.setP b { x with lv := 0, used := 0 } else S
   | none => S) bs
theorem mz (S : St) (l m : List Nat) : S.lifts (l ++ m) = (S.lifts l).lifts m := by
 induction l generalizing S with
 | nil => rfl
 | cons b l ih => simp only [List.cons_append, St.lifts]; exact ih _
structure LfRel (S S' : St) : Prop where
 f : S'.ps.map (·.1) = S.ps.map (·.1)
 r : S'.rows = S.rows ∧ S'.by_ = S.by_ ∧ S'.wt = S.wt ∧ S'.now = S.now ∧ S'.last = S.last
theorem qA : ∃ n, ∀ {σ} {F : Fam σ} {Δ : DM F} {main s} (K : Nat) (A : Lay) (S : St) (Fr L : Frag), (∀ cs, (Δ s).New (.cells cs 93)) → Rep K A S Fr L → (∀ l, l < 3 → (S.rows l).length ≤ 8) →
   CallsL Δ Tryz.prog main 81 [ptr K].toArray n s L (fun s' v L' => s = s' ∧ v = .tuple #[] ∧ ∃ A', LRel A A' ∧ Rep K A' ((S.lifts (S.ps.map (·.1))).raises 2) Fr L') := by
 obtain ⟨n1, g1⟩ := nP;apply Exists.intro;intro σ F Δ main s K A S Fr L hN hR hr8;obtain ⟨base, cap, hv, hat0⟩ := bw hR.pa;simp only [List.length_map] at hv;have h5 : At L K 5 (.slice base S.ps.length cap) := by rw [← hv]; exact hR.kat rfl
 co_applyP aB 40 Tryz.func81 Tryz.ntmps81;co_applyP aq;co_applyP aa;co_applyP om rfl rfl rfl aJ;co_applyP oy rfl (au (hf := bO));co_applyP oy rfl (aF (ht := dp));co_applyP oy rfl (bB (hu := U91));co_applyP oy rfl ae;co_applyP ah;co_applyP aI;co_applyP bK (fun k s' ε' L' => s' = s ∧ ∃ l1 l2, S.ps = l1 ++ l2 ∧ Rep K A (S.lifts (l1.map (·.1))) Fr L' ∧ LfRel S (S.lifts (l1.map (·.1))) ∧ k + l1.length = 8 ∧ kn ε' [(9, .int .i64 l1.length), (8, .int .i64 S.ps.length), (7, .slice base S.ps.length cap), (0, ptr K)]) 8
 · exact ⟨rfl, [], S.ps, rfl, hR, ⟨rfl, rfl, rfl, rfl, rfl, rfl⟩, rfl, rfl⟩
 rintro k s' ε' L' ⟨rfl, l1, l2, hl, hR', hW', hk, he⟩;co_applyP aV he;have hlen := congrArg List.length hl;simp only [List.length_append] at hlen;have h8 := hR.p8;co_applyP aa;co_applyP oy rfl cF;co_applyP ah;co_applyP aq;co_applyP bk rfl;intro hlt
 · cases l2 with
   | nil => simp at hlt hlen; omega
   | cons q l2 =>
     have hat : ∃ ab, base = some ⟨ab, 0, none⟩ ∧ At L' ab l1.length (ptr q.1) := by
       obtain ⟨ab, hb1, hb2, _⟩ := hat0 l1.length (ptr q.1) (by rw [hl]; simp);obtain ⟨base', cap', _, hat'⟩ := bw hR'.pa;have e1 : (S.lifts (l1.map (·.1))).ps.map (fun q => ptr q.1) = S.ps.map fun q => ptr q.1 := by
         have := congrArg (List.map ptr) hW'.f;rw [List.map_map, List.map_map] at this;exact this
       obtain ⟨b', hb1', _, hv'⟩ := hat' l1.length (ptr q.1) (by rw [e1, hl]; simp);rw [hb1] at hb1';obtain rfl : ab = b' := by simpa using hb1'
       exact ⟨ab, hb2, hv'⟩
     obtain ⟨ab, rfl, hav⟩ := hat;simp at hlen;generalize hS' : S.lifts (l1.map (·.1)) = S' at *;have hmem : q.1 ∈ S'.ps.map (·.1) := by rw [hW'.f, hl]; simp
     obtain ⟨⟨b, x⟩, hbx, hbq⟩ := List.mem_map.1 hmem;have hbq' : b = q.1 := hbq;subst hbq';have hx2 : At L' q.1 2 (.int .i64 (x.st : Int)) := hR'.pat hbx (i := 2) rfl;have hx5 : At L' q.1 5 (.int .i64 (x.lv : Int)) := hR'.pat hbx (i := 5) rfl;have hget := bl hR'.pn hbx;have elen : IntKind.i64.wrap ((l1.length : Int) + 1) = ((l1 ++ [q]).length : Int) := by simp [IntKind.wrap_i64]; omega
     have hnext : S.lifts ((l1 ++ [q]).map (·.1)) = if x.st ≠ 6 ∧ 0 < x.lv then S'.setP q.1 { x with lv := 0, used := 0 } else S' := by
       rw [List.map_append, mz, hS'];show St.lifts (match S'.get q.1 with | some x => _ | none => _) [] = _;rw [hget]; rfl
     co_applyP aD;co_applyP aq;co_applyP aI;co_applyP aa;co_applyP oy rfl (bH U91 bN);co_applyP oy rfl (aF (ht := dz));co_applyP oan rfl;co_applyP aq;co_applyP nr ([(26, .bool (decide (x.st ≠ 6 ∧ 0 < x.lv))), (3, ptr q.1), (9, .int .i64 l1.length), (8, .int .i64 S.ps.length), (7, .slice (some ⟨ab, 0, none⟩) S.ps.length cap), (0, ptr K)]);co_applyP ax;co_applyP om rfl rfl rfl aJ;co_applyP oy rfl (au (hf := aC));co_applyP oy rfl (au (hf := cZ));co_applyP oy rfl (aF (ht := aY));co_applyP oy rfl fy;co_applyP oy rfl ae
     · by_cases h3 : x.st = 6
       · have e3 : ((x.st : Int) != 6) = false := by simp [h3]
         rw [e3];co_applyP ou rfl;co_applyP ou rfl;co_applyP ou rfl;co_applyP ou rfl;co_applyP ou rfl;co_applyP ou rfl;co_applyP oy rfl aP;co_applyP ah;change _ = _ ∧ _ = _ ∧ kn _ _;refine ⟨rfl, rfl, ?_⟩;have e4 : false = decide (x.st ≠ 6 ∧ 0 < x.lv) := by simp [h3]
         rw [← e4]; rfl
       · have e3 : ((x.st : Int) != 6) = true := by simp; omega
         rw [e3];co_applyP om rfl rfl rfl (aJ);co_applyP oy rfl ((au (hf := aC)));co_applyP oy rfl ((au (hf := ee)));co_applyP oy rfl ((aF (ht := aY)));co_applyP oy rfl (dn);co_applyP oy rfl aP;co_applyP ah;change _ = _ ∧ _ = _ ∧ kn _ _;refine ⟨rfl, rfl, ?_⟩;have e4 : decide ((0 : Int) < (x.lv : Int)) = decide (x.st ≠ 6 ∧ 0 < x.lv) := by simp [h3]
         rw [← e4]; rfl
     co_applyP bk rfl;intro hw;co_applyP ax;co_applyP om rfl rfl rfl ae;co_applyP oy rfl aJ;co_applyP oy rfl (au (hf := aC));co_applyP oy rfl (au (hf := ee))
     · have hw' : x.st ≠ 6 ∧ 0 < x.lv := by simpa using hw
       rw [if_pos hw'] at hnext;co_applyP osm rfl (hs := de) (hm := hR'.p _ hbx) (hi := by first | decide | (rw [bf]; omega) | (rw [bC]; omega));intro L2 hU;have hR2 := hR'.setP hbx (x' := { x with lv := 0 }) hU;have hb2 : (q.1, { x with lv := 0 }) ∈ (S'.setP q.1 { x with lv := 0 }).ps := av hbx;co_applyP oy rfl aJ;co_applyP oy rfl (au (hf := aC));co_applyP oy rfl (au (hf := gn));co_applyP osm rfl (hs := de) (hm := hR2.p _ hb2) (hi := by first | decide | (rw [bf]; omega) | (rw [bC]; omega));intro L3 hU3;have hR3 := hR2.setP hb2 (x' := { x with lv := 0, used := 0 }) hU3;have e6 : (S'.setP q.1 { x with lv := 0 }).setP q.1 { x with lv := 0, used := 0 } = S'.setP q.1 { x with lv := 0, used := 0 } := by
         unfold St.setP;simp only [List.map_map];congr 1;apply List.map_congr_left;intro r _;simp only [Function.comp]
         split
         · simp
         · rename_i h; simp [h]
       rw [e6] at hR3;co_applyP ah;co_applyP ax;co_applyP oy rfl aR;co_applyP oy rfl ae;co_applyP ah;change ∃ k', k' < _ ∧ _;refine ⟨k - 1, by omega, rfl, l1 ++ [q], l2, by simp [hl], by rw [hnext]; exact hR3, by rw [hnext]; exact ⟨by rw [aW]; exact hW'.f, hW'.r⟩, by simp; omega, by rw [← elen]; rfl⟩
     intro hw;co_applyP aD;co_applyP ax;co_applyP oy rfl aR;co_applyP oy rfl ae;co_applyP ah;change ∃ k', k' < _ ∧ _;have hw' : ¬ (x.st ≠ 6 ∧ 0 < x.lv) := by simpa using hw
     rw [if_neg hw'] at hnext;refine ⟨k - 1, by omega, rfl, l1 ++ [q], l2, by simp [hl], by rw [hnext]; exact hR', by rw [hnext]; exact hW', by simp; omega, by rw [← elen]; rfl⟩
 intro hlt;co_applyP bS;co_applyP ax;co_applyP om rfl rfl rfl aJ;co_applyP oy rfl (au (hf := dA));cases l2 with
 | cons q l2 => simp at hlt hlen; omega
 | nil =>
 have e : l1 = S.ps := by rw [hl]; simp
 subst e;co_applyP oc rfl rfl rfl (g1 K A _ Fr L' hN hR' (fun l hl => by rw [hW'.r.1]; exact hr8 l hl));rintro _ _ _ ⟨rfl, rfl, A2, hr2, hR2⟩;co_applyP ah;change ∃ v, resE .. = some v ∧ _;exact ⟨_, rfl, rfl, rfl, A2, hr2, hR2⟩
def liftP (x : PS) : PS := if x.st ≠ 6 ∧ 0 < x.lv then { x with lv := 0, used := 0 } else x
theorem rS {S : St} (hn : (S.ps.map (·.1)).Nodup) (b : Nat) : (match S.get b with
   | some x => if x.st ≠ 6 ∧ 0 < x.lv then S.setP b { x with lv := 0, used := 0 } else S
   | none => S) = S.setPs (S.ps.map fun q => if q.1 = b then (b, liftP q.2) else q) := by
 cases hg : S.get b with
 | none =>
   have : ∀ q ∈ S.ps, q.1 ≠ b := fun q hq e => by
     have := bl hn (b := q.1) (x := q.2) hq;rw [e, hg] at this; cases this
   have e : (S.ps.map fun q => if q.1 = b then (b, liftP q.2) else q) = S.ps := by
     conv => rhs; rw [← List.map_id S.ps]
     exact List.map_congr_left fun q hq => by simp [this q hq]
   show S = S.setPs _;rw [e]; rfl
 | some x =>
   have hx := bz hg;simp only;have key : ∀ y, liftP x = y → S.setP b y = S.setPs (S.ps.map fun q => if q.1 = b then (b, liftP q.2) else q) := fun y hy => by
     unfold St.setP St.setPs;congr 1;refine List.map_congr_left fun q hq => ?_;obtain ⟨c, z⟩ := q;by_cases e : c = b
     · subst e;rw [bp hn hq hx];simp [hy]
     · simp [e]
   split
   · rename_i h; exact key _ (by simp [liftP, h])
   · rename_i h;have := key x (by simp only [liftP]; rw [if_neg h]);rw [← this, lu hn hx]
theorem nQ : ∀ (bs : List Nat) (S : St), (S.ps.map (·.1)).Nodup → bs.Nodup → S.lifts bs = S.setPs (S.ps.map fun q => if q.1 ∈ bs then (q.1, liftP q.2) else q)
 | [], S, _, _ => by simp [St.lifts, St.setPs]
 | b :: bs, S, hn, hb => by
   have hfst : ((S.setPs (S.ps.map fun q => if q.1 = b then (b, liftP q.2) else q)).ps.map (·.1)) = S.ps.map (·.1) := by
     show ((S.ps.map fun q => if q.1 = b then (b, liftP q.2) else q).map (·.1)) = _;rw [List.map_map];refine List.map_congr_left fun q _ => ?_;simp only [Function.comp]
     split
     · rename_i e; exact e.symm
     · rfl
   show St.lifts (match S.get b with | some x => _ | none => _) bs = _;rw [rS hn, nQ bs _ (by rw [hfst]; exact hn) (List.nodup_cons.1 hb).2];unfold St.setPs;simp only [List.map_map];congr 1;refine List.map_congr_left fun q _ => ?_;obtain ⟨c, z⟩ := q;simp only [Function.comp, List.mem_cons];by_cases e : c = b
   · subst e;simp [(List.nodup_cons.1 hb).1]
   · simp [e]
theorem i9 {S : St} (hn : (S.ps.map (·.1)).Nodup) : S.lifts (S.ps.map (·.1)) = S.setPs (S.ps.map fun q => (q.1, liftP q.2)) := by
 rw [nQ _ _ hn hn];unfold St.setPs;congr 1;exact List.map_congr_left fun q hq => by simp [List.mem_map.2 ⟨q, hq, rfl⟩]
theorem Good.raise {S : St} (h : Good S) : Good ((S.lifts (S.ps.map (·.1))).raises 2) := by
 rw [i9 h.pn];have r0 : ((S.setPs (S.ps.map fun q => (q.1, liftP q.2))).raises 2).rows 0 = S.rows 0 ++ S.rows 1 ++ S.rows 2 := by simp [St.raises, St.raise1, St.setRow, put, St.setPs]
 have r1 : ∀ l, 0 < l → l < 3 → ((S.setPs (S.ps.map fun q => (q.1, liftP q.2))).raises 2).rows l = [] := fun l h1 h2 => by
   have : l = 1 ∨ l = 2 := by omega
   rcases this with rfl | rfl <;> simp [St.raises, St.raise1, St.setRow, put, St.setPs]
 have hps : ((S.setPs (S.ps.map fun q => (q.1, liftP q.2))).raises 2).ps = S.ps.map fun q => (q.1, liftP q.2) := rfl;have hst : ∀ x : PS, (liftP x).st = x.st := fun x => by unfold liftP; split <;> rfl
 have hlv : ∀ x : PS, x.st = 1 → (liftP x).lv = 0 := fun x h1 => by
   unfold liftP
   split
   · rfl
   · rename_i hh;have : ¬ 0 < x.lv := fun h0 => hh ⟨by omega, h0⟩;omega
 have hin : ∀ l, l < 3 → ∀ c ∈ S.rows l, ∃ y, (c, y) ∈ ((S.setPs (S.ps.map fun q => (q.1, liftP q.2))).raises 2).ps ∧ y.lv = 0 ∧ y.st = 1 := fun l hl c hc => by
   obtain ⟨y, hy, h1, h2⟩ := h.rm l hl c hc;exact ⟨liftP y, by rw [hps]; exact List.mem_map.2 ⟨_, hy, rfl⟩, hlv y h2, by rw [hst]; exact h2⟩
 have dis : ∀ l m, l < 3 → m < 3 → l ≠ m → ∀ a ∈ S.rows l, ∀ b ∈ S.rows m, a ≠ b := fun l m hl hm hne a ha b hb e => by
   subst e;obtain ⟨y, hy, h1, _⟩ := h.rm l hl a ha;obtain ⟨z, hz, h2, _⟩ := h.rm m hm a hb;rw [bp h.pn hy hz] at h1;omega
 refine ⟨?_, ?_, fun q hq => ?_, fun l hl => ?_, fun l hl c hc => ?_, fun q hq h1 => ?_⟩
 · rw [hps, List.map_map]; exact h.pn
 · rw [hps]; simpa using h.p8
 · rw [hps] at hq;obtain ⟨r, hr, rfl⟩ := List.mem_map.1 hq;have := h.lv r hr;show (liftP r.2).lv < 3;unfold liftP
   split
   · show 0 < 3; omega
   · exact this
 · by_cases e : l = 0
   · subst e;rw [r0];refine List.nodup_append.2 ⟨List.nodup_append.2 ⟨h.rn 0 (by omega), h.rn 1 (by omega), dis 0 1 (by omega) (by omega) (by omega)⟩, h.rn 2 (by omega), fun a ha b hb => ?_⟩;rcases List.mem_append.1 ha with h1 | h1
     · exact dis 0 2 (by omega) (by omega) (by omega) a h1 b hb
     · exact dis 1 2 (by omega) (by omega) (by omega) a h1 b hb
   · rw [r1 l (by omega) hl]; exact List.nodup_nil
 · by_cases e : l = 0
   · subst e;rw [r0] at hc;rcases List.mem_append.1 hc with h1 | h1
     · rcases List.mem_append.1 h1 with h1 | h1
       · exact hin 0 (by omega) c h1
       · exact hin 1 (by omega) c h1
     · exact hin 2 (by omega) c h1
   · rw [r1 l (by omega) hl] at hc; simp at hc
 · rw [hps] at hq;obtain ⟨r, hr, rfl⟩ := List.mem_map.1 hq;have h1' : r.2.st = 1 := by rw [← hst]; exact h1
   have h0 := hlv r.2 h1';have hm := h.rr r hr h1';show r.1 ∈ _;rw [show ((r.1, liftP r.2) : Nat × PS).2.lv = 0 from h0, r0];have hl := h.lv r hr;have hcase : r.2.lv = 0 ∨ r.2.lv = 1 ∨ r.2.lv = 2 := by omega
   rcases hcase with e | e | e
   · rw [e] at hm; exact List.mem_append_left _ (List.mem_append_left _ hm)
   · rw [e] at hm; exact List.mem_append_left _ (List.mem_append_right _ hm)
   · rw [e] at hm; exact List.mem_append_right _ hm
theorem ut : zeroAt Tryz.prog 5 = some (.int .u8 0) := by kernel_rfl
theorem uu {xs junk : List Value} {n : Nat} (hn : n ≤ xs.length) : puts (xs ++ junk).toArray 0 (xs.drop n) = (xs.drop n ++ (xs ++ junk).drop (xs.length - n)).toArray := by
 rw [co _ _ _ (by simp; omega)];simp
theorem rT {xs junk : List Value} {n : Nat} {z : Value} (hn : n ≤ xs.length) : puts (xs.drop n ++ (xs ++ junk).drop (xs.length - n)).toArray (xs.length - n) (List.replicate n z) = (xs.drop n ++ (List.replicate n z ++ junk)).toArray := by
 rw [co _ _ _ (by simp; omega)];have e1 : (xs.drop n ++ (xs ++ junk).drop (xs.length - n)).take (xs.length - n) = xs.drop n := by
   rw [List.take_append_of_le_length (by simp)];exact List.take_of_length_le (by simp)
 have e2 : (xs.drop n ++ (xs ++ junk).drop (xs.length - n)).drop (xs.length - n + (List.replicate n z).length) = junk := by
   have e3 : (xs ++ junk).drop (xs.length - n) = xs.drop (xs.length - n) ++ junk := List.drop_append_of_le_length (by omega);rw [e3, ← List.append_assoc, List.drop_left' (by simp; omega)]
 rw [e1, e2, List.append_assoc]
theorem rU : ∃ n, ∀ {σ} {F : Fam σ} {Δ : DM F} {main s} (L : Frag) (b : Nat) (xs junk : List Value) (m : Nat), 0 < m → m ≤ xs.length → xs.length < 1000000 → xs.all plainV = true → (b, true, Obj.cells (xs ++ junk).toArray 5) ∈ L →
   CallsL Δ Tryz.prog main 172 [.slice (some ⟨b, 0, none⟩) xs.length (xs.length + junk.length), .int .i64 0, .int .i64 m].toArray n s L (fun s' v L' => s = s' ∧ v = .slice (some ⟨b, 0, none⟩) (xs.length - m) (xs.length + junk.length) ∧ Upd L b (.cells (xs.drop m ++ (List.replicate m (Value.int .u8 0) ++ junk)).toArray 5) L') := by
 apply Exists.intro;intro σ F Δ main s L b xs junk m hm0 hm hbig hpl hb;have hsz : (xs ++ junk).toArray.size = xs.length + junk.length := by simp
 have hcut : cutAt 0 (m : Int).toNat (xs.length + junk.length) 1 + (xs.length - (m : Int).toNat) * 1 ≤ (xs ++ junk).toArray.size := by unfold cutAt; rw [hsz]; split <;> omega
 co_applyP aB 33 Tryz.func172 Tryz.ntmps172;co_applyP aa;co_applyP oan rfl;co_applyP aa;co_applyP om rfl rfl rfl ae;co_applyP om rfl rfl rfl ae;co_applyP oy rfl (bB (hu := U44));co_applyP oy rfl (tN U44 eJ);co_applyP ah;co_applyP aq;co_applyP aa;co_applyP om rfl rfl rfl ae;co_applyP oy rfl aA;co_applyP ah;change wpE ..;have e0 : ((0 : Int) == (m : Int)) = false := by simp; omega
 rw [e0];co_applyP ai rfl;co_applyP aD;co_applyP aa;co_applyP om rfl rfl rfl (bB (hu := U44));co_applyP oan rfl;co_applyP aq;co_applyP bi [] 6 (nf := 0) aT;co_applyP tr 0 rfl ae pN;co_applyP tr 1 rfl ae pN;co_applyP tr 2 rfl (tK U44 eJ) pN;co_applyP tr 3 rfl ae pN;co_applyP tr 4 rfl ae pN;co_applyP tr 5 rfl (tL U44 eJ) pN;co_applyP a0;intro hnd;have ec0 : cutAt 0 0 (xs.length + junk.length) 1 = 0 := by unfold cutAt; split <;> omega
 have hvs : ((xs ++ junk).toArray.extract (cutAt 0 (m : Int).toNat (xs.length + junk.length) 1) (cutAt 0 (m : Int).toNat (xs.length + junk.length) 1 + (xs.length - (m : Int).toNat) * 1)).toList = xs.drop m := by
   unfold cutAt
   split
   · have : xs.length = m := by omega
     simp [this]
   · have e1 : 0 + (m : Int).toNat * 1 + (xs.length - (m : Int).toNat) * 1 - (0 + (m : Int).toNat * 1) = xs.length - m := by omega
     have e2 : 0 + (m : Int).toNat * 1 = m := by omega
     simp only [Array.toList_extract, List.extract_eq_take_drop];rw [e1, e2, List.drop_append_of_le_length (by omega), List.take_append_of_le_length (by simp)];rw [List.take_of_length_le (by simp)]
 co_applyP te (i := 6) rfl (jY (hnd := hnd) (hu := U44) (hv := U44) (hs := eJ) (hr := cB hb hcut) (hc := by omega) (hm := hb) (ho := by simp; unfold cutAt; split <;> split <;> omega) (hp := by rw [hvs]; rw [List.all_eq_true] at hpl ⊢; exact fun v hv => hpl v (List.mem_of_mem_drop hv)));rintro _ _ ⟨rfl, hU⟩;refine ⟨ay (by simp), ?_⟩;co_applyP to 7 rfl (bL) (ay (by simp));have el : (0 : Int).toNat - 0 + (xs.length - (m : Int).toNat) = xs.length - m := by simp
 have ek : xs.length + junk.length - 0 = xs.length + junk.length := rfl;have eo : 0 + ((0 : Int).toNat - 0) * 1 = 0 := by simp
 rw [ec0, eo, hvs, uu hm] at hU;rw [ec0, el, ek];co_applyP td (by kernel_rfl);co_applyP aa;co_applyP om rfl rfl rfl ae;co_applyP oy rfl (bB (hu := U44));co_applyP om rfl rfl rfl (tM U44 eJ);have ecm : cutAt 0 (((xs.length - m : Nat) : Int)).toNat (xs.length + junk.length) 1 = xs.length - m := by unfold cutAt; split <;> omega
 have en : (xs.length : Int).toNat - ((xs.length - m : Nat) : Int).toNat = m := by omega
 co_applyP oeN rfl (fun hnd => tO (hnd := hnd) (hu := U44) (hz0 := ut) (hzp := rfl) (hm := hU.self) (ho := by rw [ecm, en]; simp; omega));rintro _ L3 ⟨rfl, hU'⟩;co_applyP ah;co_applyP aa;co_applyP oy rfl ae;co_applyP oan rfl;co_applyP aK;change ∃ v, resE .. = some v ∧ _;rw [ecm, en, rT hm] at hU';exact ⟨_, rfl, rfl, rfl, hU'.self, fun t ht hne => hU'.ne t (hU.ne t ht hne) hne, hU'.fn⟩
end Go.Proofs.YtejkelcaljmnoaaGreatDoor
namespace Go.Lo
open Go.Conc Go.Hx
section
variable {P : Program} {New : Obj → Prop} {N : Nat} {ε : Env} {L : Frag} {d : Option Tmp} {ty t u e : TypeId} {ps : String} {af : Array Edge} {g : Option (Nat × Bool)} {x y : Operand}
theorem BM {sz b o dl dc n sc : Nat} {yb : Option Addr} {vs cs : Array Value} {e' : TypeId} (hx : ev ε x = some (.slice (some ⟨b, o, none⟩) dl dc) := by rfl) (hy : ev ε y = some (.slice yb n sc) := by rfl) (hnd : (L.map (·.1)).Nodup) (hu : P.underlying t = some (.slice e)) (hs : sizeAt P e = some sz) (hr : Reads P L sz (Nat.min n dl) (.slice yb n sc) vs) (hm : (b, true, .cells cs e') ∈ L) (ho : o + vs.size ≤ cs.size) (hp : vs.toList.all plainV = true) :
   EO P New N ε L ⟨d, .call ⟨.builtin .copy, #[x, y], #[t, u]⟩, ty, ps, af, g⟩ (fun r L' => r = .int .i64 (Nat.min n dl : Nat) ∧ Upd L b (.cells (puts cs o vs.toList) e') L') := by
 intro a ha;obtain ⟨m, hm'⟩ := List.getElem?_of_mem hm;refine cP (s := Builtin.copy_ #[t, u] ty #[.slice (some ⟨b, o, none⟩) dl dc, .slice yb n sc]) (fun _ => by simp [builtin, ha.ev hx, ha.ev hy]) ?_;unfold Builtin.copy_;simp only [List.getElem?_toArray, List.getElem?_cons_zero, List.getElem?_cons_succ];rw [aj, aN hu];simp only [Builtin.lenOf];rw [aj, bm, aj, bI hs, aj];refine hr.r New _ ?_;rw [aj];exact cC hm' (by simpa using ho) hp ⟨rfl, cS hnd hm'⟩
end
section
variable {P : Program} {N : Nat} {ε : Env} {L : Frag} {d : Option Tmp} {ty : TypeId} {ps : String} {af : Array Edge} {g : Option (Nat × Bool)} {t e : TypeId} {x y z : Operand} {b o sz len : Nat} {k1 k2 : IntKind} {l h : Int}
theorem uv (hu : P.underlying t = some (.array len e)) (hs : sizeAt P e = some sz) (hx : ev ε x = some (.pointer (some ⟨b, o, none⟩)) := by rfl) (hy : ev ε y = some (.int k1 l) := by rfl) (hz : ev ε z = some (.int k2 h) := by rfl) (h0 : 0 ≤ l := by first | decide | omega) (h1 : l ≤ h := by first | decide | omega) (h2 : h ≤ len := by first | decide | omega) :
   EY P N ε L ⟨d, .slice t x (some y) (some z) none, ty, ps, af, g⟩ (.slice (some ⟨b, cutAt o l.toNat len sz, none⟩) (h.toNat - l.toNat) (len - l.toNat)) := fun _ ha => by
 refine cR (fun _ => rfl) fun K hK => ?_;simp only [Option.map_some, Option.map_none, ha.ev hx, ha.ev hy, ha.ev hz];unfold Instr.sliceAt;rw [ar, aH hu];simp only;rw [ar, dw];simp only [Instr.sliceBounds];simp only [ar, bG];refine cG (by omega) h2 ?_;refine cG h0 (by omega) ?_;rw [cV hs];have e1 : (if len = l.toNat then (⟨b, o, none⟩ : Addr) else (⟨b, o, none⟩ : Addr).add (l.toNat * sz)) = ⟨b, cutAt o l.toNat len sz, none⟩ := by
   unfold cutAt
   split
   · rfl
   · simp [dv]
 rw [e1];exact hK
end
end Go.Lo
namespace Go.Proofs.YtejkelcaljmnoaaGreatDoor
open Go.Conc Go.Hx Go.Lo
theorem yq : bytesAt Tryz.prog 5 = some 1 := by kernel_rfl
structure ApB (L : Frag) (a : Sl) (zs : List Value) (a' : Sl) (L' : Frag) : Prop where
 ok : slOk a' zs 5 L'
 fn : Fun L'
 sub : ∀ t ∈ L, a.b ≠ some t.1 → t ∈ L'
 d : ∀ b, a'.b = some b → a.b = some b ∨ ∀ t ∈ L, t.1 ≠ b
section
variable {New : Obj → Prop} {N : Nat} {ε : Env} {L : Frag} {d : Option Tmp} {ty : TypeId} {ps : String} {af : Array Edge} {g : Option (Nat × Bool)} {x y : Operand}
theorem wV {a : Sl} {xs : List Value} (ha : slOk a xs 5 L) : Reads Tryz.prog L 1 xs.length (slv a xs.length) xs.toArray := by
 cases hab : a.b with
 | none =>
   unfold slOk at ha;rw [hab] at ha;obtain rfl : xs = [] := ha.1;have e3 : slv a 0 = .slice none 0 0 := by unfold slv; rw [hab]
   show Reads Tryz.prog L 1 0 (slv a 0) #[];rw [e3]; exact dM
 | some b =>
   have hm := ha.mem hab;have e3 : slv a xs.length = .slice (some ⟨b, 0, none⟩) xs.length (xs.length + a.junk.length) := by unfold slv; rw [hab]
   rw [e3];have := cB (P := Tryz.prog) (sz := 1) (n := xs.length) (len := xs.length) (cap := xs.length + a.junk.length) (o := 0) hm (by simp);have e7 : (xs ++ a.junk).take xs.length = xs := by rw [List.take_append_of_le_length (by simp)]; exact List.take_of_length_le (by simp)
   simpa [e7] using this
theorem AO {a : Sl} {xs ys : List Value} {yb : Option Addr} {yc : Nat} (hx : ev ε x = some (slv a xs.length) := by rfl) (hy : ev ε y = some (.slice yb ys.length yc) := by rfl) (hnd : (L.map (·.1)).Nodup) (hN : ∀ cs, New (.cells cs 5)) (ha : slOk a xs 5 L) (hr : Reads Tryz.prog L 1 ys.length (.slice yb ys.length yc) ys.toArray) (hpl : ys.all plainV = true) (h8 : xs.length ≤ 1000) (h8' : ys.length ≤ 1000) :
   EO Tryz.prog New N ε L ⟨d, .call ⟨.builtin .append, #[x, y], #[44, 44]⟩, ty, ps, af, g⟩ (fun r L' => ∃ a', r = slv a' (xs ++ ys).length ∧ ApB L a (xs ++ ys) a' L') := by
 have hws := wV ha
 have grow : ∀ (cap0 : Nat), (∃ base, slv a xs.length = .slice base xs.length cap0) → cap0 < xs.length + ys.length →
     EO Tryz.prog New N ε L ⟨d, .call ⟨.builtin .append, #[x, y], #[44, 44]⟩, ty, ps, af, g⟩ (fun r L' => ∃ a', r = slv a' (xs ++ ys).length ∧ ApB L a (xs ++ ys) a' L') := by
   rintro cap0 ⟨base, hb⟩ hc;rw [hb] at hws hx;intro ac hac;refine bV ?_ _ _ (lq (by_ := 0) (New := New) hx hy (bF hnd) U44 U44 eJ yq ut hws hr hc (by omega) hN ac hac);intro r L' q;cases r <;> try exact q.elim
   · obtain ⟨b, cap, h1, h2, rfl, hA⟩ := q;rw [eN rfl] at hA;refine ⟨⟨some b, List.replicate (cap - (xs.length + ys.length)) (.int .u8 0)⟩, ?_, ?_, hA.fn, fun t ht _ => hA.sub t ht, fun b' hb' => .inr ?_⟩
     · unfold slv; simp; omega
     · have e5 : xs.toArray ++ ys.toArray ++ (List.replicate (cap - (xs.length + ys.length)) (Value.int .u8 0)).toArray = ((xs ++ ys) ++ List.replicate (cap - (xs.length + ys.length)) (Value.int .u8 0)).toArray := by
         apply Array.ext'; simp
       rw [e5] at hA;exact hA.self
     · obtain rfl : b = b' := by simpa using hb'
       exact hA.new
   · obtain ⟨b, cap, _, _, e, _⟩ := q; cases e
 cases hab : a.b with
 | none =>
   have h2 := ha;unfold slOk at h2;rw [hab] at h2;obtain ⟨e1, e2⟩ := h2;obtain rfl : xs = [] := e1;have e3 : slv a 0 = .slice none 0 0 := by unfold slv; rw [hab]
   by_cases h0 : 0 < ys.length
   · exact grow 0 ⟨none, e3⟩ (by simpa using h0)
   · obtain rfl : ys = [] := List.length_eq_zero_iff.1 (by omega);intro ac hac;rw [List.length_nil, e3] at hx;refine bV ?_ _ _ (pr (New := New) hx hy U44 U44 eJ hr ac hac);intro r L' q;cases r <;> try exact q.elim
     · obtain ⟨rfl, rfl⟩ := q;exact ⟨a, e3.symm, ha, bF hnd, fun t ht _ => ht, fun b hb => by rw [hab] at hb; cases hb⟩
     · exact absurd q.1 (by simp [undef])
 | some b =>
   have hm := ha.mem hab;have e3 : slv a xs.length = .slice (some ⟨b, 0, none⟩) xs.length (xs.length + a.junk.length) := by unfold slv; rw [hab]
   by_cases hj : ys.length ≤ a.junk.length
   · intro ac hac;rw [e3] at hx;refine bV ?_ _ _ (jY (New := New) hx hy hnd U44 U44 eJ hr (by omega) hm (by simp; omega) (by simpa using hpl) ac hac);intro r L' q;cases r <;> try exact q.elim
     · obtain ⟨rfl, hU⟩ := q;have e4 : puts (xs ++ a.junk).toArray (0 + xs.length * 1) ys.toArray.toList = ((xs ++ ys) ++ a.junk.drop ys.length).toArray := by
         rw [co _ _ _ (by simp; omega)];have e6 : (xs ++ a.junk).drop (xs.length + ys.length) = a.junk.drop ys.length := by
           rw [List.drop_append]; simp
         have e7 : (xs ++ a.junk).take xs.length = xs := by rw [List.take_append_of_le_length (by simp)]; exact List.take_of_length_le (by simp)
         simp [e6, e7]
       rw [e4] at hU;refine ⟨⟨some b, a.junk.drop ys.length⟩, ?_, hU.self, hU.fn, fun t ht hne => hU.ne t ht fun e => hne (by rw [hab, e]), fun b' hb' => .inl (by rw [hab]; exact hb')⟩;unfold slv; simp; omega
     · exact absurd q.1 (by simp [undef])
   · exact grow (xs.length + a.junk.length) ⟨_, e3⟩ (by omega)
end
def Lay.setY (A : Lay) (i : Nat) (a : Sl) : Lay := { A with y := put A.y i a }
def St.setY (S : St) (i : Nat) (ys : List Int) : St := { S with by_ := put S.by_ i ys }
section
variable {K : Nat} {A : Lay} {S : St} {F L L' : Frag}
theorem Rep.setBytes (h : Rep K A S F L) {i : Nat} (hi : i < 5) {a' : Sl} {ys : List Int} (hf : Fun L') (hk : kb K (kst (A.setY i a') (S.setY i ys)) ∈ L') (hs : ∀ t ∈ L, t.1 ≠ K → (A.y i).b ≠ some t.1 → t ∈ L') (ha : slOk a' (ys.map fun v => .int .u8 v) 5 L')
   (hd : ∀ b, a'.b = some b → (A.y i).b = some b ∨ ((∀ j, (A.y j).b ≠ some b) ∧ ∀ t ∈ F, t.1 ≠ b)) : Rep K (A.setY i a') (S.setY i ys) F L' := by
 have ty : ∀ {b : Nat} {fl : Bool} {o : Obj}, (b, fl, o) ∈ L → (∀ c, o ≠ Obj.cells c 5) → (A.y i).b ≠ some b := fun hm ho hb => by
   obtain ⟨xs, hx⟩ := h.yl _ _ hb;exact ho _ (h.fn _ _ _ _ _ hm hx).2
 have arr : ∀ (a : Sl) (xs : List Value) (e : TypeId), e ≠ 115 → (∀ b, a.b = some b → (A.y i).b ≠ some b) → slOk a xs e L → slOk a xs e L' := fun a xs e he hne ha => by
   refine ha.mono fun c hc o ho => hs _ ho ?_ (hne c hc);exact h.fn.ne (ha.mem hc) h.k (aE he)
 have hdn : ∀ j, j ≠ i → ∀ b, (A.y j).b = some b → (A.y i).b ≠ some b := fun j hj b hb e => h.dy j i hj (by rw [hb]; simp) (by rw [hb, e]);have pA : ∀ j, j ≠ i → (A.setY i a').y j = A.y j := fun j hj => by simp [Lay.setY, put, hj]
 have pS : (A.setY i a').y i = a' := by simp [Lay.setY, put]
 have sS : (S.setY i ys).by_ i = ys := by simp [St.setY, put]
 have sA : ∀ j, j ≠ i → (S.setY i ys).by_ j = S.by_ j := fun j hj => by simp [St.setY, put, hj]
 exact { h with
   fn := hf
   k := hk
   g := hs _ h.g (h.fn.ne h.g h.k (aE (by decide))) (ty h.g fun c => aE (by decide))
   p := fun q hq => hs _ (h.p q hq) (h.fn.ne (h.p q hq) h.k (aE (by decide))) (ty (h.p q hq) fun c => aE (by decide))
   pa := arr _ _ _ (by decide) (fun b hb => ty (h.pa.mem hb) fun c => aE (by decide)) h.pa
   rw := fun l hl => arr _ _ _ (by decide) (fun b hb => ty ((h.rw l hl).mem hb) fun c => aE (by decide)) (h.rw l hl)
   ya := fun j hj => by
     by_cases e : j = i
     · subst e; rw [pS, sS]; exact ha
     · rw [pA j e, sA j e]; exact arr _ _ _ (by decide) (hdn j e) (h.ya j hj)
   w := hs _ h.w (h.fn.ne h.w h.k (by simp [wobj])) (ty h.w fun c => by simp [wobj])
   wa := fun e he => arr _ _ _ (by decide) (fun b hb => ty ((h.wa e he).mem hb) fun c => aE (by decide)) (h.wa e he)
   al := fun j c hc => by
     obtain ⟨xs, hx⟩ := h.al j c hc;exact ⟨xs, hs _ hx (h.fn.ne hx h.k (aE (by decide))) (ty hx fun c => aE (by decide))⟩
   yl := fun j c hc => by
     by_cases e : j = i
     · subst e; rw [pS] at hc; exact ⟨_, ha.mem hc⟩
     · rw [pA j e] at hc;obtain ⟨xs, hx⟩ := h.yl j c hc;exact ⟨xs, hs _ hx (h.fn.ne hx h.k (aE (by decide))) (hdn j e c hc)⟩
   dy := fun j m hjm hj => by
     by_cases ej : j = i
     · subst ej;rw [pA m (Ne.symm hjm), pS];rw [pS] at hj;intro e;cases hb : a'.b with
       | none => exact hj hb
       | some b =>
         rcases hd b hb with h1 | h1
         · exact h.dy j m hjm (by rw [h1]; simp) (by rw [h1, ← e, hb])
         · exact h1.1 m (by rw [← e, hb])
     · rw [pA j ej];rw [pA j ej] at hj;by_cases em : m = i
       · subst em;rw [pS];intro e;cases hb : a'.b with
         | none => rw [hb] at e; exact hj e
         | some b =>
           rcases hd b hb with h1 | h1
           · exact h.dy j m ej hj (by rw [h1, e, hb])
           · exact h1.1 j (by rw [e, hb])
       · rw [pA m em]; exact h.dy j m hjm hj
   fr := fun t ht => hs _ (h.fr t ht) (h.fd t ht).1 ((h.fd t ht).2.2.2.1 _)
   fd := fun t ht => by
     refine ⟨(h.fd t ht).1, (h.fd t ht).2.1, (h.fd t ht).2.2.1, fun j => ?_, (h.fd t ht).2.2.2.2⟩;by_cases ej : j = i
     · subst ej;rw [pS];intro e;rcases hd _ e with h1 | h1
       · exact (h.fd t ht).2.2.2.1 _ h1
       · exact h1.2 t ht rfl
     · rw [pA j ej]; exact (h.fd t ht).2.2.2.1 j }
theorem mA (k : KS) {i : Nat} (hi : i < 5) (v : Value) : (kcells k).setIfInBounds (10 + i) v = kcells { k with by_ := put k.by_ i v } := by
 rcases i with _ | _ | _ | _ | _ | i
 · rfl
 · rfl
 · rfl
 · rfl
 · rfl
 · omega
theorem pt (A : Lay) (S : St) (i : Nat) (a' : Sl) (ys : List Int) : kst (A.setY i a') (S.setY i ys) = { kst A S with by_ := put (kst A S).by_ i (slv a' ys.length) } := by
 unfold kst Lay.setY St.setY;simp only [KS.mk.injEq, true_and];refine ⟨?_, trivial⟩
 funext j
 unfold put;by_cases e : j = i
 · subst e; simp
 · simp [e]
end
def PS.poke (x : PS) (i : Nat) : List Int → PS
 | [] => x
 | v :: vs => PS.poke { x with m := put x.m i v } (i + 1) vs
theorem uw : ∀ (vs : List Int) (x : PS) (i : Nat), i + vs.length ≤ 64 → puts (pcells x) (15 + i) (vs.map fun v => Value.int .u8 v) = pcells (x.poke i vs)
 | [], _, _, _ => rfl
 | v :: vs, x, i, h => by
   simp only [List.length_cons] at h;show puts ((pcells x).setIfInBounds (15 + i) (.int .u8 v)) (15 + i + 1) (vs.map fun v => Value.int .u8 v) = _;rw [ug x (by omega), show 15 + i + 1 = 15 + (i + 1) by omega];exact uw vs _ (i + 1) (by omega)
def PS.peek (x : PS) (i n : Nat) : List Int := (List.range n).map fun j => x.m (i + j)
theorem yr (x : PS) {i n : Nat} (h : i + n ≤ 64) : (pcells x).extract (15 + i) (15 + i + n) = ((x.peek i n).map fun v => Value.int .u8 v).toArray := by
 apply Array.ext
 · simp [PS.peek, bf]; omega
 · intro j h1 h2;have hj : j < n := by simpa [PS.peek] using h2
   have := ue x (i := i + j) (by omega);rw [show 15 + (i + j) = 15 + i + j by omega] at this;obtain ⟨_, he⟩ := Array.getElem?_eq_some_iff.1 this;simp only [Array.getElem_extract, he];simp [PS.peek]
section
variable {P : Program} {N : Nat} {ε : Env} {L : Frag} {d : Option Tmp} {ty : TypeId} {ps : String} {af : Array Edge} {g : Option (Nat × Bool)}
theorem AP {t : TypeId} {x y z u : Operand} {w l h m v : Value} (hv : evR P (Instr.sliceAt t w (some l) (some h) (some m)) [] = some (v, [])) (hx : ev ε x = some w := by rfl) (hy : ev ε y = some l := by rfl) (hz : ev ε z = some h := by rfl) (hu : ev ε u = some m := by rfl) : EY P N ε L ⟨d, .slice t x (some y) (some z) (some u), ty, ps, af, g⟩ v := fun a ha => by
 refine cR (fun _ => rfl) fun K hK => ?_;simp only [Option.map_some, ha.ev hx, ha.ev hy, ha.ev hz, ha.ev hu];exact bj hv hK
end
theorem AQ : evR Tryz.prog (Instr.sliceAt 44 (.slice none 0 0) (some (.int .i64 0)) (some (.int .i64 0)) (some (.int .i64 0))) [] = some (.slice none 0 0, []) := by kernel_rfl
theorem rV : ∃ n, ∀ {σ} {F : Fam σ} {Δ : DM F} {main s} (L : Frag),
   CallsL Δ Tryz.prog main 172 [.slice none 0 0, .int .i64 0, .int .i64 0].toArray n s L (fun s' v L' => s = s' ∧ L = L' ∧ v = .slice none 0 0) := by
 apply Exists.intro;intro σ F Δ main s L;co_applyP aB 33 Tryz.func172 Tryz.ntmps172;co_applyP aa;co_applyP oan rfl;co_applyP aa;co_applyP om rfl rfl rfl ae;co_applyP om rfl rfl rfl ae;co_applyP oy rfl (bB (hu := U44));co_applyP oy rfl (AP AQ);co_applyP ah;co_applyP aq (n₂ := 0);co_applyP aa;co_applyP om rfl rfl rfl ae;co_applyP oy rfl aA;co_applyP ah;co_applyP aQ rfl;co_applyP aa;co_applyP oy rfl ae;co_applyP oan rfl;co_applyP aK;change ∃ v, resE .. = some v ∧ _;exact ⟨_, rfl, rfl, rfl, rfl⟩
theorem rW : ∃ n, ∀ {σ} {F : Fam σ} {Δ : DM F} {main s} (L : Frag) (b len cap : Nat), len ≤ cap →
   CallsL Δ Tryz.prog main 172 [.slice (some ⟨b, 0, none⟩) len cap, .int .i64 0, .int .i64 0].toArray n s L (fun s' v L' => s = s' ∧ L = L' ∧ v = .slice (some ⟨b, 0, none⟩) len cap) := by
 apply Exists.intro;intro σ F Δ main s L b len cap hc;co_applyP aB 33 Tryz.func172 Tryz.ntmps172;co_applyP aa;co_applyP oan rfl;co_applyP aa;co_applyP om rfl rfl rfl ae;co_applyP om rfl rfl rfl ae;co_applyP oy rfl (bB (hu := U44));co_applyP oy rfl (tN U44 eJ);co_applyP ah;co_applyP aq (n₂ := 0);co_applyP aa;co_applyP om rfl rfl rfl ae;co_applyP oy rfl aA;co_applyP ah;co_applyP aQ rfl;co_applyP aa;co_applyP oy rfl ae;co_applyP oan rfl;co_applyP aK;change ∃ v, resE .. = some v ∧ _;exact ⟨_, rfl, rfl, rfl, rfl⟩
theorem wW : ∃ n, ∀ {σ} {F : Fam σ} {Δ : DM F} {main s} (L : Frag) (a : Sl) (xs : List Value) (m : Nat), Fun L → m ≤ xs.length → xs.length < 1000000 → xs.all plainV = true → slOk a xs 5 L →
   CallsL Δ Tryz.prog main 172 [slv a xs.length, .int .i64 0, .int .i64 m].toArray n s L (fun s' v L' => s = s' ∧ ∃ a', v = slv a' (xs.length - m) ∧ ApB L a (xs.drop m) a' L' ∧ a'.b = a.b) := by
 obtain ⟨n0, g0⟩ := rV;obtain ⟨n1, g1⟩ := rW;obtain ⟨n2, g2⟩ := rU;refine ⟨n0 + (n1 + n2), fun {σ F Δ main s} L a xs m hF hm hbig hpl ha => aM (a.b = none) (fun h => ?_) fun h => aM (m = 0) (fun h0 => ?_) fun h0 => ?_⟩
 · have ha' := ha;unfold slOk at ha';rw [h] at ha';obtain rfl : xs = [] := ha'.1;obtain rfl : m = 0 := by simpa using hm
   have e : slv a ([] : List Value).length = .slice none 0 0 := by unfold slv; rw [h]
   rw [e];refine aO (g0 L) fun s' v L' ⟨h1, h2, h3⟩ => ?_;subst h2;exact ⟨h1, a, by rw [h3]; exact e.symm, ⟨ha, hF, fun t ht _ => ht, fun b hb => .inl hb⟩, rfl⟩
 · obtain ⟨b, hb⟩ : ∃ b, a.b = some b := by
     cases hb : a.b with
     | none => exact absurd hb h
     | some b => exact ⟨b, rfl⟩
   subst h0;have e : slv a xs.length = .slice (some ⟨b, 0, none⟩) xs.length (xs.length + a.junk.length) := by unfold slv; rw [hb]
   rw [e];refine aO (g1 L b xs.length (xs.length + a.junk.length) (by omega)) fun s' v L' ⟨h1, h2, h3⟩ => ?_;subst h2;exact ⟨h1, a, by rw [h3, Nat.sub_zero]; exact e.symm, ⟨ha, hF, fun t ht _ => ht, fun b hb => .inl hb⟩, rfl⟩
 · obtain ⟨b, hb⟩ : ∃ b, a.b = some b := by
     cases hb : a.b with
     | none => exact absurd hb h
     | some b => exact ⟨b, rfl⟩
   have e : slv a xs.length = .slice (some ⟨b, 0, none⟩) xs.length (xs.length + a.junk.length) := by unfold slv; rw [hb]
   rw [e];refine aO (g2 L b xs a.junk m (by omega) hm hbig hpl (ha.mem hb)) fun s' v L' ⟨h1, h2, h3⟩ => ?_;refine ⟨h1, ⟨some b, List.replicate m (Value.int .u8 0) ++ a.junk⟩, ?_, ⟨h3.self, h3.fn, fun t ht hne => h3.ne _ ht fun e => hne (by rw [hb, e]), fun b' hb' => .inl (by rw [hb]; exact hb')⟩, hb.symm⟩;rw [h2]; unfold slv; simp; omega
theorem ux {L : Frag} {a : Sl} {xs : List Value} {n : Nat} (ha : slOk a xs 5 L) (hn : n ≤ xs.length) : Reads Tryz.prog L 1 n (slv a xs.length) (xs.take n).toArray := by
 cases hab : a.b with
 | none =>
   unfold slOk at ha;rw [hab] at ha;obtain rfl : xs = [] := ha.1;obtain rfl : n = 0 := by simpa using hn
   have e3 : slv a 0 = .slice none 0 0 := by unfold slv; rw [hab]
   show Reads Tryz.prog L 1 0 (slv a 0) #[];rw [e3]; exact dM
 | some b =>
   have hm := ha.mem hab;have e3 : slv a xs.length = .slice (some ⟨b, 0, none⟩) xs.length (xs.length + a.junk.length) := by unfold slv; rw [hab]
   rw [e3];have := cB (P := Tryz.prog) (sz := 1) (n := n) (len := xs.length) (cap := xs.length + a.junk.length) (o := 0) hm (by simp; omega);have e7 : (xs ++ a.junk).take n = xs.take n := List.take_append_of_le_length hn;simpa [e7] using this
def PS.got (x : PS) (bs : List Int) : PS :=
 let y := x.poke (x.r 1).toNat (bs.take (Nat.min bs.length (x.r 2).toNat))
 { y with r := put y.r 0 (Nat.min bs.length (x.r 2).toNat : Nat) }
def St.readP (S : St) (b : Nat) (x : PS) (k : Nat × Nat) : St := (S.setP b (x.got (S.by_ k.1))).setY k.1 ((S.by_ k.1).drop (Nat.min (S.by_ k.1).length (x.r 2).toNat))
structure YLay (A A' : Lay) : Prop where
 a : A'.a = A.a
 w : A'.wt = A.wt ∧ A'.born = A.born ∧ A'.clock = A.clock
 g : A'.g = A.g ∧ A'.gcap = A.gcap ∧ A'.gc = A.gc
theorem wX : ∃ n, ∀ {σ} {F : Fam σ} {Δ : DM F} {main s} (K : Nat) (A : Lay) (S : St) (Fr L : Frag) (b : Nat) (x : PS) (k : Nat × Nat), (∀ cs, (Δ s).New (.cells cs 96)) → Rep K A S Fr L → (b, x) ∈ S.ps → WF x → k.1 < 5 → k.2 = 4 → x.r 1 + x.r 2 ≤ 64 → (S.by_ k.1).length ≤ 8 →
   CallsL Δ Tryz.prog main 166 [ptr K, ptr b, keyv k].toArray n s L (fun s' v L' => s = s' ∧ v = .nilIface ∧ ∃ A', YLay A A' ∧ Rep K A' (S.readP b x k) Fr L') := by
 obtain ⟨n2, g2⟩ := wW;apply Exists.intro;intro σ F Δ main s K A S Fr L b x k hN hR hb hx hk5 hk4 hfc h8;have wx1 := hx.r 1 (by omega);have wx2 := hx.r 2 (by omega);obtain ⟨base, cap, hv, _⟩ : ∃ base cap, slv (A.y k.1) (S.by_ k.1).length = .slice base (S.by_ k.1).length cap ∧ True := by
   obtain ⟨base, cap, h, _⟩ := bw (hR.ya k.1 hk5);simp only [List.length_map] at h;exact ⟨base, cap, h, trivial⟩
 have w1 : IntKind.i64.wrap (x.r 1) = x.r 1 := by simp [IntKind.wrap_i64]; omega
 have w2 : IntKind.i64.wrap (x.r 2) = x.r 2 := by simp [IntKind.wrap_i64]; omega
 have w3 : IntKind.i64.wrap (x.r 1 + x.r 2) = x.r 1 + x.r 2 := by simp [IntKind.wrap_i64]; omega
 co_applyP aB 100 Tryz.func166 Tryz.ntmps166;co_applyP aa;co_applyP bT rfl (cn (hN _));intro xk L1 hA1;have hR1 := hR.add hA1;have h0 : At L1 xk 0 (.int .i64 (k.1 : Nat)) := ⟨true, _, _, _, hA1.self, rfl⟩;have h1 : At L1 xk 1 (.int .i64 (k.2 : Nat)) := ⟨true, _, _, _, hA1.self, rfl⟩;have hx1 : At L1 b 8 (.int .u16 (x.r 1)) := hR1.pat hb (bg x (i := 1) (by omega));have hx2 : At L1 b 9 (.int .u16 (x.r 2)) := hR1.pat hb (bg x (i := 2) (by omega));have hky : At L1 K (10 + k.1) (.slice base (S.by_ k.1).length cap) := by rw [← hv]; exact hR1.kat (qz _ hk5)
 have e4 : ((k.2 : Int) == 4) = true := by simp; omega
 have edl : (x.r 1 + x.r 2).toNat - (x.r 1).toNat = (x.r 2).toNat := by omega
 obtain ⟨nn, hnn⟩ : ∃ nn, nn = Nat.min (S.by_ k.1).length (x.r 2).toNat := ⟨_, rfl⟩;have hn1 : nn ≤ (S.by_ k.1).length := by rw [hnn]; exact Nat.min_le_left _ _
 have hn2 : nn ≤ (x.r 2).toNat := by rw [hnn]; exact Nat.min_le_right _ _
 co_applyP oan rfl;co_applyP aq;co_applyP bq aT;co_applyP tr 0 rfl ae pI;co_applyP tr 1 rfl aJ pI;co_applyP tr 2 rfl (au (hf := aC)) pI;co_applyP tr 3 rfl (au (hf := aS)) pI;co_applyP tr 4 rfl (aX U47 aZ) pI;co_applyP tr 5 rfl (aF (ht := cH)) pI;co_applyP tr 6 rfl (cp (hs := U32) (ht := U3)) pI;co_applyP tr 7 rfl ae pI;co_applyP tr 8 rfl aJ pI;co_applyP tr 9 rfl (au (hf := aC)) pI;co_applyP tr 10 rfl (au (hf := aS)) pI;co_applyP tr 11 rfl (aX U47 aZ) pI;co_applyP tr 12 rfl (aF (ht := cH)) pI;co_applyP tr 13 rfl (cp (hs := U32) (ht := U3)) pI;co_applyP tr 14 rfl bL pI;co_applyP tr 15 rfl bL pI;co_applyP td (by kernel_rfl);co_applyP aa;co_applyP om rfl rfl rfl aJ;co_applyP oy rfl (au (hf := gp));co_applyP om rfl rfl rfl ae;co_applyP om rfl rfl rfl aR;simp only [w1, w2, w3];co_applyP oy rfl (uv Tryz.underlying94 eJ);co_applyP oan rfl;co_applyP aq (n₂ := 0);co_applyP aa;co_applyP oy rfl (au (hf := iv));co_applyP oy rfl (aF (ht := aY));co_applyP oy rfl aA;co_applyP ah;change wpE ..;rw [e4, edl];co_applyP aQ rfl;co_applyP aq;have hya := hR1.ya k.1 hk5;have hrd : Reads Tryz.prog L1 1 nn (.slice base (S.by_ k.1).length cap) (((S.by_ k.1).take nn).map fun v => Value.int .u8 v).toArray := by
   have := ux hya (n := nn) (by simpa using hn1);rw [List.length_map, hv] at this;rw [List.map_take]; exact this
 have hco : cutAt (0 + 15) (x.r 1).toNat 64 1 = if 64 = (x.r 1).toNat then 15 else 15 + (x.r 1).toNat := by unfold cutAt; split <;> omega
 rw [hnn] at hrd;co_applyP bi [] 8 (nf := 0) aT;co_applyP tr 0 rfl ae pN;co_applyP tr 1 rfl ae pN;co_applyP tr 2 rfl (au (hf := dU)) pN;co_applyP t0 3 rfl (aF (ht := aY)) pN;co_applyP tr 4 rfl aJ pN;co_applyP tr 5 rfl (au (hf := eM)) pN;co_applyP tr 6 rfl (aX o7 gK) pN;co_applyP t0 7 rfl (aF (ht := qj)) pN;co_applyP a0;intro hnd;co_applyP te (i := 8) rfl (BM (hnd := hnd) (hu := U44) (hs := eJ) (hr := hrd) (hm := hR1.p _ hb) (ho := by rw [bf, hco]; simp only [List.size_toArray, List.length_map, List.length_take]; rw [← hnn]; split <;> omega) (hp := by rw [List.all_eq_true]; intro v hv; obtain ⟨w, _, rfl⟩ := List.mem_map.1 hv; rfl));rintro _ _ ⟨rfl, hU2⟩;refine ⟨ay (by simp), ?_⟩;rename_i L2;rw [← hnn] at hU2;co_applyP to 9 rfl (bL) (ay (by simp));rw [← hnn];have hpk : puts (pcells x) (cutAt (0 + 15) (x.r 1).toNat 64 1) (((S.by_ k.1).take nn).map fun v => Value.int .u8 v).toArray.toList = pcells (x.poke (x.r 1).toNat ((S.by_ k.1).take nn)) := by
   rw [hco]
   split
   · have : nn = 0 := by omega
     subst this; rfl
   · exact uw _ x _ (by simp; omega)
 rw [hpk] at hU2;have hR2 := hR1.setP hb (x' := x.poke (x.r 1).toNat ((S.by_ k.1).take nn)) hU2;have hb2 : (b, x.poke (x.r 1).toNat ((S.by_ k.1).take nn)) ∈ (S.setP b (x.poke (x.r 1).toNat ((S.by_ k.1).take nn))).ps := av hb;have hbK : xk ≠ b := fun e => hA1.new _ (hR.p _ hb) e.symm;have h02 : At L2 xk 0 (.int .i64 (k.1 : Nat)) := ⟨true, _, _, _, hU2.ne _ hA1.self hbK, rfl⟩;have hky2 : At L2 K (10 + k.1) (.slice base (S.by_ k.1).length cap) := by rw [← hv]; exact hR2.kat (qz _ hk5)
 co_applyP td (by kernel_rfl);co_applyP aq;have hpl : ((S.by_ k.1).map fun v => Value.int .u8 v).all plainV = true := by rw [List.all_eq_true]; intro v hv; obtain ⟨w, _, rfl⟩ := List.mem_map.1 hv; rfl
 have g2' := g2 (Δ := Δ) (main := main) (s := s) L2 (A.y k.1) ((S.by_ k.1).map fun v => Value.int .u8 v) nn hR2.fn (by simpa using hn1) (by simp; omega) hpl (hR2.ya k.1 hk5);rw [List.length_map, hv] at g2';co_applyP bi [(xk, true, Obj.cells (keyv k).cells 96)] 11 aT;have hxk2 : (xk, true, Obj.cells (keyv k).cells 96) ∈ L2 := hU2.ne _ hA1.self hbK;have hxm : ∀ (L : Frag), (xk, true, Obj.cells (keyv k).cells 96) ∈ L → ∀ t ∈ [(xk, true, Obj.cells (keyv k).cells 96)], t ∈ L := fun L h t ht => by simp only [List.mem_singleton] at ht; rw [ht]; exact h
 have tyy : ∀ {c : Nat} {fl : Bool} {o : Obj}, (c, fl, o) ∈ L2 → (∀ c', o ≠ Obj.cells c' 5) → (A.y k.1).b ≠ some c := fun hm ho hc => by
   obtain ⟨xs, hx'⟩ := hR2.yl _ _ hc;exact ho _ (hR2.fn _ _ _ _ _ hm hx').2
 have hyx := tyy hxk2 fun c => aE (by decide);have hyK := tyy hR2.k fun c => aE (by decide);co_applyP tr 0 rfl ae (ak (hxm _ hxk2));co_applyP tr 1 rfl (au (hf := dU)) (ak (hxm _ hxk2));co_applyP tr 2 rfl (aF (ht := aY)) (ak (hxm _ hxk2));co_applyP tr 3 rfl ae (ak (hxm _ hxk2));co_applyP tr 4 rfl (au (hf := dU)) (ak (hxm _ hxk2));co_applyP t0 5 rfl (aF (ht := aY)) (ak (hxm _ hxk2));co_applyP tr 6 rfl aJ (ak (hxm _ hxk2));co_applyP tr 7 rfl (au (hf := eM)) (ak (hxm _ hxk2));co_applyP tr 8 rfl (aX o7 gK) (ak (hxm _ hxk2));co_applyP t0 9 rfl (aF (ht := qj)) (ak (hxm _ hxk2));co_applyP tr 10 rfl ae (ak (hxm _ hxk2));co_applyP tr 12 rfl aJ (ak (hxm _ hxk2));co_applyP tr 13 rfl (au (hf := eM)) (ak (hxm _ hxk2));co_applyP tc 11 rfl rfl rfl (g2');rintro _ _ _ ⟨rfl, a', rfl, hp, hab⟩;refine ⟨ay (hxm _ (hp.sub _ hxk2 hyx)), ?_⟩;rename_i L3;co_applyP to 14 rfl ((aX o7 gK)) (ay (hxm _ (hp.sub _ hxk2 hyx)));co_applyP a0;intro hnd';have hK3 := hp.sub _ hR2.k hyK;have hxKne : xk ≠ K := fun e => hA1.new _ hR.k e.symm;co_applyP te (i := 15) rfl (fq (hnd := hnd') (hm := hK3) (hi := by rw [bC]; omega) (hp := fi _ _) (hs := gK));rintro _ _ ⟨rfl, hU4⟩;refine ⟨ay (hxm _ (hU4.ne _ (hp.sub _ hxk2 hyx) hxKne)), ?_⟩;rename_i L4;co_applyP td (by kernel_rfl);co_applyP aa;co_applyP om rfl rfl rfl ae;co_applyP oy rfl (cp (hs := U3) (ht := U32));co_applyP oy rfl aJ;co_applyP oy rfl (au (hf := aC));co_applyP oy rfl (au (hf := aS));co_applyP oy rfl (aX U47 aZ);have hR4 : Rep K (A.setY k.1 a') ((S.setP b (x.poke (x.r 1).toNat ((S.by_ k.1).take nn))).setY k.1 ((S.by_ k.1).drop nn)) Fr L4 := by
   refine hR2.setBytes hk5 hU4.fn ?_ (fun t ht h1 h2 => hU4.ne _ (hp.sub _ ht h2) h1) ?_ (fun c hc => .inl (by rw [← hab]; exact hc))
   · show (K, true, Obj.cells (kcells _) 115) ∈ L4;have := hU4.self;rw [mA _ hk5] at this;rw [pt, List.length_drop];exact this
   · rw [List.map_drop];refine hp.ok.mono fun c hc o ho => hU4.ne _ ho fun e => ?_;rw [hab] at hc;exact hyK (by rw [hc]; exact congrArg some e)
 have hb4 : (b, x.poke (x.r 1).toNat ((S.by_ k.1).take nn)) ∈ ((S.setP b (x.poke (x.r 1).toNat ((S.by_ k.1).take nn))).setY k.1 ((S.by_ k.1).drop nn)).ps := hb2;have wn : IntKind.u16.wrap ((nn : Nat) : Int) = ((nn : Nat) : Int) := by rw [cW]; omega
 rw [wn];co_applyP osm rfl (hs := aZ) (hm := hR4.p _ hb4) (hi := by first | decide | (rw [bf]; omega) | (rw [bC]; omega));intro L5 hU5;have h7 : (pcells (x.poke (x.r 1).toNat ((S.by_ k.1).take nn))).setIfInBounds (7 + 0) (.int .u16 ((nn : Nat) : Int)) = pcells (x.got (S.by_ k.1)) := by rw [dP _ (by omega)]; unfold PS.got; simp only [← hnn]
 have hR5 := hR4.setP hb4 (x' := x.got (S.by_ k.1)) (h7 ▸ hU5);co_applyP ah;co_applyP aa;co_applyP oan rfl;co_applyP aK;change ∃ v, resE .. = some v ∧ _;refine ⟨_, rfl, rfl, rfl, A.setY k.1 a', ⟨rfl, ⟨rfl, rfl, rfl⟩, ⟨rfl, rfl, rfl⟩⟩, ?_⟩;have e6 : ((S.setP b (x.poke (x.r 1).toNat ((S.by_ k.1).take nn))).setY k.1 ((S.by_ k.1).drop nn)).setP b (x.got (S.by_ k.1)) = S.readP b x k := by
   unfold St.readP St.setP St.setY;rw [← hnn];simp only [List.map_map];congr 1;apply List.map_congr_left;intro q _;simp only [Function.comp]
   split
   · simp
   · rename_i h; simp [h]
 rw [e6] at hR5;exact hR5
def okEnd (k : Nat × Nat) : Prop := (0 < k.1 ∧ k.1 < 5) ∧ (k.2 = 4 ∨ k.2 = 5)
structure Asks (y : PS) (k : Nat × Nat) : Prop where
 f : y.file (y.r 0) = k
 a : y.r 1 + y.r 2 ≤ 64
 w : k.2 = 5 → y.r 2 ≤ 8
 s : y.st = 1 ∨ y.st = k.2
structure Inv (S : St) : Prop where
 g : Good S
 wf : ∀ q ∈ S.ps, WF q.2
 fl : ∀ q ∈ S.ps, ∀ i, i < 6 → q.2.f i = (0, 0) ∨ okEnd (q.2.f i)
 y8 : ∀ i, i < 5 → (S.by_ i).length ≤ 8
 yb : ∀ i, i < 5 → ∀ v ∈ S.by_ i, 0 ≤ v ∧ v < 256
 kn : (S.wt.map (·.1)).Nodup
 ne : ∀ e ∈ S.wt, e.2 ≠ []
 nd : ∀ e ∈ S.wt, e.2.Nodup
 ke : ∀ e ∈ S.wt, okEnd e.1
 rm : ∀ e ∈ S.wt, ∀ c ∈ e.2, ∃ y, (c, y) ∈ S.ps ∧ Asks y e.1
def St.out (S : St) (b : Nat) : Prop := ∀ e ∈ S.wt, b ∉ e.2
theorem okEnd.key {k : Nat × Nat} (h : okEnd k) : okKey k := by
 obtain ⟨_, h | h⟩ := h <;> (unfold okKey; omega)
section
variable {S : St} {b : Nat} {x x' : PS} {k : Nat × Nat}
theorem Inv.w (h : Inv S) : WGood S where
 kn := h.kn
 kk := fun e he => (h.ke e he).key
 rl := fun e he => by
   have := iY (m := S.ps.map (·.1)) (h.nd e he) fun c hc => by
     obtain ⟨y, hy, _⟩ := h.rm e he c hc;exact List.mem_map.2 ⟨_, hy, rfl⟩
   have h8 := h.g.p8;simp at this;omega
 ne := h.ne
 rm := fun e he c hc => by
   obtain ⟨y, hy, _⟩ := h.rm e he c hc;exact ⟨y, hy⟩
theorem cr {e : (Nat × Nat) × List Nat} : ∀ {l : Wt}, e ∈ departW b k l → (e ∈ l ∧ e.1 ≠ k) ∨ (e.1 = k ∧ e.2 ≠ [] ∧ ∃ xs, (k, xs) ∈ l ∧ e.2 = xs.filter fun c => !decide (c = b)) := by
 intro l h;unfold departW at h;obtain ⟨e', he', h2⟩ := List.mem_filterMap.1 h
 split at h2
 · rename_i hk
   split at h2
   · cases h2
   · rename_i hne;simp at h2;subst h2;obtain ⟨k', xs⟩ := e';simp only at hk hne he';subst hk;refine .inr ⟨rfl, ?_, xs, he', rfl⟩;intro e0;have e0' : (xs.filter fun c => !decide (c = b)) = [] := e0;exact hne (by rw [e0']; rfl)
 · rename_i hk;simp at h2;subst h2;exact .inl ⟨he', hk⟩
theorem mB {l : Wt} : ((departW b k l).map (·.1)).Sublist (l.map (·.1)) := by
 induction l with
 | nil => exact List.Sublist.slnil
 | cons e l ih =>
   unfold departW at *;rw [List.filterMap_cons]
   split
   · exact ih.cons _
   · rename_i e' he;have : e'.1 = e.1 := by
       split at he
       · rename_i hk
         split at he
         · cases he
         · simp at he; rw [← he]; exact hk.symm
       · simp at he; rw [he]
     rw [List.map_cons, List.map_cons, this];exact ih.cons_cons _
theorem Inv.depart (h : Inv S) : Inv (S.depart b k) where
 g := ⟨h.g.pn, h.g.p8, h.g.lv, h.g.rn, h.g.rm, h.g.rr⟩
 wf := h.wf
 fl := h.fl
 y8 := h.y8
 yb := h.yb
 kn := h.kn.sublist mB
 ne := fun e he => by
   rcases cr he with ⟨h1, _⟩ | ⟨_, h2, _⟩
   · exact h.ne e h1
   · exact h2
 nd := fun e he => by
   rcases cr he with ⟨h1, _⟩ | ⟨_, _, xs, h3, h4⟩
   · exact h.nd e h1
   · rw [h4]; exact (h.nd _ h3).sublist List.filter_sublist
 ke := fun e he => by
   rcases cr he with ⟨h1, _⟩ | ⟨h2, _, xs, h3, h4⟩
   · exact h.ke e h1
   · rw [h2]; exact h.ke _ h3
 rm := fun e he c hc => by
   rcases cr he with ⟨h1, _⟩ | ⟨h2, _, xs, h3, h4⟩
   · exact h.rm e h1 c hc
   · rw [h2];rw [h4] at hc;exact h.rm _ h3 c (List.mem_filter.1 hc).1
theorem Inv.row (h : Inv S) (hb : (b, x) ∈ S.ps) {e : (Nat × Nat) × List Nat} (he : e ∈ S.wt) (hm : b ∈ e.2) : Asks x e.1 := by
 obtain ⟨y, hy, ha⟩ := h.rm e he b hm;rw [bp h.g.pn hb hy]; exact ha
theorem Inv.out_depart (h : Inv S) (hb : (b, x) ∈ S.ps) : (S.depart b (x.file (x.r 0))).out b := by
 intro e he hm;rcases cr he with ⟨h1, h2⟩ | ⟨h2, _, xs, h3, h4⟩
 · exact h2 (h.row hb h1 hm).f.symm
 · rw [h4] at hm;have := (List.mem_filter.1 hm).2;simp at this
theorem mC {c : Nat} (h : S.out c) : (S.depart b k).out c := by
 intro e he hm;rcases cr he with ⟨h1, h2⟩ | ⟨h2, _, xs, h3, h4⟩
 · exact h e h1 hm
 · rw [h4] at hm;exact h _ h3 (List.mem_filter.1 hm).1
theorem Inv.out_st (h : Inv S) (hb : (b, x) ∈ S.ps) (h1 : x.st ≠ 1) (h4 : x.st ≠ 4) (h5 : x.st ≠ 5) : S.out b := fun e he hm => by
 have := (h.row hb he hm).s;rcases (h.ke e he).2 with h | h <;> omega
theorem Inv.setP (h : Inv S) (hb : (b, x) ∈ S.ps) (ho : S.out b) (hg : Good (S.setP b x')) (hw : WF x') (hf : ∀ i, i < 6 → x'.f i = (0, 0) ∨ okEnd (x'.f i)) : Inv (S.setP b x') where
 g := hg
 wf := fun q hq => by
   rcases aU hq with rfl | ⟨h1, _⟩
   · exact hw
   · exact h.wf q h1
 fl := fun q hq => by
   rcases aU hq with rfl | ⟨h1, _⟩
   · exact hf
   · exact h.fl q h1
 y8 := h.y8
 yb := h.yb
 kn := h.kn
 ne := h.ne
 nd := h.nd
 ke := h.ke
 rm := fun e he c hc => by
   obtain ⟨y, hy, ha⟩ := h.rm e he c hc;refine ⟨y, ?_, ha⟩;simp only [St.setP, List.mem_map];refine ⟨(c, y), hy, ?_⟩;rw [if_neg];rintro rfl;exact ho e he hc
theorem Inv.like (h : Inv S) (hb : (b, x) ∈ S.ps) (ho : S.out b) (hs : x'.st = x.st) (hl : x'.lv = x.lv) (hw : WF x') (hf : ∀ i, i < 6 → x'.f i = (0, 0) ∨ okEnd (x'.f i)) : Inv (S.setP b x') := h.setP hb ho (h.g.like hb hs hl) hw hf
theorem Inv.wake1 (h : Inv S) (hb : (b, x) ∈ S.ps) (ho : S.out b) (hs : x.st ≠ 1) : Inv (S.wake1 b x) where
 g := h.g.wake1 hb hs
 wf := fun q hq => by
   rcases aU hq with rfl | ⟨h1, _⟩
   · exact ⟨(h.wf _ hb).r, (h.wf _ hb).m⟩
   · exact h.wf q h1
 fl := fun q hq => by
   rcases aU hq with rfl | ⟨h1, _⟩
   · exact h.fl (b, x) hb
   · exact h.fl q h1
 y8 := h.y8
 yb := h.yb
 kn := h.kn
 ne := h.ne
 nd := h.nd
 ke := h.ke
 rm := fun e he c hc => by
   obtain ⟨y, hy, ha⟩ := h.rm e he c hc;refine ⟨y, ?_, ha⟩;show (c, y) ∈ (S.setP b _).ps;simp only [St.setP, List.mem_map];refine ⟨(c, y), hy, ?_⟩;rw [if_neg];rintro rfl;exact ho e he hc
theorem Inv.setY (h : Inv S) {i : Nat} {ys : List Int} (h8 : ys.length ≤ 8) (hb : ∀ v ∈ ys, 0 ≤ v ∧ v < 256) : Inv (S.setY i ys) where
 g := ⟨h.g.pn, h.g.p8, h.g.lv, h.g.rn, h.g.rm, h.g.rr⟩
 wf := h.wf
 fl := h.fl
 y8 := fun j hj => by
   show (put S.by_ i ys j).length ≤ 8;unfold put; split
   · exact h8
   · exact h.y8 j hj
 yb := fun j hj v hv => by
   have hv' : v ∈ put S.by_ i ys j := hv;unfold put at hv'
   split at hv'
   · exact hb v hv'
   · exact h.yb j hj v hv'
 kn := h.kn
 ne := h.ne
 nd := h.nd
 ke := h.ke
 rm := h.rm
end
def PS.gave (x : PS) : PS := { x with r := put x.r 0 (x.r 2) }
def St.writeP (S : St) (b : Nat) (x : PS) (k : Nat × Nat) : St := (S.setY k.1 (S.by_ k.1 ++ x.peek (x.r 1).toNat (x.r 2).toNat)).setP b x.gave
def St.carried (S : St) (x : PS) (k : Nat × Nat) : PS := if k.2 = 4 then x.got (S.by_ k.1) else if S.isOpen (otherE k) then x.gave else { x with r := put x.r 0 (ansOf 7) }
def St.carry (S : St) (b : Nat) (x : PS) (k : Nat × Nat) : St := if k.2 = 4 then S.readP b x k else if S.isOpen (otherE k) then S.writeP b x k else S.setP b { x with r := put x.r 0 (ansOf 7) }
def St.rowAt (S : St) (k : Nat × Nat) : List Nat := ((S.wt.find? fun e => decide (e.1 = k)).map (·.2)).getD []
def St.serve (S : St) (k : Nat × Nat) : Option St := match S.rowAt k with
 | [] => none
 | b :: _ => match S.get b with
   | none => none
   | some x => if S.canBeDone x k then some (if x.st = 1 then (S.depart b k).carry b x k else ((S.depart b k).carry b x k).wake1 b (S.carried x k)) else none
def St.looks : Nat → St → Nat → St
 | 0, S, _ => S
 | n + 1, S, p => match S.serve (p, 5) with
   | some S' => St.looks n S' p
   | none => match S.serve (p, 4) with
     | some S' => St.looks n S' p
     | none => S
def St.look (S : St) (p : Nat) : St := St.looks 16 S p
def St.meas (S : St) (p : Nat) : Nat := (S.rowAt (p, 5)).length + (S.rowAt (p, 4)).length
def St.shut (S : St) (b n : Nat) : St := match S.get b with
 | some x => (S.setP b { x with f := put x.f n (0, 0) }).look (x.f n).1
 | none => S
def St.shuts (S : St) (b : Nat) (f : Nat → Nat × Nat) : List Nat → St
 | [] => S
 | n :: ns => (if f n = (0, 0) then S else S.shut b n).shuts b f ns
section
variable {S S' : St} {b : Nat} {x x' : PS} {k : Nat × Nat}
theorem gu {c : Nat} (h : c ∈ S.rowAt k) : ∃ xs, (k, xs) ∈ S.wt ∧ xs = S.rowAt k := by
 unfold St.rowAt at *;cases hf : S.wt.find? fun e => decide (e.1 = k) with
 | none => rw [hf] at h; simp at h
 | some e =>
   have h1 := List.mem_of_find?_eq_some hf;have h2 := List.find?_some hf;simp only [decide_eq_true_eq] at h2;subst h2;exact ⟨e.2, h1, rfl⟩
theorem dg (h : (S.wt.map (·.1)).Nodup) {xs : List Nat} (hm : (k, xs) ∈ S.wt) : S.rowAt k = xs := by
 obtain ⟨l1, ys, l2, hl, h1, h2⟩ := cK h (List.mem_map.2 ⟨_, hm, rfl⟩);have e1 : S.rowAt k = ys := by
   unfold St.rowAt;rw [hl, List.find?_append, List.find?_eq_none.2 fun e he => by simpa using h1 e he];simp
 rw [hl] at hm;rcases List.mem_append.1 hm with h3 | h3
 · exact absurd rfl (h1 _ h3)
 · rcases List.mem_cons.1 h3 with h4 | h4
   · rw [e1]; cases h4; rfl
   · exact absurd rfl (h2 _ h4)
theorem gV (h : ∀ e ∈ S.wt, e.1 ≠ k) : S.rowAt k = [] := by
 unfold St.rowAt;rw [List.find?_eq_none.2 fun e he => by simpa using h e he]; rfl
theorem mD (h : (S.wt.map (·.1)).Nodup) (k' : Nat × Nat) : (S.depart b k).rowAt k' = if k' = k then (S.rowAt k).filter (fun c => !decide (c = b)) else S.rowAt k' := by
 by_cases hk : k ∈ S.wt.map (·.1)
 · obtain ⟨l1, ys, l2, hl, h1, h2⟩ := cK h hk;have e0 : S.rowAt k = ys := dg h (by rw [hl]; simp);have e1 : (S.depart b k).wt = l1 ++ ((if (ys.filter fun c => !decide (c = b)).length = 0 then [] else [(k, ys.filter fun c => !decide (c = b))]) ++ l2) := by
     show departW b k S.wt = _;rw [hl, ko h1 h2]
   have f1 : l1.find? (fun e => decide (e.1 = k)) = none := List.find?_eq_none.2 fun e he => by simpa using h1 e he
   have f2 : l2.find? (fun e => decide (e.1 = k)) = none := List.find?_eq_none.2 fun e he => by simpa using h2 e he
   split
   · rename_i e; subst e;rw [e0];unfold St.rowAt;rw [e1, List.find?_append, f1, List.find?_append]
     split
     · rename_i hz;have hz' := List.length_eq_zero_iff.1 hz;rw [f2, hz']; rfl
     · simp
   · rename_i hne;unfold St.rowAt;rw [e1, hl, List.find?_append, List.find?_append, List.find?_append];have g1 : ∀ zs, ((k, zs) :: l2).find? (fun e => decide (e.1 = k')) = l2.find? (fun e => decide (e.1 = k')) := fun zs => by
       rw [List.find?_cons]; simp [Ne.symm hne]
     rw [g1]
     split
     · rfl
     · simp [Ne.symm hne]
 · have h0 : ∀ e ∈ S.wt, e.1 ≠ k := fun e he e1 => hk (List.mem_map.2 ⟨e, he, e1⟩);have e1 : S.depart b k = S := by unfold St.depart; rw [eq h0]; rfl
   rw [e1]
   split
   · rename_i e; rw [e, gV h0]; rfl
   · rfl
theorem qB : ∀ (vs : List Int) (x : PS) (i : Nat), (x.poke i vs).st = x.st ∧ (x.poke i vs).lv = x.lv ∧ (x.poke i vs).f = x.f ∧ (x.poke i vs).id = x.id ∧ (x.poke i vs).par = x.par
 | [], _, _ => ⟨rfl, rfl, rfl, rfl, rfl⟩
 | v :: vs, x, i => qB vs { x with m := put x.m i v } (i + 1)
theorem qC : ∀ (vs : List Int) (x : PS) (i : Nat), WF x → (∀ v ∈ vs, 0 ≤ v ∧ v < 256) → WF (x.poke i vs)
 | [], _, _, h, _ => h
 | v :: vs, x, i, h, hv => qC vs { x with m := put x.m i v } (i + 1) ⟨h.r, fun j hj => by
     show 0 ≤ put x.m i v j ∧ put x.m i v j < 256;unfold put; split
     · exact hv v (by simp)
     · exact h.m j hj⟩ fun w hw => hv w (by simp [hw])
theorem fN (h : WF x) {v : Int} (hv : 0 ≤ v ∧ v < 65536) : WF { x with r := put x.r 0 v } := ⟨fun j hj => by
 show 0 ≤ put x.r 0 v j ∧ put x.r 0 v j < 65536;unfold put; split
 · exact hv
 · exact h.r j hj, h.m⟩
theorem uy (i : Nat) : 0 ≤ ansOf i ∧ ansOf i < 65536 := by
 unfold ansOf
 repeat' split
 all_goals omega
theorem c9 (S : St) (x : PS) (k : Nat × Nat) : (S.carried x k).st = x.st ∧ (S.carried x k).lv = x.lv ∧ (S.carried x k).f = x.f ∧ (S.carried x k).id = x.id ∧ (S.carried x k).par = x.par := by
 unfold St.carried
 split
 · exact qB _ _ _
 · split <;> exact ⟨rfl, rfl, rfl, rfl, rfl⟩
theorem pu (h : Inv S) (hk : k.1 < 5) (hx : WF x) (ha : x.r 1 + x.r 2 ≤ 64) : WF (S.carried x k) := by
 unfold St.carried
 split
 · refine fN (qC _ _ _ hx fun v hv => h.yb _ hk v (List.mem_of_mem_take hv)) ⟨by omega, ?_⟩;have := h.y8 _ hk;have : (Nat.min (S.by_ k.1).length (x.r 2).toNat : Nat) ≤ (S.by_ k.1).length := Nat.min_le_left _ _;omega
 · split
   · exact fN hx (hx.r 2 (by omega))
   · exact fN hx (uy 7)
theorem fO (S : St) (b : Nat) (x : PS) (k : Nat × Nat) : ∃ ys, S.carry b x k = (S.setP b (S.carried x k)).setY k.1 ys ∧ (k.2 = 4 → ys = (S.by_ k.1).drop (Nat.min (S.by_ k.1).length (x.r 2).toNat)) ∧ (k.2 ≠ 4 → ys = if S.isOpen (otherE k) then S.by_ k.1 ++ x.peek (x.r 1).toNat (x.r 2).toNat else S.by_ k.1) := by
 unfold St.carry St.carried
 split
 · rename_i h; exact ⟨_, rfl, fun _ => rfl, fun hn => absurd h hn⟩
 · rename_i h
   split
   · exact ⟨_, rfl, fun h' => absurd h' h, fun _ => rfl⟩
   · refine ⟨S.by_ k.1, ?_, fun h' => absurd h' h, fun _ => rfl⟩;have : put S.by_ k.1 (S.by_ k.1) = S.by_ := by funext j; unfold put; split <;> simp_all
     show _ = { S.setP b _ with by_ := put S.by_ k.1 (S.by_ k.1) };rw [this]; rfl
theorem Inv.carry (h : Inv S) (hb : (b, x) ∈ S.ps) (ho : S.out b) (hk : k.1 < 5) (ha : x.r 1 + x.r 2 ≤ 64) (hc : S.canBeDone x k = true) : Inv (S.carry b x k) := by
 obtain ⟨ys, e, h4, h5⟩ := fO S b x k;obtain ⟨l1, l2, l3, _, _⟩ := c9 S x k;have hI := h.like hb ho l1 l2 (pu h hk (h.wf _ hb) ha) (by rw [l3]; exact h.fl _ hb);rw [e];have hy8 := h.y8 _ hk;have hyb := h.yb _ hk;have w2 : 0 ≤ x.r 2 ∧ x.r 2 < 65536 := (h.wf _ hb).r 2 (by omega);have w1 : 0 ≤ x.r 1 ∧ x.r 1 < 65536 := (h.wf _ hb).r 1 (by omega);refine hI.setY ?_ ?_
 · by_cases h44 : k.2 = 4
   · rw [h4 h44, List.length_drop]; omega
   · rw [h5 h44]
     split
     · rename_i ho;unfold St.canBeDone at hc;rw [if_pos ho, if_neg h44] at hc;simp only [decide_eq_true_eq] at hc;simp [PS.peek];omega
     · exact hy8
 · by_cases h44 : k.2 = 4
   · rw [h4 h44]; exact fun v hv => hyb v (List.mem_of_mem_drop hv)
   · rw [h5 h44]
     split
     · intro v hv;rcases List.mem_append.1 hv with h1 | h1
       · exact hyb v h1
       · unfold PS.peek at h1;obtain ⟨j, hj, rfl⟩ := List.mem_map.1 h1;simp at hj;exact (h.wf _ hb).m _ (by omega)
     · exact hyb
theorem iG (S : St) (b : Nat) (x : PS) (k : Nat × Nat) : (S.carry b x k).wt = S.wt := by
 obtain ⟨ys, e, _⟩ := fO S b x k;rw [e]; rfl
theorem eP (S : St) (b : Nat) (x : PS) (k : Nat × Nat) : (S.carry b x k).ps = (S.setP b (S.carried x k)).ps := by
 obtain ⟨ys, e, _⟩ := fO S b x k;rw [e]; rfl
theorem dS (hS : S.serve k = some S') : ∃ b x, b ∈ S.rowAt k ∧ (S.rowAt k).head? = some b ∧ (b, x) ∈ S.ps ∧ S.canBeDone x k = true ∧ S' = if x.st = 1 then (S.depart b k).carry b x k else ((S.depart b k).carry b x k).wake1 b (S.carried x k) := by
 unfold St.serve at hS
 split at hS
 · cases hS
 · rename_i b l hr
   split at hS
   · cases hS
   · rename_i x hx
     split at hS
     · rename_i hc;refine ⟨b, x, by rw [hr]; simp, by rw [hr]; rfl, bz hx, hc, ?_⟩;exact (Option.some.inj hS).symm
     · cases hS
theorem Inv.atRow (h : Inv S) {c : Nat} (hc : c ∈ S.rowAt k) (hb : (c, x) ∈ S.ps) : Asks x k ∧ okEnd k := by
 obtain ⟨xs, h1, h2⟩ := gu hc;exact ⟨h.row hb h1 (by rw [h2]; exact hc), h.ke _ h1⟩
theorem Inv.serve (h : Inv S) (hS : S.serve k = some S') : Inv S' := by
 obtain ⟨b, x, hm, _, hb, hc, rfl⟩ := dS hS;obtain ⟨ha, hk⟩ := h.atRow hm hb;have hd : Inv (S.depart b k) := h.depart;have ho : (S.depart b k).out b := by have := h.out_depart hb; rw [ha.f] at this; exact this
 have hI := Inv.carry hd (b := b) (x := x) (k := k) hb ho hk.1.2 ha.a hc
 split
 · exact hI
 · rename_i h1;refine hI.wake1 ?_ (by intro e he; exact ho e (by rw [iG] at he; exact he)) (by rw [(c9 S x k).1]; exact h1);rw [eP]; exact av hb
theorem ky (hS : S.serve k = some S') : ∃ b, (S.rowAt k).head? = some b ∧ S'.wt = (S.depart b k).wt := by
 obtain ⟨b, x, hm, hh, hb, hc, rfl⟩ := dS hS;refine ⟨b, hh, ?_⟩
 split
 · exact iG _ _ _ _
 · show ((S.depart b k).carry b x k).wt = _;exact iG _ _ _ _
theorem nR {S S' : St} (h : S'.wt = S.wt) (k : Nat × Nat) : S'.rowAt k = S.rowAt k := by unfold St.rowAt; rw [h]
theorem kz (h : Inv S) {p u : Nat} (hu : u = 4 ∨ u = 5) (hS : S.serve (p, u) = some S') : S'.meas p < S.meas p := by
 obtain ⟨b, hh, hw⟩ := ky hS;have e1 := nR hw (p, 4);have e2 := nR hw (p, 5);rw [mD h.kn] at e1 e2;have hlt : ((S.rowAt (p, u)).filter fun c => !decide (c = b)).length < (S.rowAt (p, u)).length := by
   rw [List.length_filter_lt_length_iff_exists];refine ⟨b, List.mem_of_head? hh, by simp⟩
 unfold St.meas;rw [e1, e2];rcases hu with rfl | rfl
 · rw [if_pos rfl, if_neg (by simp)]; omega
 · rw [if_pos rfl, if_neg (by simp)]; omega
theorem ly {c : Nat} (h : S.out c) (hS : S.serve k = some S') : S'.out c := by
 obtain ⟨b, hh, hw⟩ := ky hS;intro e he;rw [hw] at he;exact mC h e he
theorem rX {c : Nat} {y : PS} (h : Inv S) (ho : S.out c) (hc : (c, y) ∈ S.ps) (hS : S.serve k = some S') : (c, y) ∈ S'.ps := by
 obtain ⟨b, x, hm, hh, hb, hd, rfl⟩ := dS hS;have hne : c ≠ b := by
   rintro rfl;obtain ⟨xs, h1, h2⟩ := gu hm;exact ho _ h1 (by rw [h2]; exact hm)
 have stay : ∀ (T : St) (z : PS), (c, y) ∈ T.ps → (c, y) ∈ (T.setP b z).ps := fun T z hT => by
   simp only [St.setP, List.mem_map];exact ⟨(c, y), hT, by rw [if_neg hne]⟩
 split
 · rw [eP]; exact stay _ _ hc
 · show (c, y) ∈ (((S.depart b k).carry b x k).setP b _).ps;apply stay;rw [eP]; exact stay _ _ hc
theorem rY (hS : S.serve k = some S') : S'.ps.map (·.1) = S.ps.map (·.1) := by
 obtain ⟨b, x, hm, hh, hb, hd, rfl⟩ := dS hS;have e1 : ((S.depart b k).carry b x k).ps.map (·.1) = S.ps.map (·.1) := by rw [eP, aW]; rfl
 split
 · exact e1
 · show (((S.depart b k).carry b x k).setP b _).ps.map (·.1) = _;rw [aW, e1]
theorem qD (h : Inv S) (p : Nat) : S.meas p ≤ 16 := by
 have aux : ∀ k, (S.rowAt k).length ≤ 8 := fun k => by
   cases hr : S.rowAt k with
   | nil => simp
   | cons c l =>
     obtain ⟨xs, h1, h2⟩ := gu (S := S) (k := k) (c := c) (by rw [hr]; simp);have := h.w.rl _ h1;simp only at this;rw [h2, hr] at this;exact this
 have h1 := aux (p, 5);have h2 := aux (p, 4);unfold St.meas;omega
theorem pv {p : Nat} (h5 : S.serve (p, 5) = none) (h4 : S.serve (p, 4) = none) : ∀ n, St.looks n S p = S
 | 0 => rfl
 | n + 1 => by simp only [St.looks, h5, h4]
structure Looked (S S' : St) : Prop where
 i : Inv S'
 f : S'.ps.map (·.1) = S.ps.map (·.1)
 o : ∀ c, S.out c → S'.out c
 m : ∀ c y, S.out c → (c, y) ∈ S.ps → (c, y) ∈ S'.ps
theorem Inv.looks (p : Nat) : ∀ (n : Nat) {S : St}, Inv S → Looked S (St.looks n S p)
 | 0, S, h => ⟨h, rfl, fun _ h => h, fun _ _ _ h => h⟩
 | n + 1, S, h => by
   have go : ∀ {u : Nat} {S' : St}, S.serve (p, u) = some S' → Looked S (St.looks n S' p) := fun {u S'} hS => by
     have ih := Inv.looks p n (h.serve hS);exact ⟨ih.i, ih.f.trans (rY hS), fun c hc => ih.o c (ly hc hS), fun c y hc hy => ih.m c y (ly hc hS) (rX h hc hy hS)⟩
   unfold St.looks
   split
   · exact go ‹_›
   · split
     · exact go ‹_›
     · exact ⟨h, rfl, fun _ h => h, fun _ _ _ h => h⟩
theorem Inv.look (h : Inv S) (p : Nat) : Looked S (S.look p) := Inv.looks p 16 h
theorem kA (h : ∀ i, i < 6 → x.f i = (0, 0) ∨ okEnd (x.f i)) {n : Nat} {e : Nat × Nat} (he : e = (0, 0) ∨ okEnd e) : ∀ i, i < 6 → put x.f n e i = (0, 0) ∨ okEnd (put x.f n e i) := fun i hi => by
 unfold put; split
 · exact he
 · exact h i hi
theorem Inv.shut (h : Inv S) (hb : (b, x) ∈ S.ps) (ho : S.out b) (n : Nat) : Looked (S.setP b { x with f := put x.f n (0, 0) }) (S.shut b n) := by
 unfold St.shut;rw [bl h.g.pn hb];exact Inv.look (h.like (x' := { x with f := put x.f n (0, 0) }) hb ho rfl rfl ⟨(h.wf _ hb).r, (h.wf _ hb).m⟩ (kA (h.fl _ hb) (.inl rfl))) _
end
theorem wY : ∃ n, ∀ {σ} {F : Fam σ} {Δ : DM F} {main s} (K : Nat) (A : Lay) (S : St) (Fr L : Frag) (eb : Nat → Nat × Nat) (b : Nat) (x : PS) (k : Nat × Nat), (∀ cs, (Δ s).New (.cells cs 96)) → (∀ cs, (Δ s).New (.cells cs 210)) → Rep K A S Fr L → Ers eb Fr → (b, x) ∈ S.ps → WF x → k.2 ≠ 4 → x.r 1 + x.r 2 ≤ 64 → S.isOpen (otherE k) = false →
   CallsL Δ Tryz.prog main 166 [ptr K, ptr b, keyv k].toArray n s L (fun s' v L' => s = s' ∧ ∃ r, v = .iface 180 (ptr r) ∧ At L' r 1 (erv eb 7) ∧ Rep K A S Fr L') := by
 obtain ⟨n0, g0⟩ := mv;obtain ⟨n1, g1⟩ := iD;obtain ⟨n2, g2⟩ := nM;apply Exists.intro;intro σ F Δ main s K A S Fr L eb b x k hN hN2 hR hE hb hx hk4 hfc hop;have wx1 := hx.r 1 (by omega);have wx2 := hx.r 2 (by omega);have w1 : IntKind.i64.wrap (x.r 1) = x.r 1 := by simp [IntKind.wrap_i64]; omega
 have w2 : IntKind.i64.wrap (x.r 2) = x.r 2 := by simp [IntKind.wrap_i64]; omega
 have w3 : IntKind.i64.wrap (x.r 1 + x.r 2) = x.r 1 + x.r 2 := by simp [IntKind.wrap_i64]; omega
 co_applyP aB 100 Tryz.func166 Tryz.ntmps166;co_applyP aa;co_applyP bT rfl (cn (hN _));intro xk L1 hA1;have hR1 := hR.add hA1;have h1 : At L1 xk 1 (.int .i64 (k.2 : Nat)) := ⟨true, _, _, _, hA1.self, rfl⟩;have hx1 : At L1 b 8 (.int .u16 (x.r 1)) := hR1.pat hb (bg x (i := 1) (by omega));have hx2 : At L1 b 9 (.int .u16 (x.r 2)) := hR1.pat hb (bg x (i := 2) (by omega));have e4 : ((k.2 : Int) == 4) = false := by simp; omega
 co_applyP oan rfl;co_applyP aq;co_applyP bq aT;co_applyP tr 0 rfl ae pI;co_applyP tr 1 rfl aJ pI;co_applyP tr 2 rfl (au (hf := aC)) pI;co_applyP tr 3 rfl (au (hf := aS)) pI;co_applyP tr 4 rfl (aX U47 aZ) pI;co_applyP tr 5 rfl (aF (ht := cH)) pI;co_applyP tr 6 rfl (cp (hs := U32) (ht := U3)) pI;co_applyP tr 7 rfl ae pI;co_applyP tr 8 rfl aJ pI;co_applyP tr 9 rfl (au (hf := aC)) pI;co_applyP tr 10 rfl (au (hf := aS)) pI;co_applyP tr 11 rfl (aX U47 aZ) pI;co_applyP tr 12 rfl (aF (ht := cH)) pI;co_applyP tr 13 rfl (cp (hs := U32) (ht := U3)) pI;co_applyP tr 14 rfl bL pI;co_applyP tr 15 rfl bL pI;co_applyP td (by kernel_rfl);co_applyP aa;co_applyP om rfl rfl rfl aJ;co_applyP oy rfl (au (hf := gp));co_applyP om rfl rfl rfl ae;co_applyP om rfl rfl rfl aR;simp only [w1, w2, w3];co_applyP oy rfl (uv Tryz.underlying94 eJ);co_applyP oan rfl;co_applyP aq;co_applyP aa;co_applyP oy rfl (au (hf := iv));co_applyP oy rfl (aF (ht := aY));co_applyP oy rfl aA;co_applyP ah;change wpE ..;rw [e4];co_applyP ai rfl;co_applyP aD;co_applyP aq (n₂ := 0);co_applyP aa;co_applyP om rfl rfl rfl (ba (ht := bM) (hs := bh) (hm := hA1.self) (hi := Nat.le_refl _));co_applyP ocm rfl rfl rfl (g0 L1 k hN);rintro _ _ _ ⟨rfl, rfl, hE2⟩;rename_i L2;co_applyP oc rfl rfl rfl (g1 K A S Fr L2 (otherE k) hN (hR1.ext hE2));rintro _ _ _ ⟨rfl, rfl, hE3⟩;co_applyP oy rfl cN;co_applyP ah;change wpE ..;rename_i L3;have hR3 := (hR1.ext hE2).ext hE3;have hg := (hE.mono hR3.fr).g 7 (by decide) (by decide);rw [hop];co_applyP aQ rfl;co_applyP aa;co_applyP oy rfl (aF (ht := ci));co_applyP oc rfl rfl rfl (g2 L3 10 (eb 7) hN2);rintro _ _ _ ⟨rfl, r, rfl, hA4⟩;co_applyP oan rfl;co_applyP aK;change ∃ v, resE .. = some v ∧ _;exact ⟨_, rfl, rfl, r, rfl, ⟨true, _, _, _, hA4.self, rfl⟩, hR3.add hA4⟩
theorem w5 : ∃ n, ∀ {σ} {F : Fam σ} {Δ : DM F} {main s} (K : Nat) (A : Lay) (S : St) (Fr L : Frag) (b : Nat) (x : PS) (k : Nat × Nat), (∀ cs, (Δ s).New (.cells cs 96)) → (∀ cs, (Δ s).New (.cells cs 5)) → Rep K A S Fr L → (b, x) ∈ S.ps → WF x → k.1 < 5 → k.2 ≠ 4 → x.r 1 + x.r 2 ≤ 64 → (S.by_ k.1).length ≤ 8 → S.isOpen (otherE k) = true →
   CallsL Δ Tryz.prog main 166 [ptr K, ptr b, keyv k].toArray n s L (fun s' v L' => s = s' ∧ v = .nilIface ∧ ∃ A', YLay A A' ∧ Rep K A' (S.writeP b x k) Fr L') := by
 obtain ⟨n0, g0⟩ := mv;obtain ⟨n1, g1⟩ := iD;apply Exists.intro;intro σ F Δ main s K A S Fr L b x k hN hN5 hR hb hx hk5 hk4 hfc h8 hop;have wx1 := hx.r 1 (by omega);have wx2 := hx.r 2 (by omega);have w1 : IntKind.i64.wrap (x.r 1) = x.r 1 := by simp [IntKind.wrap_i64]; omega
 have w2 : IntKind.i64.wrap (x.r 2) = x.r 2 := by simp [IntKind.wrap_i64]; omega
 have w3 : IntKind.i64.wrap (x.r 1 + x.r 2) = x.r 1 + x.r 2 := by simp [IntKind.wrap_i64]; omega
 obtain ⟨base, cap, hv, _⟩ : ∃ base cap, slv (A.y k.1) (S.by_ k.1).length = .slice base (S.by_ k.1).length cap ∧ True := by
   obtain ⟨base, cap, h, _⟩ := bw (hR.ya k.1 hk5);simp only [List.length_map] at h;exact ⟨base, cap, h, trivial⟩
 co_applyP aB 100 Tryz.func166 Tryz.ntmps166;co_applyP aa;co_applyP bT rfl (cn (hN _));intro xk L1 hA1;have hR1 := hR.add hA1;have h1 : At L1 xk 1 (.int .i64 (k.2 : Nat)) := ⟨true, _, _, _, hA1.self, rfl⟩;have hx1 : At L1 b 8 (.int .u16 (x.r 1)) := hR1.pat hb (bg x (i := 1) (by omega));have hx2 : At L1 b 9 (.int .u16 (x.r 2)) := hR1.pat hb (bg x (i := 2) (by omega));have e4 : ((k.2 : Int) == 4) = false := by simp; omega
 have edl : (x.r 1 + x.r 2).toNat - (x.r 1).toNat = (x.r 2).toNat := by omega
 co_applyP oan rfl;co_applyP aq;co_applyP bq aT;co_applyP tr 0 rfl ae pI;co_applyP tr 1 rfl aJ pI;co_applyP tr 2 rfl (au (hf := aC)) pI;co_applyP tr 3 rfl (au (hf := aS)) pI;co_applyP tr 4 rfl (aX U47 aZ) pI;co_applyP tr 5 rfl (aF (ht := cH)) pI;co_applyP tr 6 rfl (cp (hs := U32) (ht := U3)) pI;co_applyP tr 7 rfl ae pI;co_applyP tr 8 rfl aJ pI;co_applyP tr 9 rfl (au (hf := aC)) pI;co_applyP tr 10 rfl (au (hf := aS)) pI;co_applyP tr 11 rfl (aX U47 aZ) pI;co_applyP tr 12 rfl (aF (ht := cH)) pI;co_applyP tr 13 rfl (cp (hs := U32) (ht := U3)) pI;co_applyP tr 14 rfl bL pI;co_applyP tr 15 rfl bL pI;co_applyP td (by kernel_rfl);co_applyP aa;co_applyP om rfl rfl rfl aJ;co_applyP oy rfl (au (hf := gp));co_applyP om rfl rfl rfl ae;co_applyP om rfl rfl rfl aR;simp only [w1, w2, w3];co_applyP oy rfl (uv Tryz.underlying94 eJ);co_applyP oan rfl;co_applyP aq;co_applyP aa;co_applyP oy rfl (au (hf := iv));co_applyP oy rfl (aF (ht := aY));co_applyP oy rfl aA;co_applyP ah;change wpE ..;rw [e4, edl];co_applyP ai rfl;co_applyP aD;co_applyP aq;co_applyP aa;co_applyP om rfl rfl rfl (ba (ht := bM) (hs := bh) (hm := hA1.self) (hi := Nat.le_refl _));co_applyP ocm rfl rfl rfl (g0 L1 k hN);rintro _ _ _ ⟨rfl, rfl, hE2⟩;rename_i L2;co_applyP oc rfl rfl rfl (g1 K A S Fr L2 (otherE k) hN (hR1.ext hE2));rintro _ _ _ ⟨rfl, rfl, hE3⟩;co_applyP oy rfl cN;co_applyP ah;change wpE ..;rename_i L3;have hR3 := (hR1.ext hE2).ext hE3;have hxk3 := hE3.s _ (hE2.s _ hA1.self);have h03 : At L3 xk 0 (.int .i64 (k.1 : Nat)) := ⟨true, _, _, _, hxk3, rfl⟩;have hky3 : At L3 K (10 + k.1) (.slice base (S.by_ k.1).length cap) := by rw [← hv]; exact hR3.kat (qz _ hk5)
 rw [hop];co_applyP ai rfl;co_applyP aD;co_applyP aq;obtain ⟨ys, hys⟩ : ∃ ys, ys = (x.peek (x.r 1).toNat (x.r 2).toNat).map fun v => Value.int .u8 v := ⟨_, rfl⟩;have hyl : ys.length = (x.r 2).toNat := by rw [hys]; simp [PS.peek]
 have hco : cutAt (0 + 15) (x.r 1).toNat 64 1 = if 64 = (x.r 1).toNat then 15 else 15 + (x.r 1).toNat := by unfold cutAt; split <;> omega
 have hrd : Reads Tryz.prog L3 1 ys.length (.slice (some ⟨b, cutAt (0 + 15) (x.r 1).toNat 64 1, none⟩) ys.length (64 - (x.r 1).toNat)) ys.toArray := by
   have h := cB (P := Tryz.prog) (sz := 1) (n := ys.length) (len := ys.length) (cap := 64 - (x.r 1).toNat) (o := cutAt (0 + 15) (x.r 1).toNat 64 1) (hR3.p _ hb) (by rw [bf, hco]; split <;> omega);have e : (pcells x).extract (cutAt (0 + 15) (x.r 1).toNat 64 1) (cutAt (0 + 15) (x.r 1).toNat 64 1 + ys.length * 1) = ys.toArray := by
     rw [hco]
     split
     · have h0 : (x.r 2).toNat = 0 := by omega
       have : ys = [] := List.length_eq_zero_iff.1 (by omega);rw [this];simp;omega
     · rw [Nat.mul_one, hyl, yr x (by omega), hys]
   rw [e] at h;exact h
 have hypl : ys.all plainV = true := by rw [hys, List.all_eq_true]; intro v hv; obtain ⟨w, _, rfl⟩ := List.mem_map.1 hv; rfl
 have hxm : ∀ (L : Frag), (xk, true, Obj.cells (keyv k).cells 96) ∈ L → ∀ t ∈ [(xk, true, Obj.cells (keyv k).cells 96)], t ∈ L := fun L h t ht => by simp only [List.mem_singleton] at ht; rw [ht]; exact h
 have tyy : ∀ {c : Nat} {fl : Bool} {o : Obj}, (c, fl, o) ∈ L3 → (∀ c', o ≠ Obj.cells c' 5) → (A.y k.1).b ≠ some c := fun hm ho hc => by
   obtain ⟨xs, hx'⟩ := hR3.yl _ _ hc;exact ho _ (hR3.fn _ _ _ _ _ hm hx').2
 have hyx := tyy hxk3 fun c => aE (by decide);have hyK := tyy hR3.k fun c => aE (by decide);co_applyP bi [(xk, true, Obj.cells (keyv k).cells 96)] 11 (nf := 0) aT;co_applyP tr 0 rfl ae (ak (hxm _ hxk3));co_applyP tr 1 rfl (au (hf := dU)) (ak (hxm _ hxk3));co_applyP tr 2 rfl (aF (ht := aY)) (ak (hxm _ hxk3));co_applyP tr 3 rfl ae (ak (hxm _ hxk3));co_applyP tr 4 rfl (au (hf := dU)) (ak (hxm _ hxk3));co_applyP t0 5 rfl (aF (ht := aY)) (ak (hxm _ hxk3));co_applyP tr 6 rfl aJ (ak (hxm _ hxk3));co_applyP tr 7 rfl (au (hf := eM)) (ak (hxm _ hxk3));co_applyP tr 8 rfl (aX o7 gK) (ak (hxm _ hxk3));co_applyP t0 9 rfl (aF (ht := qj)) (ak (hxm _ hxk3));co_applyP tr 10 rfl ae (ak (hxm _ hxk3));co_applyP tr 12 rfl aJ (ak (hxm _ hxk3));co_applyP tr 13 rfl (au (hf := eM)) (ak (hxm _ hxk3));co_applyP a0;intro hnd;co_applyP te (i := 11) rfl (AO (a := A.y k.1) (xs := (S.by_ k.1).map fun v => Value.int .u8 v) (ys := ys) (hx := by rw [List.length_map, hv]; rfl) (hy := by rw [hyl]; rfl) (hnd := hnd) (hN := hN5) (ha := hR3.ya k.1 hk5) (hr := hrd) (hpl := hypl) (h8 := by simp; omega) (h8' := by omega));rintro _ _ ⟨a', rfl, hp⟩;refine ⟨ay (hxm _ (hp.sub _ hxk3 hyx)), ?_⟩;rename_i L4;co_applyP to 14 rfl ((aX o7 gK)) (ay (hxm _ (hp.sub _ hxk3 hyx)));co_applyP a0;intro hnd';have hK4 := hp.sub _ hR3.k hyK;have hxKne : xk ≠ K := fun e => hA1.new _ hR.k e.symm;co_applyP te (i := 15) rfl (fq (hnd := hnd') (hm := hK4) (hi := by rw [bC]; omega) (hp := fi _ _) (hs := gK));rintro _ _ ⟨rfl, hU5⟩;refine ⟨ay (hxm _ (hU5.ne _ (hp.sub _ hxk3 hyx) hxKne)), ?_⟩;rename_i L5;co_applyP td (by kernel_rfl);co_applyP aq;have hR5 : Rep K (A.setY k.1 a') (S.setY k.1 (S.by_ k.1 ++ x.peek (x.r 1).toNat (x.r 2).toNat)) Fr L5 := by
   refine hR3.setBytes hk5 hU5.fn ?_ (fun t ht h1 h2 => hU5.ne _ (hp.sub _ ht h2) h1) ?_ (fun c hc => ?_)
   · show (K, true, Obj.cells (kcells _) 115) ∈ L5;have := hU5.self;rw [mA _ hk5] at this;rw [pt];have el : (S.by_ k.1 ++ x.peek (x.r 1).toNat (x.r 2).toNat).length = ((S.by_ k.1).map (fun v => Value.int .u8 v) ++ ys).length := by rw [hys]; simp
     rw [el];exact this
   · rw [List.map_append, ← hys];refine hp.ok.mono fun c hc o ho => hU5.ne _ ho fun e => ?_;rcases hp.d c hc with h | h
     · exact hyK (by rw [h]; exact congrArg some e)
     · exact h _ hR3.k e.symm
   · rcases hp.d c hc with h | h
     · exact .inl h
     · refine .inr ⟨fun j hj => ?_, fun t ht e => h _ (hR3.fr t ht) e⟩;obtain ⟨xs, hx'⟩ := hR3.yl j c hj;exact h _ hx' rfl
 have hb5 : (b, x) ∈ (S.setY k.1 (S.by_ k.1 ++ x.peek (x.r 1).toNat (x.r 2).toNat)).ps := hb;have hx25 : At L5 b 9 (.int .u16 (x.r 2)) := hR5.pat hb5 (bg x (i := 2) (by omega));co_applyP bi [] 11 (nf := 0) aT;co_applyP tr 0 rfl ae pN;co_applyP tr 1 rfl ae pN;co_applyP tr 2 rfl aJ pN;co_applyP tr 3 rfl (au (hf := aC)) pN;co_applyP tr 4 rfl (au (hf := aS)) pN;co_applyP tr 5 rfl (aX U47 aZ) pN;co_applyP t0 6 rfl (aF (ht := cH)) pN;co_applyP tr 7 rfl aJ pN;co_applyP tr 8 rfl (au (hf := aC)) pN;co_applyP tr 9 rfl (au (hf := aS)) pN;co_applyP tr 10 rfl (aX U47 aZ) pN;co_applyP a0;intro hnd6;co_applyP te (i := 11) rfl (fq (hnd := hnd6) (hm := hR5.p _ hb5) (hi := by rw [bf]; omega) (hs := aZ));rintro _ _ ⟨rfl, hU6⟩;refine ⟨ay (by simp), ?_⟩;co_applyP td (by kernel_rfl);co_applyP aa;co_applyP oan rfl;co_applyP aK;change ∃ v, resE .. = some v ∧ _;have h7 : (pcells x).setIfInBounds (7 + 0) (.int .u16 (x.r 2)) = pcells x.gave := by rw [dP _ (by omega)]; rfl
 refine ⟨_, rfl, rfl, rfl, A.setY k.1 a', ⟨rfl, ⟨rfl, rfl, rfl⟩, ⟨rfl, rfl, rfl⟩⟩, ?_⟩;exact hR5.setP hb5 (x' := x.gave) (h7 ▸ hU6)
theorem uz : ∃ n, ∀ {σ} {F : Fam σ} {Δ : DM F} {main s} (K : Nat) (A : Lay) (S : St) (Fr L : Frag) (b : Nat) (x : PS) (k : Nat × Nat), (∀ cs, (Δ s).New (.cells cs 96)) → (∀ cs, (Δ s).New (.cells cs 5)) → Rep K A S Fr L → (b, x) ∈ S.ps → WF x → k.1 < 5 → x.r 1 + x.r 2 ≤ 64 → (S.by_ k.1).length ≤ 8 → k.2 = 4 ∨ S.isOpen (otherE k) = true →
   CallsL Δ Tryz.prog main 166 [ptr K, ptr b, keyv k].toArray n s L (fun s' v L' => s = s' ∧ v = .nilIface ∧ ∃ A', Rep K A' (S.carry b x k) Fr L') := by
 obtain ⟨n0, g0⟩ := wX;obtain ⟨n2, g2⟩ := w5;refine ⟨n0 + n2, fun {σ F Δ main s} K A S Fr L b x k hN hN5 hR hb hx hk5 hfc h8 ho => aM (k.2 = 4) (fun h => ?_) fun h => ?_⟩
 · refine aO (g0 K A S Fr L b x k hN hR hb hx hk5 h hfc h8) fun s' v L' ⟨h1, h2, A', h3, h4⟩ => ⟨h1, h2, A', ?_⟩;unfold St.carry; rw [if_pos h]; exact h4
 · have ho' : S.isOpen (otherE k) = true := ho.resolve_left h;refine aO (g2 K A S Fr L b x k hN hN5 hR hb hx hk5 h hfc h8 ho') fun s' v L' ⟨h1, h2, A', h3, h4⟩ => ⟨h1, h2, A', ?_⟩;unfold St.carry; rw [if_neg h, if_pos ho']; exact h4
end Go.Proofs.YtejkelcaljmnoaaGreatDoor
