/-
  Part 31 of the proof.
  No condition but those that each statement names.
-/
import Derived.Test.YtejkelcaljmnoaaGreatDoorHy30
import Derived.Test.YtejkelcaljmnoaaGreatDoorHy10
import Derived.Test.YtejkelcaljmnoaaGreatDoorHy08
import Derived.Test.YtejkelcaljmnoaaGreatDoorHy13
import Derived.Test.YtejkelcaljmnoaaGreatDoorHy09
set_option maxRecDepth 100000
set_option linter.unusedVariables false
set_option linter.unusedSimpArgs false
set_option linter.unusedSectionVars false
namespace Go.Proofs.YtejkelcaljmnoaaGreatDoor
open Go.Conc Go.Hx Go.Lo
theorem shut_s : ∃ n, ∀ {σ : Type} {F : Fam σ} {Δ : ∀ s, Dom (F.R s) (F.D s)} {main : Bool} {s : σ} (K : Nat) (A : Lay) (S : St) (Fr L : Frag) (eb : Nat → Nat × Nat) (b : Nat) (x : PS) (j : Nat), (∀ s, NewK (Δ s)) → Rep K A S Fr L → Ers eb Fr → Inv S → (b, x) ∈ S.ps → S.out b → j < 6 →
   CallsL Δ Tryz.prog main 127 [ptr K, ptr b, .int .i64 (j : Nat)].toArray n s L (fun s' v L' => s = s' ∧ v = .tuple #[] ∧ ∃ A', Rep K A' (S.shut b j) Fr L') := by
 obtain ⟨n1, g1⟩ := look_s
 apply Exists.intro
 intro σ F Δ main s K A S Fr L eb b x j hN hR hE hI hb ho hj
 have hd := hI.like (x' := { x with f := put x.f j (0, 0) }) hb ho rfl rfl ⟨(hI.wf _ hb).r, (hI.wf _ hb).m⟩ (put_fl (hI.fl _ hb) (.inl rfl))
 have eo : 79 + j * 2 = 79 + 2 * j := by omega
 co_applyP callsE 23 Tryz.func127 Tryz.ntmps127
 co_applyP c_seq
 co_applyP c_region
 co_applyP oy rfl E_mv
 co_applyP oy rfl E_mv
 co_applyP oy rfl E_nc
 co_applyP oy rfl (E_fa (hf := fo_99_2))
 co_applyP oy rfl (E_ixa Tryz.underlying97 sz_96)
 co_applyP oy rfl (E_lda (ht := ag_96) (hs := sz_96) (hm := hR.p _ hb) (hi := by rw [psize]; omega))
 co_applyP oadd rfl (O_new (z := keyv (0, 0)) ((hN _).k _))
 intro nb L1 hA1
 co_applyP oeN rfl (fun hnd => O_sa (hs := sz_96) (vs := [.int .i64 (x.f j).1, .int .i64 (x.f j).2]) (hy := by rw [eo, pext_f x hj]; rfl) (hnd := hnd) (hm := hA1.self) (hi := Nat.le_refl _))
 rintro _ L2 ⟨rfl, hU2⟩
 co_applyP o_nil
 change wpE ..
 co_applyP c_seq
 co_applyP c_region
 co_applyP oy rfl E_mv
 co_applyP oy rfl E_mv
 have hR2 := hR.fresh (L' := L2) ⟨hU2.fn, fun t ht => hU2.ne _ (hA1.sub _ ht) (hA1.new _ ht)⟩ hA1.new hU2.self
 co_applyP oy rfl (E_build bld96)
 co_applyP oy rfl E_nc
 co_applyP oy rfl (E_fa (hf := fo_99_2))
 co_applyP oy rfl (E_ixa Tryz.underlying97 sz_96)
 co_applyP oeN rfl (fun hnd => O_sa (hs := sz_96) (vs := [.int .i64 (0 : Nat), .int .i64 (0 : Nat)]) (hnd := hnd) (hm := hR2.p _ hb) (hi := by rw [psize]; simp; omega))
 rintro _ L3 ⟨rfl, hU3⟩
 rw [eo, pset_f x hj (0, 0)] at hU3
 have hR3 := hR2.setP hb (x' := { x with f := put x.f j (0, 0) }) hU3
 have h0 : At L3 nb 0 (.int .i64 ((x.f j).1 : Nat)) := ⟨true, _, _, _, hR3.fr _ List.mem_cons_self, rfl⟩
 co_applyP o_nil
 change wpE ..
 co_applyP c_region
 co_applyP oy rfl E_mv
 co_applyP oy rfl (E_fa (hf := fo_96_0))
 co_applyP oy rfl (E_ld (ht := ag_3))
 co_applyP oc rfl rfl rfl (g1 K A _ _ L3 eb (x.f j).1 hN hR3 (hE.mono fun t ht => List.mem_cons_of_mem _ ht) hd)
 rintro _ _ _ ⟨rfl, rfl, A4, hR4⟩
 co_applyP o_nil
 change ∃ v, resE .. = some v ∧ _
 refine ⟨_, rfl, rfl, rfl, A4, ?_⟩
 unfold St.shut
 rw [get_of hI.g.pn hb]
 exact hR4.less fun t ht => List.mem_cons_of_mem _ ht
def filesv (f : Nat → Nat × Nat) : Value := .agg #[.int .i64 (f 0).1, .int .i64 (f 0).2, .int .i64 (f 1).1, .int .i64 (f 1).2, .int .i64 (f 2).1, .int .i64 (f 2).2, .int .i64 (f 3).1, .int .i64 (f 3).2, .int .i64 (f 4).1, .int .i64 (f 4).2, .int .i64 (f 5).1, .int .i64 (f 5).2]
theorem pext_files (x : PS) : Value.agg ((pcells x).extract 79 91) = filesv x.f := by rfl
theorem idx97 (f : Nat → Nat × Nat) {i : Nat} (hi : i < 6) : evR Tryz.prog (Instr.index 97 (filesv f) (.int .i64 (i : Nat))) [] = some (keyv (f i), []) := by
 have : i = 0 ∨ i = 1 ∨ i = 2 ∨ i = 3 ∨ i = 4 ∨ i = 5 := by omega
 rcases this with rfl | rfl | rfl | rfl | rfl | rfl
 · show evR Tryz.prog (Instr.index 97 (filesv f) (.int .i64 ((0 : Nat) : Int))) [] = some (keyv (f 0), [])
   kernel_rfl
 · show evR Tryz.prog (Instr.index 97 (filesv f) (.int .i64 ((1 : Nat) : Int))) [] = some (keyv (f 1), [])
   kernel_rfl
 · show evR Tryz.prog (Instr.index 97 (filesv f) (.int .i64 ((2 : Nat) : Int))) [] = some (keyv (f 2), [])
   kernel_rfl
 · show evR Tryz.prog (Instr.index 97 (filesv f) (.int .i64 ((3 : Nat) : Int))) [] = some (keyv (f 3), [])
   kernel_rfl
 · show evR Tryz.prog (Instr.index 97 (filesv f) (.int .i64 ((4 : Nat) : Int))) [] = some (keyv (f 4), [])
   kernel_rfl
 · show evR Tryz.prog (Instr.index 97 (filesv f) (.int .i64 ((5 : Nat) : Int))) [] = some (keyv (f 5), [])
   kernel_rfl
theorem E_idx {N : Nat} {ε : Env} {L : Frag} {d : Option Tmp} {ty : TypeId} {ps : String} {af : Array Edge} {g : Option (Nat × Bool)} {x ix : Operand} {t : TypeId} {w j v : Value} (hv : evR Tryz.prog (Instr.index t w j) [] = some (v, [])) (hx : ev ε x = some w := by rfl) (hy : ev ε ix = some j := by rfl) : EY Tryz.prog N ε L ⟨d, .index t x ix, ty, ps, af, g⟩ v := fun a ha => by
 refine y_of (fun _ => rfl) fun K hK => ?_
 rw [ha.ev hx, ha.ev hy]
 exact wpQ_ev0 hv hK
structure Shutting (b : Nat) (x : PS) (S S' : St) : Prop where
 i : Inv S'
 f : S'.ps.map (·.1) = S.ps.map (·.1)
 o : S'.out b
 m : ∃ f', (b, { x with f := f' }) ∈ S'.ps
theorem Shutting.step {b : Nat} {x : PS} {S S' : St} (h : Shutting b x S S') (n : Nat) : Shutting b x S (S'.shut b n) := by
 obtain ⟨f', hm⟩ := h.m
 have hl := h.i.shut hm h.o n
 exact ⟨hl.i, by rw [hl.f, setP_fst]; exact h.f, hl.o b h.o, put f' n (0, 0), hl.m b _ h.o (mem_setP_self hm)⟩
theorem Shutting.all {b : Nat} {x : PS} {S : St} (f : Nat → Nat × Nat) : ∀ (ns : List Nat) {S' : St}, Shutting b x S S' → Shutting b x S (S'.shuts b f ns)
 | [], _, h => h
 | n :: ns, S', h => by
   show Shutting b x S ((if f n = (0, 0) then S' else S'.shut b n).shuts b f ns)
   split
   · exact Shutting.all f ns h
   · exact Shutting.all f ns (h.step n)
theorem shutAll_s : ∃ n, ∀ {σ : Type} {F : Fam σ} {Δ : ∀ s, Dom (F.R s) (F.D s)} {main : Bool} {s : σ} (K : Nat) (A : Lay) (S : St) (Fr L : Frag) (eb : Nat → Nat × Nat) (b : Nat) (x : PS), (∀ s, NewK (Δ s)) → Rep K A S Fr L → Ers eb Fr → Inv S → (b, x) ∈ S.ps → S.out b →
   CallsL Δ Tryz.prog main 108 [ptr K, ptr b].toArray n s L (fun s' v L' => s = s' ∧ v = .tuple #[] ∧ ∃ A', Rep K A' (S.shuts b x.f (List.range' 0 6)) Fr L') := by
 obtain ⟨n1, g1⟩ := isNone_s
 obtain ⟨n2, g2⟩ := shut_s
 apply Exists.intro
 intro σ F Δ main s K A S Fr L eb b x hN hR hE hI hb ho
 co_applyP callsE 22 Tryz.func108 Tryz.ntmps108
 co_applyP c_seq
 co_applyP c_region
 co_applyP oy rfl E_mv
 co_applyP oy rfl E_nc
 co_applyP oy rfl (E_fa (hf := fo_99_2))
 co_applyP oy rfl (E_lda (ht := ag_97) (hs := sz_97) (hm := hR.p _ hb) (hi := by rw [psize]; omega))
 co_applyP oy rfl E_mv
 co_applyP o_nil
 change wpE ..
 co_applyP c_block
 rw [show (0 + 79 : Nat) = 79 from rfl, show (79 + 12 : Nat) = 91 from rfl, pext_files]
 co_applyP c_loop (fun c s' ε' L' => s' = s ∧ ∃ A' S' i, i ≤ 6 ∧ c + i = 6 ∧ Rep K A' S' Fr L' ∧ Shutting b x S S' ∧ S'.shuts b x.f (List.range' i (6 - i)) = S.shuts b x.f (List.range' 0 6) ∧ kn ε' [(0, ptr K), (1, ptr b), (9, filesv x.f), (10, .int .i64 (i : Nat))]) 6
 · exact ⟨rfl, A, S, 0, by omega, rfl, hR, ⟨hI, rfl, ho, x.f, hb⟩, rfl, rfl⟩
 rintro c s' ε' L' ⟨rfl, A', S', i, hi, hc, hR', hS', hsh, he⟩
 co_applyP wpE_kn he
 have ei : IntKind.i64.wrap ((i : Int) + 1) = ((i + 1 : Nat) : Int) := by simp [IntKind.wrap_i64]; omega
 co_applyP c_seq
 co_applyP c_region
 co_applyP oy rfl E_lss
 co_applyP o_nil
 change wpE ..
 co_applyP c_seq
 co_applyP c_if rfl
 intro hlt
 · have hi6 : i < 6 := by simp at hlt; omega
   have e6 : List.range' i (6 - i) = i :: List.range' (i + 1) (6 - (i + 1)) := by
     rw [show 6 - i = (6 - (i + 1)) + 1 by omega, List.range'_succ]
   rw [e6] at hsh
   co_applyP c_skip
   change wpE ..
   co_applyP c_seq
   co_applyP c_block
   co_applyP c_seq
   co_applyP c_region
   co_applyP oy rfl E_mv
   co_applyP oy rfl (E_idx (idx97 x.f hi6))
   co_applyP oadd rfl (O_new (z := keyv (0, 0)) ((hN _).k _))
   intro nb L1 hA1
   co_applyP oy rfl E_as
   co_applyP oeN rfl (fun hnd => O_sa (hs := sz_96) (vs := [.int .i64 (x.f i).1, .int .i64 (x.f i).2]) (hnd := hnd) (hm := hA1.self) (hi := Nat.le_refl _))
   rintro _ L2 ⟨rfl, hU2⟩
   co_applyP o_nil
   change wpE ..
   co_applyP c_seq
   co_applyP c_region
   have hR2 := hR'.of hU2.fn (fun t ht => hU2.ne _ (hA1.sub _ ht) (hA1.new _ ht))
   co_applyP oy rfl (E_lda (ht := ag_96) (hs := sz_96) (hm := hU2.self) (hi := Nat.le_refl _))
   co_applyP oc rfl rfl rfl (g1 L2 (x.f i) (hN _).k)
   rintro _ _ _ ⟨rfl, rfl, hE3⟩
   co_applyP oy rfl E_not
   co_applyP o_nil
   change wpE ..
   have hR3 := hR2.ext hE3
   co_applyP c_if rfl
   intro hz
   co_applyP c_region
   co_applyP oy rfl E_mv
   co_applyP oy rfl E_mv
   co_applyP oy rfl E_mv
   · have hz' : ¬ x.f i = (0, 0) := by simpa using hz
     obtain ⟨f', hm'⟩ := hS'.m
     co_applyP oc rfl rfl rfl (g2 K A' S' Fr _ eb b _ i hN hR3 hE hS'.i hm' hS'.o hi6)
     rintro _ _ _ ⟨rfl, rfl, A4, hR4⟩
     co_applyP o_nil
     change wpE ..
     co_applyP c_region
     co_applyP oy rfl E_add
     co_applyP oy rfl E_mv
     co_applyP o_nil
     change ∃ k', k' < _ ∧ _
     refine ⟨c - 1, by omega, rfl, A4, _, i + 1, by omega, by omega, hR4, hS'.step i, ?_, by rw [← ei]; rfl⟩
     rw [← hsh]
     show _ = (if x.f i = (0, 0) then S' else S'.shut b i).shuts b x.f _
     rw [if_neg hz']
   intro hz
   co_applyP c_skip
   change wpE ..
   co_applyP c_region
   co_applyP oy rfl E_add
   co_applyP oy rfl E_mv
   co_applyP o_nil
   change ∃ k', k' < _ ∧ _
   have hz' : x.f i = (0, 0) := by simpa using hz
   refine ⟨c - 1, by omega, rfl, A', S', i + 1, by omega, by omega, hR3, hS', ?_, by rw [← ei]; rfl⟩
   rw [← hsh]
   show _ = (if x.f i = (0, 0) then S' else S'.shut b i).shuts b x.f _
   rw [if_pos hz']
 intro hlt
 co_applyP c_exit
 change ∃ v, resE .. = some v ∧ _
 have hi6 : i = 6 := by simp at hlt; omega
 subst hi6
 refine ⟨_, rfl, rfl, rfl, A', ?_⟩
 rw [← hsh]
 exact hR'
end Go.Proofs.YtejkelcaljmnoaaGreatDoor
namespace Go.Lo
open Go.Conc Go.Hx
structure OldW (W : World) (O : Nat) (w : World) : Prop where
 t : w.tape = W.tape
 o : w.os = W.os
 u : w.output = W.output
 z : O ≤ w.heap.size
 b : ∀ x, x < O → w.heap[x]? = W.heap[x]?
theorem upd_get {w : World} {b x : Nat} {o : Obj} (h : x ≠ b) : (upd w b o).heap[x]? = w.heap[x]? := by simp [upd, Array.getElem?_setIfInBounds, Ne.symm h]
theorem upd_self {w : World} {b : Nat} {o : Obj} (h : b < w.heap.size) : (upd w b o).heap[b]? = some o := by simp [upd, h]
theorem more_get {w : World} {x : Nat} {o : Obj} (h : x ≠ w.heap.size) : (more w o).heap[x]? = w.heap[x]? := by
 show (w.heap.push o)[x]? = w.heap[x]?
 rw [Array.getElem?_push, if_neg h]
theorem more_self {w : World} {o : Obj} : (more w o).heap[w.heap.size]? = some o := by
 show (w.heap.push o)[w.heap.size]? = some o
 simp
theorem OldW.upd {W : World} {O : Nat} {w : World} (h : OldW W O w) {b : Nat} (hb : O ≤ b) (o : Obj) : OldW W O (upd w b o) :=
 ⟨h.t, h.o, h.u, by simpa [Lo.upd] using h.z, fun x hx => by rw [← h.b x hx]; simp [Lo.upd, Array.getElem?_setIfInBounds, show b ≠ x by omega]⟩
theorem OldW.more {W : World} {O : Nat} {w : World} (h : OldW W O w) (o : Obj) : OldW W O (more w o) :=
 ⟨h.t, h.o, h.u, by have := h.z; simp [Lo.more]; omega, fun x hx => by rw [← h.b x hx]; have := h.z; exact more_get (by omega)⟩
theorem OldW.drew {W : World} {O : Nat} {w : World} (h : OldW W O w) : OldW W O (drew w) := ⟨h.t, h.o, h.u, h.z, h.b⟩
theorem fits_ev {o o' : Obj} {ety : TypeId} (h : fits o o' = true) : isEv ety o' = isEv ety o := by
 cases o <;> cases o' <;> simp_all [fits, isEv, thing]
theorem map_set_fst {L : Frag} {n b : Nat} {fl : Bool} {o o' : Obj} (hn : L[n]? = some (b, fl, o)) : (L.set n (b, fl, o')).map (·.1) = L.map (·.1) := by
 apply List.ext_getElem?
 intro i
 simp only [List.getElem?_map, List.getElem?_set]
 split
 · rename_i e; subst e
   obtain ⟨hlt, he⟩ := List.getElem?_eq_some_iff.1 hn
   simp [hlt, he]
 · rfl
theorem mem_set_cases {L : Frag} {n b : Nat} {fl : Bool} {o o' : Obj} (hd : (L.map (·.1)).Nodup) (hn : L[n]? = some (b, fl, o)) {t : Nat × Bool × Obj} (ht : t ∈ L.set n (b, fl, o')) : t = (b, fl, o') ∨ (t ∈ L ∧ t.1 ≠ b) := by
 obtain ⟨i, hi⟩ := List.getElem?_of_mem ht
 rw [List.getElem?_set] at hi
 split at hi
 · split at hi
   · left; simpa using hi.symm
   · cases hi
 · rename_i hne
   right
   refine ⟨List.mem_of_getElem? hi, fun e => hne ?_⟩
   have h1 : (L.map (·.1))[i]? = some t.1 := by simp [hi]
   have h2 : (L.map (·.1))[n]? = some b := by simp [hn]
   obtain ⟨hl1, he1⟩ := List.getElem?_eq_some_iff.1 h1
   obtain ⟨hl2, he2⟩ := List.getElem?_eq_some_iff.1 h2
   rcases Nat.lt_trichotomy n i with g | g | g
   · exact absurd (he2.trans (e.symm.trans he1.symm)) (List.pairwise_iff_getElem.1 hd n i hl2 hl1 g)
   · exact g
   · exact absurd (he1.trans (e.trans he2.symm)) (List.pairwise_iff_getElem.1 hd i n hl1 hl2 g)
theorem mark_touch {m : Mark} (hm : okMark m = true) : (MemAct.ofEvent ⟨.mark m, false, true⟩).touch? = none ∧ m ≠ .disable ∧ m ≠ .enable := by
 cases m with
 | noRoom => exact ⟨rfl, nofun, nofun⟩
 | extern f => exact ⟨rfl, nofun, nofun⟩
 | _ => cases hm
structure OwnW (p : Par) (Sh : Loc → Prop) (E Dn : Nat) (W : World) (O : Nat) (L : Frag) (w : World) : Prop where
 has : ∀ t ∈ L, w.heap[t.1]? = some t.2.2
 ap : ∀ t ∈ L, t.1 ≠ E ∧ t.1 ≠ Dn ∧ (∀ l, blk l = some t.1 → ¬ Sh l) ∧ (isEv p.ety t.2.2 = true → t.1 < p.N0)
 own : ∀ t ∈ L, t.2.1 = true → O ≤ t.1 ∧ ∀ l, blk l = some t.1 → ¬ p.Still l
 nd : (L.map (·.1)).Nodup
 sz : p.N0 ≤ w.heap.size
 old : OldW W O w
 sh : ShOk p Sh
 hE : E < p.N0 ∧ Dn < p.N0
 oo : O ≤ E ∧ O ≤ Dn ∧ O ≤ p.N0
section
variable {p : Par} {Sh : Loc → Prop} {E Dn : Nat} {W : World} {O : Nat} {L : Frag} {w w₁ : World}
theorem OwnW.notFA (h : OwnW p Sh E Dn W O L w) {b : Nat} {fl : Bool} {o : Obj} (hm : (b, fl, o) ∈ L) : ¬ FA p w b := by
 rintro ⟨h1, o', ho', hi⟩
 have := h.has _ hm
 have h2 := (h.ap _ hm).2.2.2
 simp only at this h2
 rw [this] at ho'
 cases ho'
 exact absurd (h2 hi) (by omega)
theorem OwnW.lt (h : OwnW p Sh E Dn W O L w) {b : Nat} {fl : Bool} {o : Obj} (hm : (b, fl, o) ∈ L) : b < w.heap.size := (Array.getElem?_eq_some_iff.1 (h.has _ hm)).1
theorem OwnW.rely (h : OwnW p Sh E Dn W O L w) (r : RB p E Dn w w₁) : OwnW p Sh E Dn W O L w₁ :=
 { h with
   has := fun t ht => (r.block t.1 (h.lt (fl := t.2.1) (o := t.2.2) ht) (h.notFA (fl := t.2.1) (o := t.2.2) ht) (h.ap t ht).1 (h.ap t ht).2.1).trans (h.has t ht)
   sz := Nat.le_trans h.sz r.kept.size
   old := ⟨r.tape.trans h.old.t, r.os.trans h.old.o, r.output.trans h.old.u, Nat.le_trans h.old.z r.kept.size, fun x hx => by
     have h1 := h.oo
     have h2 := h.sz
     exact (r.block x (by omega) (fun f => by have := f.1; omega) (by omega) (by omega)).trans (h.old.b x hx)⟩ }
theorem fa_upd {b : Nat} {o o' : Obj} (hb : w.heap[b]? = some o) (hf : fits o o' = true) (x : Nat) : FA p (upd w b o') x ↔ FA p w x := by
 by_cases e : x = b
 · subst e
   have hlt := (Array.getElem?_eq_some_iff.1 hb).1
   unfold FA
   rw [upd_self hlt, hb]
   simp [fits_ev (ety := p.ety) hf]
 · unfold FA; rw [upd_get e]
theorem fa_more {o : Obj} (ho : isEv p.ety o = false) (x : Nat) : FA p (more w o) x ↔ FA p w x := by
 by_cases e : x = w.heap.size
 · subst e
   unfold FA
   rw [more_self]
   simp [ho]
 · unfold FA; rw [more_get e]
theorem OwnW.set (h : OwnW p Sh E Dn W O L w) {n b : Nat} {o o' : Obj} (hn : L[n]? = some (b, true, o)) (hf : fits o o' = true) :
   OwnW p Sh E Dn W O (L.set n (b, true, o')) (upd w b o') ∧ (RA p w (upd w b o') ∧ (upd w b o').heap[E]? = w.heap[E]? ∧ (upd w b o').heap[Dn]? = w.heap[Dn]?) ∧ (∀ i, EvB p Sh (upd w b o') ⟨.cell ⟨b, i, none⟩, true, false⟩) ∧ EvB p Sh (upd w b o') ⟨.obj b, true, false⟩ := by
 have hm := List.mem_of_getElem? hn
 have hb : w.heap[b]? = some o := h.has _ hm
 have hlt := h.lt hm
 obtain ⟨a1, a2, a3, a4⟩ := h.ap _ hm
 obtain ⟨o1, o2⟩ := h.own _ hm rfl
 have hO : OwnW p Sh E Dn W O (L.set n (b, true, o')) (upd w b o') :=
   { h with
     has := fun t ht => by
       rcases mem_set_cases h.nd hn ht with rfl | ⟨h1, h2⟩
       · exact upd_self hlt
       · rw [upd_get h2]; exact h.has t h1
     ap := fun t ht => by
       rcases mem_set_cases h.nd hn ht with rfl | ⟨h1, h2⟩
       · exact ⟨a1, a2, a3, fun e => a4 (by rw [fits_ev hf] at e; exact e)⟩
       · exact h.ap t h1
     own := fun t ht hfl => by
       rcases mem_set_cases h.nd hn ht with rfl | ⟨h1, h2⟩
       · exact ⟨o1, o2⟩
       · exact h.own t h1 hfl
     nd := by rw [map_set_fst hn]; exact h.nd
     sz := by simpa [upd] using h.sz
     old := h.old.upd o1 o' }
 have hnf : ¬ FA p (upd w b o') b := fun f => h.notFA hm ((fa_upd hb hf b).1 f)
 refine ⟨hO, ⟨⟨rfl, rfl, rfl, ⟨by simp [upd], fun x f => (fa_upd hb hf x).2 f, fun x _ nf f => nf ((fa_upd hb hf x).1 f)⟩, fun x f => upd_get fun e => h.notFA hm (e ▸ f), fun x cs ty fl hs hx => (upd_get fun e => ?_).trans hx⟩, upd_get (Ne.symm a1), upd_get (Ne.symm a2)⟩, fun i => ?_, ?_⟩
 · obtain ⟨j, hj⟩ := hs
   exact o2 _ (by rw [← e]; rfl) hj
 · refine ⟨fun x hx _ => ?_, by simp, by simp⟩
   simp only [MemAct.ofEvent, MemAct.touch?, Option.some.injEq] at hx
   subst hx
   exact ⟨⟨b, rfl, by simpa [upd] using hlt, hnf⟩, fun s => absurd s (a3 _ rfl), fun s => absurd s (o2 _ rfl)⟩
 · refine ⟨fun x hx _ => ?_, by simp, by simp⟩
   simp only [MemAct.ofEvent, MemAct.touch?, Option.some.injEq] at hx
   subst hx
   exact ⟨⟨b, rfl, by simpa [upd] using hlt, hnf⟩, fun s => absurd s (a3 _ rfl), fun s => absurd s (o2 _ rfl)⟩
theorem OwnW.new (h : OwnW p Sh E Dn W O L w) {o : Obj} (ho : isEv p.ety o = false) :
   (∀ t ∈ L, t.1 ≠ w.heap.size) ∧ OwnW p Sh E Dn W O ((w.heap.size, true, o) :: L) (more w o) ∧ (RA p w (more w o) ∧ (more w o).heap[E]? = w.heap[E]? ∧ (more w o).heap[Dn]? = w.heap[Dn]?) := by
 have hne : ∀ t ∈ L, t.1 ≠ w.heap.size := fun t ht => Nat.ne_of_lt (h.lt (fl := t.2.1) (o := t.2.2) ht)
 have h1 := h.sz
 have h2 := h.hE
 have h3 := h.oo
 refine ⟨hne, { h with
     has := fun t ht => by
       rcases List.mem_cons.1 ht with rfl | ht
       · exact more_self
       · rw [more_get (hne t ht)]; exact h.has t ht
     ap := fun t ht => by
       rcases List.mem_cons.1 ht with rfl | ht
       · exact ⟨by show w.heap.size ≠ E; omega, by show w.heap.size ≠ Dn; omega, fun l hl s => by have := h.sh.low l _ s hl; simp only at this; omega, fun e => by simp only [ho] at e; cases e⟩
       · exact h.ap t ht
     own := fun t ht hfl => by
       rcases List.mem_cons.1 ht with rfl | ht
       · exact ⟨by show O ≤ w.heap.size; omega, fun l hl s => by have := h.sh.st l _ s hl; simp only at this; omega⟩
       · exact h.own t ht hfl
     nd := by
       simp only [List.map_cons, List.nodup_cons]
       exact ⟨fun hm => by obtain ⟨t, ht, e⟩ := List.mem_map.1 hm; exact hne t ht e, h.nd⟩
     sz := by simp [more]; omega
     old := h.old.more o }, ⟨⟨rfl, rfl, rfl, ⟨by simp [more], fun x f => (fa_more ho x).2 f, fun x _ nf f => nf ((fa_more ho x).1 f)⟩, fun x f => more_get (Nat.ne_of_lt f.lt), fun x cs ty fl _ hx => (more_get (Nat.ne_of_lt (Array.getElem?_eq_some_iff.1 hx).1)).trans hx⟩, more_get (by omega), more_get (by omega)⟩⟩
theorem OwnW.draw (h : OwnW p Sh E Dn W O L w) : OwnW p Sh E Dn W O L (drew w) := { h with old := h.old.drew }
def domW (p : Par) (Sh : Loc → Prop) (E Dn : Nat) (W : World) (O : Nat) : Dom (RB p E Dn) (DT p Sh E Dn) where
 New o := isEv p.ety o = false
 Own := OwnW p Sh E Dn W O
 Gu w w' := RA p w w' ∧ w'.heap[E]? = w.heap[E]? ∧ w'.heap[Dn]? = w.heap[Dn]?
 Ev := EvB p Sh
 gr w := ⟨RA.refl p w, rfl, rfl⟩
 gt h k := ⟨RA.trans _ _ _ h.1 k.1, k.2.1.trans h.2.1, k.2.2.trans h.2.2⟩
 em h k := ⟨fun x hx hm => ⟨(k.1 x hx hm).1.kept h.1.kept, (k.1 x hx hm).2⟩, k.2⟩
 dd h k := ⟨h.1, h.2.1, h.2.2, k⟩
 rely h r := h.rely r
 has h hm := h.has _ hm
 evc h hm i := by
   refine ⟨fun x hx _ => ?_, by simp, by simp⟩
   simp only [MemAct.ofEvent, MemAct.touch?, Option.some.injEq] at hx
   subst hx
   exact ⟨⟨_, rfl, h.lt hm, h.notFA hm⟩, fun s => absurd s ((h.ap _ hm).2.2.1 _ rfl), fun _ => rfl⟩
 evo h hm := by
   refine ⟨fun x hx _ => ?_, by simp, by simp⟩
   simp only [MemAct.ofEvent, MemAct.touch?, Option.some.injEq] at hx
   subst hx
   exact ⟨⟨_, rfl, h.lt hm, h.notFA hm⟩, fun s => absurd s ((h.ap _ hm).2.2.1 _ rfl), fun _ => rfl⟩
 set h hn hf := h.set hn hf
 new h ho := h.new ho
 draw h := ⟨h.draw, ⟨RA.at p _ _, rfl, rfl⟩⟩
 nor w m hm := by
   obtain ⟨h1, h2, h3⟩ := mark_touch hm
   exact ⟨fun x hx => (by rw [h1] at hx; cases hx), by simpa using h2, by simpa using h3⟩
 sub h hs hn := { h with has := fun t ht => h.has t (hs t ht), ap := fun t ht => h.ap t (hs t ht), own := fun t ht => h.own t (hs t ht), nd := hn }
 nd h := h.nd
 ld w := ⟨RA.at p w (w.drawn + 1), rfl, rfl, by simp⟩
end
structure Own0 (Sh : Loc → Prop) (W : World) (O : Nat) (L : Frag) (w : World) : Prop where
 has : ∀ t ∈ L, w.heap[t.1]? = some t.2.2
 ap : ∀ t ∈ L, ∀ l, blk l = some t.1 → ¬ Sh l
 own : ∀ t ∈ L, t.2.1 = true → O ≤ t.1
 nd : (L.map (·.1)).Nodup
 low : ∀ l b, Sh l → blk l = some b → b < w.heap.size
 old : OldW W O w
section
variable {Sh : Loc → Prop} {W : World} {O : Nat} {L : Frag} {w w₁ : World}
theorem Own0.lt (h : Own0 Sh W O L w) {b : Nat} {fl : Bool} {o : Obj} (hm : (b, fl, o) ∈ L) : b < w.heap.size := (Array.getElem?_eq_some_iff.1 (h.has _ hm)).1
theorem evP_of {e : Event} {b : Nat} (hl : blk e.loc = some b) (h : ∀ l, blk l = some b → ¬ Sh l) (hs : e.sync = false) : EvP Sh e := by
 obtain ⟨l, wr, sy⟩ := e
 obtain rfl : sy = false := hs
 cases l <;> simp only [blk] at hl <;> try cases hl
 · refine ⟨fun x hx s => ?_, by simp, by simp⟩
   simp only [MemAct.ofEvent, MemAct.touch?, Option.some.injEq] at hx
   subst hx
   exact absurd s (h _ rfl)
 · refine ⟨fun x hx s => ?_, by simp, by simp⟩
   cases wr <;> (simp only [MemAct.ofEvent, MemAct.touch?, Option.some.injEq] at hx; subst hx; exact absurd s (h _ rfl))
theorem Own0.set (h : Own0 Sh W O L w) {n b : Nat} {o o' : Obj} (hn : L[n]? = some (b, true, o)) : Own0 Sh W O (L.set n (b, true, o')) (upd w b o') := by
 have hm := List.mem_of_getElem? hn
 have hlt := h.lt hm
 exact { h with
     has := fun t ht => by
       rcases mem_set_cases h.nd hn ht with rfl | ⟨h1, h2⟩
       · exact upd_self hlt
       · rw [upd_get h2]; exact h.has t h1
     ap := fun t ht => by
       rcases mem_set_cases h.nd hn ht with rfl | ⟨h1, h2⟩
       · exact h.ap (b, true, o) hm
       · exact h.ap t h1
     own := fun t ht hfl => by
       rcases mem_set_cases h.nd hn ht with rfl | ⟨h1, h2⟩
       · exact h.own (b, true, o) hm rfl
       · exact h.own t h1 hfl
     nd := by rw [map_set_fst hn]; exact h.nd
     low := fun l b s hb => by simpa [upd] using h.low l b s hb
     old := h.old.upd (h.own _ hm rfl) o' }
theorem Own0.new (h : Own0 Sh W O L w) {o : Obj} : (∀ t ∈ L, t.1 ≠ w.heap.size) ∧ Own0 Sh W O ((w.heap.size, true, o) :: L) (more w o) := by
 have hne : ∀ t ∈ L, t.1 ≠ w.heap.size := fun t ht => Nat.ne_of_lt (h.lt (fl := t.2.1) (o := t.2.2) ht)
 have hz := h.old.z
 refine ⟨hne, { h with
     has := fun t ht => by
       rcases List.mem_cons.1 ht with rfl | ht
       · exact more_self
       · rw [more_get (hne t ht)]; exact h.has t ht
     ap := fun t ht => by
       rcases List.mem_cons.1 ht with rfl | ht
       · exact fun l hl s => by have := h.low l _ s hl; simp only at this; omega
       · exact h.ap t ht
     own := fun t ht hfl => by
       rcases List.mem_cons.1 ht with rfl | ht
       · exact hz
       · exact h.own t ht hfl
     nd := by
       simp only [List.map_cons, List.nodup_cons]
       exact ⟨fun hm => by obtain ⟨t, ht, e⟩ := List.mem_map.1 hm; exact hne t ht e, h.nd⟩
     low := fun l b s hb => by have := h.low l b s hb; simp [more]; omega
     old := h.old.more o }⟩
def dom0 (Sh : Loc → Prop) (W : World) (O : Nat) : Dom AtRel (D0 Sh) where
 New _ := True
 Own := Own0 Sh W O
 Gu _ _ := True
 Ev _ e := EvP Sh e
 gr _ := trivial
 gt _ _ := trivial
 em _ k := k
 dd _ k := k
 rely h r := by obtain ⟨d, rfl⟩ := r; exact { h with old := ⟨h.old.t, h.old.o, h.old.u, h.old.z, h.old.b⟩ }
 has h hm := h.has _ hm
 evc h hm _ := evP_of rfl (h.ap _ hm) rfl
 evo h hm := evP_of rfl (h.ap _ hm) rfl
 set h hn _ := ⟨h.set hn, trivial, fun _ => evP_of rfl (h.ap _ (List.mem_of_getElem? hn)) rfl, evP_of rfl (h.ap _ (List.mem_of_getElem? hn)) rfl⟩
 new h _ := ⟨(h.new (o := default)).1, h.new.2, trivial⟩
 draw h := ⟨{ h with old := h.old.drew }, trivial⟩
 nor _ m hm := by
   obtain ⟨h1, h2, h3⟩ := mark_touch hm
   exact ⟨fun x hx => (by rw [h1] at hx; cases hx), by simpa using h2, by simpa using h3⟩
 sub h hs hn := { h with has := fun t ht => h.has t (hs t ht), ap := fun t ht => h.ap t (hs t ht), own := fun t ht => h.own t (hs t ht), nd := hn }
 nd h := h.nd
 ld w := by simp [Hx.D0]
end
section
variable {p : Par} {Sh : Loc → Prop} {E Dn : Nat} {W : World} {O : Nat} {L : Frag} {w w₁ : World}
structure Beside (p : Par) (E Dn : Nat) (G : List (Nat × Obj)) (L : Frag) (w : World) : Prop where
 h : ∀ t ∈ G, w.heap[t.1]? = some t.2
 l : ∀ t ∈ G, ∀ u ∈ L, u.1 ≠ t.1
 a : ∀ t ∈ G, t.1 ≠ E ∧ t.1 ≠ Dn ∧ t.1 < p.N0
theorem Beside.rely {G : List (Nat × Obj)} (h : Beside p E Dn G L w) (hz : p.N0 ≤ w.heap.size) (r : RB p E Dn w w₁) : Beside p E Dn G L w₁ :=
 ⟨fun t ht => (r.block t.1 (by have := (h.a t ht).2.2; omega) (fun f => by have := f.1; have := (h.a t ht).2.2; omega) (h.a t ht).1 (h.a t ht).2.1).trans (h.h t ht), h.l, h.a⟩
def domV (p : Par) (Sh : Loc → Prop) (E Dn : Nat) (W : World) (O : Nat) (G : List (Nat × Obj)) : Dom (RB p E Dn) (DT p Sh E Dn) where
 New := (domW p Sh E Dn W O).New
 Own L w := (domW p Sh E Dn W O).Own L w ∧ Beside p E Dn G L w
 Gu := (domW p Sh E Dn W O).Gu
 Ev := (domW p Sh E Dn W O).Ev
 gr := (domW p Sh E Dn W O).gr
 gt := (domW p Sh E Dn W O).gt
 em := (domW p Sh E Dn W O).em
 dd := (domW p Sh E Dn W O).dd
 rely h r := ⟨(domW p Sh E Dn W O).rely h.1 r, h.2.rely (show OwnW p Sh E Dn W O _ _ from h.1).sz r⟩
 has h := (domW p Sh E Dn W O).has h.1
 evc h := (domW p Sh E Dn W O).evc h.1
 evo h := (domW p Sh E Dn W O).evo h.1
 set h hn hf := by
   obtain ⟨h1, h2, h3, h4⟩ := (domW p Sh E Dn W O).set h.1 hn hf
   refine ⟨⟨h1, fun t ht => ?_, fun t ht u hu => ?_, h.2.a⟩, h2, h3, h4⟩
   · rw [upd_get (Ne.symm (h.2.l t ht _ (List.mem_of_getElem? hn)))]; exact h.2.h t ht
   · rcases mem_set_cases ((domW p Sh E Dn W O).nd h.1) hn hu with rfl | ⟨h5, _⟩
     · have := h.2.l t ht _ (List.mem_of_getElem? hn)
       exact this
     · exact h.2.l t ht u h5
 new h ho := by
   obtain ⟨h1, h2, h3⟩ := (domW p Sh E Dn W O).new h.1 ho
   have hz := (show OwnW p Sh E Dn W O _ _ from h.1).sz
   refine ⟨h1, ⟨h2, fun t ht => ?_, fun t ht u hu => ?_, h.2.a⟩, h3⟩
   · rw [more_get (by have := (h.2.a t ht).2.2; omega)]; exact h.2.h t ht
   · rcases List.mem_cons.1 hu with rfl | hu
     · have := (h.2.a t ht).2.2
       simp only
       omega
     · exact h.2.l t ht u hu
 draw h := by
   obtain ⟨h1, h2⟩ := (domW p Sh E Dn W O).draw h.1
   exact ⟨⟨h1, h.2.h, h.2.l, h.2.a⟩, h2⟩
 nor := (domW p Sh E Dn W O).nor
 sub h hs hn := ⟨(domW p Sh E Dn W O).sub h.1 hs hn, h.2.h, fun t ht u hu => h.2.l t ht u (hs u hu), h.2.a⟩
 nd h := (domW p Sh E Dn W O).nd h.1
 ld := (domW p Sh E Dn W O).ld
end
section
variable {P : Program} {p : Par} {Sh : Loc → Prop} {E Dn : Nat} {PostB : World → Prop} {Aft : Goroutine → World → Prop} {W : World} {O : Nat} {G : List (Nat × Obj)} {fn : FuncId} {N : Nat} {Q : List Value → Exit → Env → Frag → Prop} {ε : Env} {L : Frag}
abbrev domT (P : Program) (p : Par) (Sh : Loc → Prop) (E Dn : Nat) (PostB : World → Prop) (Aft : Goroutine → World → Prop) (W : World) (O : Nat) (G : List (Nat × Obj)) : ∀ s, Dom ((tellF P p Sh E Dn PostB Aft).R s) ((tellF P p Sh E Dn PostB Aft).D s) := fun _ => domV p Sh E Dn W O G
theorem o_tell {ops : Array Oper} {i : Nat} {rest : List Nat} {d : Option Tmp} {x y : Operand} {ot : TypeId} {ps : String} {af : Array Edge} {g : Option (Nat × Bool)} {n : Nat} {v : Value} {vs : List Value} (ho : ops[i]? = some ⟨d, .send x y, ot, ps, af, g⟩)
   (hx : ev ε x = some (.chan (some E)) := by rfl) (hy : ev ε y = some v := by rfl) (hw : wantedE ops N ε g = some true := by rfl) (hd : dstOk N d = true := by rfl)
   (h : OpsE (domT P p Sh E Dn PostB Aft W O G) P false fn N ops rest n vs Q (putE d undef ε) L) :
   OpsE (domT P p Sh E Dn PostB Aft W O G) P false fn N ops (i :: rest) 0 (v :: vs) Q ε L := by
 intro a ha w hO
 refine opsX_tell (z' := .tuple #[]) ho (ha.wanted hw) (fun w₁ h₁ => ⟨?_, ?_⟩) fun w₂ h₂ => h _ (ha.put hd undef) w₂ ((domV p Sh E Dn W O G).rely hO h₂)
 · simp only [execOp, ha.ev hx, ha.ev hy]; rfl
 · intro e he
   have hm := mem_listed he
   simp [execOp, go_sem] at hm
end
end Go.Lo
namespace Go.Proofs.YtejkelcaljmnoaaGreatDoor
open Go.Conc Go.Hx Go.Lo
def evt (now kind id x : Int) : Value := .agg #[.int .i64 now, .int .i64 kind, .int .i64 id, .int .i64 x]
theorem bld51 (a b c d : Int) : evR Tryz.prog (Instr.build 51 [(0, .int .i64 a), (1, .int .i64 b), (2, .int .i64 c), (3, .int .i64 d)].toArray) [] = some (evt a b c d, []) := by kernel_rfl
section
variable {p : Par} {Sh : Loc → Prop} {E Dn : Nat} {PostB : World → Prop} {Aft : Goroutine → World → Prop} {W : World} {O : Nat} {G0 : List (Nat × Obj)}
theorem tell_s : ∃ n, ∀ {p : Par} {Sh : Loc → Prop} {E Dn : Nat} {PostB : World → Prop} {Aft : Goroutine → World → Prop} {W : World} {O : Nat} {G0 : List (Nat × Obj)} {vs : List Value} (K : Nat) (A : Lay) (S : St) (Fr L : Frag) (kind id a : Int), Rep K A S Fr L →
   CallsL (domT Tryz.prog p Sh E Dn PostB Aft W O G0) Tryz.prog false 83 [ptr K, .chan (some E), .int .i64 kind, .int .i64 id, .int .i64 a].toArray n (evt S.now kind id a :: vs) L (fun s' v L' => vs = s' ∧ L = L' ∧ v = .tuple #[]) := by
 apply Exists.intro
 intro p Sh E Dn PostB Aft W O G0 vs K A S Fr L kind id a hR
 have hn : At L K 16 (.int .i64 (S.now : Nat)) := hR.kat rfl
 co_applyP callsE 19 Tryz.func83 Tryz.ntmps83
 co_applyP c_region
 co_applyP oy rfl E_mv
 co_applyP oy rfl E_mv
 co_applyP oy rfl E_nc
 co_applyP oy rfl (E_fa (hf := fo_115_7))
 co_applyP oy rfl (E_ld (ht := ag_3))
 co_applyP oy rfl E_mv
 co_applyP oy rfl E_mv
 co_applyP oy rfl E_mv
 co_applyP oy rfl (E_build (bld51 _ _ _ _))
 co_applyP o_tell rfl
 co_applyP o_nil
 change ∃ v, resE .. = some v ∧ _
 exact ⟨_, rfl, rfl, rfl, rfl⟩
end
end Go.Proofs.YtejkelcaljmnoaaGreatDoor
