/-
  Part 42 of the proof.
  No condition but those that each statement names.
-/
import Derived.Test.YtejkelcaljmnoaaGreatDoorHy41
set_option maxRecDepth 100000
set_option linter.unusedVariables false
set_option linter.unusedSimpArgs false
set_option linter.unusedSectionVars false
namespace Go.Proofs.YtejkelcaljmnoaaGreatDoor
open Go.Conc Go.Hx Go.Lo
def St.move (S : St) (b : Nat) (x x' : PS) : St :=
 let S1 := (S.setRow x.lv ((S.rows x.lv).erase b)).setP b x'
 S1.setRow x'.lv (S1.rows x'.lv ++ [b])
section
variable {S S' : St} {b : Nat} {x x' : PS} {k : Nat × Nat} {P : Nat → Prop} {N : Nat → Nat}
theorem Good.move (h : Good S) (hb : (b, x) ∈ S.ps) (hs : x.st = 1) (hs' : x'.st = 1) (hl : x'.lv < 3) : Good (S.move b x x') := by
 have hlv := h.lv _ hb
 have hin := h.rr _ hb hs
 have rows : ∀ l, (S.move b x x').rows l = if l = x'.lv then (if x'.lv = x.lv then (S.rows x.lv).erase b else S.rows x'.lv) ++ [b] else if l = x.lv then (S.rows x.lv).erase b else S.rows l := fun l => rfl
 have nin : ∀ l, l < 3 → l ≠ x.lv → b ∉ S.rows l := fun l hl hne hm => by
   obtain ⟨y, hy, h1, _⟩ := h.rm l hl b hm
   rw [nodup_val h.pn hb hy] at hne
   exact hne h1.symm
 have ner : b ∉ (S.rows x.lv).erase b := List.Nodup.not_mem_erase (h.rn _ hlv)
 have old : ∀ l, l < 3 → ∀ c, c ∈ S.rows l → c ≠ b → ∃ y, (c, y) ∈ (S.move b x x').ps ∧ y.lv = l ∧ y.st = 1 := fun l hl c hc hne => by
   obtain ⟨y, hy, h1, h2⟩ := h.rm l hl c hc
   exact ⟨y, mem_setP_of (S := S) hy hne, h1, h2⟩
 refine ⟨by show (S.setP b x').ps.map (·.1) |>.Nodup; rw [setP_fst]; exact h.pn, by show (S.setP b x').ps.length ≤ 8; rw [setP_len]; exact h.p8, fun q hq => ?_, fun l hl' => ?_, fun l hl' c hc => ?_, fun q hq h1 => ?_⟩
 · rcases mem_setP (S := S) hq with rfl | ⟨h1, _⟩
   · exact hl
   · exact h.lv q h1
 · rw [rows]
   split
   · split
     · refine List.nodup_append.2 ⟨(h.rn _ hlv).sublist List.erase_sublist, by simp, fun a ha c hc => ?_⟩
       simp at hc
       subst hc
       rintro rfl
       exact ner ha
     · rename_i hne
       refine List.nodup_append.2 ⟨h.rn _ hl, by simp, fun a ha c hc => ?_⟩
       simp at hc
       subst hc
       rintro rfl
       exact nin _ hl hne ha
   · split
     · exact (h.rn _ hlv).sublist List.erase_sublist
     · exact h.rn l hl'
 · rw [rows] at hc
   split at hc
   · rename_i e
     subst e
     rcases List.mem_append.1 hc with h1 | h1
     · split at h1
       · rename_i e
         have hne : c ≠ b := fun e' => ner (e' ▸ h1)
         obtain ⟨y, hy, h2, h3⟩ := old _ hlv c (List.mem_of_mem_erase h1) hne
         exact ⟨y, hy, h2.trans e.symm, h3⟩
       · rename_i hne
         exact old _ hl c h1 fun e' => nin _ hl hne (e' ▸ h1)
     · simp at h1
       subst h1
       exact ⟨x', mem_setP_self (S := S) hb, rfl, hs'⟩
   · split at hc
     · rename_i e
       subst e
       exact old _ hlv c (List.mem_of_mem_erase hc) fun e' => ner (e' ▸ hc)
     · rename_i hne
       exact old l hl' c hc fun e' => nin l hl' hne (e' ▸ hc)
 · rw [rows]
   rcases mem_setP (S := S) hq with rfl | ⟨h2, h3⟩
   · simp
   · have := h.rr q h2 h1
     split
     · rename_i e
       apply List.mem_append_left
       split
       · rename_i e2
         rw [e, e2] at this
         exact (List.mem_erase_of_ne h3).2 this
       · rw [e] at this; exact this
     · split
       · rename_i e
         rw [e] at this
         exact (List.mem_erase_of_ne h3).2 this
       · exact this
theorem MI.move (h : MI P N S) (hb : (b, x) ∈ S.ps) (ho : S.out b) (hs : x.st = 1) (hs' : x'.st = 1) (hl : x'.lv < 3) (hw : WF x') (hf : ∀ i, i < 6 → x'.f i = (0, 0) ∨ okEnd (x'.f i)) (hid : x'.id = x.id) (hpar : x'.par = x.par) (hu : x'.used ≤ S.now) : MI P N (S.move b x x') where
 i :=
   { g := h.i.g.move hb hs hs' hl
     wf := fun q hq => by
       rcases mem_setP (S := S) hq with rfl | ⟨h1, _⟩
       · exact hw
       · exact h.i.wf q h1
     fl := fun q hq => by
       rcases mem_setP (S := S) hq with rfl | ⟨h1, _⟩
       · exact hf
       · exact h.i.fl q h1
     y8 := h.i.y8, yb := h.i.yb, kn := h.i.kn, ne := h.i.ne, nd := h.i.nd, ke := h.i.ke
     rm := fun e he c hc => by
       obtain ⟨y, hy, ha⟩ := h.i.rm e he c hc
       exact ⟨y, mem_setP_of (S := S) hy (by rintro rfl; exact ho e he hc), ha⟩ }
 c := (h.c.setP (x' := x') (.inl ho)).congr rfl rfl
 x := (h.x.setP (x' := x') h.i.g.pn hb hid (by rw [hpar]) hu).congr rfl rfl rfl fun l hl' => (put_hi hl l hl').trans (put_hi (h.i.g.lv _ hb) l hl')
theorem MI.out (h : MI (fun _ => False) N S) (hb : (b, x) ∈ S.ps) (hs : x.st = 1) : S.out b := fun e he hm => h.c e he b hm x hb hs
theorem MI.yield1 (h : MI P N S) (hb : (b, x) ∈ S.ps) (ho : S.out b) (hs : x.st = 1) : MI P N (S.yield1 b x) :=
 h.move (x' := x.r0 0) hb ho hs hs (h.i.g.lv (b, x) hb) (put_wf (h.i.wf _ hb) (by omega)) (h.i.fl (b, x) hb) rfl rfl (h.x.un (b, x) hb)
theorem MI.sleep1 (h : MI P N S) (hb : (b, x) ∈ S.ps) (ho : S.out b) : MI P N (S.sleep1 b x) := by
 unfold St.sleep1
 split
 · exact h.r0 hb ho (by omega)
 · have h1 := h.like (x' := { x.r0 0 with til := (S.now : Int) + x.r 0 }) hb ho rfl rfl ⟨(put_wf (h.i.wf _ hb) (v := 0) (by omega)).r, (h.i.wf _ hb).m⟩ (h.i.fl (b, x) hb) rfl rfl (h.x.un (b, x) hb)
   exact h1.stop1 (mem_setP_self hb) ho (by decide)
theorem MI.waitR (h : MI P N S) (hb : (b, x) ∈ S.ps) (ho : S.out b) (hs : x.st = 1) : MI P N (S.waitR b x).2 := by
 unfold St.waitR
 split
 · simp only
   split
   · exact (h.take hb ho ‹_› (by omega)).1
   · exact h.stop1 hb ho (by decide)
 · exact h
theorem MI.r0' (h : MI P N S) (ho : ∀ z, (b, z) ∈ S.ps → S.out b) {v : Int} (hv : 0 ≤ v ∧ v < 65536) : MI P N (S.r0 b v) := by
 unfold St.r0
 cases hg : S.get b with
 | none => exact h
 | some z => exact h.r0 (mem_of_get hg) (ho z (mem_of_get hg)) hv
theorem MI.pipeR (h : MI P N S) (hb : (b, x) ∈ S.ps) (ho : S.out b) : MI P N (S.pipeR b x).2 := by
 unfold St.pipeR
 split
 · exact h
 · rename_i hu
   split
   · rename_i i j l hl
     have hlt : ∀ i ∈ x.frees 6, i < 6 := fun i hi => by
       unfold PS.frees at hi
       simpa using (List.mem_filter.1 hi).1
     have hi := hlt i (by rw [hl]; simp)
     have hj := hlt j (by rw [hl]; simp)
     have hu5 := unused_lt S
     have h1 := h.setY (i := S.unused) (ys := []) (by simp) (by simp)
     refine h1.like (x' := x.piped S.unused i j) hb ho rfl rfl ⟨fun n hn => ?_, (h.i.wf _ hb).m⟩ ?_ rfl rfl (h.x.un (b, x) hb)
     · show 0 ≤ put (put x.r 0 (i : Int)) 1 (j : Int) n ∧ put (put x.r 0 (i : Int)) 1 (j : Int) n < 65536
       have := (h.i.wf _ hb).r n hn
       unfold put
       split
       · omega
       · split
         · omega
         · exact this
     · exact put_fl (x := { x with f := put x.f i (S.unused, 4) }) (put_fl (h.i.fl (b, x) hb) (.inr ⟨⟨by simp only; omega, hu5⟩, .inl rfl⟩)) (.inr ⟨⟨by simp only; omega, hu5⟩, .inr rfl⟩)
   · exact h
theorem MI.closeR (h : MI P N S) (hb : (b, x) ∈ S.ps) (ho : S.out b) : MI P N (S.closeR b x).2 := by
 unfold St.closeR
 split
 · exact h
 · exact (h.shut hb ho _).r0' (fun z hz => (h.i.shut hb ho _).o b ho) (by omega)
theorem MI.taken (h : MI P N S) {c : Nat} {y : PS} (hc : ∀ q ∈ S.ps, c ≠ q.1) (h8 : S.ps.length < 8) (hs : y.st = 0) (hl : y.lv < 3) (hw : WF y) (hf : ∀ i, i < 6 → y.f i = (0, 0) ∨ okEnd (y.f i)) (hp : y.par ≠ 0) (hu : y.used ≤ S.now) (hN : N c = S.last + 1) : MI P N (S.taken c y) ∧ (S.taken c y).out c := by
 have cs : ∀ q ∈ (S.taken c y).ps, q ∈ S.ps ∨ q = (c, { y with id := S.last + 1 }) := fun q hq => by
   rcases List.mem_append.1 hq with h | h
   · exact .inl h
   · exact .inr (by simpa using h)
 have ho : (S.taken c y).out c := fun e he hm => by
   obtain ⟨z, hz, _⟩ := h.i.rm e he c hm
   exact hc _ hz rfl
 refine ⟨⟨{ g := ?_, wf := ?_, fl := ?_, y8 := h.i.y8, yb := h.i.yb, kn := h.i.kn, ne := h.i.ne, nd := h.i.nd, ke := h.i.ke, rm := ?_ }, ?_, h.x.taken hc hp hu hN⟩, ho⟩
 · refine ⟨?_, by show (S.ps ++ [_]).length ≤ 8; simp; omega, fun q hq => ?_, h.i.g.rn, fun l hl c' hc' => ?_, fun q hq h1 => ?_⟩
   · show ((S.ps ++ [(c, _)]).map (fun q : Nat × PS => q.1)).Nodup
     rw [List.map_append]
     refine List.nodup_append.2 ⟨h.i.g.pn, by simp, fun u hu v hv => ?_⟩
     simp at hv
     subst hv
     rintro rfl
     obtain ⟨q, hq, e⟩ := List.mem_map.1 hu
     exact hc q hq e.symm
   · rcases cs q hq with h1 | rfl
     · exact h.i.g.lv q h1
     · exact hl
   · obtain ⟨z, hz, h1, h2⟩ := h.i.g.rm l hl c' hc'
     exact ⟨z, List.mem_append_left _ hz, h1, h2⟩
   · rcases cs q hq with h2 | rfl
     · exact h.i.g.rr q h2 h1
     · simp only at h1; omega
 · intro q hq
   rcases cs q hq with h1 | rfl
   · exact h.i.wf q h1
   · exact ⟨hw.r, hw.m⟩
 · intro q hq
   rcases cs q hq with h1 | rfl
   · exact h.i.fl q h1
   · exact hf
 · intro e he c' hc'
   obtain ⟨z, hz, ha⟩ := h.i.rm e he c' hc'
   exact ⟨z, List.mem_append_left _ hz, ha⟩
 · intro e he c' hc' z hz h1
   rcases cs _ hz with h2 | h2
   · exact h.c e he c' hc' z h2 h1
   · have e2 : z = { y with id := S.last + 1 } := congrArg Prod.snd h2
     rw [e2] at h1
     simp only at h1
     omega
theorem MI.forkS (h : MI P N S) (hb : (b, x) ∈ S.ps) (ho : S.out b) {c : Nat} (hc : ∀ q ∈ S.ps, c ≠ q.1) (h8 : S.ps.length < 8) (hN : N c = S.last + 1) : MI P N (S.forkS b x c) := by
 have hw := h.i.wf _ hb
 have hid := (h.x.idr _ hb).1
 obtain ⟨h1, ho1⟩ := h.taken (y := x.copy.r0 0) hc h8 rfl (by show 0 < 3; omega) (put_wf (x := x.copy) (v := 0) ⟨hw.r, hw.m⟩ (by omega)) (h.i.fl (b, x) hb) (by show x.id ≠ 0; simp only at hid; omega) (Nat.zero_le _) hN
 have hcm : (c, { x.copy.r0 0 with id := S.last + 1 }) ∈ (S.taken c (x.copy.r0 0)).ps := List.mem_append_right _ List.mem_cons_self
 have h2 := h1.wake1 hcm ho1 (by show (0 : Nat) ≠ 1; omega)
 have hbc : b ≠ c := fun e => hc _ hb e.symm
 have hb2 : (b, x) ∈ (S.adopt c (x.copy.r0 0)).ps := mem_setP_of (List.mem_append_left _ hb) hbc
 exact h2.r0 hb2 ho (by omega)
def Shr (S S' : St) : Prop := ∀ e ∈ S'.wt, ∃ e' ∈ S.wt, e'.1 = e.1 ∧ ∀ c ∈ e.2, c ∈ e'.2
theorem Shr.refl (S : St) : Shr S S := fun e he => ⟨e, he, rfl, fun _ h => h⟩
theorem Shr.trans {S T U : St} (h : Shr S T) (k : Shr T U) : Shr S U := fun e he => by
 obtain ⟨e1, h1, h2, h3⟩ := k e he
 obtain ⟨e2, h4, h5, h6⟩ := h e1 h1
 exact ⟨e2, h4, h5.trans h2, fun c hc => h6 c (h3 c hc)⟩
theorem shr_serve (hS : S.serve k = some S') : Shr S S' := fun e he => by
 obtain ⟨b, hh, hw⟩ := serve_wt hS
 rw [hw] at he
 rcases mem_departW he with ⟨h1, _⟩ | ⟨h2, _, xs, h3, h4⟩
 · exact ⟨e, h1, rfl, fun _ h => h⟩
 · exact ⟨(k, xs), h3, h2.symm, fun c hc => by rw [h4] at hc; exact (List.mem_filter.1 hc).1⟩
theorem shr_looks (p : Nat) : ∀ (n : Nat) (S : St), Shr S (St.looks n S p)
 | 0, S => Shr.refl S
 | n + 1, S => by
   unfold St.looks
   split
   · exact (shr_serve ‹_›).trans (shr_looks p n _)
   · split
     · exact (shr_serve ‹_›).trans (shr_looks p n _)
     · exact Shr.refl S
theorem join_row {e : (Nat × Nat) × List Nat} (hn : (S.wt.map (·.1)).Nodup) (ho : S.out b) (he : e ∈ (S.joinW b k).wt) (hm : b ∈ e.2) : e.1 = k := by
 by_cases hk : ∀ e ∈ S.wt, e.1 ≠ k
 · have e1 : (S.joinW b k).wt = S.wt ++ [(k, [b])] := joinW_none hk
   rw [e1] at he
   rcases List.mem_append.1 he with h2 | h2
   · exact absurd hm (ho e h2)
   · simp at h2; rw [h2]
 · have hk' : k ∈ S.wt.map (·.1) := Decidable.byContradiction fun hn' => hk fun e he e1 => hn' (List.mem_map.2 ⟨e, he, e1⟩)
   obtain ⟨l1, ys, l2, hl, q1, q2⟩ := split_key hn hk'
   have e1 : (S.joinW b k).wt = l1 ++ (k, ys ++ [b]) :: l2 := by show rowJoin b k S.wt = _; rw [hl, joinW_at q1 q2]
   rw [e1] at he
   rcases List.mem_append.1 he with h2 | h2
   · exact absurd hm (ho e (by rw [hl]; simp [h2]))
   · rcases List.mem_cons.1 h2 with rfl | h2
     · rfl
     · exact absurd hm (ho e (by rw [hl]; simp [h2]))
theorem MI.askR (h : MI (fun _ => False) N S) (hb : (b, x) ∈ S.ps) (hs : x.st = 1) {use most : Nat} (hu : use = 4 ∨ use = 5) (hm : use = 5 → most ≤ 8) : MI (fun _ => False) N (S.askR b x use most).2 := by
 have ho := h.out hb hs
 unfold St.askR
 cases hc : x.checkUse use most with
 | some i => exact h
 | none =>
   obtain ⟨c1, c2, c3⟩ := checkUse_ok hc
   have hk : okEnd (x.file (x.r 0)) := (h.i.file_ok hb _).resolve_left fun e => by rw [e] at c1; simp only at c1; omega
   have hj : MI (· = b) N (S.joinW b (x.file (x.r 0))) := ⟨h.i.joinW hb ho ⟨rfl, c3, fun h5 => by rw [h5] at c1; have := hm c1.symm; omega, .inl hs⟩ hk, (h.c.out_mono fun c hc => hc.elim).join rfl h.i.kn, h.x.congr rfl rfl rfl⟩
   have h2 : MI (· = b) N ((S.joinW b (x.file (x.r 0))).look (x.file (x.r 0)).1) := MI.looks _ 16 hj
   have hrow : ∀ e ∈ ((S.joinW b (x.file (x.r 0))).look (x.file (x.r 0)).1).wt, b ∈ e.2 → e.1 = x.file (x.r 0) := fun e he hme => by
     obtain ⟨e', h3, h4, h5⟩ := shr_looks _ _ _ e he
     rw [← h4]
     exact join_row h.i.kn ho h3 (h5 b hme)
   generalize hS2 : (S.joinW b (x.file (x.r 0))).look (x.file (x.r 0)).1 = S2 at *
   generalize hkk : x.file (x.r 0) = k at *
   simp only
   split
   · rename_i hin
     have hfst : b ∈ S2.ps.map (·.1) := by
       obtain ⟨xs, q1, q2⟩ := rowAt_mem hin
       obtain ⟨y, hy, _⟩ := h2.i.rm _ q1 b (by rw [q2]; exact hin)
       exact fst_of hy
     obtain ⟨z, hz⟩ := ex_of_fst hfst
     rw [get_of h2.i.g.pn hz]
     simp only
     have hask := (h2.i.atRow hin hz).1
     refine ⟨{ g := h2.i.g.stop1 hz (by omega), wf := ?_, fl := ?_, y8 := h2.i.y8, yb := h2.i.yb, kn := h2.i.kn, ne := h2.i.ne, nd := h2.i.nd, ke := h2.i.ke, rm := ?_ }, ?_, ?_⟩
     · intro q hq
       rcases mem_setP hq with rfl | ⟨h3, _⟩
       · exact ⟨(h2.i.wf _ hz).r, (h2.i.wf _ hz).m⟩
       · exact h2.i.wf q h3
     · intro q hq
       rcases mem_setP hq with rfl | ⟨h3, _⟩
       · exact h2.i.fl (b, z) hz
       · exact h2.i.fl q h3
     · intro e he c hce
       obtain ⟨y, hy, ha⟩ := h2.i.rm e he c hce
       by_cases ecb : c = b
       · subst ecb
         obtain rfl := nodup_val h2.i.g.pn hz hy
         refine ⟨{ z with st := use }, mem_setP_self hz, ha.f, ha.a, ha.w, .inr ?_⟩
         show use = e.1.2
         rw [hrow e he hce, c1]
       · exact ⟨y, mem_setP_of hy ecb, ha⟩
     · intro e he c hce y hy h1
       rcases mem_setP hy with h3 | ⟨h3, h4⟩
       · have e3 : y = { z with st := use } := congrArg Prod.snd h3
         rw [e3] at h1
         simp only at h1
         omega
       · exact h4 (h2.c e he c hce y h3 h1)
     · exact (h2.x.setP (x' := { z with st := use }) h2.i.g.pn hz rfl Iff.rfl (h2.x.un (b, z) hz)).congr rfl rfl rfl (put_hi (h2.i.g.lv _ hz))
   · rename_i hnin
     refine ⟨h2.i, fun e he c hce y hy h1 => ?_, h2.x⟩
     have ecb := h2.c e he c hce y hy h1
     subst ecb
     have := hrow e he hce
     refine hnin ?_
     have e5 : (k, e.2) ∈ S2.wt := by rw [← this]; exact he
     rw [rowAt_of h2.i.kn e5]
     exact hce
end
structure FixL (S S' : St) : Prop extends Fix S S' where
 last : S'.last = S.last
theorem FixL.refl (S : St) : FixL S S := ⟨Fix.refl S, rfl⟩
theorem FixL.trans {S T U : St} (h : FixL S T) (k : FixL T U) : FixL S U := ⟨h.toFix.trans k.toFix, k.last.trans h.last⟩
theorem fl_rfl {S S' : St} (h1 : S'.sl = S.sl) (h2 : S'.bo = S.bo) (h3 : S'.pn = S.pn) (h4 : S'.pg = S.pg) (h5 : S'.now = S.now) (h6 : S'.last = S.last) : FixL S S' := ⟨⟨h1, h2, h3, h4, h5⟩, h6⟩
theorem fl_setP (S : St) (b : Nat) (x : PS) : FixL S (S.setP b x) := fl_rfl rfl rfl rfl rfl rfl rfl
theorem fl_stop1 (S : St) (b : Nat) (x : PS) (s : Nat) : FixL S (S.stop1 b x s) := fl_rfl rfl rfl rfl rfl rfl rfl
theorem fl_wake1 (S : St) (b : Nat) (x : PS) : FixL S (S.wake1 b x) := fl_rfl rfl rfl rfl rfl rfl rfl
theorem fl_r0 (S : St) (b : Nat) (v : Int) : FixL S (S.r0 b v) := by
 unfold St.r0
 split
 · exact fl_setP S b _
 · exact FixL.refl S
theorem fl_carry (S : St) (b : Nat) (x : PS) (k : Nat × Nat) : FixL S (S.carry b x k) := by
 obtain ⟨ys, e, _⟩ := carry_eq S b x k
 rw [e]; exact fl_rfl rfl rfl rfl rfl rfl rfl
theorem fl_serve {S S' : St} {k : Nat × Nat} (h : S.serve k = some S') : FixL S S' := by
 obtain ⟨b, x, _, _, _, _, rfl⟩ := serve_some h
 have h1 : FixL S ((S.depart b k).carry b x k) := FixL.trans (T := S.depart b k) (fl_rfl rfl rfl rfl rfl rfl rfl) (fl_carry (S.depart b k) b x k)
 split
 · exact h1
 · exact h1.trans (fl_wake1 _ _ _)
theorem fl_looks (p : Nat) : ∀ (n : Nat) (S : St), FixL S (St.looks n S p)
 | 0, S => FixL.refl S
 | n + 1, S => by
   unfold St.looks
   split
   · exact (fl_serve ‹_›).trans (fl_looks p n _)
   · split
     · exact (fl_serve ‹_›).trans (fl_looks p n _)
     · exact FixL.refl S
theorem fl_shut (S : St) (b n : Nat) : FixL S (S.shut b n) := by
 unfold St.shut
 split
 · exact (fl_setP S b _).trans (fl_looks _ 16 _)
 · exact FixL.refl S
theorem fl_shuts (b : Nat) (f : Nat → Nat × Nat) : ∀ (ns : List Nat) (S : St), FixL S (S.shuts b f ns)
 | [], S => FixL.refl S
 | n :: ns, S => by
   show FixL S ((if f n = (0, 0) then S else S.shut b n).shuts b f ns)
   split
   · exact fl_shuts b f ns S
   · exact (fl_shut S b n).trans (fl_shuts b f ns _)
theorem fl_orphs (id : Nat) : ∀ (bs : List Nat) (S : St), FixL S (S.orphs id bs)
 | [], S => FixL.refl S
 | b :: bs, S => by
   unfold St.orphs
   refine FixL.trans ?_ (fl_orphs id bs _)
   split
   · split
     · exact fl_setP S b _
     · exact FixL.refl S
   · exact FixL.refl S
theorem fl_take (S : St) (b : Nat) (x : PS) (i : Nat) : FixL S (S.take b x i) := by
 unfold St.take
 split
 · exact fl_rfl rfl rfl rfl rfl rfl rfl
 · exact FixL.refl S
theorem fl_parent1 (S : St) (b : Nat) : FixL S (S.parent1 b) := by
 unfold St.parent1
 split
 · split
   · split
     · split
       · exact (fl_take S b _ _).trans (fl_wake1 _ _ _)
       · exact FixL.refl S
     · exact FixL.refl S
   · exact FixL.refl S
 · exact FixL.refl S
theorem fl_parents : ∀ (bs : List Nat) (S : St), FixL S (S.parents bs)
 | [], S => FixL.refl S
 | b :: bs, S => (fl_parent1 S b).trans (fl_parents bs _)
theorem fl_fin (S : St) (b : Nat) (x : PS) (status : Int) : FixL S (S.fin b x status) := by
 unfold St.fin
 refine FixL.trans ?_ (fl_parents _ _)
 refine FixL.trans ?_ (fl_orphs _ _ _)
 refine FixL.trans ?_ (fl_shuts b x.f _ _)
 exact fl_rfl rfl rfl rfl rfl rfl rfl
theorem fl_sleep1 (S : St) (b : Nat) (x : PS) : FixL S (S.sleep1 b x) := by
 unfold St.sleep1
 split <;> exact fl_rfl rfl rfl rfl rfl rfl rfl
theorem fl_waitR (S : St) (b : Nat) (x : PS) : FixL S (S.waitR b x).2 := by
 unfold St.waitR
 split
 · simp only
   split
   · exact fl_take S b x _
   · exact fl_stop1 S b x 2
 · exact FixL.refl S
theorem fl_pipeR (S : St) (b : Nat) (x : PS) : FixL S (S.pipeR b x).2 := by
 unfold St.pipeR
 split
 · exact FixL.refl S
 · split
   · exact fl_rfl rfl rfl rfl rfl rfl rfl
   · exact FixL.refl S
theorem fl_closeR (S : St) (b : Nat) (x : PS) : FixL S (S.closeR b x).2 := by
 unfold St.closeR
 split
 · exact FixL.refl S
 · exact (fl_shut S b _).trans (fl_r0 _ b 0)
theorem fl_askR (S : St) (b : Nat) (x : PS) (use most : Nat) : FixL S (S.askR b x use most).2 := by
 unfold St.askR
 split
 · exact FixL.refl S
 · have h1 : FixL S ((S.joinW b (x.file (x.r 0))).look (x.file (x.r 0)).1) := FixL.trans (T := S.joinW b (x.file (x.r 0))) (fl_rfl rfl rfl rfl rfl rfl rfl) (fl_looks _ 16 _)
   simp only
   split
   · split
     · exact h1.trans (fl_stop1 _ _ _ _)
     · exact h1
   · exact h1
theorem fl_after (S : St) (b : Nat) : FixL S (S.after b) := by
 unfold St.after
 split
 · split
   · rename_i z _ _
     refine (fl_setP S b z.more).trans ?_
     unfold St.turn
     split
     · exact FixL.refl _
     · exact fl_rfl rfl rfl rfl rfl rfl rfl
   · exact fl_setP S b _
 · exact FixL.refl S
theorem grantS_cases (Q : St → Prop) {S : St} {b : Nat} {x : PS} {m : Int} {c : Nat} (h0 : Q (S.fin b x (x.r 0))) (h1 : S.ps.length < 8 → Q (S.forkS b x c)) (h2 : Q (S.waitR b x).2) (h3 : ∀ q, S.find (x.r 0) = some q → q.2.st ≠ 6 → Q ((S.fin q.1 q.2 65280).r0 b 0)) (h4 : Q (S.sleep1 b x)) (h5 : Q (S.yield1 b x)) (h6 : Q (S.setP b (x.r0 ((x.id : Int) % 65536)))) (h7 : Q (S.pipeR b x).2) (h8 : Q (S.closeR b x).2) (h9 : Q (S.askR b x 4 64).2) (h10 : Q (S.askR b x 5 8).2) (h11 : Q (S.setP b (x.r0 0))) (hS : Q S) : Q (S.grantS b x m c) := by
 unfold St.grantS
 by_cases e0 : m = 0
 · rw [if_pos e0]; exact h0
 rw [if_neg e0]
 by_cases e1 : m = 1
 · rw [if_pos e1]
   by_cases e : 8 ≤ S.ps.length
   · rw [if_pos e]; exact hS
   · rw [if_neg e]; exact h1 (by omega)
 rw [if_neg e1]
 by_cases e2 : m = 2
 · rw [if_pos e2]; exact h2
 rw [if_neg e2]
 by_cases e3 : m = 3
 · rw [if_pos e3]
   cases hf : S.find (x.r 0) with
   | none => exact hS
   | some q =>
     simp only
     by_cases e : q.2.st = 6
     · rw [if_pos e]; exact hS
     · rw [if_neg e]; exact h3 q hf e
 rw [if_neg e3]
 by_cases e4 : m = 4
 · rw [if_pos e4]; exact h4
 rw [if_neg e4]
 by_cases e5 : m = 5
 · rw [if_pos e5]; exact h5
 rw [if_neg e5]
 by_cases e6 : m = 6
 · rw [if_pos e6]; exact h6
 rw [if_neg e6]
 by_cases e7 : m = 7
 · rw [if_pos e7]; exact h7
 rw [if_neg e7]
 by_cases e8 : m = 8
 · rw [if_pos e8]; exact h8
 rw [if_neg e8]
 by_cases e9 : m = 9
 · rw [if_pos e9]; exact h9
 rw [if_neg e9]
 by_cases e10 : m = 10
 · rw [if_pos e10]; exact h10
 rw [if_neg e10]
 by_cases e11 : m = 11
 · rw [if_pos e11]; exact h11
 rw [if_neg e11]; exact hS
theorem fix_grant (S : St) (b : Nat) (x : PS) (m : Int) (c : Nat) : Fix S (S.grantS b x m c) ∧ (S.grantS b x m c).last ≤ S.last + 1 := by
 have lift : ∀ {T : St}, FixL S T → Fix S T ∧ T.last ≤ S.last + 1 := fun h => ⟨h.toFix, by rw [h.last]; omega⟩
 exact grantS_cases (fun T => Fix S T ∧ T.last ≤ S.last + 1) (lift (fl_fin S b x _)) (fun _ => ⟨⟨rfl, rfl, rfl, rfl, rfl⟩, Nat.le_refl _⟩) (lift (fl_waitR S b x)) (fun q _ _ => lift ((fl_fin S q.1 q.2 _).trans (fl_r0 _ b 0))) (lift (fl_sleep1 S b x)) (lift (fl_rfl rfl rfl rfl rfl rfl rfl)) (lift (fl_setP S b _)) (lift (fl_pipeR S b x)) (lift (fl_closeR S b x)) (lift (fl_askR S b x 4 64)) (lift (fl_askR S b x 5 8)) (lift (fl_setP S b _)) (lift (FixL.refl S))
theorem runS_cases (Q : St → Prop) {S : St} {b : Nat} {x : PS} {c : Nat} (h0 : Q (S.fin b x 65281)) (h1 : ∀ i, (S.setP b x.next).grantV b x.next (S.pg x.at_ 1) = some i → Q (((S.setP b x.next).grantS b x.next (S.pg x.at_ 1) c).r0 b (ansOf i))) (h2 : (S.setP b x.next).grantV b x.next (S.pg x.at_ 1) = none → Q ((S.setP b x.next).grantS b x.next (S.pg x.at_ 1) c)) (h3 : ∀ x', x.at_ < S.pn → S.doR x = .ok x' → Q (S.setP b x')) : Q (S.runS b x c) := by
 unfold St.runS
 by_cases e0 : S.pn ≤ x.at_
 · rw [if_pos e0]; exact h0
 rw [if_neg e0]
 by_cases e1 : S.pg x.at_ 0 = 9
 · rw [if_pos e1]
   cases hV : (S.setP b x.next).grantV b x.next (S.pg x.at_ 1) with
   | none => exact h2 hV
   | some i => exact h1 i hV
 rw [if_neg e1]
 cases hd : S.doR x with
 | ok x' => exact h3 x' (by omega) hd
 | error e => exact h0
theorem fix_run (S : St) (b : Nat) (x : PS) (c : Nat) : Fix S (S.runS b x c) ∧ (S.runS b x c).last ≤ S.last + 1 := by
 have lift : ∀ {T : St}, FixL S T → Fix S T ∧ T.last ≤ S.last + 1 := fun h => ⟨h.toFix, by rw [h.last]; omega⟩
 have hg := fix_grant (S.setP b x.next) b x.next (S.pg x.at_ 1) c
 refine runS_cases (fun T => Fix S T ∧ T.last ≤ S.last + 1) (lift (fl_fin S b x _)) (fun i _ => ?_) (fun _ => ⟨(fl_setP S b x.next).toFix.trans hg.1, hg.2⟩) fun x' _ _ => lift (fl_setP S b _)
 have h := fl_r0 ((S.setP b x.next).grantS b x.next (S.pg x.at_ 1) c) b (ansOf i)
 exact ⟨(fl_setP S b x.next).toFix.trans (hg.1.trans h.toFix), by rw [h.last]; exact hg.2⟩
section
variable {S S' : St} {b : Nat} {x x' : PS} {k : Nat × Nat} {P : Nat → Prop} {N : Nat → Nat}
theorem Shr.out (h : Shr S S') (ho : S.out b) : S'.out b := fun e he hm => by
 obtain ⟨e', h1, _, h3⟩ := h e he
 exact ho e' h1 (h3 b hm)
theorem shr_depart : Shr S (S.depart b k) := fun e he => by
 rcases mem_departW he with ⟨h1, _⟩ | ⟨h2, _, xs, h3, h4⟩
 · exact ⟨e, h1, rfl, fun _ h => h⟩
 · exact ⟨(k, xs), h3, h2.symm, fun c hc => by rw [h4] at hc; exact (List.mem_filter.1 hc).1⟩
theorem shr_wt (h : S'.wt = S.wt) : Shr S S' := fun e he => ⟨e, by rw [← h]; exact he, rfl, fun _ h => h⟩
theorem shr_shuts (b : Nat) (f : Nat → Nat × Nat) : ∀ (ns : List Nat) (S : St), Shr S (S.shuts b f ns)
 | [], S => Shr.refl S
 | n :: ns, S => by
   show Shr S ((if f n = (0, 0) then S else S.shut b n).shuts b f ns)
   split
   · exact shr_shuts b f ns S
   · refine Shr.trans ?_ (shr_shuts b f ns _)
     unfold St.shut
     split
     · exact (shr_wt (S' := S.setP b _) rfl).trans (shr_looks _ 16 _)
     · exact Shr.refl S
theorem orphs_wt (id : Nat) : ∀ (bs : List Nat) (S : St), (S.orphs id bs).wt = S.wt
 | [], S => rfl
 | b :: bs, S => by
   unfold St.orphs
   rw [orphs_wt id bs]
   split
   · split <;> rfl
   · rfl
theorem parent1_wt (S : St) (c : Nat) : (S.parent1 c).wt = S.wt := by
 unfold St.parent1
 split
 · split
   · split
     · split
       · show (S.take c _ _).wt = _
         unfold St.take
         split <;> rfl
       · rfl
     · rfl
   · rfl
 · rfl
theorem parents_wt : ∀ (bs : List Nat) (S : St), (S.parents bs).wt = S.wt
 | [], _ => rfl
 | c :: bs, S => by
   show ((S.parent1 c).parents bs).wt = _
   rw [parents_wt bs, parent1_wt]
theorem shr_fin (S : St) (b : Nat) (x : PS) (status : Int) : Shr S (S.fin b x status) := by
 unfold St.fin
 refine Shr.trans ?_ (shr_wt (parents_wt _ _))
 refine Shr.trans ?_ (shr_wt (orphs_wt _ _ _))
 refine Shr.trans ?_ (shr_shuts b x.f _ _)
 exact shr_depart.trans (shr_wt rfl)
theorem MI.grantS (h : MI (fun _ => False) N S) (hb : (b, x) ∈ S.ps) (hs : x.st = 1) {c : Nat} (hc : ∀ q ∈ S.ps, c ≠ q.1) (hN : N c = S.last + 1) (m : Int) : MI (fun _ => False) N (S.grantS b x m c) := by
 have ho := h.out hb hs
 have wx := (h.i.wf _ hb).r 0 (by omega)
 exact grantS_cases (MI (fun _ => False) N) (h.fin hb _) (fun h8 => h.forkS hb ho hc h8 hN) (h.waitR hb ho hs) (fun q hf _ => (h.fin (b := q.1) (x := q.2) (find_mem hf).1 _).r0' (fun z hz => (shr_fin S q.1 q.2 _).out ho) (by omega)) (h.sleep1 hb ho) (h.yield1 hb ho hs) (h.r0 hb ho (by omega)) (h.pipeR hb ho) (h.closeR hb ho) (h.askR hb hs (.inl rfl) (by omega)) (h.askR hb hs (.inr rfl) (by omega)) (h.r0 hb ho (by omega)) h
theorem do_like {op a c d : Int} (hw : WF x) (hc : 0 ≤ c ∧ c < 256) (hd : 0 ≤ d ∧ d < 256) (h : x.do op a c d = .ok x') : x'.st = x.st ∧ x'.lv = x.lv ∧ x'.id = x.id ∧ x'.par = x.par ∧ x'.used = x.used ∧ x'.f = x.f ∧ WF x' := by
 have hr : ∀ v : Int, 0 ≤ v ∧ v < 65536 → ∀ i, WF { x with at_ := x.at_ + 1, r := put x.r i v } := fun v hv i => ⟨fun j hj => by
   show 0 ≤ put x.r i v j ∧ put x.r i v j < 65536
   unfold put; split
   · exact hv
   · exact hw.r j hj, hw.m⟩
 have ha8 : (a % 8).toNat < 8 := by omega
 have hc8 : (c % 8).toNat < 8 := by omega
 have wa := hw.r _ ha8
 have wc := hw.r _ hc8
 unfold PS.do at h
 simp only at h
 by_cases e1 : op = 1
 · rw [if_pos e1] at h; cases h; exact ⟨rfl, rfl, rfl, rfl, rfl, rfl, hr _ (by omega) _⟩
 rw [if_neg e1] at h
 by_cases e2 : op = 2
 · rw [if_pos e2] at h; cases h; exact ⟨rfl, rfl, rfl, rfl, rfl, rfl, hr _ wc _⟩
 rw [if_neg e2] at h
 by_cases e3 : op = 3
 · rw [if_pos e3] at h; cases h; exact ⟨rfl, rfl, rfl, rfl, rfl, rfl, hr _ (by omega) _⟩
 rw [if_neg e3] at h
 by_cases e4 : op = 4
 · rw [if_pos e4] at h; cases h; exact ⟨rfl, rfl, rfl, rfl, rfl, rfl, hr _ (by omega) _⟩
 rw [if_neg e4] at h
 by_cases e5 : op = 5
 · rw [if_pos e5] at h; cases h; exact ⟨rfl, rfl, rfl, rfl, rfl, rfl, ⟨hw.r, hw.m⟩⟩
 rw [if_neg e5] at h
 by_cases e6 : op = 6
 · rw [if_pos e6] at h; cases h; exact ⟨rfl, rfl, rfl, rfl, rfl, rfl, ⟨hw.r, hw.m⟩⟩
 rw [if_neg e6] at h
 by_cases e7 : op = 7
 · rw [if_pos e7] at h
   split at h
   · rename_i hlt
     have := hw.m (x.r (c % 8).toNat + d).toNat (by omega)
     cases h
     exact ⟨rfl, rfl, rfl, rfl, rfl, rfl, hr _ (by omega) _⟩
   · cases h
 rw [if_neg e7] at h
 by_cases e8 : op = 8
 · rw [if_pos e8] at h
   split at h
   · rename_i hlt
     cases h
     refine ⟨rfl, rfl, rfl, rfl, rfl, rfl, hw.r, fun j hj => ?_⟩
     show 0 ≤ put x.m (x.r (c % 8).toNat + d).toNat (x.r (a % 8).toNat % 256) j ∧ put x.m (x.r (c % 8).toNat + d).toNat (x.r (a % 8).toNat % 256) j < 256
     unfold put; split
     · omega
     · exact hw.m j hj
   · cases h
 rw [if_neg e8] at h
 cases h
def Coded (S : St) : Prop := S.pn ≤ 256 ∧ ∀ i, i < S.pn → ∀ j, j < 4 → 0 ≤ S.pg i j ∧ S.pg i j < 256
theorem MI.runS (h : MI (fun _ => False) N S) (hp : Coded S) (hb : (b, x) ∈ S.ps) (hs : x.st = 1) {c : Nat} (hc : ∀ q ∈ S.ps, c ≠ q.1) (hN : N c = S.last + 1) : MI (fun _ => False) N (S.runS b x c) := by
 have ho := h.out hb hs
 have h1 : MI (fun _ => False) N (S.setP b x.next) := h.like (x' := x.next) hb ho rfl rfl ⟨(h.i.wf _ hb).r, (h.i.wf _ hb).m⟩ (h.i.fl (b, x) hb) rfl rfl (h.x.un (b, x) hb)
 have hb1 : (b, x.next) ∈ (S.setP b x.next).ps := mem_setP_self hb
 have hc1 : ∀ q ∈ (S.setP b x.next).ps, c ≠ q.1 := fun q hq => by
   rcases mem_setP hq with rfl | ⟨h2, _⟩
   · exact hc (b, x) hb
   · exact hc q h2
 have hg := h1.grantS hb1 hs hc1 hN (S.pg x.at_ 1)
 refine runS_cases (MI (fun _ => False) N) (h.fin hb _) (fun i hV => ?_) (fun _ => hg) fun x' hlt hd => ?_
 · obtain ⟨hsame, _⟩ := grant_err hV
   rw [hsame]
   exact h1.r0' (fun _ _ => ho) (ans_ok i)
 · have hby := hp.2 _ hlt
   obtain ⟨l1, l2, l3, l4, l5, l6, l7⟩ := do_like (h.i.wf _ hb) (hby 2 (by omega)) (hby 3 (by omega)) hd
   exact h.like hb ho l1 l2 l7 (by rw [l6]; exact h.i.fl (b, x) hb) l3 l4 (by rw [l5]; exact h.x.un (b, x) hb)
end
end Go.Proofs.YtejkelcaljmnoaaGreatDoor
