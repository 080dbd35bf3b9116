/-
  Part 45 of the proof.
  No condition but those that each statement names.
-/
import Derived.Test.YtejkelcaljmnoaaGreatDoorHy09
import Derived.Test.YtejkelcaljmnoaaGreatDoorHy44
import Derived.Conc.FxGenLone
import Derived.Conc.SmallLaws
set_option maxRecDepth 100000
set_option linter.unusedVariables false
set_option linter.unusedSimpArgs false
set_option linter.unusedSectionVars false
namespace Go.Proofs.YtejkelcaljmnoaaGreatDoor
open Go.Conc Go.RowKit Go.Hx Go.ConcX Go.Conc.Lib Go.ConcX.Gen
theorem d0Z {w w₁ : World} {P : Program} {Fin : Value → World → Prop} {s : Nat × List Nat} {es : Array Event} (h : ∀ e ∈ es, EvP (Shs s.2) e) : (FZ P Fin).D s w w₁ es := h
theorem ch76 (w : World) : (Instr.makeChan 76 (.int .i64 0)).run Tryz.prog w = .ok (.chan (some w.heap.size)) (w.alloc (.chan 0 #[] false 0 0 false)) ∧ ∀ es, (Instr.makeChan 76 (.int .i64 0)).events Tryz.prog w es = es := by
 obtain ⟨i, z, h1, _, _, h4, _⟩ := info44
 exact ⟨by simpa using run_makeChan (P := Tryz.prog) (w := w) Tryz.underlying76 h1 .i64 0 (by omega) (by rw [h4]; omega), fun es => by simpa using events_makeChan (P := Tryz.prog) (w := w) Tryz.underlying76 h1 .i64 0 (by omega) (by rw [h4]; omega) es⟩
theorem ch77 (w : World) : (Instr.makeChan 77 (.int .i64 0)).run Tryz.prog w = .ok (.chan (some w.heap.size)) (w.alloc (.chan 0 #[] false 0 0 false)) ∧ ∀ es, (Instr.makeChan 77 (.int .i64 0)).events Tryz.prog w es = es := by
 have h : (Tryz.prog.info? 78).map (·.bytes) = some 0 := by kernel_rfl
 obtain ⟨i, h1, h4⟩ := Option.map_eq_some_iff.1 h
 exact ⟨by simpa using run_makeChan (P := Tryz.prog) (w := w) Tryz.underlying77 h1 .i64 0 (by omega) (by rw [h4]; omega), fun es => by simpa using events_makeChan (P := Tryz.prog) (w := w) Tryz.underlying77 h1 .i64 0 (by omega) (by rw [h4]; omega) es⟩
def RanZ (PostB : World → Prop) (N : Nat) (told : Value) (ws : List Wd) (w : World) : Prop := PostB w ∧ Hx.Told (pZ N) told ws.length (ws.flatMap Wd.c) w
set_option maxHeartbeats 8000000 in
theorem run_x : ∃ k, ∀ {Fin : Value → World → Prop} (nn : Nat) (s : List Nat) (K : Nat) (ticks : Int) (ht : 0 ≤ ticks ∧ ticks ≤ 2000) (ws : List Wd) (hws : ws.length < 10000) (W : World) (hE : Elder (Shs s) W.heap.size) (PostB : World → Prop)
   (hPb : ∀ w w₁, RB (pZ W.heap.size) (W.heap.size + 2) (W.heap.size + 4) w w₁ → PostB w → PostB w₁) (hPc : ∀ w w₁, Aside2 (W.heap.size + 1) (W.heap.size + 6) w w₁ → PostB w → PostB w₁) (hPn : ∀ w, PostB w → W.heap.size + 7 ≤ w.heap.size)
   (hT : ∀ [Shy (W.heap.size + 6) (W.heap.size + 1)] (w' : World), New W (boxZ W.heap.size K ticks KK) w' → Tells Tryz.prog (pZ W.heap.size) (ShR (Shs s) W.heap.size) (W.heap.size + 2) (W.heap.size + 4) PostB (AfterD Tryz.prog 87 (W.heap.size + 6) (W.heap.size + 1) (W.heap.size + 7) [.int .i64 ticks] Mine0) (ws.map Wd.v) (born Tryz.prog (started W.heap.size)) w'),
   CallsX (FZ Tryz.prog Fin) Tryz.prog true 19 #[.pointer (some ⟨K, 0, none⟩), .int .i64 ticks] k (nn + 1, s) W fun s' v w' => s' = (nn, W.heap.size :: s) ∧ ∃ told, v = .tuple #[told, .int .i64 0] ∧ RanZ PostB W.heap.size told ws w' := by
 co_apply Exists.intro
 intro Fin nn s K ticks ht ws hws W hE PostB hPb hPc hPn hT
 have hF : New W [] W := New.refl W
 have c76 := fun w => (ch76 w).1
 have d76 := fun w => (ch76 w).2
 have c77 := fun w => (ch77 w).1
 have d77 := fun w => (ch77 w).2
 have b1 : ¬ ticks < 0 := by omega
 have b2 : ¬ 2000 < ticks := by omega
 have b3 : ¬ ticks > 2000 := by omega
 co_apply callsX_of_wpX Tryz.func19 (by rfl) rfl
 simp only [Tryz.ntmps19, List.size_toArray, List.length_cons, List.length_nil, Nat.reduceAdd, Nat.reduceSub, Array.replicate_succ, Array.replicate_zero, List.push_toArray, List.append_toArray, List.nil_append, List.cons_append]
 co_apply wpX_seq
 co_apply wpX_region
 simp only [List.size_toArray, List.length_cons, List.length_nil, Nat.reduceAdd, Nat.zero_add, List.range, List.range.loop]
 co_apply opsX_cons_k rfl (by rfl)
 intro _ hR K hK
 replace hF := (New.rely) hF hR
 clear hR
 have hs := hF.size
 go_simp
 try (unfold stored; go_simp)
 refine hK _ _ ⟨?_, ?_⟩
 · (refine d0Z ?_; intro e he; have hm := mem_listed he; simp [go_sem, *] at hm)
 clear hK K
 try walk_nrm
 replace hF := hF.alloc (.cells #[.pointer (some ⟨K, 0, none⟩)] 35)
 try simp only [List.length_cons, List.length_nil, Nat.reduceAdd, Nat.add_zero, Nat.zero_add] at hs
 try simp only [List.nil_append, List.cons_append] at hF
 try simp only [hs]
 clear hs
 co_apply opsX_cons_k rfl (by rfl)
 intro _ hR K hK
 replace hF := (New.rely) hF hR
 clear hR
 have hs := hF.size
 go_simp
 try (unfold stored; go_simp)
 refine hK _ _ ⟨?_, ?_⟩
 · (refine d0Z ?_; intro e he; have hm := mem_listed he; simp [go_sem, *] at hm)
 clear hK K
 try walk_nrm
 replace hF := hF.alloc (.cells #[.int .i64 ticks] 3)
 try simp only [List.length_cons, List.length_nil, Nat.reduceAdd, Nat.add_zero, Nat.zero_add] at hs
 try simp only [List.nil_append, List.cons_append] at hF
 try simp only [hs]
 clear hs
 co_apply opsX_cons_k rfl (by rfl)
 intro _ hR K hK
 replace hF := (New.rely) hF hR
 clear hR
 skip
 go_simp
 try (unfold stored; go_simp)
 refine hK _ _ ⟨?_, ?_⟩
 · (rw [listed_nil (by simp [go_sem, *])]; exact d0Z (by simp))
 clear hK K
 try walk_nrm
 co_apply opsX_cons_k rfl (by rfl)
 intro _ hR K hK
 replace hF := (New.rely) hF hR
 clear hR
 skip
 go_simp
 try (unfold stored; go_simp)
 refine hK _ _ ⟨?_, ?_⟩
 · (rw [listed_nil (by simp [go_sem, *])]; exact d0Z (by simp))
 clear hK K
 try walk_nrm
 co_apply opsX_nil
 try simp only [ThenX]
 try co_then
 co_apply wpX_seq
 co_apply wpX_seq
 co_apply wpX_region
 simp only [List.size_toArray, List.length_cons, List.length_nil, Nat.reduceAdd, Nat.zero_add, List.range, List.range.loop]
 co_apply opsX_cons_k rfl (by rfl)
 intro _ hR K hK
 replace hF := (New.rely) hF hR
 clear hR
 have hc := hF.cell (i := 1) rfl (j := 0) rfl
 go_simp
 try (unfold stored; go_simp)
 refine hK _ _ ⟨?_, ?_⟩
 · (refine d0Z ?_; intro e he; have hm := mem_listed he; simp [go_sem, *] at hm; try (first | (subst hm; exact evP_cell _ _ (hE.not (by omega) _)) | (rcases hm with rfl | rfl <;> exact evP_cell _ _ (hE.not (by omega) _))))
 clear hK K
 try walk_nrm
 clear hc
 co_apply opsX_cons_k rfl (by rfl)
 intro _ hR K hK
 replace hF := (New.rely) hF hR
 clear hR
 skip
 go_simp
 try (unfold stored; go_simp)
 refine hK _ _ ⟨?_, ?_⟩
 · (rw [listed_nil (by simp [go_sem, *])]; exact d0Z (by simp))
 clear hK K
 try walk_nrm
 co_apply opsX_cons_k rfl (by rfl)
 intro _ hR K hK
 replace hF := (New.rely) hF hR
 clear hR
 skip
 go_simp
 try (unfold stored; go_simp)
 refine hK _ _ ⟨?_, ?_⟩
 · (rw [listed_nil (by simp [go_sem, *])]; exact d0Z (by simp))
 clear hK K
 try walk_nrm
 co_apply opsX_cons_k rfl (by rfl)
 intro _ hR K hK
 replace hF := (New.rely) hF hR
 clear hR
 have hc := hF.cell (i := 1) rfl (j := 0) rfl
 go_simp
 try (unfold stored; go_simp)
 refine hK _ _ ⟨?_, ?_⟩
 · (refine d0Z ?_; intro e he; have hm := mem_listed he; simp [go_sem, *] at hm; try (first | (subst hm; exact evP_cell _ _ (hE.not (by omega) _)) | (rcases hm with rfl | rfl <;> exact evP_cell _ _ (hE.not (by omega) _))))
 clear hK K
 try walk_nrm
 clear hc
 co_apply opsX_cons_k rfl (by rfl)
 intro _ hR K hK
 replace hF := (New.rely) hF hR
 clear hR
 skip
 go_simp
 try (unfold stored; go_simp)
 refine hK _ _ ⟨?_, ?_⟩
 · (rw [listed_nil (by simp [go_sem, *])]; exact d0Z (by simp))
 clear hK K
 try walk_nrm
 co_apply opsX_cons_k rfl (by rfl)
 intro _ hR K hK
 replace hF := (New.rely) hF hR
 clear hR
 skip
 go_simp
 try (unfold stored; go_simp)
 refine hK _ _ ⟨?_, ?_⟩
 · (rw [listed_nil (by simp [go_sem, *])]; exact d0Z (by simp))
 clear hK K
 try walk_nrm
 co_apply opsX_nil
 try simp only [ThenX]
 try co_then
 co_apply wpX_cond (t := false)
 focus (exact rfl)
 simp only [if_true, if_false, Bool.false_eq_true, reduceIte]
 co_apply wpX_of
 co_apply wpC_skip (terms0 (Shs s))
 try simp only [ThenX]
 try co_then
 co_apply wpX_seq
 co_apply wpX_region
 simp only [List.size_toArray, List.length_cons, List.length_nil, Nat.reduceAdd, Nat.zero_add, List.range, List.range.loop]
 co_apply opsX_cons_k rfl (by rfl)
 intro _ hR K hK
 replace hF := (New.rely) hF hR
 clear hR
 have hs := hF.size
 go_simp
 try (unfold stored; go_simp)
 refine hK _ _ ⟨?_, ?_⟩
 · (refine d0Z ?_; intro e he; have hm := mem_listed he; simp [go_sem, *] at hm)
 clear hK K
 try walk_nrm
 replace hF := hF.alloc (.chan 0 #[] false 0 0 false)
 try simp only [List.length_cons, List.length_nil, Nat.reduceAdd, Nat.add_zero, Nat.zero_add] at hs
 try simp only [List.nil_append, List.cons_append] at hF
 try simp only [hs]
 clear hs
 co_apply opsX_cons_k rfl (by rfl)
 intro _ hR K hK
 replace hF := (New.rely) hF hR
 clear hR
 have hs := hF.size
 go_simp
 try (unfold stored; go_simp)
 refine hK _ _ ⟨?_, ?_⟩
 · (refine d0Z ?_; intro e he; have hm := mem_listed he; simp [go_sem, *] at hm)
 clear hK K
 try walk_nrm
 replace hF := hF.alloc (.cells #[.chan none] 76)
 try simp only [List.length_cons, List.length_nil, Nat.reduceAdd, Nat.add_zero, Nat.zero_add] at hs
 try simp only [List.nil_append, List.cons_append] at hF
 try simp only [hs]
 clear hs
 co_apply opsX_cons_k rfl (by rfl)
 intro _ hR K hK
 replace hF := (New.rely) hF hR
 clear hR
 have hc := hF.cell (i := 3) rfl (j := 0) rfl; have hz := hF.thaw (i := 3) rfl 0
 go_simp
 try (unfold stored; go_simp)
 refine hK _ _ ⟨?_, ?_⟩
 · (refine d0Z ?_; intro e he; have hm := mem_listed he; simp [go_sem, *] at hm; try (first | (subst hm; exact evP_cell _ _ (hE.not (by omega) _)) | (rcases hm with rfl | rfl <;> exact evP_cell _ _ (hE.not (by omega) _))))
 clear hK K
 try walk_nrm
 clear hc hz
 replace hF := hF.set (i := 3) rfl 0 (.chan (some (W.heap.size + 2)))
 simp only [List.set_cons_zero, List.set_cons_succ, List.setIfInBounds_toArray] at hF
 co_apply opsX_nil
 try simp only [ThenX]
 try co_then
 co_apply wpX_seq
 co_apply wpX_region
 simp only [List.size_toArray, List.length_cons, List.length_nil, Nat.reduceAdd, Nat.zero_add, List.range, List.range.loop]
 co_apply opsX_cons_k rfl (by rfl)
 intro _ hR K hK
 replace hF := (New.rely) hF hR
 clear hR
 have hs := hF.size
 go_simp
 try (unfold stored; go_simp)
 refine hK _ _ ⟨?_, ?_⟩
 · (refine d0Z ?_; intro e he; have hm := mem_listed he; simp [go_sem, *] at hm)
 clear hK K
 try walk_nrm
 replace hF := hF.alloc (.chan 0 #[] false 0 0 false)
 try simp only [List.length_cons, List.length_nil, Nat.reduceAdd, Nat.add_zero, Nat.zero_add] at hs
 try simp only [List.nil_append, List.cons_append] at hF
 try simp only [hs]
 clear hs
 co_apply opsX_cons_k rfl (by rfl)
 intro _ hR K hK
 replace hF := (New.rely) hF hR
 clear hR
 have hs := hF.size
 go_simp
 try (unfold stored; go_simp)
 refine hK _ _ ⟨?_, ?_⟩
 · (refine d0Z ?_; intro e he; have hm := mem_listed he; simp [go_sem, *] at hm)
 clear hK K
 try walk_nrm
 replace hF := hF.alloc (.cells #[.chan none] 77)
 try simp only [List.length_cons, List.length_nil, Nat.reduceAdd, Nat.add_zero, Nat.zero_add] at hs
 try simp only [List.nil_append, List.cons_append] at hF
 try simp only [hs]
 clear hs
 co_apply opsX_cons_k rfl (by rfl)
 intro _ hR K hK
 replace hF := (New.rely) hF hR
 clear hR
 have hc := hF.cell (i := 5) rfl (j := 0) rfl; have hz := hF.thaw (i := 5) rfl 0
 go_simp
 try (unfold stored; go_simp)
 refine hK _ _ ⟨?_, ?_⟩
 · (refine d0Z ?_; intro e he; have hm := mem_listed he; simp [go_sem, *] at hm; try (first | (subst hm; exact evP_cell _ _ (hE.not (by omega) _)) | (rcases hm with rfl | rfl <;> exact evP_cell _ _ (hE.not (by omega) _))))
 clear hK K
 try walk_nrm
 clear hc hz
 replace hF := hF.set (i := 5) rfl 0 (.chan (some (W.heap.size + 4)))
 simp only [List.set_cons_zero, List.set_cons_succ, List.setIfInBounds_toArray] at hF
 co_apply opsX_nil
 try simp only [ThenX]
 try co_then
 co_apply wpX_seq
 co_apply wpX_region
 simp only [List.size_toArray, List.length_cons, List.length_nil, Nat.reduceAdd, Nat.zero_add, List.range, List.range.loop]
 co_apply opsX_cons_k rfl (by rfl)
 intro _ hR K hK
 replace hF := (New.rely) hF hR
 clear hR
 have hs := hF.size
 go_simp
 try (unfold stored; go_simp)
 refine hK _ _ ⟨?_, ?_⟩
 · (refine d0Z ?_; intro e he; have hm := mem_listed he; simp [go_sem, *] at hm)
 clear hK K
 try walk_nrm
 replace hF := hF.alloc (.cells #[.int .u64 0, .int .u32 0] 87)
 try simp only [List.length_cons, List.length_nil, Nat.reduceAdd, Nat.add_zero, Nat.zero_add] at hs
 try simp only [List.nil_append, List.cons_append] at hF
 try simp only [hs]
 clear hs
 co_apply opsX_nil
 try simp only [ThenX]
 try co_then
 clear b1 b2 b3 c76 d76 c77 d77
 have hF' : New W (boxZ W.heap.size K ticks 0) _ := hF
 clear hF
 intro b k cs m hb hk hc
 have hAt : ∀ w w₁, AtRel w w₁ → PostB w → PostB w₁ := fun w w₁ ⟨d, e⟩ h => by subst e; exact hPc w _ ⟨rfl, rfl, rfl, rfl, fun _ _ _ => rfl⟩ h
 have rely : ∀ {told : Value} {w w₁ : World}, RanZ PostB W.heap.size told ws w → AtRel w w₁ → RanZ PostB W.heap.size told ws w₁ := fun {told w w₁} h r => ⟨hAt w w₁ r h.1, by obtain ⟨d, rfl⟩ := r; exact h.2⟩
 refine (show Goes Tryz.prog true AtRel (D0 (Shs s)) (StopZ Tryz.prog Fin (nn + 1) s) (m + 15) _ _ from Goes.mono (run_tail (PostB := PostB) (ws := ws) hb hk hE hws hPb hPc hPn hT ?_ _ hF') (by omega))
 · intro told w' hFJ
   have hF : RanZ PostB W.heap.size told ws w' := hFJ
   clear hFJ hF' hT
   co_apply Exists.intro
   co_apply goes_ctl (terms0 (Shs (W.heap.size :: s))) rfl (fun _ => stepG_region_end)
   co_apply wpX_goes (F := FZ Tryz.prog Fin) (s := (nn, W.heap.size :: s)) (m := m) ?_ hb hk hc
   simp only [TR, tl10, tl9, tl8, tl7, tl6, Tryz.f19]
   co_apply wpX_seq
   co_apply wpX_region
   simp only [List.size_toArray, List.length_cons, List.length_nil, Nat.reduceAdd, Nat.zero_add, List.range, List.range.loop]
   co_apply opsX_cons_k rfl (by rfl)
   intro _ hR K hK
   replace hF := (rely) hF hR
   clear hR
   skip
   go_simp
   try (unfold stored; go_simp)
   refine hK _ _ ⟨?_, ?_⟩
   · (rw [listed_nil (by simp [go_sem, *])]; exact d0Z (by simp))
   clear hK K
   try walk_nrm
   co_apply opsX_cons_k rfl (by rfl)
   intro _ hR K hK
   replace hF := (rely) hF hR
   clear hR
   skip
   go_simp
   try (unfold stored; go_simp)
   refine hK _ _ ⟨?_, ?_⟩
   · (rw [listed_nil (by simp [go_sem, *])]; exact d0Z (by simp))
   clear hK K
   try walk_nrm
   co_apply opsX_cons_k rfl (by rfl)
   intro _ hR K hK
   replace hF := (rely) hF hR
   clear hR
   skip
   go_simp
   try (unfold stored; go_simp)
   refine hK _ _ ⟨?_, ?_⟩
   · (rw [listed_nil (by simp [go_sem, *])]; exact d0Z (by simp))
   clear hK K
   try walk_nrm
   co_apply opsX_nil
   try simp only [ThenX]
   try co_then
   co_apply wpX_of
   co_apply wpC_ret (terms0 (Shs (W.heap.size :: s)))
   exact ⟨rfl, _, resultsC_tmp2 (t := 4) (u := 5) (by rfl) _, rfl, told, rfl, hF⟩
end Go.Proofs.YtejkelcaljmnoaaGreatDoor
namespace Go.Proofs.YtejkelcaljmnoaaGreatDoor
open Go.Conc Go.RowKit Go.Hx Go.Lo Go.ConcX Go.Conc.Lib Go.ConcX.Gen
section
variable {σ : Type} {F : Fam σ} {P : Program} {main : Bool} {f : FuncId} {args : Array Value} {n : Nat} {s : σ} {w : World} {Post Post' : σ → Value → World → Prop}
theorem callsX_post (h : CallsX F P main f args n s w Post) (hp : ∀ s v w, Post s v w → Post' s v w) : CallsX F P main f args n s w Post' := by
 obtain ⟨g, c, hf, hname, hbody, hwp⟩ := h
 refine ⟨g, c, hf, hname, hbody, fun b k cs m hb hk hc => hwp b k cs m hb hk fun s' e a' w' q => hc s' e a' w' ?_⟩
 cases e with
 | normal => obtain ⟨h1, v, h2, h3⟩ := q; exact ⟨h1, v, h2, hp _ _ _ h3⟩
 | ret => obtain ⟨h1, v, h2, h3⟩ := q; exact ⟨h1, v, h2, hp _ _ _ h3⟩
 | _ => exact q
end
section
variable {K : Nat} {A : Lay} {S : St} {F L : Frag}
theorem Rep.boxes (h : Rep K A S F L) {bx : Frag} (hf : Fun (bx ++ L)) (hn : ∀ t ∈ bx, ∀ u ∈ L, u.1 ≠ t.1) : Rep K A S (bx ++ F) (bx ++ L) :=
 { h.of hf (fun t ht => List.mem_append_right _ ht) with
   fr := fun t ht => by
     rcases List.mem_append.1 ht with h1 | h1
     · exact List.mem_append_left _ h1
     · exact List.mem_append_right _ (h.fr t h1)
   fd := fun t ht => by
     rcases List.mem_append.1 ht with h1 | h1
     · exact ⟨fun e => hn t h1 _ h.k e.symm, fun q hq e => hn t h1 _ (h.p q hq) e.symm, fun i e => let ⟨_, hx⟩ := h.al i _ e; hn t h1 _ hx rfl, fun i e => let ⟨_, hx⟩ := h.yl i _ e; hn t h1 _ hx rfl, fun e => hn t h1 _ h.w e.symm⟩
     · exact h.fd t h1 }
theorem Rep.forget (h : Rep K A S F L) {c : Nat} {cs : Array Value} {fl : Bool} (hc : (c, fl, Obj.cells cs 3) ∈ F) {F' : Frag} (hF : ∀ t ∈ F', t ∈ F ∧ t.1 ≠ c) : Rep K A S F' (L.filter fun t => !decide (t.1 = c)) := by
 obtain ⟨d1, d2, d3, d4, d5⟩ := h.fd _ hc
 have hcL := h.fr _ hc
 have mem : ∀ t ∈ L, t.1 ≠ c → t ∈ L.filter fun t => !decide (t.1 = c) := fun t ht hne => List.mem_filter.2 ⟨ht, by simpa using hne⟩
 have arr : ∀ (a : Sl) (xs : List Value) (e : TypeId), a.b ≠ some c → slOk a xs e L → slOk a xs e (L.filter fun t => !decide (t.1 = c)) := fun a xs e hn ha => by
   refine ha.mono fun d hd o ho => mem _ ho ?_
   show d ≠ c
   rintro rfl
   exact hn hd
 exact { h with
   fn := fun b fl fl' o o' h1 h2 => h.fn b fl fl' o o' (List.mem_filter.1 h1).1 (List.mem_filter.1 h2).1
   k := mem _ h.k (Ne.symm d1)
   g := mem _ h.g (h.fn.ne h.g hcL (cells_ne (by decide)))
   p := fun q hq => mem _ (h.p q hq) (Ne.symm (d2 q hq))
   pa := arr _ _ _ (d3 0) h.pa
   rw := fun l hl => arr _ _ _ (d3 _) (h.rw l hl)
   ya := fun i hi => arr _ _ _ (d4 i) (h.ya i hi)
   w := mem _ h.w (Ne.symm d5)
   wa := fun e he => arr _ _ _ (d3 _) (h.wa e he)
   al := fun i d hd => by obtain ⟨xs, hx⟩ := h.al i d hd; exact ⟨xs, mem _ hx (by rintro rfl; exact d3 i hd)⟩
   yl := fun i d hd => by obtain ⟨xs, hx⟩ := h.yl i d hd; exact ⟨xs, mem _ hx (by rintro rfl; exact d4 i hd)⟩
   fr := fun t ht => mem _ (h.fr t (hF t ht).1) (hF t ht).2
   fd := fun t ht => h.fd t (hF t ht).1 }
end
def Heard (told : Value) (es : List Value) (L : Frag) : Prop := (told = .slice none 0 0 ∧ es = []) ∨ ∃ g cap cur, told = .slice (some ⟨g, 0, none⟩) es.length cap ∧ (g, true, Obj.cells cur 51) ∈ L ∧ es.length ≤ cap ∧ cap ≤ maxLen ∧ cur.size = cap * 4 ∧ cur.toList.take (es.length * 4) = es.flatMap fun v => v.cells.toList
theorem grantE_form (S : St) (b : Nat) (x : PS) (m : Int) : ∃ ws : List Wd, S.grantE b x m = ws.map Wd.v ∧ ws.length ≤ 1 := by
 unfold St.grantE
 by_cases e0 : m = 0
 · rw [if_pos e0]; exact ⟨[(_, _, _, _)], rfl, Nat.le_refl _⟩
 rw [if_neg e0]
 by_cases e3 : m = 3
 · rw [if_pos e3]
   cases S.find (x.r 0) with
   | none => exact ⟨[], rfl, Nat.zero_le _⟩
   | some q =>
     simp only
     split
     · exact ⟨[], rfl, Nat.zero_le _⟩
     · exact ⟨[(_, _, _, _)], rfl, Nat.le_refl _⟩
 rw [if_neg e3]
 split
 · exact ⟨[(_, _, _, _)], rfl, Nat.le_refl _⟩
 · exact ⟨[], rfl, Nat.zero_le _⟩
theorem runE_form (S : St) (b : Nat) (x : PS) : ∃ ws : List Wd, S.runE b x = ws.map Wd.v ∧ ws.length ≤ 1 := by
 unfold St.runE
 split
 · exact ⟨[(_, _, _, _)], rfl, Nat.le_refl _⟩
 · split
   · exact grantE_form _ _ _ _
   · split
     · exact ⟨[], rfl, Nat.zero_le _⟩
     · exact ⟨[(_, _, _, _)], rfl, Nat.le_refl _⟩
theorem tickE_form (S : St) : ∃ ws : List Wd, S.tickE = ws.map Wd.v ∧ ws.length ≤ 2 := by
 unfold St.tickE
 cases S.lead.first with
 | none => exact ⟨[(_, _, _, _)], rfl, by simp⟩
 | some b =>
   simp only
   cases S.lead.get b with
   | none => exact ⟨[], rfl, by simp⟩
   | some x =>
     obtain ⟨ws, h1, h2⟩ := runE_form S.lead b x
     exact ⟨(_, _, _, _) :: ws, by simp only [h1]; rfl, by simp; omega⟩
theorem evs_form : ∀ (m : Nat) (T : St), ∃ ws : List Wd, St.evs m T = ws.map Wd.v ∧ ws.length ≤ 2 * m
 | 0, _ => ⟨[], rfl, by simp⟩
 | m + 1, T => by
   unfold St.evs
   split
   · exact ⟨[], rfl, by simp⟩
   · obtain ⟨w1, h1, h2⟩ := tickE_form T
     obtain ⟨w2, h3, h4⟩ := evs_form m T.next
     exact ⟨w1 ++ w2, by rw [h1, h3]; simp, by simp; omega⟩
theorem shs_blk : ∀ (s : List Nat) (l : Loc), Shs s l → ∃ b, blk l = some b
 | [], _, h => h.elim
 | N :: s, l, h => by
   rcases h with h | ⟨a, rfl, _⟩
   · exact shs_blk s l h
   · exact ⟨_, rfl⟩
theorem newT {p : Par} {Sh : Loc → Prop} {E Dn : Nat} {PostB : World → Prop} {Aft : Goroutine → World → Prop} {W : World} {O : Nat} {G : List (Nat × Obj)} (hp : p.ety = 51) : ∀ s, NewT (domT Tryz.prog p Sh E Dn PostB Aft W O G s) := fun s => by
 have h : ∀ (t : TypeId), t ≠ 51 → ∀ cs, (domT Tryz.prog p Sh E Dn PostB Aft W O G s).New (.cells cs t) := fun t ht cs => by
   show isEv p.ety (.cells cs t) = false
   rw [hp]
   simpa [isEv] using ht
 exact { a := h 180 (by decide), b := h 182 (by decide), c := h 196 (by decide), d := h 210 (by decide), r := h 93 (by decide), k := h 96 (by decide), y := h 5 (by decide), i := h 158 (by decide), p := h 99 (by decide), n := h 3 (by decide) }
abbrev bxs (N K : Nat) (m : Nat) : Frag := [(N + 1, false, Obj.cells #[.int .i64 (m : Nat)] 3), (N, false, Obj.cells #[.pointer (some ⟨K, 0, none⟩)] 35), (N + 3, false, Obj.cells #[.chan (some (N + 2))] 76), (N + 5, false, Obj.cells #[.chan (some (N + 4))] 77)]
section
variable {W : World} {O : Nat} {s : List Nat} {L : Frag} {w w' : World} {K m : Nat}
theorem own_boxes (hO : Own0 (Shs s) W O L w) (hn : New w (boxZ w.heap.size K (m : Nat) KK) w') : (domV (pZ w.heap.size) (ShR (Shs s) w.heap.size) (w.heap.size + 2) (w.heap.size + 4) W O (GW (w.heap.size + 6))).Own (bxs w.heap.size K m ++ L) w' := by
 have hE : Elder (Shs s) w.heap.size := fun l hl => by
   obtain ⟨b, hb⟩ := shs_blk s l hl
   exact ⟨b, hb, hO.low l b hl hb⟩
 have lt : ∀ t ∈ L, t.1 < w.heap.size := fun t ht => hO.lt (fl := t.2.1) (o := t.2.2) ht
 have hz := hO.old.z
 have bx : ∀ t ∈ bxs w.heap.size K m, w'.heap[t.1]? = some t.2.2 ∧ w.heap.size ≤ t.1 ∧ t.1 < w.heap.size + 6 ∧ t.1 ≠ w.heap.size + 2 ∧ t.1 ≠ w.heap.size + 4 ∧ t.2.1 = false := fun t ht => by
   simp only [List.mem_cons, List.mem_nil_iff, or_false] at ht
   rcases ht with rfl | rfl | rfl | rfl
   · exact ⟨hn.get (i := 1) rfl, by simp only; omega, by simp only; omega, by simp only; omega, by simp only; omega, rfl⟩
   · exact ⟨hn.get (i := 0) rfl, by simp only; omega, by simp only; omega, by simp only; omega, by simp only; omega, rfl⟩
   · exact ⟨hn.get (i := 3) rfl, by simp only; omega, by simp only; omega, by simp only; omega, by simp only; omega, rfl⟩
   · exact ⟨hn.get (i := 5) rfl, by simp only; omega, by simp only; omega, by simp only; omega, by simp only; omega, rfl⟩
 refine ⟨(show OwnW _ _ _ _ _ _ _ _ from { has := ?_, ap := ?_, own := ?_, nd := ?_, sz := ?_, old := ?_, sh := shOkZ hE, hE := ?_, oo := ?_ }), ⟨?_, ?_, ?_⟩⟩
 · intro t ht
   rcases List.mem_append.1 ht with h | h
   · exact (bx t h).1
   · rw [hn.old (lt t h)]; exact hO.has t h
 · intro t ht
   rcases List.mem_append.1 ht with h | h
   · obtain ⟨_, h1, h2, h3, h4, _⟩ := bx t h
     refine ⟨h3, h4, fun l hl hs => ?_, fun _ => by show t.1 < w.heap.size + 7; omega⟩
     rcases hs with hs | ⟨a, rfl, ha⟩
     · have := hO.low l _ hs hl
       omega
     · simp only [blk, Option.some.injEq] at hl
       omega
   · have := lt t h
     refine ⟨by omega, by omega, fun l hl hs => ?_, fun _ => by show t.1 < w.heap.size + 7; omega⟩
     rcases hs with hs | ⟨a, rfl, ha⟩
     · exact hO.ap t h l hl hs
     · simp only [blk, Option.some.injEq] at hl
       omega
 · intro t ht hfl
   rcases List.mem_append.1 ht with h | h
   · have := (bx t h).2.2.2.2.2
     rw [hfl] at this
     cases this
   · refine ⟨hO.own t h hfl, fun l hl hs => ?_⟩
     obtain ⟨a, rfl, ha⟩ := hs
     simp only [blk, Option.some.injEq] at hl
     have := lt t h
     omega
 · rw [List.map_append]
   refine List.nodup_append.2 ⟨by simp, hO.nd, fun a ha c hc => ?_⟩
   obtain ⟨t, ht, rfl⟩ := List.mem_map.1 ha
   obtain ⟨u, hu, rfl⟩ := List.mem_map.1 hc
   have := (bx t ht).2.1
   have := lt u hu
   omega
 · rw [hn.size]; exact Nat.le_refl _
 · exact ⟨hn.tape.trans hO.old.t, hn.os'.trans hO.old.o, hn.output.trans hO.old.u, by rw [hn.size]; omega, fun x hx => (hn.old (by omega)).trans (hO.old.b x hx)⟩
 · exact ⟨by show w.heap.size + 2 < w.heap.size + 7; omega, by show w.heap.size + 4 < w.heap.size + 7; omega⟩
 · refine ⟨by omega, by omega, ?_⟩
   show O ≤ w.heap.size + 7
   omega
 · intro t ht
   simp only [List.mem_cons, List.mem_nil_iff, or_false] at ht
   subst ht
   exact hn.get (i := 6) rfl
 · intro t ht u hu
   simp only [List.mem_cons, List.mem_nil_iff, or_false] at ht
   subst ht
   rcases List.mem_append.1 hu with h | h
   · have := (bx u h).2.2.1
     simp only; omega
   · have := lt u h
     simp only; omega
 · intro t ht
   simp only [List.mem_cons, List.mem_nil_iff, or_false] at ht
   subst ht
   refine ⟨by simp only; omega, by simp only; omega, ?_⟩
   show w.heap.size + 6 < w.heap.size + 7
   omega
end
theorem flat_cells (ws : List Wd) : (ws.map Wd.v).flatMap (fun v => v.cells.toList) = ws.flatMap Wd.c := by
 induction ws with
 | nil => rfl
 | cons x ws ih => simp only [List.map_cons, List.flatMap_cons, ih]; rfl
set_option maxHeartbeats 1000000 in
theorem run_s : ∃ k, ∀ {Fin : Value → World → Prop} {W : World} {O : Nat} (nn : Nat) (s : List Nat) (K : Nat) (A : Lay) (S T : St) (Fr L : Frag) (eb : Nat → Nat × Nat) (m : Nat), Rep K A S Fr L → Ers eb Fr → Ab S T → m ≤ 2000 → S.now < 1152921504606846976 →
   CallsL (F := FZ Tryz.prog Fin) (fun s => dom0 (Shs s.2) W O) Tryz.prog true 19 [ptr K, .int .i64 (m : Nat)].toArray k (nn + 1, s) L (fun s' v L' => ∃ N told A' S', s' = (nn, N :: s) ∧ v = .tuple #[told, .int .i64 0] ∧ Ab S' (St.runs m T) ∧ Rep K A' S' Fr L' ∧ Heard told (St.evs m T) L') := by
 obtain ⟨k, hk⟩ := run_x
 obtain ⟨kp, hpass⟩ := pass_s
 refine ⟨k, fun {Fin W O} nn s K A S T Fr L eb m hR hEr hAb hm hnow w hO => ?_⟩
 obtain ⟨ws, hws, hwl⟩ := evs_form m T
 have hO' : Own0 (Shs s) W O L w := hO
 have hE : Elder (Shs s) w.heap.size := fun l hl => by
   obtain ⟨b, hb⟩ := shs_blk s l hl
   exact ⟨b, hb, hO'.low l b hl hb⟩
 have hz := hO'.old.z
 have lt : ∀ t ∈ L, t.1 < w.heap.size := fun t ht => hO'.lt (fl := t.2.1) (o := t.2.2) ht
 let QL : Frag → Prop := fun L' => ∃ A' S', Ab S' (St.runs m T) ∧ Rep K A' S' Fr L'
 let PB := PostW (pZ w.heap.size) (ShR (Shs s) w.heap.size) (w.heap.size + 2) (w.heap.size + 4) W O (w.heap.size + 6) (w.heap.size + 1) QL
 refine callsX_post (hk nn s K (m : Nat) ⟨by omega, by omega⟩ ws (by omega) w hE PB ?_ ?_ ?_ ?_) ?_
 · rintro x x₁ r ⟨L', h1, h2, h3⟩
   exact ⟨L', h1.rely r, h2, h3⟩
 · rintro x x₁ r ⟨L', h1, h2, h3⟩
   refine ⟨L', { h1 with has := fun t ht => (r.block t.1 (h2 t ht).1 (h2 t ht).2).trans (h1.has t ht), sz := by rw [r.size]; exact h1.sz, old := ⟨r.tape.trans h1.old.t, r.os.trans h1.old.o, r.output.trans h1.old.u, by rw [r.size]; exact h1.old.z, fun y hy => (r.block y (by omega) (by omega)).trans (h1.old.b y hy)⟩ }, h2, h3⟩
 · rintro x ⟨L', h1, _⟩
   exact h1.sz
 · intro _ w' hn
   have hV := own_boxes hO' hn
   have hnd := (domV (pZ w.heap.size) (ShR (Shs s) w.heap.size) (w.heap.size + 2) (w.heap.size + 4) W O (GW (w.heap.size + 6))).nd hV
   have hR1 : Rep K A S (bxs w.heap.size K m ++ Fr) (bxs w.heap.size K m ++ L) := hR.boxes (fun_of_nd hnd) fun t ht u hu e => by
     rw [List.map_append] at hnd
     exact (List.nodup_append.1 hnd).2.2 t.1 (List.mem_map.2 ⟨t, ht, rfl⟩) u.1 (List.mem_map.2 ⟨u, hu, rfl⟩) e.symm
   have hP := hpass (p := pZ w.heap.size) (Sh := ShR (Shs s) w.heap.size) (E := w.heap.size + 2) (Dn := w.heap.size + 4) (PostB := PB) (Aft := AfterD Tryz.prog 87 (w.heap.size + 6) (w.heap.size + 1) (w.heap.size + 7) [.int .i64 (m : Nat)] Mine0) (W := W) (O := O) (G0 := GW (w.heap.size + 6)) (vs := []) K A S T (bxs w.heap.size K m ++ Fr) (bxs w.heap.size K m ++ L) eb m (newT rfl) hR1 (hEr.mono fun t ht => List.mem_append_right _ ht) hAb hm hnow
   rw [List.append_nil, hws] at hP
   refine run1_tells (kb := w.heap.size) (db := w.heap.size + 5) (eb := w.heap.size + 3) (C := w.heap.size + 1) (Wg := w.heap.size + 6) (Low := w.heap.size + 7) (K := K) (L := bxs w.heap.size K m ++ L) (QL := QL) (by omega) (by omega) (by omega) (by omega) (by omega) (by simp) (by simp) (by simp) (by simp) kp _ (fun x hx => callsX_post (hP x hx) ?_) w' hV
   rintro s' v x' ⟨L', hL', h1, _, A', S', h2, h3⟩
   refine ⟨h1.symm, L', hL', h3.fr _ (by simp), A', S', h2, h3.forget (c := w.heap.size + 1) (cs := #[.int .i64 (m : Nat)]) (fl := false) (by simp) fun t ht => ⟨List.mem_append_right _ ht, ?_⟩⟩
   have := lt t (hR.fr t ht)
   omega
 · rintro s' v x' ⟨h1, told, h2, ⟨L', hW, hne, A', S', hA', hR'⟩, hT⟩
   have hdom : Own0 (Shs (w.heap.size :: s)) W O L' x' := ⟨hW.has, fun t ht => (hW.ap t ht).2.2.1, fun t ht hf => (hW.own t ht hf).1, hW.nd, fun l b hl hb => by have := hW.sh.low l b hl hb; have := hW.sz; omega, hW.old⟩
   subst h1
   rw [show (St.evs m T) = ws.map Wd.v from hws]
   obtain ⟨hl, hT⟩ := hT
   rcases hT with ⟨rfl, h0⟩ | ⟨g, cap, cur, rfl, hg, hcur, hn, hcm, hcs, htk⟩
   · refine ⟨L', hdom, w.heap.size, _, A', S', rfl, h2, hA', hR', .inl ⟨rfl, ?_⟩⟩
     have : ws = [] := List.length_eq_zero_iff.1 h0
     rw [this]; rfl
   · have hgN : w.heap.size + 7 ≤ g := hg
     have hgn : ∀ t ∈ L', t.1 ≠ g := fun t ht e => by
       have h3 := hW.has t ht
       rw [e, hcur] at h3
       have h4 := (hW.ap t ht).2.2.2 (by rw [← Option.some.inj h3]; rfl)
       have : t.1 < w.heap.size + 7 := h4
       omega
     refine ⟨(g, true, Obj.cells cur 51) :: L', ?_, w.heap.size, _, A', S', rfl, h2, hA', hR'.of ?_ (fun t ht => List.mem_cons_of_mem _ ht), .inr ⟨g, cap, cur, by rw [List.length_map], List.mem_cons_self, by rw [List.length_map]; exact hn, hcm, hcs, ?_⟩⟩
     · show Own0 (Shs (w.heap.size :: s)) W O _ x'
       refine ⟨fun t ht => ?_, fun t ht => ?_, fun t ht hf => ?_, ?_, hdom.low, hdom.old⟩
       · rcases List.mem_cons.1 ht with rfl | ht
         · exact hcur
         · exact hdom.has t ht
       · rcases List.mem_cons.1 ht with rfl | ht
         · intro l hl hs
           have := hW.sh.low l g hs hl
           have : g < w.heap.size + 7 := this
           omega
         · exact hdom.ap t ht
       · rcases List.mem_cons.1 ht with rfl | ht
         · simp only; omega
         · exact hdom.own t ht hf
       · simp only [List.map_cons, List.nodup_cons]
         exact ⟨fun hm => by obtain ⟨t, ht, e⟩ := List.mem_map.1 hm; exact hgn t ht e, hdom.nd⟩
     · refine fun_of_nd ?_
       simp only [List.map_cons, List.nodup_cons]
       exact ⟨fun hm => by obtain ⟨t, ht, e⟩ := List.mem_map.1 hm; exact hgn t ht e, hdom.nd⟩
     · rw [List.length_map, flat_cells]; exact htk
end Go.Proofs.YtejkelcaljmnoaaGreatDoor
