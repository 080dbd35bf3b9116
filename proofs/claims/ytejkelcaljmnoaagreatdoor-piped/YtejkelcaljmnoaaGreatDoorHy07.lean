/-
  Part 7 of the proof.
  No condition but those that each statement names.
-/
import Derived.Test.YtejkelcaljmnoaaGreatDoorHy02
import Derived.Test.YtejkelcaljmnoaaGreatDoorHy06
import Derived.Conc.FxGenLone
import Derived.Conc.SmallLaws
import Derived.Test.YtejkelcaljmnoaaGreatDoorHy03
import Derived.Conc.Own3
set_option maxRecDepth 100000
set_option maxHeartbeats 4000000
set_option linter.unusedVariables false
set_option linter.unusedSimpArgs false
set_option linter.unusedSectionVars false
namespace Go.Proofs.YtejkelcaljmnoaaGreatDoor
open Go.Conc Go.RowKit Go.Hx Go.ConcX Go.Conc.Lib Go.ConcX.Gen
theorem d0Z {w w₁ : World} {P : Program} {Fin : Value → World → Prop} {s : Nat × List Nat} {es : Array Event} (h : ∀ e ∈ es, EvP (Shs s.2) e) : (FZ P Fin).D s w w₁ es := h
theorem A9 (w : World) : (Instr.makeChan 76 (.int .i64 0)).run Tryz.prog w = .ok (.chan (some w.heap.size)) (w.alloc (.chan 0 #[] false 0 0 false)) ∧ ∀ es, (Instr.makeChan 76 (.int .i64 0)).events Tryz.prog w es = es := by
 obtain ⟨i, z, h1, _, _, h4, _⟩ := ta;exact ⟨by simpa using run_makeChan (P := Tryz.prog) (w := w) Tryz.underlying76 h1 .i64 0 (by omega) (by rw [h4]; omega), fun es => by simpa using events_makeChan (P := Tryz.prog) (w := w) Tryz.underlying76 h1 .i64 0 (by omega) (by rw [h4]; omega) es⟩
theorem Ba (w : World) : (Instr.makeChan 77 (.int .i64 0)).run Tryz.prog w = .ok (.chan (some w.heap.size)) (w.alloc (.chan 0 #[] false 0 0 false)) ∧ ∀ es, (Instr.makeChan 77 (.int .i64 0)).events Tryz.prog w es = es := by
 have h : (Tryz.prog.info? 78).map (·.bytes) = some 0 := by kernel_rfl
 obtain ⟨i, h1, h4⟩ := Option.map_eq_some_iff.1 h;exact ⟨by simpa using run_makeChan (P := Tryz.prog) (w := w) Tryz.underlying77 h1 .i64 0 (by omega) (by rw [h4]; omega), fun es => by simpa using events_makeChan (P := Tryz.prog) (w := w) Tryz.underlying77 h1 .i64 0 (by omega) (by rw [h4]; omega) es⟩
def RanZ (PostB : World → Prop) (N : Nat) (told : Value) (ws : List Wd) (w : World) : Prop := PostB w ∧ Hx.Told (pZ N) told ws.length (ws.flatMap Wd.c) w
theorem Bb : ∃ k, ∀ {Fin : Value → World → Prop} (nn : Nat) (s : List Nat) (K : Nat) (ticks : Int) (ht : 0 ≤ ticks ∧ ticks ≤ 2000) (ws : List Wd) (hws : ws.length < 10000) (W : World) (hE : Elder (Shs s) W.heap.size) (PostB : World → Prop)
   (hPb : ∀ w w₁, RB (pZ W.heap.size) (W.heap.size + 2) (W.heap.size + 4) w w₁ → PostB w → PostB w₁) (hPc : ∀ w w₁, Aside2 (W.heap.size + 1) (W.heap.size + 6) w w₁ → PostB w → PostB w₁) (hPn : ∀ w, PostB w → W.heap.size + 7 ≤ w.heap.size)
   (hT : ∀ [Shy (W.heap.size + 6) (W.heap.size + 1)] (w' : World), New W (boxZ W.heap.size K ticks KK) w' → Tells Tryz.prog (pZ W.heap.size) (ShR (Shs s) W.heap.size) (W.heap.size + 2) (W.heap.size + 4) PostB (AfterD Tryz.prog 87 (W.heap.size + 6) (W.heap.size + 1) (W.heap.size + 7) [.int .i64 ticks] Mine0) (ws.map Wd.v) (born Tryz.prog (started W.heap.size)) w'),
   CallsX (FZ Tryz.prog Fin) Tryz.prog true 19 #[.pointer (some ⟨K, 0, none⟩), .int .i64 ticks] k (nn + 1, s) W fun s' v w' => s' = (nn, W.heap.size :: s) ∧ ∃ told, v = .tuple #[told, .int .i64 0] ∧ RanZ PostB W.heap.size told ws w' := by
 co_apply Exists.intro;intro Fin nn s K ticks ht ws hws W hE PostB hPb hPc hPn hT;have hF : New W [] W := New.refl W;have c76 := fun w => (A9 w).1;have d76 := fun w => (A9 w).2;have c77 := fun w => (Ba w).1;have d77 := fun w => (Ba w).2;have b1 : ¬ ticks < 0 := by omega
 have b2 : ¬ 2000 < ticks := by omega
 have b3 : ¬ ticks > 2000 := by omega
 co_apply eY Tryz.func19 (by rfl) rfl;simp only [Tryz.ntmps19, List.size_toArray, List.length_cons, List.length_nil, Nat.reduceAdd, Nat.reduceSub, Array.replicate_succ, Array.replicate_zero, List.push_toArray, List.append_toArray, List.nil_append, List.cons_append];co_apply cj;co_apply bd;simp only [List.size_toArray, List.length_cons, List.length_nil, Nat.reduceAdd, Nat.zero_add, List.range, List.range.loop];co_apply aG rfl (by rfl);intro _ hR K hK;replace hF := (New.rely) hF hR;clear hR;have hs := hF.size;go_simp
 try (unfold stored; go_simp)
 refine hK _ _ ⟨?_, ?_⟩
 · (refine d0Z ?_; intro e he; have hm := mem_listed he; simp [go_sem, *] at hm)
 clear hK K
 try walk_nrm
 replace hF := hF.alloc (.cells #[.pointer (some ⟨K, 0, none⟩)] 35)
 try simp only [List.length_cons, List.length_nil, Nat.reduceAdd, Nat.add_zero, Nat.zero_add] at hs
 try simp only [List.nil_append, List.cons_append] at hF
 try simp only [hs]
 clear hs;co_apply aG rfl (by rfl);intro _ hR K hK;replace hF := (New.rely) hF hR;clear hR;have hs := hF.size;go_simp
 try (unfold stored; go_simp)
 refine hK _ _ ⟨?_, ?_⟩
 · (refine d0Z ?_; intro e he; have hm := mem_listed he; simp [go_sem, *] at hm)
 clear hK K
 try walk_nrm
 replace hF := hF.alloc (.cells #[.int .i64 ticks] 3)
 try simp only [List.length_cons, List.length_nil, Nat.reduceAdd, Nat.add_zero, Nat.zero_add] at hs
 try simp only [List.nil_append, List.cons_append] at hF
 try simp only [hs]
 clear hs;co_apply aG rfl (by rfl);intro _ hR K hK;replace hF := (New.rely) hF hR;clear hR
 skip
 go_simp
 try (unfold stored; go_simp)
 refine hK _ _ ⟨?_, ?_⟩
 · (rw [listed_nil (by simp [go_sem, *])]; exact d0Z (by simp))
 clear hK K
 try walk_nrm
 co_apply aG rfl (by rfl);intro _ hR K hK;replace hF := (New.rely) hF hR;clear hR
 skip
 go_simp
 try (unfold stored; go_simp)
 refine hK _ _ ⟨?_, ?_⟩
 · (rw [listed_nil (by simp [go_sem, *])]; exact d0Z (by simp))
 clear hK K
 try walk_nrm
 co_apply bu
 try simp only [ThenX]
 try co_then
 co_apply cj;co_apply cj;co_apply bd;simp only [List.size_toArray, List.length_cons, List.length_nil, Nat.reduceAdd, Nat.zero_add, List.range, List.range.loop];co_apply aG rfl (by rfl);intro _ hR K hK;replace hF := (New.rely) hF hR;clear hR;have hc := hF.cell (i := 1) rfl (j := 0) rfl;go_simp
 try (unfold stored; go_simp)
 refine hK _ _ ⟨?_, ?_⟩
 · (refine d0Z ?_; intro e he; have hm := mem_listed he; simp [go_sem, *] at hm; try (first | (subst hm; exact dX _ _ (hE.not (by omega) _)) | (rcases hm with rfl | rfl <;> exact dX _ _ (hE.not (by omega) _))))
 clear hK K
 try walk_nrm
 clear hc;co_apply aG rfl (by rfl);intro _ hR K hK;replace hF := (New.rely) hF hR;clear hR
 skip
 go_simp
 try (unfold stored; go_simp)
 refine hK _ _ ⟨?_, ?_⟩
 · (rw [listed_nil (by simp [go_sem, *])]; exact d0Z (by simp))
 clear hK K
 try walk_nrm
 co_apply aG rfl (by rfl);intro _ hR K hK;replace hF := (New.rely) hF hR;clear hR
 skip
 go_simp
 try (unfold stored; go_simp)
 refine hK _ _ ⟨?_, ?_⟩
 · (rw [listed_nil (by simp [go_sem, *])]; exact d0Z (by simp))
 clear hK K
 try walk_nrm
 co_apply aG rfl (by rfl);intro _ hR K hK;replace hF := (New.rely) hF hR;clear hR;have hc := hF.cell (i := 1) rfl (j := 0) rfl;go_simp
 try (unfold stored; go_simp)
 refine hK _ _ ⟨?_, ?_⟩
 · (refine d0Z ?_; intro e he; have hm := mem_listed he; simp [go_sem, *] at hm; try (first | (subst hm; exact dX _ _ (hE.not (by omega) _)) | (rcases hm with rfl | rfl <;> exact dX _ _ (hE.not (by omega) _))))
 clear hK K
 try walk_nrm
 clear hc;co_apply aG rfl (by rfl);intro _ hR K hK;replace hF := (New.rely) hF hR;clear hR
 skip
 go_simp
 try (unfold stored; go_simp)
 refine hK _ _ ⟨?_, ?_⟩
 · (rw [listed_nil (by simp [go_sem, *])]; exact d0Z (by simp))
 clear hK K
 try walk_nrm
 co_apply aG rfl (by rfl);intro _ hR K hK;replace hF := (New.rely) hF hR;clear hR
 skip
 go_simp
 try (unfold stored; go_simp)
 refine hK _ _ ⟨?_, ?_⟩
 · (rw [listed_nil (by simp [go_sem, *])]; exact d0Z (by simp))
 clear hK K
 try walk_nrm
 co_apply bu
 try simp only [ThenX]
 try co_then
 co_apply fE (t := false)
 focus (exact rfl)
 simp only [if_true, if_false, Bool.false_eq_true, reduceIte];co_apply iS;co_apply wpC_skip (jO (Shs s))
 try simp only [ThenX]
 try co_then
 co_apply cj;co_apply bd;simp only [List.size_toArray, List.length_cons, List.length_nil, Nat.reduceAdd, Nat.zero_add, List.range, List.range.loop];co_apply aG rfl (by rfl);intro _ hR K hK;replace hF := (New.rely) hF hR;clear hR;have hs := hF.size;go_simp
 try (unfold stored; go_simp)
 refine hK _ _ ⟨?_, ?_⟩
 · (refine d0Z ?_; intro e he; have hm := mem_listed he; simp [go_sem, *] at hm)
 clear hK K
 try walk_nrm
 replace hF := hF.alloc (.chan 0 #[] false 0 0 false)
 try simp only [List.length_cons, List.length_nil, Nat.reduceAdd, Nat.add_zero, Nat.zero_add] at hs
 try simp only [List.nil_append, List.cons_append] at hF
 try simp only [hs]
 clear hs;co_apply aG rfl (by rfl);intro _ hR K hK;replace hF := (New.rely) hF hR;clear hR;have hs := hF.size;go_simp
 try (unfold stored; go_simp)
 refine hK _ _ ⟨?_, ?_⟩
 · (refine d0Z ?_; intro e he; have hm := mem_listed he; simp [go_sem, *] at hm)
 clear hK K
 try walk_nrm
 replace hF := hF.alloc (.cells #[.chan none] 76)
 try simp only [List.length_cons, List.length_nil, Nat.reduceAdd, Nat.add_zero, Nat.zero_add] at hs
 try simp only [List.nil_append, List.cons_append] at hF
 try simp only [hs]
 clear hs;co_apply aG rfl (by rfl);intro _ hR K hK;replace hF := (New.rely) hF hR;clear hR;have hc := hF.cell (i := 3) rfl (j := 0) rfl; have hz := hF.thaw (i := 3) rfl 0;go_simp
 try (unfold stored; go_simp)
 refine hK _ _ ⟨?_, ?_⟩
 · (refine d0Z ?_; intro e he; have hm := mem_listed he; simp [go_sem, *] at hm; try (first | (subst hm; exact dX _ _ (hE.not (by omega) _)) | (rcases hm with rfl | rfl <;> exact dX _ _ (hE.not (by omega) _))))
 clear hK K
 try walk_nrm
 clear hc hz;replace hF := hF.set (i := 3) rfl 0 (.chan (some (W.heap.size + 2)));simp only [List.set_cons_zero, List.set_cons_succ, List.setIfInBounds_toArray] at hF;co_apply bu
 try simp only [ThenX]
 try co_then
 co_apply cj;co_apply bd;simp only [List.size_toArray, List.length_cons, List.length_nil, Nat.reduceAdd, Nat.zero_add, List.range, List.range.loop];co_apply aG rfl (by rfl);intro _ hR K hK;replace hF := (New.rely) hF hR;clear hR;have hs := hF.size;go_simp
 try (unfold stored; go_simp)
 refine hK _ _ ⟨?_, ?_⟩
 · (refine d0Z ?_; intro e he; have hm := mem_listed he; simp [go_sem, *] at hm)
 clear hK K
 try walk_nrm
 replace hF := hF.alloc (.chan 0 #[] false 0 0 false)
 try simp only [List.length_cons, List.length_nil, Nat.reduceAdd, Nat.add_zero, Nat.zero_add] at hs
 try simp only [List.nil_append, List.cons_append] at hF
 try simp only [hs]
 clear hs;co_apply aG rfl (by rfl);intro _ hR K hK;replace hF := (New.rely) hF hR;clear hR;have hs := hF.size;go_simp
 try (unfold stored; go_simp)
 refine hK _ _ ⟨?_, ?_⟩
 · (refine d0Z ?_; intro e he; have hm := mem_listed he; simp [go_sem, *] at hm)
 clear hK K
 try walk_nrm
 replace hF := hF.alloc (.cells #[.chan none] 77)
 try simp only [List.length_cons, List.length_nil, Nat.reduceAdd, Nat.add_zero, Nat.zero_add] at hs
 try simp only [List.nil_append, List.cons_append] at hF
 try simp only [hs]
 clear hs;co_apply aG rfl (by rfl);intro _ hR K hK;replace hF := (New.rely) hF hR;clear hR;have hc := hF.cell (i := 5) rfl (j := 0) rfl; have hz := hF.thaw (i := 5) rfl 0;go_simp
 try (unfold stored; go_simp)
 refine hK _ _ ⟨?_, ?_⟩
 · (refine d0Z ?_; intro e he; have hm := mem_listed he; simp [go_sem, *] at hm; try (first | (subst hm; exact dX _ _ (hE.not (by omega) _)) | (rcases hm with rfl | rfl <;> exact dX _ _ (hE.not (by omega) _))))
 clear hK K
 try walk_nrm
 clear hc hz;replace hF := hF.set (i := 5) rfl 0 (.chan (some (W.heap.size + 4)));simp only [List.set_cons_zero, List.set_cons_succ, List.setIfInBounds_toArray] at hF;co_apply bu
 try simp only [ThenX]
 try co_then
 co_apply cj;co_apply bd;simp only [List.size_toArray, List.length_cons, List.length_nil, Nat.reduceAdd, Nat.zero_add, List.range, List.range.loop];co_apply aG rfl (by rfl);intro _ hR K hK;replace hF := (New.rely) hF hR;clear hR;have hs := hF.size;go_simp
 try (unfold stored; go_simp)
 refine hK _ _ ⟨?_, ?_⟩
 · (refine d0Z ?_; intro e he; have hm := mem_listed he; simp [go_sem, *] at hm)
 clear hK K
 try walk_nrm
 replace hF := hF.alloc (.cells #[.int .u64 0, .int .u32 0] 87)
 try simp only [List.length_cons, List.length_nil, Nat.reduceAdd, Nat.add_zero, Nat.zero_add] at hs
 try simp only [List.nil_append, List.cons_append] at hF
 try simp only [hs]
 clear hs;co_apply bu
 try simp only [ThenX]
 try co_then
 clear b1 b2 b3 c76 d76 c77 d77;have hF' : New W (boxZ W.heap.size K ticks 0) _ := hF;clear hF;intro b k cs m hb hk hc;have hAt : ∀ w w₁, AtRel w w₁ → PostB w → PostB w₁ := fun w w₁ ⟨d, e⟩ h => by subst e; exact hPc w _ ⟨rfl, rfl, rfl, rfl, fun _ _ _ => rfl⟩ h
 have rely : ∀ {told : Value} {w w₁ : World}, RanZ PostB W.heap.size told ws w → AtRel w w₁ → RanZ PostB W.heap.size told ws w₁ := fun {told w w₁} h r => ⟨hAt w w₁ r h.1, by obtain ⟨d, rfl⟩ := r; exact h.2⟩;refine (show Goes Tryz.prog true AtRel (D0 (Shs s)) (StopZ Tryz.prog Fin (nn + 1) s) (m + 15) _ _ from Goes.mono (tn (PostB := PostB) (ws := ws) hb hk hE hws hPb hPc hPn hT ?_ _ hF') (by omega))
 · intro told w' hFJ;have hF : RanZ PostB W.heap.size told ws w' := hFJ;clear hFJ hF' hT;co_apply Exists.intro;co_apply bA (jO (Shs (W.heap.size :: s))) rfl (fun _ => stepG_region_end);co_apply jP (F := FZ Tryz.prog Fin) (s := (nn, W.heap.size :: s)) (m := m) ?_ hb hk hc;simp only [TR, tl10, tl9, tl8, tl7, tl6, Tryz.f19];co_apply cj;co_apply bd;simp only [List.size_toArray, List.length_cons, List.length_nil, Nat.reduceAdd, Nat.zero_add, List.range, List.range.loop];co_apply aG rfl (by rfl);intro _ hR K hK;replace hF := (rely) hF hR;clear hR
   skip
   go_simp
   try (unfold stored; go_simp)
   refine hK _ _ ⟨?_, ?_⟩
   · (rw [listed_nil (by simp [go_sem, *])]; exact d0Z (by simp))
   clear hK K
   try walk_nrm
   co_apply aG rfl (by rfl);intro _ hR K hK;replace hF := (rely) hF hR;clear hR
   skip
   go_simp
   try (unfold stored; go_simp)
   refine hK _ _ ⟨?_, ?_⟩
   · (rw [listed_nil (by simp [go_sem, *])]; exact d0Z (by simp))
   clear hK K
   try walk_nrm
   co_apply aG rfl (by rfl);intro _ hR K hK;replace hF := (rely) hF hR;clear hR
   skip
   go_simp
   try (unfold stored; go_simp)
   refine hK _ _ ⟨?_, ?_⟩
   · (rw [listed_nil (by simp [go_sem, *])]; exact d0Z (by simp))
   clear hK K
   try walk_nrm
   co_apply bu
   try simp only [ThenX]
   try co_then
   co_apply iS;co_apply wpC_ret (jO (Shs (W.heap.size :: s)));exact ⟨rfl, _, resultsC_tmp2 (t := 4) (u := 5) (by rfl) _, rfl, told, rfl, hF⟩
end Go.Proofs.YtejkelcaljmnoaaGreatDoor
namespace Go.Proofs.YtejkelcaljmnoaaGreatDoor
open Go.Conc Go.RowKit Go.Hx Go.Lo Go.ConcX Go.Conc.Lib Go.ConcX.Gen
section
variable {σ : Type} {F : Fam σ} {P : Program} {main : Bool} {f : FuncId} {args : Array Value} {n : Nat} {s : σ} {w : World} {Post Post' : σ → Value → World → Prop}
theorem fV (h : CallsX F P main f args n s w Post) (hp : ∀ s v w, Post s v w → Post' s v w) : CallsX F P main f args n s w Post' := by
 obtain ⟨g, c, hf, hname, hbody, hwp⟩ := h;refine ⟨g, c, hf, hname, hbody, fun b k cs m hb hk hc => hwp b k cs m hb hk fun s' e a' w' q => hc s' e a' w' ?_⟩;cases e with
 | normal => obtain ⟨h1, v, h2, h3⟩ := q; exact ⟨h1, v, h2, hp _ _ _ h3⟩
 | ret => obtain ⟨h1, v, h2, h3⟩ := q; exact ⟨h1, v, h2, hp _ _ _ h3⟩
 | _ => exact q
end
section
variable {K : Nat} {A : Lay} {S : St} {F L : Frag}
theorem Rep.boxes (h : Rep K A S F L) {bx : Frag} (hf : Fun (bx ++ L)) (hn : ∀ t ∈ bx, ∀ u ∈ L, u.1 ≠ t.1) : Rep K A S (bx ++ F) (bx ++ L) :=
 { h.of hf (fun t ht => List.mem_append_right _ ht) with
   fr := fun t ht => by
     rcases List.mem_append.1 ht with h1 | h1
     · exact List.mem_append_left _ h1
     · exact List.mem_append_right _ (h.fr t h1)
   fd := fun t ht => by
     rcases List.mem_append.1 ht with h1 | h1
     · exact ⟨fun e => hn t h1 _ h.k e.symm, fun q hq e => hn t h1 _ (h.p q hq) e.symm, fun i e => let ⟨_, hx⟩ := h.al i _ e; hn t h1 _ hx rfl, fun i e => let ⟨_, hx⟩ := h.yl i _ e; hn t h1 _ hx rfl, fun e => hn t h1 _ h.w e.symm⟩
     · exact h.fd t h1 }
theorem Rep.forget (h : Rep K A S F L) {c : Nat} {cs : Array Value} {fl : Bool} (hc : (c, fl, Obj.cells cs 3) ∈ F) {F' : Frag} (hF : ∀ t ∈ F', t ∈ F ∧ t.1 ≠ c) : Rep K A S F' (L.filter fun t => !decide (t.1 = c)) := by
 obtain ⟨d1, d2, d3, d4, d5⟩ := h.fd _ hc;have hcL := h.fr _ hc;have mem : ∀ t ∈ L, t.1 ≠ c → t ∈ L.filter fun t => !decide (t.1 = c) := fun t ht hne => List.mem_filter.2 ⟨ht, by simpa using hne⟩;have arr : ∀ (a : Sl) (xs : List Value) (e : TypeId), a.b ≠ some c → slOk a xs e L → slOk a xs e (L.filter fun t => !decide (t.1 = c)) := fun a xs e hn ha => by
   refine ha.mono fun d hd o ho => mem _ ho ?_;show d ≠ c;rintro rfl;exact hn hd
 exact { h with
   fn := fun b fl fl' o o' h1 h2 => h.fn b fl fl' o o' (List.mem_filter.1 h1).1 (List.mem_filter.1 h2).1
   k := mem _ h.k (Ne.symm d1)
   g := mem _ h.g (h.fn.ne h.g hcL (aE (by decide)))
   p := fun q hq => mem _ (h.p q hq) (Ne.symm (d2 q hq))
   pa := arr _ _ _ (d3 0) h.pa
   rw := fun l hl => arr _ _ _ (d3 _) (h.rw l hl)
   ya := fun i hi => arr _ _ _ (d4 i) (h.ya i hi)
   w := mem _ h.w (Ne.symm d5)
   wa := fun e he => arr _ _ _ (d3 _) (h.wa e he)
   al := fun i d hd => by obtain ⟨xs, hx⟩ := h.al i d hd; exact ⟨xs, mem _ hx (by rintro rfl; exact d3 i hd)⟩
   yl := fun i d hd => by obtain ⟨xs, hx⟩ := h.yl i d hd; exact ⟨xs, mem _ hx (by rintro rfl; exact d4 i hd)⟩
   fr := fun t ht => mem _ (h.fr t (hF t ht).1) (hF t ht).2
   fd := fun t ht => h.fd t (hF t ht).1 }
end
def Heard (told : Value) (es : List Value) (L : Frag) : Prop := (told = .slice none 0 0 ∧ es = []) ∨ ∃ g cap cur, told = .slice (some ⟨g, 0, none⟩) es.length cap ∧ (g, true, Obj.cells cur 51) ∈ L ∧ es.length ≤ cap ∧ cap ≤ maxLen ∧ cur.size = cap * 4 ∧ cur.toList.take (es.length * 4) = es.flatMap fun v => v.cells.toList
theorem oz (S : St) (b : Nat) (x : PS) (m : Int) : ∃ ws : List Wd, S.grantE b x m = ws.map Wd.v ∧ ws.length ≤ 1 := by
 unfold St.grantE;by_cases e0 : m = 0
 · rw [if_pos e0]; exact ⟨[(_, _, _, _)], rfl, Nat.le_refl _⟩
 rw [if_neg e0];by_cases e3 : m = 3
 · rw [if_pos e3];cases S.find (x.r 0) with
   | none => exact ⟨[], rfl, Nat.zero_le _⟩
   | some q =>
     simp only
     split
     · exact ⟨[], rfl, Nat.zero_le _⟩
     · exact ⟨[(_, _, _, _)], rfl, Nat.le_refl _⟩
 rw [if_neg e3]
 split
 · exact ⟨[(_, _, _, _)], rfl, Nat.le_refl _⟩
 · exact ⟨[], rfl, Nat.zero_le _⟩
theorem sF (S : St) (b : Nat) (x : PS) : ∃ ws : List Wd, S.runE b x = ws.map Wd.v ∧ ws.length ≤ 1 := by
 unfold St.runE
 split
 · exact ⟨[(_, _, _, _)], rfl, Nat.le_refl _⟩
 · split
   · exact oz _ _ _ _
   · split
     · exact ⟨[], rfl, Nat.zero_le _⟩
     · exact ⟨[(_, _, _, _)], rfl, Nat.le_refl _⟩
theorem pQ (S : St) : ∃ ws : List Wd, S.tickE = ws.map Wd.v ∧ ws.length ≤ 2 := by
 unfold St.tickE;cases S.lead.first with
 | none => exact ⟨[(_, _, _, _)], rfl, by simp⟩
 | some b =>
   simp only;cases S.lead.get b with
   | none => exact ⟨[], rfl, by simp⟩
   | some x =>
     obtain ⟨ws, h1, h2⟩ := sF S.lead b x;exact ⟨(_, _, _, _) :: ws, by simp only [h1]; rfl, by simp; omega⟩
theorem kP : ∀ (m : Nat) (T : St), ∃ ws : List Wd, St.evs m T = ws.map Wd.v ∧ ws.length ≤ 2 * m
 | 0, _ => ⟨[], rfl, by simp⟩
 | m + 1, T => by
   unfold St.evs
   split
   · exact ⟨[], rfl, by simp⟩
   · obtain ⟨w1, h1, h2⟩ := pQ T;obtain ⟨w2, h3, h4⟩ := kP m T.next
     exact ⟨w1 ++ w2, by rw [h1, h3]; simp, by simp; omega⟩
theorem mK : ∀ (s : List Nat) (l : Loc), Shs s l → ∃ b, blk l = some b
 | [], _, h => h.elim
 | N :: s, l, h => by
   rcases h with h | ⟨a, rfl, _⟩
   · exact mK s l h
   · exact ⟨_, rfl⟩
theorem BN {p : Par} {Sh : Loc → Prop} {E Dn : Nat} {PostB : World → Prop} {Aft : Goroutine → World → Prop} {W : World} {O : Nat} {G : List (Nat × Obj)} (hp : p.ety = 51) : ∀ s, NewT (domT Tryz.prog p Sh E Dn PostB Aft W O G s) := fun s => by
 have h : ∀ (t : TypeId), t ≠ 51 → ∀ cs, (domT Tryz.prog p Sh E Dn PostB Aft W O G s).New (.cells cs t) := fun t ht cs => by
   show isEv p.ety (.cells cs t) = false;rw [hp];simpa [isEv] using ht
 exact { a := h 180 (by decide), b := h 182 (by decide), c := h 196 (by decide), d := h 210 (by decide), r := h 93 (by decide), k := h 96 (by decide), y := h 5 (by decide), i := h 158 (by decide), p := h 99 (by decide), n := h 3 (by decide) }
abbrev bxs (N K : Nat) (m : Nat) : Frag := [(N + 1, false, Obj.cells #[.int .i64 (m : Nat)] 3), (N, false, Obj.cells #[.pointer (some ⟨K, 0, none⟩)] 35), (N + 3, false, Obj.cells #[.chan (some (N + 2))] 76), (N + 5, false, Obj.cells #[.chan (some (N + 4))] 77)]
section
variable {W : World} {O : Nat} {s : List Nat} {L : Frag} {w w' : World} {K m : Nat}
theorem sG (hO : Own0 (Shs s) W O L w) (hn : New w (boxZ w.heap.size K (m : Nat) KK) w') : (domV (pZ w.heap.size) (ShR (Shs s) w.heap.size) (w.heap.size + 2) (w.heap.size + 4) W O (GW (w.heap.size + 6))).Own (bxs w.heap.size K m ++ L) w' := by
 have hE : Elder (Shs s) w.heap.size := fun l hl => by
   obtain ⟨b, hb⟩ := mK s l hl;exact ⟨b, hb, hO.low l b hl hb⟩
 have lt : ∀ t ∈ L, t.1 < w.heap.size := fun t ht => hO.lt (fl := t.2.1) (o := t.2.2) ht;have hz := hO.old.z;have bx : ∀ t ∈ bxs w.heap.size K m, w'.heap[t.1]? = some t.2.2 ∧ w.heap.size ≤ t.1 ∧ t.1 < w.heap.size + 6 ∧ t.1 ≠ w.heap.size + 2 ∧ t.1 ≠ w.heap.size + 4 ∧ t.2.1 = false := fun t ht => by
   simp only [List.mem_cons, List.mem_nil_iff, or_false] at ht;rcases ht with rfl | rfl | rfl | rfl
   · exact ⟨hn.get (i := 1) rfl, by simp only; omega, by simp only; omega, by simp only; omega, by simp only; omega, rfl⟩
   · exact ⟨hn.get (i := 0) rfl, by simp only; omega, by simp only; omega, by simp only; omega, by simp only; omega, rfl⟩
   · exact ⟨hn.get (i := 3) rfl, by simp only; omega, by simp only; omega, by simp only; omega, by simp only; omega, rfl⟩
   · exact ⟨hn.get (i := 5) rfl, by simp only; omega, by simp only; omega, by simp only; omega, by simp only; omega, rfl⟩
 refine ⟨(show OwnW _ _ _ _ _ _ _ _ from { has := ?_, ap := ?_, own := ?_, nd := ?_, sz := ?_, old := ?_, sh := x8 hE, hE := ?_, oo := ?_ }), ⟨?_, ?_, ?_⟩⟩
 · intro t ht;rcases List.mem_append.1 ht with h | h
   · exact (bx t h).1
   · rw [hn.old (lt t h)]; exact hO.has t h
 · intro t ht;rcases List.mem_append.1 ht with h | h
   · obtain ⟨_, h1, h2, h3, h4, _⟩ := bx t h;refine ⟨h3, h4, fun l hl hs => ?_, fun _ => by show t.1 < w.heap.size + 7; omega⟩;rcases hs with hs | ⟨a, rfl, ha⟩
     · have := hO.low l _ hs hl;omega
     · simp only [blk, Option.some.injEq] at hl;omega
   · have := lt t h;refine ⟨by omega, by omega, fun l hl hs => ?_, fun _ => by show t.1 < w.heap.size + 7; omega⟩;rcases hs with hs | ⟨a, rfl, ha⟩
     · exact hO.ap t h l hl hs
     · simp only [blk, Option.some.injEq] at hl;omega
 · intro t ht hfl;rcases List.mem_append.1 ht with h | h
   · have := (bx t h).2.2.2.2.2;rw [hfl] at this;cases this
   · refine ⟨hO.own t h hfl, fun l hl hs => ?_⟩;obtain ⟨a, rfl, ha⟩ := hs;simp only [blk, Option.some.injEq] at hl;have := lt t h;omega
 · rw [List.map_append];refine List.nodup_append.2 ⟨by simp, hO.nd, fun a ha c hc => ?_⟩;obtain ⟨t, ht, rfl⟩ := List.mem_map.1 ha;obtain ⟨u, hu, rfl⟩ := List.mem_map.1 hc;have := (bx t ht).2.1;have := lt u hu;omega
 · rw [hn.size]; exact Nat.le_refl _
 · exact ⟨hn.tape.trans hO.old.t, hn.os'.trans hO.old.o, hn.output.trans hO.old.u, by rw [hn.size]; omega, fun x hx => (hn.old (by omega)).trans (hO.old.b x hx)⟩
 · exact ⟨by show w.heap.size + 2 < w.heap.size + 7; omega, by show w.heap.size + 4 < w.heap.size + 7; omega⟩
 · refine ⟨by omega, by omega, ?_⟩;show O ≤ w.heap.size + 7;omega
 · intro t ht;simp only [List.mem_cons, List.mem_nil_iff, or_false] at ht;subst ht;exact hn.get (i := 6) rfl
 · intro t ht u hu;simp only [List.mem_cons, List.mem_nil_iff, or_false] at ht;subst ht;rcases List.mem_append.1 hu with h | h
   · have := (bx u h).2.2.1;simp only; omega
   · have := lt u h;simp only; omega
 · intro t ht;simp only [List.mem_cons, List.mem_nil_iff, or_false] at ht;subst ht;refine ⟨by simp only; omega, by simp only; omega, ?_⟩;show w.heap.size + 6 < w.heap.size + 7;omega
end
theorem pR (ws : List Wd) : (ws.map Wd.v).flatMap (fun v => v.cells.toList) = ws.flatMap Wd.c := by
 induction ws with
 | nil => rfl
 | cons x ws ih => simp only [List.map_cons, List.flatMap_cons, ih]; rfl
theorem Bc : ∃ k, ∀ {Fin : Value → World → Prop} {W : World} {O : Nat} (nn : Nat) (s : List Nat) (K : Nat) (A : Lay) (S T : St) (Fr L : Frag) (eb : Nat → Nat × Nat) (m : Nat), Rep K A S Fr L → Ers eb Fr → Ab S T → m ≤ 2000 → S.now < 1152921504606846976 →
   CallsL (F := FZ Tryz.prog Fin) (fun s => dom0 (Shs s.2) W O) Tryz.prog true 19 [ptr K, .int .i64 (m : Nat)].toArray k (nn + 1, s) L (fun s' v L' => ∃ N told A' S', s' = (nn, N :: s) ∧ v = .tuple #[told, .int .i64 0] ∧ Ab S' (St.runs m T) ∧ Rep K A' S' Fr L' ∧ Heard told (St.evs m T) L') := by
 obtain ⟨k, hk⟩ := Bb;obtain ⟨kp, hpass⟩ := zF;refine ⟨k, fun {Fin W O} nn s K A S T Fr L eb m hR hEr hAb hm hnow w hO => ?_⟩;obtain ⟨ws, hws, hwl⟩ := kP m T;have hO' : Own0 (Shs s) W O L w := hO;have hE : Elder (Shs s) w.heap.size := fun l hl => by
   obtain ⟨b, hb⟩ := mK s l hl;exact ⟨b, hb, hO'.low l b hl hb⟩
 have hz := hO'.old.z;have lt : ∀ t ∈ L, t.1 < w.heap.size := fun t ht => hO'.lt (fl := t.2.1) (o := t.2.2) ht
 let QL : Frag → Prop := fun L' => ∃ A' S', Ab S' (St.runs m T) ∧ Rep K A' S' Fr L'
 let PB := PostW (pZ w.heap.size) (ShR (Shs s) w.heap.size) (w.heap.size + 2) (w.heap.size + 4) W O (w.heap.size + 6) (w.heap.size + 1) QL
 refine fV (hk nn s K (m : Nat) ⟨by omega, by omega⟩ ws (by omega) w hE PB ?_ ?_ ?_ ?_) ?_
 · rintro x x₁ r ⟨L', h1, h2, h3⟩;exact ⟨L', h1.rely r, h2, h3⟩
 · rintro x x₁ r ⟨L', h1, h2, h3⟩;refine ⟨L', { h1 with has := fun t ht => (r.block t.1 (h2 t ht).1 (h2 t ht).2).trans (h1.has t ht), sz := by rw [r.size]; exact h1.sz, old := ⟨r.tape.trans h1.old.t, r.os.trans h1.old.o, r.output.trans h1.old.u, by rw [r.size]; exact h1.old.z, fun y hy => (r.block y (by omega) (by omega)).trans (h1.old.b y hy)⟩ }, h2, h3⟩
 · rintro x ⟨L', h1, _⟩;exact h1.sz
 · intro _ w' hn;have hV := sG hO' hn;have hnd := (domV (pZ w.heap.size) (ShR (Shs s) w.heap.size) (w.heap.size + 2) (w.heap.size + 4) W O (GW (w.heap.size + 6))).nd hV;have hR1 : Rep K A S (bxs w.heap.size K m ++ Fr) (bxs w.heap.size K m ++ L) := hR.boxes (bF hnd) fun t ht u hu e => by
     rw [List.map_append] at hnd;exact (List.nodup_append.1 hnd).2.2 t.1 (List.mem_map.2 ⟨t, ht, rfl⟩) u.1 (List.mem_map.2 ⟨u, hu, rfl⟩) e.symm
   have hP := hpass (p := pZ w.heap.size) (Sh := ShR (Shs s) w.heap.size) (E := w.heap.size + 2) (Dn := w.heap.size + 4) (PostB := PB) (Aft := AfterD Tryz.prog 87 (w.heap.size + 6) (w.heap.size + 1) (w.heap.size + 7) [.int .i64 (m : Nat)] Mine0) (W := W) (O := O) (G0 := GW (w.heap.size + 6)) (vs := []) K A S T (bxs w.heap.size K m ++ Fr) (bxs w.heap.size K m ++ L) eb m (BN rfl) hR1 (hEr.mono fun t ht => List.mem_append_right _ ht) hAb hm hnow;rw [List.append_nil, hws] at hP;refine pP (kb := w.heap.size) (db := w.heap.size + 5) (eb := w.heap.size + 3) (C := w.heap.size + 1) (Wg := w.heap.size + 6) (Low := w.heap.size + 7) (K := K) (L := bxs w.heap.size K m ++ L) (QL := QL) (by omega) (by omega) (by omega) (by omega) (by omega) (by simp) (by simp) (by simp) (by simp) kp _ (fun x hx => fV (hP x hx) ?_) w' hV;rintro s' v x' ⟨L', hL', h1, _, A', S', h2, h3⟩;refine ⟨h1.symm, L', hL', h3.fr _ (by simp), A', S', h2, h3.forget (c := w.heap.size + 1) (cs := #[.int .i64 (m : Nat)]) (fl := false) (by simp) fun t ht => ⟨List.mem_append_right _ ht, ?_⟩⟩;have := lt t (hR.fr t ht);omega
 · rintro s' v x' ⟨h1, told, h2, ⟨L', hW, hne, A', S', hA', hR'⟩, hT⟩;have hdom : Own0 (Shs (w.heap.size :: s)) W O L' x' := ⟨hW.has, fun t ht => (hW.ap t ht).2.2.1, fun t ht hf => (hW.own t ht hf).1, hW.nd, fun l b hl hb => by have := hW.sh.low l b hl hb; have := hW.sz; omega, hW.old⟩;subst h1;rw [show (St.evs m T) = ws.map Wd.v from hws];obtain ⟨hl, hT⟩ := hT;rcases hT with ⟨rfl, h0⟩ | ⟨g, cap, cur, rfl, hg, hcur, hn, hcm, hcs, htk⟩
   · refine ⟨L', hdom, w.heap.size, _, A', S', rfl, h2, hA', hR', .inl ⟨rfl, ?_⟩⟩;have : ws = [] := List.length_eq_zero_iff.1 h0;rw [this]; rfl
   · have hgN : w.heap.size + 7 ≤ g := hg;have hgn : ∀ t ∈ L', t.1 ≠ g := fun t ht e => by
       have h3 := hW.has t ht;rw [e, hcur] at h3;have h4 := (hW.ap t ht).2.2.2 (by rw [← Option.some.inj h3]; rfl);have : t.1 < w.heap.size + 7 := h4;omega
     refine ⟨(g, true, Obj.cells cur 51) :: L', ?_, w.heap.size, _, A', S', rfl, h2, hA', hR'.of ?_ (fun t ht => List.mem_cons_of_mem _ ht), .inr ⟨g, cap, cur, by rw [List.length_map], List.mem_cons_self, by rw [List.length_map]; exact hn, hcm, hcs, ?_⟩⟩
     · show Own0 (Shs (w.heap.size :: s)) W O _ x';refine ⟨fun t ht => ?_, fun t ht => ?_, fun t ht hf => ?_, ?_, hdom.low, hdom.old⟩
       · rcases List.mem_cons.1 ht with rfl | ht
         · exact hcur
         · exact hdom.has t ht
       · rcases List.mem_cons.1 ht with rfl | ht
         · intro l hl hs;have := hW.sh.low l g hs hl;have : g < w.heap.size + 7 := this;omega
         · exact hdom.ap t ht
       · rcases List.mem_cons.1 ht with rfl | ht
         · simp only; omega
         · exact hdom.own t ht hf
       · simp only [List.map_cons, List.nodup_cons];exact ⟨fun hm => by obtain ⟨t, ht, e⟩ := List.mem_map.1 hm; exact hgn t ht e, hdom.nd⟩
     · refine bF ?_;simp only [List.map_cons, List.nodup_cons];exact ⟨fun hm => by obtain ⟨t, ht, e⟩ := List.mem_map.1 hm; exact hgn t ht e, hdom.nd⟩
     · rw [List.length_map, pR]; exact htk
end Go.Proofs.YtejkelcaljmnoaaGreatDoor
namespace Go.Proofs.YtejkelcaljmnoaaGreatDoor
open Go.Conc Go.Hx Go.Lo
def rowv (a : Sl) (sz n : Nat) : Value := match a.b with
 | none => .slice none 0 0
 | some b => .slice (some ⟨b, 0, none⟩) n (n + a.junk.length / sz)
structure ApN (L : Frag) (e : TypeId) (a : Sl) (zs : List Value) (a' : Sl) (L' : Frag) : Prop where
 ok : slOk a' zs e L'
 fn : Fun L'
 sub : ∀ t ∈ L, a.b ≠ some t.1 → t ∈ L'
 d : ∀ b, a'.b = some b → a.b = some b ∨ ∀ t ∈ L, t.1 ≠ b
theorem kQ : ∀ (vs : List Value) (cs : Array Value) (o k : Nat), (vs.zipIdx k).foldl (fun cs (c, j) => cs.setIfInBounds (o + j) c) cs = puts cs (o + k) vs
 | [], cs, o, k => by simp [puts]
 | v :: vs, cs, o, k => by
   simp only [List.zipIdx_cons, List.foldl_cons, puts];rw [kQ vs _ o (k + 1)]; rfl
section
variable {New : Obj → Prop} {N : Nat} {ε : Env} {L : Frag} {d : Option Tmp} {ty : TypeId} {ps : String} {af : Array Edge} {g : Option (Nat × Bool)} {x y : Operand} {P : Program}
theorem yx {t e : TypeId} {x : Operand} {v z : Value} {sz : Nat} (hN : New (.cells v.cells e)) (hv : v.cells.size = sz) (hx : ev ε x = some v := by rfl) (hu : P.underlying t = some (.slice e)) (hs : sizeAt P e = some sz) (hz : zeroAt P e = some z) (h0 : 0 < sz) (h24 : sz ≤ 1000) :
   EO P New N ε L ⟨d, .buildSlice t 1 #[(0, x)], ty, ps, af, g⟩ (fun r L'' => ∃ b, (∀ t ∈ L, t.1 ≠ b) ∧ r = .slice (some ⟨b, 0, none⟩) 1 1 ∧ L'' = (b, true, .cells v.cells e) :: L) := by
 intro a ha;simp only [execOp, List.map_toArray, List.map_cons, List.map_nil];unfold Instr.buildSlice newRow;have hf : Instr.fill (fun i => some (i * sz, sz)) ((Array.range (1 * sz)).map (z.cells[· % z.cells.size]!)) [(0, v)] = some v.cells := by
   have e1 : ((Array.range (1 * sz)).map (z.cells[· % z.cells.size]!)).size = sz := by simp
   generalize (Array.range (1 * sz)).map (z.cells[· % z.cells.size]!) = cs at e1;simp only [Instr.fill];rw [if_neg (by simp [hv, e1])];congr 1;have e2 : v.cells.zipIdx.foldl (fun cs (c, j) => cs.setIfInBounds (0 * sz + j) c) cs = puts cs (0 * sz + 0) v.cells.toList := by
     rw [← kQ, ← Array.foldl_toList, Array.toList_zipIdx]
   rw [e2];obtain ⟨l⟩ := cs;rw [co _ _ _ (by simp at e1 ⊢; omega)];apply Array.ext';have : l.drop (0 * sz + 0 + v.cells.toList.length) = [] := List.drop_eq_nil_of_le (by simp at e1 ⊢; omega);rw [this]; simp
 rw [aj, aj, aN hu, ha.ev hx];simp only [];rw [aj, bI hs];rw [if_neg (by omega), if_neg (by omega), aj, cv hz, aj, bm];simp only [hf, aj];exact bY hN fun b hb => ⟨b, hb, rfl, rfl⟩
theorem xK {a : Sl} {xs : List Value} {e : TypeId} {sz n : Nat} (ha : slOk a xs e L) (hn : xs.length = n * sz) (h0 : 0 < sz) : Reads P L sz n (rowv a sz n) xs.toArray := by
 cases hab : a.b with
 | none =>
   unfold slOk at ha;rw [hab] at ha;obtain rfl : xs = [] := ha.1;obtain rfl : n = 0 := by
     rcases Nat.eq_zero_or_pos n with h | h
     · exact h
     · have := Nat.mul_pos h h0; simp at hn; omega
   have e3 : rowv a sz 0 = .slice none 0 0 := by unfold rowv; rw [hab]
   rw [e3]; exact dM
 | some b =>
   have hm := ha.mem hab;have e3 : rowv a sz n = .slice (some ⟨b, 0, none⟩) n (n + a.junk.length / sz) := by unfold rowv; rw [hab]
   rw [e3];have := cB (P := P) (sz := sz) (n := n) (len := n) (cap := n + a.junk.length / sz) (o := 0) hm (by simp; omega);have e7 : (xs ++ a.junk).take (n * sz) = xs := by rw [← hn, List.take_append_of_le_length (by simp)]; exact List.take_of_length_le (by simp)
   simpa [e7] using this
theorem sH {ρ : Operand → Value} {Q : Next → Frag → Prop} {t u e e2 : TypeId} {sz : Nat} {yb : Option Addr} {yc : Nat} {vs : Array Value} (hx : ρ x = .slice none 0 0) (hy : ρ y = .slice yb 0 yc) (hu : P.underlying t = some (.slice e)) (hv : P.underlying u = some (.slice e2)) (hs : sizeAt P e = some sz)
   (hr : Reads P L sz 0 (.slice yb 0 yc) vs) (hQ : Q (.value (.slice none 0 0)) L) : wpS P New (execOp ρ ⟨d, .call ⟨.builtin .append, #[x, y], #[t, u]⟩, ty, ps, af, g⟩) Q L := by
 refine cP (s := Builtin.append_ #[t, u] ty #[.slice none 0 0, .slice yb 0 yc]) (fun _ => by simp [builtin, hx, hy]) ?_;unfold Builtin.append_;simp only [List.getElem?_toArray, List.getElem?_cons_zero, List.getElem?_cons_succ];rw [aj, aN hu];simp only [];rw [aj, bI hs];rw [aj, aN hv, aj, bm];simp only [Bool.false_eq_true, if_false, Bool.not_false, if_true, Builtin.lenOf];rw [aj, bm];simp only [Nat.le_refl, if_true];rw [aj];refine hr.r New _ ?_;exact hQ
theorem vf {t e : TypeId} {a : Sl} {xs ys : List Value} {n m sz by_ : Nat} {z : Value} {yb : Option Addr} {yc : Nat} (hx : ev ε x = some (rowv a sz n) := by rfl) (hy : ev ε y = some (.slice yb m yc) := by rfl) (hnd : (L.map (·.1)).Nodup) (hu : P.underlying t = some (.slice e)) (hs : sizeAt P e = some sz) (hb : bytesAt P e = some (by_ + 1)) (hz : zeroAt P e = some z) (hzs : z.cells.size = sz) (hN : ∀ cs, New (.cells cs e)) (ha : slOk a xs e L) (hn : xs.length = n * sz) (hr : Reads P L sz m (.slice yb m yc) ys.toArray) (hm : ys.length = m * sz) (hpl : ys.all plainV = true) (h0 : 0 < sz) (h8 : (2 * (n + m) + 192) * (by_ + 1) ≤ 281474976710656) :
   EO P New N ε L ⟨d, .call ⟨.builtin .append, #[x, y], #[t, t]⟩, ty, ps, af, g⟩ (fun r L' => ∃ a', r = rowv a' sz (n + m) ∧ ApN L e a (xs ++ ys) a' L') := by
 have hws := xK (P := P) ha hn h0
 have grow : ∀ (cap0 : Nat), (∃ base, rowv a sz n = .slice base n cap0) → cap0 < n + m →
     EO P New N ε L ⟨d, .call ⟨.builtin .append, #[x, y], #[t, t]⟩, ty, ps, af, g⟩ (fun r L' => ∃ a', r = rowv a' sz (n + m) ∧ ApN L e a (xs ++ ys) a' L') := by
   rintro cap0 ⟨base, hbs⟩ hc;rw [hbs] at hws hx;intro ac hac;refine bV ?_ _ _ (lq (by_ := by_) (New := New) hx hy (bF hnd) hu hu hs hb hz hws hr hc h8 hN ac hac);intro r L' q;cases r <;> try exact q.elim
   · obtain ⟨b, cap, h1, h2, rfl, hA⟩ := q;have hzl : (Builtin.zeroCells z.cells (cap - (n + m))).toList.length = (cap - (n + m)) * sz := by unfold Builtin.zeroCells; simp [hzs]
     refine ⟨⟨some b, (Builtin.zeroCells z.cells (cap - (n + m))).toList⟩, ?_, ?_, hA.fn, fun t ht _ => hA.sub t ht, fun b' hb' => .inr ?_⟩
     · unfold rowv; simp only []; rw [hzl, Nat.mul_div_cancel _ h0, show n + m + (cap - (n + m)) = cap by omega]
     · have e5 : xs.toArray ++ ys.toArray ++ Builtin.zeroCells z.cells (cap - (n + m)) = ((xs ++ ys) ++ (Builtin.zeroCells z.cells (cap - (n + m))).toList).toArray := by
         apply Array.ext'; simp
       rw [e5] at hA;exact hA.self
     · obtain rfl : b = b' := by simpa using hb'
       exact hA.new
   · obtain ⟨b, cap, _, _, e, _⟩ := q; cases e
 cases hab : a.b with
 | none =>
   have h2 := ha;unfold slOk at h2;rw [hab] at h2;obtain ⟨e1, e2⟩ := h2;obtain rfl : xs = [] := e1;obtain rfl : n = 0 := by
     rcases Nat.eq_zero_or_pos n with h | h
     · exact h
     · have := Nat.mul_pos h h0; simp at hn; omega
   have e3 : rowv a sz 0 = .slice none 0 0 := by unfold rowv; rw [hab]
   by_cases hm0 : m = 0
   · subst hm0;obtain rfl : ys = [] := List.length_eq_zero_iff.1 (by simpa using hm);rw [e3] at hx;intro ac hac;exact sH (hac.ev hx) (hac.ev hy) hu hu hs hr ⟨a, by rw [Nat.add_zero, e3], by simpa using ha, bF hnd, fun t ht _ => ht, fun b hb => .inl hb⟩
   exact grow 0 ⟨none, e3⟩ (by omega)
 | some b =>
   have hmm := ha.mem hab;have e3 : rowv a sz n = .slice (some ⟨b, 0, none⟩) n (n + a.junk.length / sz) := by unfold rowv; rw [hab]
   by_cases hj : m ≤ a.junk.length / sz
   · intro ac hac;rw [e3] at hx;have hj' : m * sz ≤ a.junk.length := (Nat.le_div_iff_mul_le h0).1 hj;refine bV ?_ _ _ (jY (New := New) hx hy hnd hu hu hs hr (by omega) hmm (by simp; omega) (by simpa using hpl) ac hac);intro r L' q;cases r <;> try exact q.elim
     · obtain ⟨rfl, hU⟩ := q;have e4 : puts (xs ++ a.junk).toArray (0 + n * sz) ys.toArray.toList = ((xs ++ ys) ++ a.junk.drop (m * sz)).toArray := by
         rw [co _ _ _ (by simp; omega)];have e6 : (xs ++ a.junk).drop (0 + n * sz + ys.toArray.toList.length) = a.junk.drop (m * sz) := by
           rw [show 0 + n * sz + ys.toArray.toList.length = xs.length + m * sz by simp; omega, List.drop_append]; simp
         have e7 : (xs ++ a.junk).take (0 + n * sz) = xs := by rw [Nat.zero_add, ← hn, List.take_append_of_le_length (by simp)]; exact List.take_of_length_le (by simp)
         rw [e6, e7]
       rw [e4] at hU;refine ⟨⟨some b, a.junk.drop (m * sz)⟩, ?_, hU.self, hU.fn, fun t ht hne => hU.ne t ht fun e => hne (by rw [hab, e]), fun b' hb' => .inl (by rw [hab]; exact hb')⟩;unfold rowv;simp only [List.length_drop];rw [Nat.mul_comm m sz, Nat.sub_mul_div];rw [show n + m + (a.junk.length / sz - m) = n + a.junk.length / sz by omega]
     · exact absurd q.1 (by simp [undef])
   · exact grow (n + a.junk.length / sz) ⟨_, e3⟩ (by omega)
end
end Go.Proofs.YtejkelcaljmnoaaGreatDoor
namespace Go.Lo
open Go.Conc Go.Hx
section
variable {σ : Type} {F : Fam σ} {Δ : ∀ s, Dom (F.R s) (F.D s)} {P : Program} {main : Bool} {fn : FuncId} {N : Nat} {Q : σ → Exit → Env → Frag → Prop} {s : σ} {ε : Env} {L : Frag} {ops : Array Oper} {nf : Nat} {R L0 : Frag} {e : Nat} {s0 : σ} {fuel : Nat} {ls : Array Bool}
theorem t2 {i j : Nat} {d d' : Option Tmp} {k k' : Op} {ot ot' : TypeId} {ps ps' : String} {af af' : Array Edge} {g g' : Option (Nat × Bool)} {f : FuncId} {args : Array Operand} {ats : Array TypeId} {vs : List Value} {Post : σ → Value → Frag → Prop} {post : Value → Frag → Prop} (ho : ops[i]? = some ⟨d, k, ot, ps, af, g⟩) (hop : k = .call { callee := .value (.func f), args, argTypes := ats }) (ha : args.toList.map (ev ε) = vs.map some) (hcall : CallsL Δ P main f vs.toArray nf s L Post)
   (ho' : ops[j]? = some ⟨d', k', ot', ps', af', g'⟩) (hy : EO P (Δ s).New N ε L ⟨d', k', ot', ps', af', g'⟩ post)
   (hr : Region.ready .any ops ls = [i, j] := by kernel_rfl) (hw : wantedE ops N ε g = some true := by rfl) (hd : dstOk N d = true := by rfl) (hw' : wantedE ops N ε g' = some true := by rfl) (hd' : dstOk N d' = true := by rfl)
   (h1 : ∀ s' v L', Post s' v L' → Pre R L0 e s0 (ls.setIfInBounds i true) s' L' ∧ AnyE Δ P main fn N ops Q nf R L0 e s0 fuel (ls.setIfInBounds i true) s' (putE d v ε) L')
   (h2 : ∀ v L', post v L' → Pre R L0 e s0 (ls.setIfInBounds j true) s L' ∧ AnyE Δ P main fn N ops Q nf R L0 e s0 fuel (ls.setIfInBounds j true) s (putE d' v ε) L') : AnyE Δ P main fn N ops Q nf R L0 e s0 (fuel + 1) ls s ε L := by
 intro a hf;have e' : args.map a.eval = vs.toArray := by
   apply Array.ext';simp only [Array.toList_map];have : ∀ (l : List Operand) (vs : List Value), l.map (ev ε) = vs.map some → l.map a.eval = vs := by
     intro l
     induction l with
     | nil => intro vs h; cases vs <;> simp_all
     | cons x l ih =>
       intro vs h;cases vs with
       | nil => simp at h
       | cons v vs =>
         simp only [List.map_cons, List.cons.injEq] at h ⊢;exact ⟨hf.ev h.1, ih vs h.2⟩
   exact this _ _ ha
 refine tI hr (fun w hO hD => ?_) fun w hO hD => ?_
 · have hrm : i ∈ Region.ready .any ops ls := by simp [hr]
   have hc := hcall w hO;rw [← e'] at hc;exact .inr ⟨_, f, args, ats, _, ho, hf.wanted hw, hop, hc, fun s' v w' ⟨L', hL, hp⟩ => ⟨⟨L', hL, (h1 s' v L' hp).1⟩, (h1 s' v L' hp).2 _ (hf.put hd v) (hD.step hrm) _ hL⟩⟩
 · have hrm : j ∈ Region.ready .any ops ls := by simp [hr]
   refine .inl ?_;unfold OpC;have hww : Region.wanted ⟨d', k', ot', ps', af', g'⟩ (yielded ops a.tmps) = true := hf.wanted hw';simp only [ho', hww, if_true];intro w₁ h₁
   have hy' : wpS P (Δ s).New (execOp a.eval ⟨d', k', ot', ps', af', g'⟩) (fun x L' => onNext ⟨d', k', ot', ps', af', g'⟩ a (fun a' => Pre R L0 e s0 (ls.setIfInBounds j true) s L' ∧ AnyL Δ P main fn ops (upE N Q) nf R L0 e s0 fuel (ls.setIfInBounds j true) s a' L') x) L :=
     bV (fun x L' q => by cases x <;> first | exact ⟨(h2 _ _ q).1, (h2 _ _ q).2 _ (hf.put hd' _)⟩ | exact q.elim) _ _ (hy a hf)
   obtain ⟨x, w', hrun, hg, he, L', hL, hx⟩ := oT (Δ s) ((Δ s).rely hO h₁) hy';exact lV (Δ := Δ) (s := s) (KL := fun a' L' => Pre R L0 e s0 (ls.setIfInBounds j true) s L' ∧ AnyL Δ P main fn ops (upE N Q) nf R L0 e s0 fuel (ls.setIfInBounds j true) s a' L') hrun hL hx fun a' k => ⟨(Δ s).dd hg fun e hm => he e (mem_listed hm), ⟨L', hL, k.1⟩, k.2 (hD.step hrm) _ hL⟩
end
end Go.Lo
namespace Go.Proofs.YtejkelcaljmnoaaGreatDoor
open Go.Conc Go.Hx Go.Lo
def cfgv (c : Nat → Int) (bo : Int) : Value := .agg #[.int .i64 (c 0), .int .i64 (c 1), .int .i64 (c 2), .int .i64 bo]
def arr3 (c : Nat → Int) : Value := .agg #[.int .i64 (c 0), .int .i64 (c 1), .int .i64 (c 2)]
def okc (c : Nat → Int) (bo : Int) : Bool := decide (((1 ≤ c 0 ∧ c 0 ≤ 10) ∧ (1 ≤ c 1 ∧ c 1 ≤ 10) ∧ (1 ≤ c 2 ∧ c 2 ≤ 10)) ∧ 1 ≤ bo ∧ bo ≤ 1000)
theorem Bd (c : Nat → Int) {i : Nat} (hi : i < 3) : evR Tryz.prog (Instr.index 24 (arr3 c) (.int .i64 (i : Nat))) [] = some (.int .i64 (c i), []) := by
 have : i = 0 ∨ i = 1 ∨ i = 2 := by omega
 rcases this with rfl | rfl | rfl
 · show evR Tryz.prog (Instr.index 24 (arr3 c) (.int .i64 ((0 : Nat) : Int))) [] = some (.int .i64 (c 0), []);kernel_rfl
 · show evR Tryz.prog (Instr.index 24 (arr3 c) (.int .i64 ((1 : Nat) : Int))) [] = some (.int .i64 (c 1), []);kernel_rfl
 · show evR Tryz.prog (Instr.index 24 (arr3 c) (.int .i64 ((2 : Nat) : Int))) [] = some (.int .i64 (c 2), []);kernel_rfl
theorem pT : ∃ n, ∀ {σ} {F : Fam σ} {Δ : DM F} {main s} (L : Frag) (c : Nat → Int) (bo : Int), (∀ cs, (Δ s).New (.cells cs 26)) → Fun L →
   CallsL Δ Tryz.prog main 45 [cfgv c bo].toArray n s L (fun s' v L' => s = s' ∧ v = .bool (okc c bo) ∧ Ext L L') := by
 apply Exists.intro;intro σ F Δ main s L c bo hN hF;co_applyP aB 25 Tryz.func45 Tryz.ntmps45;co_applyP aa;co_applyP bT rfl (cn (hN _));intro b L1 hA;have hE : Ext L L1 := ⟨hA.fn, hA.sub⟩;have hbo : At L1 b 3 (.int .i64 bo) := ⟨true, _, _, _, hA.self, rfl⟩;co_applyP oan rfl;co_applyP aq;co_applyP aa;co_applyP oy rfl (au (hf := qi));co_applyP oy rfl (ba (ht := Ao) (hs := An) (hm := hA.self) (hi := by show 0 + 0 + 3 ≤ 4; decide));co_applyP oy rfl ae;co_applyP ah;co_applyP aI;rw [show (Value.agg (((cfgv c bo).cells).extract 0 (0 + 3))) = arr3 c from rfl];co_applyP bK (fun k s' ε' L' => s' = s ∧ L' = L1 ∧ ∃ i, i ≤ 3 ∧ k + i = 3 ∧ (∀ j, j < i → 1 ≤ c j ∧ c j ≤ 10) ∧ kn ε' [(1, ptr b), (6, arr3 c), (7, .int .i64 (i : Nat))]) 3
 · exact ⟨rfl, rfl, 0, by omega, rfl, by omega, rfl⟩
 rintro k s' ε' L' ⟨rfl, rfl, i, hi, hk, hok, he⟩;co_applyP aV he;have ei : IntKind.i64.wrap ((i : Int) + 1) = ((i + 1 : Nat) : Int) := by simp [IntKind.wrap_i64]; omega
 co_applyP aa;co_applyP oy rfl cF;co_applyP ah;co_applyP aq;co_applyP bk rfl;intro hlt
 · have hi3 : i < 3 := by simp at hlt; omega
   co_applyP aD;co_applyP aq;co_applyP aI;co_applyP aa;co_applyP oy rfl (qE (Bd c hi3));co_applyP oan rfl;co_applyP aq;co_applyP nr ([(15, .bool (decide (c i < 1 ∨ 10 < c i))), (1, ptr b), (6, arr3 c), (7, .int .i64 (i : Nat))]);co_applyP ax;co_applyP om rfl rfl rfl cF;co_applyP oy rfl ae
   · by_cases h3 : c i < 1
     · have e3 : decide (c i < 1) = true := by simp [h3]
       rw [e3];co_applyP ou rfl;co_applyP ou rfl;co_applyP oy rfl aP;co_applyP ah;change _ = _ ∧ _ = _ ∧ kn _ _;refine ⟨rfl, rfl, ?_⟩;have e4 : true = decide (c i < 1 ∨ 10 < c i) := by simp [h3]
       rw [← e4]; rfl
     · have e3 : decide (c i < 1) = false := by simp; omega
       rw [e3];co_applyP om rfl rfl rfl (dn);co_applyP oy rfl aP;co_applyP ah;change _ = _ ∧ _ = _ ∧ kn _ _;refine ⟨rfl, rfl, ?_⟩;have e4 : decide (10 < c i) = decide (c i < 1 ∨ 10 < c i) := by simp [h3]
       rw [← e4]; rfl
   co_applyP bk rfl;intro hw;co_applyP aa;co_applyP oan rfl;co_applyP aK;change ∃ v, resE .. = some v ∧ _
   · have hw' : c i < 1 ∨ 10 < c i := by simpa using hw
     have e5 : okc c bo = false := by
       unfold okc;simp only [decide_eq_false_iff_not];rintro ⟨h1, _⟩;have : i = 0 ∨ i = 1 ∨ i = 2 := by omega
       rcases this with rfl | rfl | rfl <;> omega
     exact ⟨_, rfl, rfl, by rw [e5], hE⟩
   intro hw;co_applyP aD;co_applyP ax;co_applyP oy rfl aR;co_applyP oy rfl ae;co_applyP ah;change ∃ k', k' < _ ∧ _;have hw' : ¬ (c i < 1 ∨ 10 < c i) := by simpa using hw
   refine ⟨k - 1, by omega, rfl, rfl, i + 1, by omega, by omega, fun j hj => ?_, by rw [← ei]; rfl⟩;by_cases hj' : j = i
   · subst hj'; omega
   · exact hok j (by omega)
 intro hlt;co_applyP bS;co_applyP aq;have hi3 : i = 3 := by simp at hlt; omega
 subst hi3;co_applyP nr ([(2, .bool (okc c bo))]);co_applyP ax;co_applyP oy rfl (au (hf := gh));co_applyP oy rfl (aF (ht := aY));co_applyP oy rfl fh;co_applyP oy rfl ae
 · by_cases h3 : 1 ≤ bo
   · have e3 : decide (1 ≤ bo) = true := by simp [h3]
     rw [e3];co_applyP oy rfl ((au (hf := gh)));co_applyP oy rfl ((aF (ht := aY)));co_applyP oy rfl (nu);co_applyP oy rfl aP;co_applyP oan rfl;change _ = _ ∧ _ = _ ∧ kn _ _;refine ⟨rfl, rfl, ?_⟩;have e4 : decide (bo ≤ 1000) = okc c bo := by unfold okc; have h0 := hok 0 (by omega); have h1 := hok 1 (by omega); have h2 := hok 2 (by omega); simp [h3, h0, h1, h2]
     rw [← e4]; rfl
   · have e3 : decide (1 ≤ bo) = false := decide_eq_false h3;rw [e3];co_applyP ou rfl;co_applyP ou rfl;co_applyP ou rfl;co_applyP oy rfl aP;co_applyP oan rfl;change _ = _ ∧ _ = _ ∧ kn _ _;refine ⟨rfl, rfl, ?_⟩;have e4 : false = okc c bo := by unfold okc; symm; simp only [decide_eq_false_iff_not]; omega
     rw [← e4]; rfl
 co_applyP aK;change ∃ v, resE .. = some v ∧ _;exact ⟨_, rfl, rfl, rfl, hE⟩
def oki (n : Nat) : Bool := decide (0 < n ∧ n % 4 = 0 ∧ n ≤ 1024)
theorem sI : ∃ n, ∀ {σ} {F : Fam σ} {Δ : DM F} {main s} (L : Frag) (base : Option Addr) (len cap : Nat),
   CallsL Δ Tryz.prog main 46 [.slice base len cap].toArray n s L (fun s' v L' => s = s' ∧ v = .bool (oki len) ∧ L = L') := by
 apply Exists.intro;intro σ F Δ main s L base len cap;co_applyP aB 17 Tryz.func46 Tryz.ntmps46;co_applyP aa;co_applyP oan rfl;co_applyP aa;co_applyP om rfl rfl rfl (bB (hu := U44));co_applyP oan rfl;co_applyP aq;co_applyP nr ([(2, .bool (oki len))]);co_applyP ax;co_applyP om rfl rfl rfl dn;co_applyP oy rfl ae
 · by_cases h3 : 0 < len
   · have e3 : decide ((0 : Int) < (len : Int)) = true := by simp [h3]
     rw [e3];co_applyP om rfl rfl rfl (ji);rw [show Int.tmod (len : Int) 4 = ((len % 4 : Nat) : Int) by rw [Int.tmod_eq_emod_of_nonneg (by omega)]; rfl];co_applyP oy rfl (aA);co_applyP oy rfl aP;co_applyP oy rfl ae;by_cases h4 : len % 4 = 0
     · have e5 : (((len % 4 : Nat) : Int) == 0) = true := by simp [h4]
       rw [e5];co_applyP om rfl rfl rfl (nu);co_applyP oy rfl aP;co_applyP oan rfl;change _ = _ ∧ _ = _ ∧ kn _ _;refine ⟨rfl, rfl, ?_⟩;have e4 : decide ((len : Int) ≤ 1024) = oki len := by unfold oki; simp only [h3, h4, true_and]; congr 1; simp; omega
       rw [← e4]; rfl
     · have e5 : (((len % 4 : Nat) : Int) == 0) = false := by simp; omega
       rw [e5];co_applyP ou rfl;co_applyP ou rfl;co_applyP oy rfl aP;co_applyP oan rfl;change _ = _ ∧ _ = _ ∧ kn _ _;refine ⟨rfl, rfl, ?_⟩;have e4 : false = oki len := by unfold oki; symm; simp only [decide_eq_false_iff_not]; omega
       rw [← e4]; rfl
   · have e3 : decide ((0 : Int) < (len : Int)) = false := by simp; omega
     rw [e3];co_applyP ou rfl;co_applyP ou rfl;co_applyP ou rfl;co_applyP oy rfl aP;co_applyP oy rfl ae;co_applyP ou rfl;co_applyP ou rfl;co_applyP oy rfl aP;co_applyP oan rfl;change _ = _ ∧ _ = _ ∧ kn _ _;refine ⟨rfl, rfl, ?_⟩;have e4 : false = oki len := by unfold oki; symm; simp only [decide_eq_false_iff_not]; omega
     rw [← e4]; rfl
 co_applyP aK;change ∃ v, resE .. = some v ∧ _;exact ⟨_, rfl, rfl, rfl, rfl⟩
abbrev bts (im : Nat → Int) (n : Nat) : List Value := (List.range n).map fun i => Value.int .u8 (im i)
theorem zH (a b c e : Int) : evR Tryz.prog (Instr.build 158 [(0, .int .u8 a), (1, .int .u8 b), (2, .int .u8 c), (3, .int .u8 e)].toArray) [] = some (.agg #[.int .u8 a, .int .u8 b, .int .u8 c, .int .u8 e], []) := by kernel_rfl
theorem vg : zeroAt Tryz.prog 158 = some (.agg #[.int .u8 0, .int .u8 0, .int .u8 0, .int .u8 0]) := by kernel_rfl
theorem xL : bytesAt Tryz.prog 158 = some 4 := by kernel_rfl
theorem BO (im : Nat → Int) (j : Nat) : bts im (4 * (j + 1)) = bts im (4 * j) ++ [.int .u8 (im (4 * j)), .int .u8 (im (4 * j + 1)), .int .u8 (im (4 * j + 2)), .int .u8 (im (4 * j + 3))] := by
 have : 4 * (j + 1) = 4 * j + 1 + 1 + 1 + 1 := by omega
 rw [this];simp only [bts, List.range_succ, List.map_append, List.map_cons, List.map_nil, List.append_assoc, List.cons_append, List.nil_append]
theorem vh : ∃ n, ∀ {σ} {F : Fam σ} {Δ : DM F} {main s} (L : Frag) (ib o len cap : Nat) (im : Nat → Int), (∀ cs, (Δ s).New (.cells cs 158)) → Fun L → len % 4 = 0 → len ≤ 1024 → (∀ i, i < len → At L ib (o + i) (.int .u8 (im i))) →
   CallsL Δ Tryz.prog main 47 [.slice (some ⟨ib, o, none⟩) len cap].toArray n s L (fun s' v L' => s = s' ∧ ∃ a, v = rowv a 4 (len / 4) ∧ slOk a (bts im len) 158 L' ∧ (∀ t ∈ L, a.b ≠ some t.1) ∧ Ext L L') := by
 apply Exists.intro;intro σ F Δ main s L ib o len cap im hN hF h4 hle hat;co_applyP aB 36 Tryz.func47 Tryz.ntmps47;co_applyP aa;co_applyP oan rfl;co_applyP aa;co_applyP oan rfl;co_applyP aq;co_applyP aa;co_applyP oan rfl;co_applyP aI;co_applyP bK (fun c s' ε' L' => s' = s ∧ Ext L L' ∧ ∃ j a, 4 * j ≤ len ∧ c + j = 256 ∧ slOk a (bts im (4 * j)) 158 L' ∧ (∀ t ∈ L, a.b ≠ some t.1) ∧ kn ε' [(0, .slice (some ⟨ib, o, none⟩) len cap), (4, .int .i64 ((4 * j : Nat) : Int)), (3, rowv a 4 j)]) 256
 · exact ⟨rfl, ⟨hF, fun _ h => h⟩, 0, ⟨none, []⟩, by omega, rfl, ⟨rfl, rfl⟩, fun t ht => by simp, rfl⟩
 rintro c s' ε' L' ⟨rfl, hE, j, a, hj, hc, ha, han, he⟩;co_applyP aV he;have w0 : IntKind.i64.wrap (((4 * j : Nat) : Int) + 4) = ((4 * (j + 1) : Nat) : Int) := by simp [IntKind.wrap_i64]; omega
 have w1 : IntKind.i64.wrap (((4 * j : Nat) : Int) + 1) = ((4 * j + 1 : Nat) : Int) := by simp [IntKind.wrap_i64]; omega
 have w2 : IntKind.i64.wrap (((4 * j : Nat) : Int) + 2) = ((4 * j + 2 : Nat) : Int) := by simp [IntKind.wrap_i64]; omega
 have w3 : IntKind.i64.wrap (((4 * j : Nat) : Int) + 3) = ((4 * j + 3 : Nat) : Int) := by simp [IntKind.wrap_i64]; omega
 co_applyP aq;co_applyP aa;co_applyP om rfl rfl rfl aR;co_applyP om rfl rfl rfl (bB (hu := U44));co_applyP oy rfl nu;co_applyP ah;co_applyP bk rfl;intro hlt
 · rw [w0] at hlt;have hlt' : 4 * (j + 1) ≤ len := by simp only [decide_eq_true_eq] at hlt; omega
   have hat' : ∀ i, i < 4 → At L' ib (o + (4 * j + i)) (.int .u8 (im (4 * j + i))) := fun i hi => by
     obtain ⟨fl, cs, ty, fr, h1, h2⟩ := hat (4 * j + i) (by omega);exact ⟨fl, cs, ty, fr, hE.s _ h1, h2⟩
   co_applyP aD;co_applyP aq;co_applyP aI;co_applyP bi [] 22 (nf := 0) aT;co_applyP tr 0 rfl (ae) pN;co_applyP tr 1 rfl (ae) pN;co_applyP tr 2 rfl (ae) pN;co_applyP tr 3 rfl (bH U44 eJ (off := o + (4 * j)) (ho := by rw [Nat.mul_one, Int.toNat_natCast])) pN;co_applyP t0 4 rfl (aF (ht := fI) (hv := hat' 0 (by omega))) pN;co_applyP tr 5 rfl (ae) pN;co_applyP tr 6 rfl (ae) pN;co_applyP tr 7 rfl (aR) pN;rw [w1];co_applyP tr 8 rfl (bH U44 eJ (off := o + (4 * j + 1)) (ho := by rw [Nat.mul_one, Int.toNat_natCast])) pN;co_applyP t0 9 rfl (aF (ht := fI) (hv := hat' 1 (by omega))) pN;co_applyP tr 10 rfl (ae) pN;co_applyP tr 11 rfl (ae) pN;co_applyP tr 12 rfl (aR) pN;rw [w2];co_applyP tr 13 rfl (bH U44 eJ (off := o + (4 * j + 2)) (ho := by rw [Nat.mul_one, Int.toNat_natCast])) pN;co_applyP t0 14 rfl (aF (ht := fI) (hv := hat' 2 (by omega))) pN;co_applyP tr 15 rfl (ae) pN;co_applyP tr 16 rfl (ae) pN;co_applyP tr 17 rfl (aR) pN;rw [w3];co_applyP tr 18 rfl (bH U44 eJ (off := o + (4 * j + 3)) (ho := by rw [Nat.mul_one, Int.toNat_natCast])) pN;co_applyP t0 19 rfl (aF (ht := fI) (hv := hat' 3 (by omega))) pN;co_applyP tr 20 rfl (bt (zH _ _ _ _)) pN;co_applyP nv (i := 21) rfl (yx (sz := 4) (hN := hN _) (hv := rfl) (hu := mg) (hs := dm) (hz := vg) (h0 := by decide) (h24 := by decide));intro nb L1 hA;refine ⟨dY (by simp) (fun t ht => hA.sub t ht), ?_⟩;co_applyP a0;intro hnd;have hr : Reads Tryz.prog L1 4 1 (.slice (some ⟨nb, 0, none⟩) 1 1) [Value.int .u8 (im (4 * j)), .int .u8 (im (4 * j + 1)), .int .u8 (im (4 * j + 2)), .int .u8 (im (4 * j + 3))].toArray := by
     have := cB (P := Tryz.prog) (sz := 4) (n := 1) (len := 1) (cap := 1) (o := 0) hA.self (by show 0 + 1 * 4 ≤ 4; decide);exact this
   co_applyP te (i := 22) rfl (vf (a := a) (by_ := 3) (xs := bts im (4 * j)) (n := j) (m := 1) (hnd := hnd) (hu := mg) (hs := dm) (hb := xL) (hz := vg) (hzs := rfl) (hN := hN) (ha := ha.mono fun c hc o ho => hA.sub _ ho) (hn := by simp; omega) (hr := hr) (hm := rfl) (hpl := rfl) (h0 := by decide) (h8 := by omega));rintro _ _ ⟨a', rfl, hp⟩;refine ⟨ay (by simp), ?_⟩;co_applyP to 23 rfl (bL) (ay (by simp));co_applyP td (by kernel_rfl);co_applyP ax;co_applyP om rfl rfl rfl aR;co_applyP oan rfl;change ∃ k', k' < _ ∧ _;refine ⟨c - 1, by omega, rfl, ⟨hp.fn, fun t ht => hp.sub _ (hA.sub _ (hE.s _ ht)) (han t ht)⟩, j + 1, a', by omega, by omega, ?_, fun t ht e => ?_, by rw [w0]; rfl⟩
   · rw [BO]; exact hp.ok
   · rcases hp.d _ e with h | h
     · exact han t ht h
     · exact h _ (hA.sub _ (hE.s _ ht)) rfl
 intro hlt;co_applyP bS;co_applyP aa;co_applyP oy rfl ae;co_applyP oan rfl;co_applyP aK;change ∃ v, resE .. = some v ∧ _;rw [w0] at hlt;have hj4 : 4 * j = len := by simp at hlt; omega
 have hj4' : len / 4 = j := by omega
 exact ⟨_, rfl, rfl, a, by rw [hj4'], by rw [← hj4]; exact ha, han, hE⟩
section
variable {New : Obj → Prop} {N : Nat} {ε : Env} {L : Frag} {d : Option Tmp} {ty : TypeId} {ps : String} {af : Array Edge} {g : Option (Nat × Bool)} {P : Program}
theorem Be {t : TypeId} (hN : New (.map #[] 0)) : EO P New N ε L ⟨d, .makeMap t none, ty, ps, af, g⟩ (fun r L'' => ∃ b, (∀ t ∈ L, t.1 ≠ b) ∧ r = .map (some b) ∧ L'' = (b, true, .map #[] 0) :: L) :=
 fun _ _ => rH hN fun b hb => ⟨b, hb, rfl, rfl⟩
end
def PS.zero : PS := ⟨0, 0, 0, 0, 0, 0, 0, fun _ => 0, fun _ => 0, fun _ => (0, 0), 0⟩
def St.bare (c : Nat → Int) (bo : Int) (pn : Nat) (im : Nat → Int) : St := ⟨c, bo, pn, fun i j => im (4 * i + j), [], 0, fun _ => [], fun _ => [], [], 0⟩
theorem vj (c : Nat → Int) (bo : Int) (b n cap wb : Nat) : evR Tryz.prog (Instr.build 115 [(0, cfgv c bo), (1, .slice (some ⟨b, 0, none⟩) n cap), (6, .map (some wb))].toArray) [] = some (.agg (kcells ⟨c, bo, .slice (some ⟨b, 0, none⟩) n cap, .slice none 0 0, 0, fun _ => .slice none 0 0, fun _ => .slice none 0 0, .map (some wb), 0⟩), []) := by kernel_rfl
theorem BP : evR Tryz.prog (Instr.build 99 [].toArray) [] = some (.agg (pcells PS.zero), []) := by kernel_rfl
theorem qM {K g cap wb len : Nat} {c : Nat → Int} {bo : Int} {im : Nat → Int} {L L1 L2 : Frag} {a : Sl} (hab : a.b = some g) (h4 : len % 4 = 0) (hcap : cap = len / 4 + a.junk.length / 4) (ha : slOk a (bts im len) 158 L1) (hw : (wb, true, Obj.map #[] 0) ∈ L1) (hE : Ext L L1) (han : ∀ t ∈ L, a.b ≠ some t.1) (hwn : ∀ t ∈ L, t.1 ≠ wb)
   (hA : Add L1 K (.cells (kcells ⟨c, bo, .slice (some ⟨g, 0, none⟩) (len / 4) cap, .slice none 0 0, 0, fun _ => .slice none 0 0, fun _ => .slice none 0 0, .map (some wb), 0⟩) 115) L2) :
   Rep K ⟨g, cap, (bts im len ++ a.junk).toArray, fun _ => ⟨none, []⟩, fun _ => ⟨none, []⟩, wb, [], 0⟩ (St.bare c bo (len / 4) im) L L2 where
 fn := hA.fn
 k := hA.self
 g := hA.sub _ (ha.mem hab)
 gv i j hi hj := by
   have hlt : 4 * i + j < len := by have : i < len / 4 := hi; omega
   simp only [List.getElem?_toArray];rw [List.getElem?_append_left (by simpa using hlt)];simp [hlt, St.bare]
 p q hq := by cases hq
 pn := by simp [St.bare]
 p8 := by simp [St.bare]
 pa := ⟨rfl, rfl⟩
 rw l hl := ⟨rfl, rfl⟩
 ya i hi := ⟨rfl, rfl⟩
 w := hA.sub _ hw
 wl := rfl
 bn := by simp
 bc x hx := by cases hx
 wa e he := by cases he
 d i j hij hn := absurd rfl hn
 dy i j hij hn := absurd rfl hn
 al i c hc := by cases hc
 yl i c hc := by cases hc
 fr t ht := hA.sub _ (hE.s _ ht)
 fd t ht := ⟨hA.new _ (hE.s _ ht), fun q hq => by (cases hq), fun i h => by (cases h), fun i h => by (cases h), hwn t ht⟩
theorem Bf : ∃ n, ∀ {σ} {F : Fam σ} {Δ : DM F} {main s} (L : Frag) (c : Nat → Int) (bo : Int) (ib o len cap : Nat) (im : Nat → Int), (∀ s o, (Δ s).New o) → Fun L → okc c bo = true → oki len = true → (∀ i, i < len → At L ib (o + i) (.int .u8 (im i))) →
   CallsL Δ Tryz.prog main 29 [cfgv c bo, .slice (some ⟨ib, o, none⟩) len cap].toArray n s L (fun s' v L' => s = s' ∧ ∃ K A b, v = .tuple #[ptr K, .int .i64 0] ∧ Rep K A ((St.bare c bo (len / 4) im).adopt b PS.zero) L L') := by
 obtain ⟨n1, g1⟩ := pT;obtain ⟨n2, g2⟩ := sI;obtain ⟨n3, g3⟩ := vh;obtain ⟨n4, g4⟩ := yv;apply Exists.intro;intro σ F Δ main s L c bo ib o len cap im hN hF hok hoi hat;have hoi' : 0 < len ∧ len % 4 = 0 ∧ len ≤ 1024 := by unfold oki at hoi; simpa using hoi
 co_applyP aB 24 Tryz.func29 Tryz.ntmps29;co_applyP aa;co_applyP bT rfl (cn (hN _ _));intro b L1 hA;have hE1 : Ext L L1 := ⟨hA.fn, hA.sub⟩;co_applyP oy rfl bL;co_applyP oan rfl;co_applyP aq;co_applyP aa;co_applyP oy rfl (ba (ht := qh) (hs := nC) (hm := hA.self) (hi := by show 0 + 4 ≤ 4; decide));rw [show (Value.agg (((cfgv c bo).cells).extract 0 (0 + 4))) = cfgv c bo from rfl];co_applyP oc rfl rfl rfl (g1 L1 c bo (fun cs => hN _ _) hA.fn);rintro _ _ _ ⟨rfl, rfl, hE⟩;rename_i L2;rw [hok];co_applyP oy rfl cN;co_applyP ah;co_applyP ai rfl;co_applyP aD;co_applyP aq;co_applyP aa;co_applyP oy rfl ae;co_applyP oc rfl rfl rfl (g2 _ _ len cap);rintro _ _ _ ⟨rfl, rfl, rfl⟩;rw [hoi];co_applyP oy rfl cN;co_applyP ah;co_applyP ai rfl;co_applyP aD;change wpE ..;have hcfg : (b, true, Obj.cells (cfgv c bo).cells 26) ∈ L2 := hE.s _ hA.self;have hE2 : Ext L L2 := hE1.trans hE;have hbn : ∀ (a : Sl) (L3 : Frag), slOk a (bts im len) 158 L3 → ∃ g, a.b = some g := fun a L3 h => by
   cases hab : a.b with
   | some g => exact ⟨g, rfl⟩
   | none =>
     unfold slOk at h;rw [hab] at h;have := congrArg List.length h.1;simp at this;omega
 co_applyP dZ (fun s'' ε'' L'' => s = s'' ∧ ∃ K A, Rep K A (St.bare c bo (len / 4) im) L2 L'' ∧ kn ε'' [(6, ptr K)]);co_applyP bi L2 5 aT;co_applyP tr 0 rfl (ba (ht := qh) (hs := nC) (hm := hcfg) (hi := by show 0 + 4 ≤ 4; decide)) pI;rw [show (Value.agg (((cfgv c bo).cells).extract 0 (0 + 4))) = cfgv c bo from rfl];co_applyP tr 1 rfl (ae) pI;co_applyP t2 (i := 2) (j := 3) rfl rfl rfl (g3 L2 ib o len cap im (fun cs => hN _ _) hE.f hoi'.2.1 hoi'.2.2 (fun i hi => hE2.at (hat i hi))) rfl (Be (hN _ _))
 · rintro s' v L3 ⟨rfl, a, rfl, ha, han, hE3⟩;refine ⟨dY (fun t h => hE3.s t h) (fun t h => hE3.s t h), ?_⟩;obtain ⟨g, hg⟩ := hbn a L3 ha;have ev : rowv a 4 (len / 4) = .slice (some ⟨g, 0, none⟩) (len / 4) (len / 4 + a.junk.length / 4) := by unfold rowv; rw [hg]
   rw [ev];co_applyP nv (i := 3) rfl (Be (hN _ _));intro wb L4 hA4;refine ⟨dY (fun t h => hA4.sub _ (hE3.s t h)) (fun t h => hA4.sub _ (hE3.s t h)), ?_⟩;co_applyP to 4 rfl (bt (vj c bo g _ _ wb)) (dY (fun t h => hA4.sub _ (hE3.s t h)) (fun t h => hA4.sub _ (hE3.s t h)));co_applyP nv (i := 5) rfl (cn (hN _ _));intro K L5 hA5;refine ⟨ay (fun t h => hA5.sub _ (hA4.sub _ (hE3.s t h))), ?_⟩;co_applyP to 6 rfl (bL) (ay (fun t h => hA5.sub _ (hA4.sub _ (hE3.s t h))));co_applyP td (by kernel_rfl);change _ = _ ∧ ∃ K A, _ ∧ kn _ _;exact ⟨rfl, K, _, qM hg hoi'.2.1 rfl (ha.mono fun c hc o ho => hA4.sub _ ho) hA4.self ⟨hA4.fn, fun t h => hA4.sub _ (hE3.s t h)⟩ han (fun t ht => hA4.new _ (hE3.s _ ht)) hA5, rfl⟩
 · rintro v L3 ⟨wb, hwb, rfl, rfl⟩;refine ⟨dY (fun t h => List.mem_cons_of_mem _ h) (fun t h => List.mem_cons_of_mem _ h), ?_⟩;have hA3 := dx (o := .map #[] 0) hE.f hwb;have hE3 : Ext L2 ((wb, true, .map #[] 0) :: L2) := ⟨hA3.fn, hA3.sub⟩;co_applyP tc 2 rfl rfl rfl (g3 _ ib o len cap im (fun cs => hN _ _) hA3.fn hoi'.2.1 hoi'.2.2 (fun i hi => (hE2.trans hE3).at (hat i hi)));rintro _ _ _ ⟨rfl, a, rfl, ha, han, hE4⟩;refine ⟨dY (fun t h => hE4.s _ (hA3.sub t h)) (fun t h => hE4.s _ (hA3.sub t h)), ?_⟩;rename_i L4;obtain ⟨g, hg⟩ := hbn a L4 ha;have ev : rowv a 4 (len / 4) = .slice (some ⟨g, 0, none⟩) (len / 4) (len / 4 + a.junk.length / 4) := by unfold rowv; rw [hg]
   rw [ev];co_applyP to 4 rfl (bt (vj c bo g _ _ wb)) (dY (fun t h => hE4.s _ (hA3.sub t h)) (fun t h => hE4.s _ (hA3.sub t h)));co_applyP nv (i := 5) rfl (cn (hN _ _));intro K L5 hA5;refine ⟨ay (fun t h => hA5.sub _ (hE4.s _ (hA3.sub t h))), ?_⟩;co_applyP to 6 rfl (bL) (ay (fun t h => hA5.sub _ (hE4.s _ (hA3.sub t h))));co_applyP td (by kernel_rfl);change _ = _ ∧ ∃ K A, _ ∧ kn _ _;exact ⟨rfl, K, _, qM hg hoi'.2.1 rfl ha (hE4.s _ hA3.self) (hE3.trans hE4) (fun t ht => han _ (hA3.sub _ ht)) hwb hA5, rfl⟩
 rintro s'' ε'' L3 ⟨rfl, K, A, hR, he⟩;co_applyP aV he;co_applyP aa;co_applyP om rfl rfl rfl (bt BP);co_applyP bT rfl (cn (hN _ _));intro pbk L4 hA4;have hR4 : Rep K A (St.bare c bo (len / 4) im) (pb pbk PS.zero :: L2) L4 := hR.fresh ⟨hA4.fn, hA4.sub⟩ hA4.new hA4.self;co_applyP oc rfl rfl rfl (g4 K A _ L2 L4 pbk PS.zero (fun cs => hN _ _) hR4 (fun t ht => hA4.new _ (hR.fr t ht)) (by simp [St.bare]) (by simp [St.bare]) (by decide) (by simp [St.bare]));rintro _ _ _ ⟨rfl, rfl, A', hR5⟩;co_applyP ah;co_applyP aa;co_applyP om rfl rfl rfl bL;co_applyP oan rfl;co_applyP aK;change ∃ v, resE .. = some v ∧ _;exact ⟨_, rfl, rfl, K, A', pbk, rfl, hR5.less fun t ht => hE2.s t ht⟩
end Go.Proofs.YtejkelcaljmnoaaGreatDoor
namespace Go.Lo
open Go.Conc Go.Hx
def strv (l : List Int) : Value := .string ⟨(l.map fun n => UInt8.ofNat n.toNat).toArray⟩
def Byt (l : List Int) : Prop := ∀ n ∈ l, 0 ≤ n ∧ n < 256
section
variable {P : Program} {N : Nat} {ε : Env} {L : Frag} {d : Option Tmp} {ty : TypeId} {ps : String} {af : Array Edge} {g : Option (Nat × Bool)} {x y : Operand} {t u : TypeId} {New : Obj → Prop}
theorem vk (l m : List Int) : (⟨(l.map fun n => UInt8.ofNat n.toNat).toArray⟩ : ByteArray) ++ ⟨(m.map fun n => UInt8.ofNat n.toNat).toArray⟩ = ⟨((l ++ m).map fun n => UInt8.ofNat n.toNat).toArray⟩ := by
 apply ByteArray.ext;simp
theorem bQ {l m : List Int} (hx : ev ε x = some (strv l) := by rfl) (hy : ev ε y = some (strv m) := by rfl) (hl : l.length + m.length < 1000000 := by first | exact of_decide_eq_true rfl | omega | (simp; done) | (simp; omega)) : EY P N ε L ⟨d, .binOp .add t x y u, ty, ps, af, g⟩ (strv (l ++ m)) := fun a ha => by
 refine cR (fun _ => rfl) fun K hK => ?_;rw [ha.ev hx, ha.ev hy];have e1 : eqGuard .add t x y (strv l) (strv m) = pure () := by simp [eqGuard]
 show wpQ P (eqGuard .add t x y (strv l) (strv m) >>= fun _ => binOp .add t (strv l) (strv m)) K L;rw [e1];show wpQ P (Op.stringOp .add _ _) K L;unfold Op.stringOp;simp only;have hmax : IntKind.i64.max = 9223372036854775807 := rfl;rw [if_neg (by rw [hmax]; simp [ByteArray.size]; omega)];rw [vk];exact hK
theorem Bg {l m : List Int} (hx : ev ε x = some (strv l) := by rfl) (hy : ev ε y = some (strv m) := by rfl) (hl : Byt l) (hm : Byt m) : EY P N ε L ⟨d, .binOp .eql t x y u, ty, ps, af, g⟩ (.bool (decide (l = m))) := fun a ha => by
 refine cR (fun _ => rfl) fun K hK => ?_;rw [ha.ev hx, ha.ev hy];have e1 : eqGuard .eql t x y (strv l) (strv m) = pure () := by unfold eqGuard strv; rfl
 show wpQ P (eqGuard .eql t x y (strv l) (strv m) >>= fun _ => binOp .eql t (strv l) (strv m)) K L;rw [e1];show K (.bool _);have e2 : ∀ l : List Int, (⟨(l.map fun n => UInt8.ofNat n.toNat).toArray⟩ : ByteArray).toList = l.map fun n => UInt8.ofNat n.toNat := fun l => by
   rw [ByteArray.toList_eq]
 rw [e2, e2];have e3 : (l.map (fun n => UInt8.ofNat n.toNat) == m.map (fun n => UInt8.ofNat n.toNat)) = decide (l = m) := by
   rw [Bool.eq_iff_iff];simp only [beq_iff_eq, decide_eq_true_eq];refine ⟨fun h => ?_, fun h => by rw [h]⟩;have h1 := congrArg (List.map fun u : UInt8 => (u.toNat : Int)) h;simp only [List.map_map] at h1;have e4 : ∀ l : List Int, Byt l → l.map ((fun u : UInt8 => (u.toNat : Int)) ∘ fun n => UInt8.ofNat n.toNat) = l := fun l hl => by
     have : l.map ((fun u : UInt8 => (u.toNat : Int)) ∘ fun n => UInt8.ofNat n.toNat) = l.map id := List.map_congr_left fun n hn => by
       have := hl n hn;simp only [Function.comp, UInt8.toNat_ofNat', id];omega
     rw [this, List.map_id]
   rw [e4 l hl, e4 m hm] at h1;exact h1
 rw [e3];exact hK
theorem Bh {k k' : IntKind} {a n : Int} (hx : ev ε x = some (.int k a) := by rfl) (hy : ev ε y = some (.int k' n) := by rfl) (hn : 0 ≤ n := by decide) : EY P N ε L ⟨d, .binOp .shr t x y u, ty, ps, af, g⟩ (.int k (a.fdiv (2 ^ min n.toNat k.bits))) := fun a' ha => by
 refine cR (fun _ => rfl) fun K hK => ?_;rw [ha.ev hx, ha.ev hy, jh];show wpQ P (Op.shift .shr k a k' n) K L;unfold Op.shift;rw [if_neg (by omega)];exact hK
theorem jt (f : Value → ByteArray → Sem (ForInStep ByteArray)) (hf : ∀ (n : Int) (r : ByteArray), f (.int .u8 n) r = pure (.yield (r.push (UInt8.ofNat n.toNat)))) :
   ∀ (l : List Int) (s : ByteArray), forIn (l.map (Value.int .u8)) s f = (pure ⟨s.data ++ (l.map fun n => UInt8.ofNat n.toNat).toArray⟩ : Sem ByteArray)
 | [], s => by simp
 | n :: l, s => by
   simp only [List.map_cons, List.forIn_cons];rw [hf];show forIn (l.map (Value.int .u8)) (s.push (UInt8.ofNat n.toNat)) f = _;rw [jt f hf l];congr 1;apply ByteArray.ext;apply Array.ext';simp
theorem vl {l : List Int} {b o len cap : Nat} {cs : Array Value} {e e' : TypeId} {fr : Nat × Nat} {fl : Bool} (hx : ev ε x = some (.slice (some ⟨b, o, none⟩) len cap) := by rfl) (ht : P.underlying t = some (.slice e)) (he : P.underlying e = some (.int .u8)) (hu : P.underlying u = some .string) (hm : (b, fl, .cells cs e' fr) ∈ L) (hc : o + len ≤ cs.size) (hl : cs.extract o (o + len) = (l.map (Value.int .u8)).toArray) : EY P N ε L ⟨d, .convert t u x, ty, ps, af, g⟩ (strv l) := fun a ha => by
 refine cR (fun _ => rfl) fun K hK => ?_;unfold convert;rw [ha.ev hx, ar, aH ht, ar, aH hu];simp only;rw [ar, aH he];show wpQ P (Conv.bytesToString _) K L;unfold Conv.bytesToString;simp only;rw [ar];refine eZ hm hc ?_;rw [hl, List.forIn_toArray, jt _ (fun n r => rfl)];have e1 : (⟨ByteArray.empty.data ++ (l.map fun n => UInt8.ofNat n.toNat).toArray⟩ : ByteArray) = ⟨(l.map fun n => UInt8.ofNat n.toNat).toArray⟩ := by apply ByteArray.ext; simp
 rw [e1];exact hK
theorem zI {e : TypeId} {n m : Nat} (hx : ev ε x = some (.slice none n m) := by rfl) (ht : P.underlying t = some (.slice e)) (he : P.underlying e = some (.int .u8)) (hu : P.underlying u = some .string) : EY P N ε L ⟨d, .convert t u x, ty, ps, af, g⟩ (strv []) := fun a ha => by
 refine cR (fun _ => rfl) fun K hK => ?_;unfold convert;rw [ha.ev hx, ar, aH ht, ar, aH hu];simp only;rw [ar, aH he];exact hK
theorem zJ {l : List Int} {e : TypeId} (hl : Byt l) (hN : ∀ cs, New (.cells cs e)) (hF : Fun L) (hx : ev ε x = some (strv l) := by rfl) (ht : P.underlying t = some .string) (hu : P.underlying u = some (.slice e)) (he : P.underlying e = some (.int .u8)) :
   EO P New N ε L ⟨d, .convert t u x, ty, ps, af, g⟩ (fun r L' => ∃ b cap junk fr, r = .slice (some ⟨b, 0, none⟩) l.length cap ∧ Add L b (.cells (l.map (Value.int .u8) ++ junk).toArray e fr) L') := fun a ha => by
 show wpS P New (convert t u (a.eval x) >>= fun v => pure (Next.value v)) _ L;unfold convert;rw [ha.ev hx, aj, aj, aN ht, aj, aN hu];simp only [strv];rw [aj, aN he];show wpS P New (Conv.stringToBytes e _) _ L;unfold Conv.stringToBytes;rw [aj];refine ⟨fun h => by simp [Question.forced] at h, fun _ tp => ?_⟩;generalize Question.cut _ tp = cap;rw [iV];simp only [newRow, aj];refine bY (hN _) fun b hb => ?_;rw [bm];unfold markStringish;rw [aj];refine ⟨true, _, List.mem_cons_self, ?_⟩;simp only [shapeOf];show wpS P New (freeze _ 1) _ _;refine ⟨0, _, _, _, rfl, ?_⟩;have e1 : (Array.map (fun b : UInt8 => Value.int .u8 (b.toNat : Nat)) (l.map fun n => UInt8.ofNat n.toNat).toArray) = (l.map (Value.int .u8)).toArray := by
   apply Array.ext';simp only [List.map_toArray, List.map_map];refine List.map_congr_left fun n hn => ?_;have := hl n hn;simp only [Function.comp, UInt8.toNat_ofNat'];congr 1;omega
 rw [e1];have e2 : (l.map (Value.int .u8)).toArray ++ Array.replicate (cap - ByteArray.size ⟨(l.map fun n => UInt8.ofNat n.toNat).toArray⟩) (Value.int .u8 0) = (l.map (Value.int .u8) ++ List.replicate (cap - ByteArray.size ⟨(l.map fun n => UInt8.ofNat n.toNat).toArray⟩) (Value.int .u8 0)).toArray := by
   apply Array.ext'; simp
 rw [e2];refine ⟨b, cap, _, _, ?_, dx hF hb⟩;simp [ByteArray.size]
end
end Go.Lo
namespace Go.Proofs.YtejkelcaljmnoaaGreatDoor
open Go.Conc Go.Hx Go.Lo
def I64 (c : Int) : Prop := -9223372036854775808 ≤ c ∧ c ≤ 9223372036854775807
def pickN (c : Int) (n : Nat) : Nat := (if c < 0 then -(c + 1) else c).toNat % n
theorem vm {a : Int} {n : Nat} (h : 0 ≤ a) : a.tmod (n : Int) = ((a.toNat % n : Nat) : Int) := by
 rw [Int.tmod_eq_emod_of_nonneg h];obtain ⟨m, rfl⟩ := Int.eq_ofNat_of_zero_le h;simp
theorem vn : ∃ n, ∀ {σ} {F : Fam σ} {Δ : DM F} {main s} (L : Frag) (c : Int) (k : Nat), I64 c → 0 < k →
   CallsL Δ Tryz.prog main 15 [.int .i64 c, .int .i64 (k : Nat)].toArray n s L (fun s' v L' => s = s' ∧ v = .int .i64 (pickN c k : Nat) ∧ L = L') := by
 apply Exists.intro;intro σ F Δ main s L c k hc hk;obtain ⟨hc1, hc2⟩ := hc;co_applyP aB 13 Tryz.func15 Tryz.ntmps15;co_applyP aa;co_applyP oan rfl;co_applyP dZ (fun s'' ε'' L'' => s = s'' ∧ L = L'' ∧ kn ε'' [(0, .int .i64 (if c < 0 then -(c + 1) else c)), (1, .int .i64 (k : Nat))]);co_applyP aa;co_applyP om rfl rfl rfl cF;co_applyP ah;co_applyP bk rfl;intro hn;co_applyP ax;co_applyP om rfl rfl rfl aR;co_applyP oy rfl Ai;co_applyP oan rfl;change _ = _ ∧ _ = _ ∧ kn _ _
 · have hn' : c < 0 := by simpa using hn
   have w1 : IntKind.i64.wrap (c + 1) = c + 1 := by simp [IntKind.wrap_i64]; omega
   have w2 : IntKind.i64.wrap (0 - (c + 1)) = -(c + 1) := by simp [IntKind.wrap_i64]; omega
   rw [w1, w2, if_pos hn'];exact ⟨rfl, rfl, rfl⟩
 intro hn;co_applyP aD;change _ = _ ∧ _ = _ ∧ kn _ _;have hn' : ¬ c < 0 := by simpa using hn
 rw [if_neg hn'];exact ⟨rfl, rfl, rfl⟩;rintro s'' ε'' L'' ⟨rfl, rfl, he⟩;co_applyP aV he;co_applyP aa;co_applyP om rfl rfl rfl ae;co_applyP oy rfl ji;co_applyP oan rfl;co_applyP aK;change ∃ v, resE .. = some v ∧ _;refine ⟨_, rfl, rfl, ?_, rfl⟩;unfold pickN;rw [vm (by split <;> omega)]
def insn (op a k : Int) : List Int := [op % 256, a % 256, k % 256, (k / 256) % 256]
theorem dG (op a k : Int) : Byt (insn op a k) := by
 intro n hn;simp only [insn, List.mem_cons, List.not_mem_nil, or_false] at hn;rcases hn with rfl | rfl | rfl | rfl <;> omega
section
variable {New : Obj → Prop} {N : Nat} {ε : Env} {L : Frag} {d : Option Tmp} {ty : TypeId} {ps : String} {af : Array Edge} {g : Option (Nat × Bool)} {P : Program}
theorem Bi {t e : TypeId} {x0 x1 x2 x3 : Operand} {v0 v1 v2 v3 z : Value} (hN : New (.cells #[v0, v1, v2, v3] e)) (h0 : ev ε x0 = some v0 := by rfl) (h1 : ev ε x1 = some v1 := by rfl) (h2 : ev ε x2 = some v2 := by rfl) (h3 : ev ε x3 = some v3 := by rfl) (hu : P.underlying t = some (.slice e)) (hs : sizeAt P e = some 1) (hz : zeroAt P e = some z) (hzp : plainV z = true := by rfl) (p0 : plainV v0 = true := by rfl) (p1 : plainV v1 = true := by rfl) (p2 : plainV v2 = true := by rfl) (p3 : plainV v3 = true := by rfl) :
   EO P New N ε L ⟨d, .buildSlice t 4 #[(0, x0), (1, x1), (2, x2), (3, x3)], ty, ps, af, g⟩ (fun r L'' => ∃ b, (∀ t ∈ L, t.1 ≠ b) ∧ r = .slice (some ⟨b, 0, none⟩) 4 4 ∧ L'' = (b, true, .cells #[v0, v1, v2, v3] e) :: L) := by
 intro a ha;simp only [execOp, List.map_toArray, List.map_cons, List.map_nil];unfold Instr.buildSlice newRow;have h : Instr.fill (fun i => some (i * 1, 1)) ((Array.range (4 * 1)).map (#[z][· % #[z].size]!)) [(0, v0), (1, v1), (2, v2), (3, v3)] = some #[v0, v1, v2, v3] := by
   have e1 : (Array.range (4 * 1)).map (#[z][· % #[z].size]!) = #[z, z, z, z] := by
     have : Array.range (4 * 1) = #[0, 1, 2, 3] := by decide
     rw [this]; simp
   rw [e1];simp [Instr.fill, bv p0, bv p1, bv p2, bv p3]
 rw [aj, aj, aN hu, ha.ev h0, ha.ev h1, ha.ev h2, ha.ev h3];simp only [];rw [aj, bI hs];simp only [Nat.mul_one, gt_iff_lt, Nat.reduceLT, Nat.reducePow, if_false, Nat.reduceEqDiff, reduceCtorEq, show ¬ (4 = 0) by decide];rw [aj, cv hz, aj, bm, bv hzp];simp only [Nat.mul_one] at h;simp only [h, aj];exact bY hN fun b hb => ⟨b, hb, rfl, rfl⟩
end
theorem pU : ∃ n, ∀ {σ} {F : Fam σ} {Δ : DM F} {main s} (L : Frag) (op a k : Int), (∀ s o, (Δ s).New o) → Fun L →
   CallsL Δ Tryz.prog main 16 [.int .i64 op, .int .i64 a, .int .i64 k].toArray n s L (fun s' v L' => s = s' ∧ v = strv (insn op a k) ∧ Ext L L') := by
 apply Exists.intro;intro σ F Δ main s L op a k hN hF;co_applyP aB 18 Tryz.func16 Tryz.ntmps16;co_applyP aa;co_applyP oan rfl;co_applyP aa;co_applyP om rfl rfl rfl (cp (hs := U3) (ht := U5));co_applyP om rfl rfl rfl (cp (hs := U3) (ht := U5));co_applyP om rfl rfl rfl (cp (hs := U3) (ht := U5));co_applyP om rfl rfl rfl Bh;co_applyP oy rfl (cp (hs := U3) (ht := U5));co_applyP bT rfl (Bi (hN _ _) (hu := U44) (hs := eJ) (hz := ut));intro b L1 hA;have e1 : k.fdiv (2 ^ min (8 : Int).toNat IntKind.i64.bits) = k / 256 := by
   rw [show (2 : Int) ^ min (8 : Int).toNat IntKind.i64.bits = 256 from rfl, Int.fdiv_eq_ediv_of_nonneg _ (by decide)]
 co_applyP oy rfl (vl (l := insn op a k) (ht := U44) (he := U5) (hu := U9) (hm := hA.self) (hc := by show 0 + 4 ≤ 4; decide) (hl := by rw [e1]; simp [insn, IntKind.wrap_u8]));co_applyP oan rfl;co_applyP aK;change ∃ v, resE .. = some v ∧ _;exact ⟨_, rfl, rfl, rfl, hA.fn, hA.sub⟩
def cfgf (a b c : Int) : Nat → Int := fun i => if i = 0 then ((1 + pickN a 10 : Nat) : Int) else if i = 1 then ((1 + pickN b 10 : Nat) : Int) else ((1 + pickN c 10 : Nat) : Int)
def cfgb (bo : Int) : Int := ((1 + pickN bo 60 : Nat) : Int)
theorem dh (c : Int) {n : Nat} (h : 0 < n) : pickN c n < n := Nat.mod_lt _ h
theorem xM (a b c bo : Int) : okc (cfgf a b c) (cfgb bo) = true := by
 have h1 := dh a (n := 10) (by decide);have h2 := dh b (n := 10) (by decide);have h3 := dh c (n := 10) (by decide);have h4 := dh bo (n := 60) (by decide);unfold okc cfgf cfgb;simp;omega
theorem Bj (a b c : Int) : evR Tryz.prog (Instr.build 24 [(0, .int .i64 a), (1, .int .i64 b), (2, .int .i64 c)].toArray) [] = some (.agg #[.int .i64 a, .int .i64 b, .int .i64 c], []) := by kernel_rfl
theorem Bl (a b c e : Int) : evR Tryz.prog (Instr.build 26 [(0, .agg #[.int .i64 a, .int .i64 b, .int .i64 c]), (1, .int .i64 e)].toArray) [] = some (.agg #[.int .i64 a, .int .i64 b, .int .i64 c, .int .i64 e], []) := by kernel_rfl
theorem vq : ∃ n, ∀ {σ} {F : Fam σ} {Δ : DM F} {main s} (L : Frag) (a b c bo : Int), (∀ s o, (Δ s).New o) → Fun L → I64 a → I64 b → I64 c → I64 bo →
   CallsM Δ Tryz.prog main 18 [.int .i64 a, .int .i64 b, .int .i64 c, .int .i64 bo].toArray n s L (fun s' v L' => s = s' ∧ v = cfgv (cfgf a b c) (cfgb bo) ∧ Ext L L') := by
 obtain ⟨n1, g1⟩ := vn;apply Exists.intro;intro σ F Δ main s L a b c bo hN hF ha hb hc hbo;have h1 := dh a (n := 10) (by decide);have h2 := dh b (n := 10) (by decide);have h3 := dh c (n := 10) (by decide);have h4 := dh bo (n := 60) (by decide);have w : ∀ m : Nat, m < 100 → IntKind.i64.wrap (1 + (m : Int)) = ((1 + m : Nat) : Int) := fun m hm => by simp [IntKind.wrap_i64]; omega
 co_applyP mr 23 Tryz.func18 Tryz.ntmps18;co_applyP aa;co_applyP bT rfl (eV (z := cfgv (fun _ => 0) 0) (hN _ _));intro xr L1 hA;co_applyP ah;co_applyP aa;co_applyP oy rfl ae;co_applyP oc rfl rfl rfl (g1 L1 a 10 ha (by decide));rintro _ _ _ ⟨rfl, rfl, rfl⟩;co_applyP oy rfl aR;co_applyP oy rfl ae;rw [w _ (by omega)];co_applyP oc rfl rfl rfl (g1 L1 b 10 hb (by decide));rintro _ _ _ ⟨rfl, rfl, rfl⟩;co_applyP oy rfl aR;co_applyP oy rfl ae;rw [w _ (by omega)];co_applyP oc rfl rfl rfl (g1 L1 c 10 hc (by decide));rintro _ _ _ ⟨rfl, rfl, rfl⟩;co_applyP oy rfl aR;rw [w _ (by omega)];co_applyP oy rfl (bt (Bj _ _ _));co_applyP oy rfl ae;co_applyP oc rfl rfl rfl (g1 L1 bo 60 hbo (by decide));rintro _ _ _ ⟨rfl, rfl, rfl⟩;co_applyP oy rfl aR;rw [w _ (by omega)];co_applyP oy rfl (bt (Bl _ _ _ _));co_applyP oeN rfl (fun hnd => fH (hs := nC) (vs := [.int .i64 ((1 + pickN a 10 : Nat) : Int), .int .i64 ((1 + pickN b 10 : Nat) : Int), .int .i64 ((1 + pickN c 10 : Nat) : Int), .int .i64 ((1 + pickN bo 60 : Nat) : Int)]) (hnd := hnd) (hm := hA.self) (hi := Nat.le_refl _));rintro _ L3 ⟨rfl, hU⟩;co_applyP ah;co_applyP aK;change ∃ v, resM _ _ _ _ v ∧ _;exact ⟨_, ⟨_, _, xr, 0, 4, true, _, _, rfl, rfl, qh, nC, hU.self, Nat.le_refl _, rfl⟩, rfl, rfl, hU.fn, fun t ht => hU.ne _ (hA.sub _ ht) (hA.new _ ht)⟩
def St.fresh (c : Nat → Int) (bo : Int) (l : List Int) (b : Nat) : St := (St.bare c bo (l.length / 4) (fun i => l.getD i 0)).adopt b PS.zero
theorem vr : ∃ n, ∀ {σ} {F : Fam σ} {Δ : DM F} {main s} (L : Frag) (c : Nat → Int) (bo : Int) (l : List Int), (∀ s o, (Δ s).New o) → Fun L → Byt l → okc c bo = true → oki l.length = true →
   CallsL Δ Tryz.prog main 17 [cfgv c bo, strv l].toArray n s L (fun s' v L' => s = s' ∧ ∃ K A b, v = ptr K ∧ Rep K A (St.fresh c bo l b) L L') := by
 obtain ⟨n1, g1⟩ := Bf;apply Exists.intro;intro σ F Δ main s L c bo l hN hF hl hok hoi;co_applyP aB 17 Tryz.func17 Tryz.ntmps17;co_applyP aa;co_applyP bT rfl (cn (hN _ _));intro b L1 hA;co_applyP oan rfl;co_applyP aa;co_applyP oy rfl (ba (ht := qh) (hs := nC) (hm := hA.self) (hi := by show 0 + 4 ≤ 4; decide));co_applyP oy rfl ae;rw [show (Value.agg (((cfgv c bo).cells).extract 0 (0 + 4))) = cfgv c bo from rfl];co_applyP oe rfl (zJ hl (fun _ => hN _ _) hA.fn (ht := U9) (hu := U44) (he := U5));rintro _ _ ⟨ib, cap, junk, fr, rfl, hA2⟩;rename_i L2;have hat : ∀ i, i < l.length → At L2 ib (0 + i) (.int .u8 (l.getD i 0)) := fun i hi => by
   refine ⟨true, _, _, _, hA2.self, ?_⟩;rw [Nat.zero_add, List.getElem?_toArray, List.getElem?_append_left (by simpa using hi)];simp [hi, List.getD_eq_getElem?_getD]
 co_applyP oc rfl rfl rfl (g1 L2 c bo ib 0 l.length cap (fun i => l.getD i 0) hN hA2.fn hok hoi hat);rintro _ _ _ ⟨rfl, K, A, pbk, rfl, hR⟩;co_applyP om rfl rfl rfl bW;co_applyP oy rfl bW;co_applyP oy rfl bL;co_applyP oan rfl;co_applyP aq;co_applyP aa;co_applyP om rfl rfl rfl fy;co_applyP ah;co_applyP ai rfl;co_applyP aD;co_applyP aa;co_applyP oy rfl ae;co_applyP oan rfl;co_applyP aK;change ∃ v, resE .. = some v ∧ _;exact ⟨_, rfl, rfl, K, A, pbk, rfl, hR.less fun t ht => hA2.sub _ (hA.sub _ ht)⟩
def PS.one : PS := { PS.zero with id := 1, st := 1 }
section
variable {c : Nat → Int} {bo : Int} {l : List Int} {b : Nat}
theorem kR : (St.fresh c bo l b).ps = [(b, PS.one)] := by simp [St.fresh, St.adopt, St.taken, St.wake1, St.setP, St.setRow, St.setPs, St.bare, PS.one, PS.zero]
theorem kS : St.fresh c bo l b = ⟨c, bo, l.length / 4, fun i j => l.getD (4 * i + j) 0, [(b, PS.one)], 1, put (fun _ => []) 0 [b], fun _ => [], [], 0⟩ := by
 have := kR (c := c) (bo := bo) (l := l) (b := b);have e : St.fresh c bo l b = { St.fresh c bo l b with ps := (St.fresh c bo l b).ps } := rfl;rw [e, this];rfl
theorem zT : (St.fresh c bo l b).map (fun _ => 1) = St.fresh c bo l 1 := by
 rw [kS, kS];unfold St.map mapW;congr 1
 funext i
 show (put (fun _ => ([] : List Nat)) 0 [b] i).map (fun _ => 1) = put (fun _ => []) 0 [1] i;unfold put
 split <;> rfl
theorem oA (hc : okc c bo = true) (hl : oki l.length = true) (hB : Byt l) : TI (fun _ => 1) (St.fresh c bo l b) := by
 have hc' : ((1 ≤ c 0 ∧ c 0 ≤ 10) ∧ (1 ≤ c 1 ∧ c 1 ≤ 10) ∧ (1 ≤ c 2 ∧ c 2 ≤ 10)) ∧ 1 ≤ bo ∧ bo ≤ 1000 := by unfold okc at hc; exact of_decide_eq_true hc
 have hl' : 0 < l.length ∧ l.length % 4 = 0 ∧ l.length ≤ 1024 := by unfold oki at hl; exact of_decide_eq_true hl
 rw [kS];have one : ∀ q ∈ [(b, PS.one)], q = (b, PS.one) := fun q hq => List.mem_singleton.1 hq;have row : ∀ i c, c ∈ put (fun _ => ([] : List Nat)) 0 [b] i → i = 0 ∧ c = b := fun i c hc => by
   unfold put at hc
   split at hc
   · rename_i h; exact ⟨h, List.mem_singleton.1 hc⟩
   · cases hc
 refine ⟨⟨⟨⟨?_, ?_, ?_, ?_, ?_, ?_⟩, ?_, ?_, ?_, ?_, ?_, ?_, ?_, ?_, ?_⟩, ?_, ⟨?_, ?_, ?_, ?_, ?_, ?_, ?_⟩⟩, ⟨?_, ?_⟩, ?_, ?_⟩
 · simp
 · simp
 · intro q hq; rw [one q hq]; show (0 : Nat) < 3; decide
 · intro i _;show (put (fun _ => ([] : List Nat)) 0 [b] i).Nodup;unfold put
   split <;> simp
 · intro i _ d hd;obtain ⟨rfl, rfl⟩ := row i d hd;exact ⟨PS.one, List.mem_singleton.2 rfl, rfl, rfl⟩
 · intro q hq _; rw [one q hq]; show b ∈ put (fun _ => ([] : List Nat)) 0 [b] 0; simp [put]
 · intro q hq; rw [one q hq]; exact ⟨fun i _ => ⟨Int.le_refl 0, by show (0 : Int) < 65536; decide⟩, fun i _ => ⟨Int.le_refl 0, by show (0 : Int) < 256; decide⟩⟩
 · intro q hq i _; rw [one q hq]; exact .inl rfl
 · intro i _; exact Nat.zero_le _
 · intro i _ v hv; cases hv
 · simp
 · intro e he; cases he
 · intro e he; cases he
 · intro e he; cases he
 · intro e he; cases he
 · intro e he; cases he
 · intro q hq; rw [one q hq]; exact Nat.le_refl _
 · intro q hq r hr _; rw [one q hq, one r hr]
 · intro q hq; rw [one q hq]; exact ⟨Nat.le_refl 1, Nat.le_refl 1⟩
 · exact ⟨(b, PS.one), List.mem_singleton.2 rfl, rfl⟩
 · intro q hq; rw [one q hq]; exact ⟨fun _ => rfl, fun _ => rfl⟩
 · intro i hi;show put (fun _ => ([] : List Nat)) 0 [b] i = [];unfold put;rw [if_neg (by omega)]
 · intro q hq; rw [one q hq]; rfl
 · show l.length / 4 ≤ 256; omega
 · intro i hi j hj;have hi' : i < l.length / 4 := hi;show 0 ≤ l.getD (4 * i + j) 0 ∧ l.getD (4 * i + j) 0 < 256;have hlt : 4 * i + j < l.length := by omega
   rw [List.getD_eq_getElem?_getD, List.getElem?_eq_getElem hlt];exact hB _ (List.getElem_mem hlt)
 · show bo ≠ 0; omega
 · exact Nat.le_refl 1
theorem vt (hc : okc c bo = true) (hl : oki l.length = true) (hB : Byt l) : Ab (St.fresh c bo l b) (St.fresh c bo l 1) := ⟨_, oA hc hl hB, zT.symm⟩
end
theorem lL (S : St) (c : Nat) : (S.tickU c).now = S.now := by
 unfold St.tickU;cases S.lead.first with
 | none => exact (bP S).now
 | some b =>
   simp only;cases S.lead.get b with
   | none => exact (bP S).now
   | some x =>
     simp only;have h1 := (iK S.lead b x c).1.now;have h2 : ((S.lead.runS b x c).after b).now = (S.lead.runS b x c).now := (fU _ _).now;rw [h2, h1];exact (bP S).now
theorem qN : ∀ (m : Nat) (T : St), (St.runs m T).now ≤ T.now + m
 | 0, T => Nat.le_refl _
 | m + 1, T => by
   unfold St.runs
   split
   · omega
   · have h := qN m T.next
     have e : T.next.now = T.now + 1 := by
       show (T.tickU (T.last + 1)).now + 1 = _;rw [lL]
     omega
theorem Ab.now {S T : St} (h : Ab S T) : S.now = T.now := by
 obtain ⟨N, _, rfl⟩ := h.ex;rfl
end Go.Proofs.YtejkelcaljmnoaaGreatDoor
namespace Go.Proofs.YtejkelcaljmnoaaGreatDoor
open Go.Conc Go.ConcX Go.Hx Go.Lo
theorem mL {P : Program} {b : Frame} {a : Act} {w : World} {fn : Func} {todo : List Item} {v : Value} (hn : b.kind = .normal) (hd : a.defers = []) (hf : P.funcs[b.fn]? = some fn) (hi : P.inits.idxOf? b.fn = none)
   (hr : (results fn a.tmps).run P w = .ok v w) : ∃ es, stepG P true (G { b.at a todo with mode := .returning } []) w = .ended (.done v) w es ∧ ∀ e ∈ es, e ∈ (results fn a.tmps).events P w #[] :=
 ⟨_, by simp [G, stepG, unwind, doReturn, Frame.at, hn, hd, hf, hi, hr, GStep.after]; rfl, fun _ he => mem_seen (by simpa using he)⟩
theorem Bm [Payload] {P : Program} {Fin : Value → World → Prop} (hFin : ∀ v w w₁, AtRel w w₁ → Fin v w → Fin v w₁) {f : FuncId} {args : Array Value} {n N : Nat} {W : World} (hi : P.inits.idxOf? f = none)
   (h : CallsX (FZ P Fin) P true f args n (N, []) W fun s' v w' => s'.1 = 0 ∧ Fin v w') : ∃ m, Goes P true AtRel (D0 (Shs [])) (StopZ P Fin N []) m (G (Frame.enter P f args .normal) []) W := by
 obtain ⟨g, c, hf, hname, hbody, hwp⟩ := h
 have hleave : ∀ (s' : Nat × List Nat) (a' : Act) (w' : World) (todo : List Item), (a'.defers = [] ∧ ∃ v, ResultsC P g a'.tmps v ∧ s'.1 = 0 ∧ Fin v w') →
     Goes P true AtRel (D0 (Shs s'.2)) (StopZ P Fin s'.1 s'.2) 0 (G { (base f).at a' todo with mode := .returning } []) w' := by
   rintro ⟨q, s'⟩ a' w' todo ⟨hd, v, hr, h0, hp⟩;simp only at h0;subst h0;refine Goes.stop fun w₁ h₁ => ?_;obtain ⟨es, h2, h3⟩ := mL (P := P) (b := base f) (todo := todo) rfl hd hf hi (hr w₁).1;refine ⟨rfl, v, es, h2, fun e he => ?_, hFin _ _ _ h₁ hp⟩;have := h3 e he;rw [(hr w₁).2] at this;simp at this
 refine ⟨1 + n, ?_⟩;rw [enter_at args hf hbody];refine hwp (base f) [] [] 1 rfl (by simp [base]) fun s' e a' w' q => ?_;cases e with
 | normal => exact Goes.step rfl fun w₁ h₁ => by rw [stepG_end]; exact ⟨((FZ P Fin).terms s').idle _, (hleave s' a' w' [] q).rely ((FZ P Fin).terms s').trans h₁⟩
 | ret => exact fun todo => (hleave s' a' w' todo q).more
 | exit id => exact q.elim
 | goto l => exact q.elim
 | panic ch => exact q.elim
 | outgrown => exact q.elim
def base0 (W : World) : Frag := (List.range W.heap.size).map fun b => (b, false, W.heap.getD b default)
theorem lM {W : World} {b : Nat} {o : Obj} (h : W.heap[b]? = some o) : (b, false, o) ∈ base0 W := by
 obtain ⟨hb, e⟩ := Array.getElem?_eq_some_iff.1 h;refine List.mem_map.2 ⟨b, List.mem_range.2 hb, ?_⟩;simp [Array.getD_eq_getD_getElem?, h]
theorem oB {W : World} {b i : Nat} {v : Value} (h : W.cell? ⟨b, i, none⟩ = some v) : At (base0 W) b i v := by
 unfold World.cell? at h
 split at h
 · rename_i c t f hh;exact ⟨false, c, t, f, lM hh, by simpa using h⟩
 · cases h
theorem oC (W : World) : ((base0 W).map (·.1)).Nodup := by
 unfold base0;rw [List.map_map];have : ((fun t : Nat × Bool × Obj => t.1) ∘ fun b => (b, false, W.heap.getD b default)) = id := rfl;rw [this, List.map_id];exact List.nodup_range
theorem sJ (W : World) : Own0 (Shs []) W W.heap.size (base0 W) W where
 has t ht := by
   obtain ⟨b, hb, rfl⟩ := List.mem_map.1 ht;have hb' := List.mem_range.1 hb;simp [Array.getD_eq_getD_getElem?, hb']
 ap t ht l hl hs := hs
 own t ht hf := by
   obtain ⟨b, hb, rfl⟩ := List.mem_map.1 ht;cases hf
 nd := oC W
 low l b hs := hs.elim
 old := ⟨rfl, rfl, rfl, Nat.le_refl _, fun _ _ => rfl⟩
def FinT (W : World) (v : Value) (w' : World) : Prop := v = .bool true ∧ W.grownBy w' none
theorem Bn {P : Program} {f : FuncId} {args : Array Value} {n N : Nat} {W : World} (hi : P.inits.idxOf? f = none)
   (h : CallsL (F := FZ P (FinT W)) (fun s => dom0 (Shs s.2) W W.heap.size) P true f args n (N, []) (base0 W) fun s' v L' => s'.1 = 0 ∧ v = .bool true) :
   ∃ k last o w' t', runNT P (k + 1) (solo (G (Frame.enter P f args .normal) []) W) #[] = (.ended o w', t') ∧ runN P k (solo (G (Frame.enter P f args .normal) []) W) = .next last ∧ step P last = .ended o w' ∧ Conc.Good P (FinT W) last o w' t' := by
 have hFin : ∀ v w w₁, AtRel w w₁ → FinT W v w → FinT W v w₁ := fun v w w₁ hr h => by
   obtain ⟨d, rfl⟩ := hr;exact ⟨h.1, h.2.os, h.2.tape, h.2.output, h.2.size, h.2.block⟩
 obtain ⟨m, hG⟩ := Bm hFin hi (fV (h W (sJ W)) fun s' v w' ⟨L', hL, h1, h2⟩ => ⟨h1, h2, by
   have ho : OldW W W.heap.size w' := (show Own0 (Shs s'.2) W W.heap.size L' w' from hL).old;exact ⟨ho.o, ho.t, ho.u, ho.z, fun k hk _ => ho.b k hk⟩⟩)
 exact lh N [] #[G (Frame.enter P f args .normal) []] _ W none #[] (fun _ => 0) m rfl (leavers_one P _) q7 hG
end Go.Proofs.YtejkelcaljmnoaaGreatDoor
