/-
  Part 38 of the proof.
  No condition but those that each statement names.
-/
import Derived.Test.YtejkelcaljmnoaaGreatDoorHy37
set_option maxRecDepth 100000
set_option linter.unusedVariables false
set_option linter.unusedSimpArgs false
set_option linter.unusedSectionVars false
namespace Go.Proofs.YtejkelcaljmnoaaGreatDoor
open Go.Conc Go.Hx Go.Lo
def St.grantE (S : St) (b : Nat) (x : PS) (n : Int) : List Value :=
 if n = 0 then [evt S.now 4 x.id (x.r 0)]
 else if n = 3 then (match S.find (x.r 0) with
   | some q => if q.2.st = 6 then [] else [evt S.now 4 q.2.id 65280]
   | none => [])
 else if n = 11 then [evt S.now 3 x.id (x.r 0 % 256)] else []
def St.grantV (S : St) (b : Nat) (x : PS) (n : Int) : Option Nat :=
 if n = 0 then none else if n = 1 then (if 8 ≤ S.ps.length then some 4 else none)
 else if n = 2 then (S.waitR b x).1
 else if n = 3 then (match S.find (x.r 0) with
   | some q => if q.2.st = 6 then some 6 else none
   | none => some 6)
 else if n = 4 then none else if n = 5 then none else if n = 6 then none
 else if n = 7 then (S.pipeR b x).1 else if n = 8 then (S.closeR b x).1
 else if n = 9 then (S.askR b x 4 64).1 else if n = 10 then (S.askR b x 5 8).1
 else if n = 11 then none else some 9
def St.grantS (S : St) (b : Nat) (x : PS) (n : Int) (c : Nat) : St :=
 if n = 0 then S.fin b x (x.r 0) else if n = 1 then (if 8 ≤ S.ps.length then S else S.forkS b x c)
 else if n = 2 then (S.waitR b x).2
 else if n = 3 then (match S.find (x.r 0) with
   | some q => if q.2.st = 6 then S else (S.fin q.1 q.2 65280).r0 b 0
   | none => S)
 else if n = 4 then S.sleep1 b x else if n = 5 then S.yield1 b x else if n = 6 then S.setP b (x.r0 ((x.id : Int) % 65536))
 else if n = 7 then (S.pipeR b x).2 else if n = 8 then (S.closeR b x).2
 else if n = 9 then (S.askR b x 4 64).2 else if n = 10 then (S.askR b x 5 8).2
 else if n = 11 then S.setP b (x.r0 0) else S
structure Running (S : St) (b : Nat) (x : PS) : Prop where
 i : Inv S
 m : (b, x) ∈ S.ps
 s : x.st = 1
 o : S.out b
 n : S.now < 4611686018427387904
 l : S.last < 4611686018427387904
theorem grant_0 : ∃ n, ∀ {p : Par} {Sh : Loc → Prop} {E Dn : Nat} {PostB : World → Prop} {Aft : Goroutine → World → Prop} {W : World} {O : Nat} {G0 : List (Nat × Obj)} {vs : List Value} (K : Nat) (A : Lay) (S : St) (Fr L : Frag) (eb : Nat → Nat × Nat) (b : Nat) (x : PS), (∀ s, NewT (domT Tryz.prog p Sh E Dn PostB Aft W O G0 s)) → Rep K A S Fr L → Ers eb Fr → Running S b x →
   CallsL (domT Tryz.prog p Sh E Dn PostB Aft W O G0) Tryz.prog false 112 [ptr K, ptr b, .int .u8 0, .chan (some E)].toArray n (evt S.now 4 x.id (x.r 0) :: vs) L (fun s' v L' => vs = s' ∧ v = .nilIface ∧ ∃ A' G, Stays b (S.fin b x (x.r 0)) G ∧ Rep K A' (S.fin b x (x.r 0)) (G ++ Fr) L') := by
 obtain ⟨n0, g0⟩ := end_s
 apply Exists.intro
 intro p Sh E Dn PostB Aft W O G0 vs K A S Fr L eb b x hN hR hE hu
 have hI := hu.i
 have hb := hu.m
 have wx0 : 0 ≤ x.r 0 ∧ x.r 0 < 65536 := (hI.wf _ hb).r 0 (by omega)
 have w0 : IntKind.i64.wrap (x.r 0) = x.r 0 := by simp [IntKind.wrap_i64]; omega
 have hx0 : At L b 7 (.int .u16 (x.r 0)) := hR.pat hb (pget_r x (i := 0) (by omega))
 have hid : At L b 0 (.int .i64 (x.id : Nat)) := hR.pat hb (i := 0) rfl
 co_applyP callsE 106 Tryz.func112 Tryz.ntmps112
 co_applyP c_seq
 co_applyP c_region
 co_applyP oy rfl E_as
 co_applyP o_nil
 change wpE ..
 co_applyP c_seq
 co_applyP c_seq
 co_applyP c_region
 co_applyP oy rfl E_mv
 co_applyP o_nil
 change wpE ..
 co_applyP c_block
 co_applyP c_seq
 co_applyP c_region
 co_applyP oy rfl E_eql
 co_applyP oy rfl E_as
 co_applyP o_nil
 change wpE ..
 co_applyP c_true rfl
 co_applyP c_region
 co_applyP oy rfl E_mv
 co_applyP oy rfl E_mv
 co_applyP oy rfl E_mv
 co_applyP oy rfl E_nc
 co_applyP oy rfl (E_fa (hf := fo_99_0))
 co_applyP oy rfl (E_fa (hf := fo_49_7))
 co_applyP oy rfl (E_ixa Tryz.underlying47 sz_32)
 co_applyP oy rfl (E_ld (ht := ag_32))
 co_applyP oy rfl (E_cv (hs := Tryz.underlying32) (ht := Tryz.underlying3))
 co_applyP oy rfl E_mv
 simp only [w0]
 co_applyP oc rfl rfl rfl (g0 K A S Fr L eb b x (x.r 0) (fun s => (hN s).toNewK) hR hE hI hb)
 rintro _ _ _ ⟨rfl, rfl, A2, G, hall, hR2⟩
 co_applyP o_nil
 change wpE ..
 co_applyP c_seq
 co_applyP c_region
 co_applyP oy rfl E_as
 co_applyP o_nil
 change wpE ..
 co_applyP c_ret
 change ∃ v, resE .. = some v ∧ _
 exact ⟨_, rfl, rfl, rfl, A2, G, hall _ hb, hR2⟩
theorem grant_1a : ∃ n, ∀ {p : Par} {Sh : Loc → Prop} {E Dn : Nat} {PostB : World → Prop} {Aft : Goroutine → World → Prop} {W : World} {O : Nat} {G0 : List (Nat × Obj)} {vs : List Value} (K : Nat) (A : Lay) (S : St) (Fr L : Frag) (eb : Nat → Nat × Nat) (b : Nat) (x : PS), (∀ s, NewT (domT Tryz.prog p Sh E Dn PostB Aft W O G0 s)) → Rep K A S Fr L → Ers eb Fr → Running S b x → 8 ≤ S.ps.length →
   CallsL (domT Tryz.prog p Sh E Dn PostB Aft W O G0) Tryz.prog false 112 [ptr K, ptr b, .int .u8 1, .chan (some E)].toArray n (vs) L (fun s' v L' => vs = s' ∧ v = erv eb 4 ∧ Rep K A S Fr L') := by
 obtain ⟨n0, g0⟩ := fork_0
 apply Exists.intro
 intro p Sh E Dn PostB Aft W O G0 vs K A S Fr L eb b x hN hR hE hu h8
 have hI := hu.i
 have hb := hu.m
 have wx0 : 0 ≤ x.r 0 ∧ x.r 0 < 65536 := (hI.wf _ hb).r 0 (by omega)
 have w0 : IntKind.i64.wrap (x.r 0) = x.r 0 := by simp [IntKind.wrap_i64]; omega
 have hx0 : At L b 7 (.int .u16 (x.r 0)) := hR.pat hb (pget_r x (i := 0) (by omega))
 have hid : At L b 0 (.int .i64 (x.id : Nat)) := hR.pat hb (i := 0) rfl
 co_applyP callsE 106 Tryz.func112 Tryz.ntmps112
 co_applyP c_seq
 co_applyP c_region
 co_applyP oy rfl E_as
 co_applyP o_nil
 change wpE ..
 co_applyP c_seq (n₂ := 0)
 co_applyP c_seq
 co_applyP c_region
 co_applyP oy rfl E_mv
 co_applyP o_nil
 change wpE ..
 co_applyP c_block
 co_applyP c_seq
 co_applyP c_region
 co_applyP oy rfl E_eql
 co_applyP oy rfl E_as
 co_applyP o_nil
 change wpE ..
 co_applyP c_false rfl
 co_applyP c_seq
 co_applyP c_region
 co_applyP oy rfl E_eql
 co_applyP oy rfl E_as
 co_applyP o_nil
 change wpE ..
 co_applyP c_true rfl
 co_applyP c_seq
 co_applyP c_region
 co_applyP oy rfl E_mv
 co_applyP oy rfl E_mv
 co_applyP oc rfl rfl rfl (g0 K A S Fr L eb b hR hE h8)
 rintro _ _ _ ⟨rfl, rfl, rfl⟩
 co_applyP oy rfl E_as
 co_applyP o_nil
 change wpE ..
 co_applyP c_ret
 change ∃ v, resE .. = some v ∧ _
 exact ⟨_, rfl, rfl, rfl, hR⟩
theorem grant_1b : ∃ n, ∀ {p : Par} {Sh : Loc → Prop} {E Dn : Nat} {PostB : World → Prop} {Aft : Goroutine → World → Prop} {W : World} {O : Nat} {G0 : List (Nat × Obj)} {vs : List Value} (K : Nat) (A : Lay) (S : St) (Fr L : Frag) (eb : Nat → Nat × Nat) (b : Nat) (x : PS), (∀ s, NewT (domT Tryz.prog p Sh E Dn PostB Aft W O G0 s)) → Rep K A S Fr L → Ers eb Fr → Running S b x → S.ps.length < 8 →
   CallsL (domT Tryz.prog p Sh E Dn PostB Aft W O G0) Tryz.prog false 112 [ptr K, ptr b, .int .u8 1, .chan (some E)].toArray n (vs) L (fun s' v L' => vs = s' ∧ v = .nilIface ∧ ∃ A' c, (∀ q ∈ S.ps, c ≠ q.1) ∧ Rep K A' (S.forkS b x c) Fr L') := by
 obtain ⟨n0, g0⟩ := fork_1
 apply Exists.intro
 intro p Sh E Dn PostB Aft W O G0 vs K A S Fr L eb b x hN hR hE hu h8
 have hI := hu.i
 have hb := hu.m
 have wx0 : 0 ≤ x.r 0 ∧ x.r 0 < 65536 := (hI.wf _ hb).r 0 (by omega)
 have w0 : IntKind.i64.wrap (x.r 0) = x.r 0 := by simp [IntKind.wrap_i64]; omega
 have hx0 : At L b 7 (.int .u16 (x.r 0)) := hR.pat hb (pget_r x (i := 0) (by omega))
 have hid : At L b 0 (.int .i64 (x.id : Nat)) := hR.pat hb (i := 0) rfl
 co_applyP callsE 106 Tryz.func112 Tryz.ntmps112
 co_applyP c_seq
 co_applyP c_region
 co_applyP oy rfl E_as
 co_applyP o_nil
 change wpE ..
 co_applyP c_seq (n₂ := 0)
 co_applyP c_seq
 co_applyP c_region
 co_applyP oy rfl E_mv
 co_applyP o_nil
 change wpE ..
 co_applyP c_block
 co_applyP c_seq
 co_applyP c_region
 co_applyP oy rfl E_eql
 co_applyP oy rfl E_as
 co_applyP o_nil
 change wpE ..
 co_applyP c_false rfl
 co_applyP c_seq
 co_applyP c_region
 co_applyP oy rfl E_eql
 co_applyP oy rfl E_as
 co_applyP o_nil
 change wpE ..
 co_applyP c_true rfl
 co_applyP c_seq
 co_applyP c_region
 co_applyP oy rfl E_mv
 co_applyP oy rfl E_mv
 co_applyP oc rfl rfl rfl (g0 K A S Fr L b x (hN _).r (hN _).p hR hI hb h8 hu.l)
 rintro _ _ _ ⟨rfl, rfl, A2, c, hc, hR2⟩
 co_applyP oy rfl E_as
 co_applyP o_nil
 change wpE ..
 co_applyP c_ret
 change ∃ v, resE .. = some v ∧ _
 exact ⟨_, rfl, rfl, rfl, A2, c, hc, hR2⟩
theorem grant_2 : ∃ n, ∀ {p : Par} {Sh : Loc → Prop} {E Dn : Nat} {PostB : World → Prop} {Aft : Goroutine → World → Prop} {W : World} {O : Nat} {G0 : List (Nat × Obj)} {vs : List Value} (K : Nat) (A : Lay) (S : St) (Fr L : Frag) (eb : Nat → Nat × Nat) (b : Nat) (x : PS), (∀ s, NewT (domT Tryz.prog p Sh E Dn PostB Aft W O G0 s)) → Rep K A S Fr L → Ers eb Fr → Running S b x →
   CallsL (domT Tryz.prog p Sh E Dn PostB Aft W O G0) Tryz.prog false 112 [ptr K, ptr b, .int .u8 2, .chan (some E)].toArray n (vs) L (fun s' v L' => vs = s' ∧ v = erV eb (S.waitR b x).1 ∧ ∃ A', Rep K A' (S.waitR b x).2 Fr L') := by
 obtain ⟨n0, g0⟩ := wait_s
 apply Exists.intro
 intro p Sh E Dn PostB Aft W O G0 vs K A S Fr L eb b x hN hR hE hu
 have hI := hu.i
 have hb := hu.m
 have wx0 : 0 ≤ x.r 0 ∧ x.r 0 < 65536 := (hI.wf _ hb).r 0 (by omega)
 have w0 : IntKind.i64.wrap (x.r 0) = x.r 0 := by simp [IntKind.wrap_i64]; omega
 have hx0 : At L b 7 (.int .u16 (x.r 0)) := hR.pat hb (pget_r x (i := 0) (by omega))
 have hid : At L b 0 (.int .i64 (x.id : Nat)) := hR.pat hb (i := 0) rfl
 co_applyP callsE 106 Tryz.func112 Tryz.ntmps112
 co_applyP c_seq
 co_applyP c_region
 co_applyP oy rfl E_as
 co_applyP o_nil
 change wpE ..
 co_applyP c_seq (n₂ := 0)
 co_applyP c_seq
 co_applyP c_region
 co_applyP oy rfl E_mv
 co_applyP o_nil
 change wpE ..
 co_applyP c_block
 co_applyP c_seq
 co_applyP c_region
 co_applyP oy rfl E_eql
 co_applyP oy rfl E_as
 co_applyP o_nil
 change wpE ..
 co_applyP c_false rfl
 co_applyP c_seq
 co_applyP c_region
 co_applyP oy rfl E_eql
 co_applyP oy rfl E_as
 co_applyP o_nil
 change wpE ..
 co_applyP c_false rfl
 co_applyP c_seq
 co_applyP c_region
 co_applyP oy rfl E_eql
 co_applyP oy rfl E_as
 co_applyP o_nil
 change wpE ..
 co_applyP c_true rfl
 co_applyP c_seq
 co_applyP c_region
 co_applyP oy rfl E_mv
 co_applyP oy rfl E_mv
 co_applyP oc rfl rfl rfl (g0 K A S Fr L eb b x (hN _).r hR hE hI hb (by have := hu.s; omega))
 rintro _ _ _ ⟨rfl, rfl, A2, hR2⟩
 co_applyP oy rfl E_as
 co_applyP o_nil
 change wpE ..
 co_applyP c_ret
 change ∃ v, resE .. = some v ∧ _
 exact ⟨_, rfl, rfl, rfl, A2, hR2⟩
theorem grant_3a : ∃ n, ∀ {p : Par} {Sh : Loc → Prop} {E Dn : Nat} {PostB : World → Prop} {Aft : Goroutine → World → Prop} {W : World} {O : Nat} {G0 : List (Nat × Obj)} {vs : List Value} (K : Nat) (A : Lay) (S : St) (Fr L : Frag) (eb : Nat → Nat × Nat) (b : Nat) (x : PS), (∀ s, NewT (domT Tryz.prog p Sh E Dn PostB Aft W O G0 s)) → Rep K A S Fr L → Ers eb Fr → Running S b x → S.find (x.r 0) = none →
   CallsL (domT Tryz.prog p Sh E Dn PostB Aft W O G0) Tryz.prog false 112 [ptr K, ptr b, .int .u8 3, .chan (some E)].toArray n (vs) L (fun s' v L' => vs = s' ∧ v = erv eb 6 ∧ Rep K A S Fr L') := by
 obtain ⟨n0, g0⟩ := kill_0
 apply Exists.intro
 intro p Sh E Dn PostB Aft W O G0 vs K A S Fr L eb b x hN hR hE hu hf
 have hI := hu.i
 have hb := hu.m
 have wx0 : 0 ≤ x.r 0 ∧ x.r 0 < 65536 := (hI.wf _ hb).r 0 (by omega)
 have w0 : IntKind.i64.wrap (x.r 0) = x.r 0 := by simp [IntKind.wrap_i64]; omega
 have hx0 : At L b 7 (.int .u16 (x.r 0)) := hR.pat hb (pget_r x (i := 0) (by omega))
 have hid : At L b 0 (.int .i64 (x.id : Nat)) := hR.pat hb (i := 0) rfl
 co_applyP callsE 106 Tryz.func112 Tryz.ntmps112
 co_applyP c_seq
 co_applyP c_region
 co_applyP oy rfl E_as
 co_applyP o_nil
 change wpE ..
 co_applyP c_seq (n₂ := 0)
 co_applyP c_seq
 co_applyP c_region
 co_applyP oy rfl E_mv
 co_applyP o_nil
 change wpE ..
 co_applyP c_block
 co_applyP c_seq
 co_applyP c_region
 co_applyP oy rfl E_eql
 co_applyP oy rfl E_as
 co_applyP o_nil
 change wpE ..
 co_applyP c_false rfl
 co_applyP c_seq
 co_applyP c_region
 co_applyP oy rfl E_eql
 co_applyP oy rfl E_as
 co_applyP o_nil
 change wpE ..
 co_applyP c_false rfl
 co_applyP c_seq
 co_applyP c_region
 co_applyP oy rfl E_eql
 co_applyP oy rfl E_as
 co_applyP o_nil
 change wpE ..
 co_applyP c_false rfl
 co_applyP c_seq
 co_applyP c_region
 co_applyP oy rfl E_eql
 co_applyP oy rfl E_as
 co_applyP o_nil
 change wpE ..
 co_applyP c_true rfl
 co_applyP c_seq
 co_applyP c_region
 co_applyP oy rfl E_mv
 co_applyP oy rfl E_mv
 co_applyP oy rfl E_mv
 co_applyP oc rfl rfl rfl (g0 K A S Fr L eb b x _ hR hE hI hb hf)
 rintro _ _ _ ⟨rfl, rfl, rfl⟩
 co_applyP oy rfl E_as
 co_applyP o_nil
 change wpE ..
 co_applyP c_ret
 change ∃ v, resE .. = some v ∧ _
 exact ⟨_, rfl, rfl, rfl, hR⟩
theorem grant_3b : ∃ n, ∀ {p : Par} {Sh : Loc → Prop} {E Dn : Nat} {PostB : World → Prop} {Aft : Goroutine → World → Prop} {W : World} {O : Nat} {G0 : List (Nat × Obj)} {vs : List Value} (K : Nat) (A : Lay) (S : St) (Fr L : Frag) (eb : Nat → Nat × Nat) (b : Nat) (x : PS) (c : Nat) (y : PS), (∀ s, NewT (domT Tryz.prog p Sh E Dn PostB Aft W O G0 s)) → Rep K A S Fr L → Ers eb Fr → Running S b x → S.find (x.r 0) = some (c, y) → y.st = 6 →
   CallsL (domT Tryz.prog p Sh E Dn PostB Aft W O G0) Tryz.prog false 112 [ptr K, ptr b, .int .u8 3, .chan (some E)].toArray n (vs) L (fun s' v L' => vs = s' ∧ v = erv eb 6 ∧ Rep K A S Fr L') := by
 obtain ⟨n0, g0⟩ := kill_1
 apply Exists.intro
 intro p Sh E Dn PostB Aft W O G0 vs K A S Fr L eb b x c y hN hR hE hu hf h6
 have hI := hu.i
 have hb := hu.m
 have wx0 : 0 ≤ x.r 0 ∧ x.r 0 < 65536 := (hI.wf _ hb).r 0 (by omega)
 have w0 : IntKind.i64.wrap (x.r 0) = x.r 0 := by simp [IntKind.wrap_i64]; omega
 have hx0 : At L b 7 (.int .u16 (x.r 0)) := hR.pat hb (pget_r x (i := 0) (by omega))
 have hid : At L b 0 (.int .i64 (x.id : Nat)) := hR.pat hb (i := 0) rfl
 co_applyP callsE 106 Tryz.func112 Tryz.ntmps112
 co_applyP c_seq
 co_applyP c_region
 co_applyP oy rfl E_as
 co_applyP o_nil
 change wpE ..
 co_applyP c_seq (n₂ := 0)
 co_applyP c_seq
 co_applyP c_region
 co_applyP oy rfl E_mv
 co_applyP o_nil
 change wpE ..
 co_applyP c_block
 co_applyP c_seq
 co_applyP c_region
 co_applyP oy rfl E_eql
 co_applyP oy rfl E_as
 co_applyP o_nil
 change wpE ..
 co_applyP c_false rfl
 co_applyP c_seq
 co_applyP c_region
 co_applyP oy rfl E_eql
 co_applyP oy rfl E_as
 co_applyP o_nil
 change wpE ..
 co_applyP c_false rfl
 co_applyP c_seq
 co_applyP c_region
 co_applyP oy rfl E_eql
 co_applyP oy rfl E_as
 co_applyP o_nil
 change wpE ..
 co_applyP c_false rfl
 co_applyP c_seq
 co_applyP c_region
 co_applyP oy rfl E_eql
 co_applyP oy rfl E_as
 co_applyP o_nil
 change wpE ..
 co_applyP c_true rfl
 co_applyP c_seq
 co_applyP c_region
 co_applyP oy rfl E_mv
 co_applyP oy rfl E_mv
 co_applyP oy rfl E_mv
 co_applyP oc rfl rfl rfl (g0 K A S Fr L eb b x _ c y hR hE hI hb hf h6)
 rintro _ _ _ ⟨rfl, rfl, rfl⟩
 co_applyP oy rfl E_as
 co_applyP o_nil
 change wpE ..
 co_applyP c_ret
 change ∃ v, resE .. = some v ∧ _
 exact ⟨_, rfl, rfl, rfl, hR⟩
theorem grant_3c : ∃ n, ∀ {p : Par} {Sh : Loc → Prop} {E Dn : Nat} {PostB : World → Prop} {Aft : Goroutine → World → Prop} {W : World} {O : Nat} {G0 : List (Nat × Obj)} {vs : List Value} (K : Nat) (A : Lay) (S : St) (Fr L : Frag) (eb : Nat → Nat × Nat) (b : Nat) (x : PS) (c : Nat) (y : PS), (∀ s, NewT (domT Tryz.prog p Sh E Dn PostB Aft W O G0 s)) → Rep K A S Fr L → Ers eb Fr → Running S b x → S.find (x.r 0) = some (c, y) → y.st ≠ 6 →
   CallsL (domT Tryz.prog p Sh E Dn PostB Aft W O G0) Tryz.prog false 112 [ptr K, ptr b, .int .u8 3, .chan (some E)].toArray n (evt S.now 4 y.id 65280 :: vs) L (fun s' v L' => vs = s' ∧ v = .nilIface ∧ ∃ A' G, Stays b ((S.fin c y 65280).r0 b 0) G ∧ Rep K A' ((S.fin c y 65280).r0 b 0) (G ++ Fr) L') := by
 obtain ⟨n0, g0⟩ := kill_2
 apply Exists.intro
 intro p Sh E Dn PostB Aft W O G0 vs K A S Fr L eb b x c y hN hR hE hu hf h6
 have hI := hu.i
 have hb := hu.m
 have wx0 : 0 ≤ x.r 0 ∧ x.r 0 < 65536 := (hI.wf _ hb).r 0 (by omega)
 have w0 : IntKind.i64.wrap (x.r 0) = x.r 0 := by simp [IntKind.wrap_i64]; omega
 have hx0 : At L b 7 (.int .u16 (x.r 0)) := hR.pat hb (pget_r x (i := 0) (by omega))
 have hid : At L b 0 (.int .i64 (x.id : Nat)) := hR.pat hb (i := 0) rfl
 co_applyP callsE 106 Tryz.func112 Tryz.ntmps112
 co_applyP c_seq
 co_applyP c_region
 co_applyP oy rfl E_as
 co_applyP o_nil
 change wpE ..
 co_applyP c_seq (n₂ := 0)
 co_applyP c_seq
 co_applyP c_region
 co_applyP oy rfl E_mv
 co_applyP o_nil
 change wpE ..
 co_applyP c_block
 co_applyP c_seq
 co_applyP c_region
 co_applyP oy rfl E_eql
 co_applyP oy rfl E_as
 co_applyP o_nil
 change wpE ..
 co_applyP c_false rfl
 co_applyP c_seq
 co_applyP c_region
 co_applyP oy rfl E_eql
 co_applyP oy rfl E_as
 co_applyP o_nil
 change wpE ..
 co_applyP c_false rfl
 co_applyP c_seq
 co_applyP c_region
 co_applyP oy rfl E_eql
 co_applyP oy rfl E_as
 co_applyP o_nil
 change wpE ..
 co_applyP c_false rfl
 co_applyP c_seq
 co_applyP c_region
 co_applyP oy rfl E_eql
 co_applyP oy rfl E_as
 co_applyP o_nil
 change wpE ..
 co_applyP c_true rfl
 co_applyP c_seq
 co_applyP c_region
 co_applyP oy rfl E_mv
 co_applyP oy rfl E_mv
 co_applyP oy rfl E_mv
 co_applyP oc rfl rfl rfl (g0 K A S Fr L eb b x c y (fun s => (hN s).toNewK) hR hE hI hb hf h6)
 rintro _ _ _ ⟨rfl, rfl, A2, G, hst, hR2⟩
 co_applyP oy rfl E_as
 co_applyP o_nil
 change wpE ..
 co_applyP c_ret
 change ∃ v, resE .. = some v ∧ _
 exact ⟨_, rfl, rfl, rfl, A2, G, hst, hR2⟩
theorem grant_4 : ∃ n, ∀ {p : Par} {Sh : Loc → Prop} {E Dn : Nat} {PostB : World → Prop} {Aft : Goroutine → World → Prop} {W : World} {O : Nat} {G0 : List (Nat × Obj)} {vs : List Value} (K : Nat) (A : Lay) (S : St) (Fr L : Frag) (eb : Nat → Nat × Nat) (b : Nat) (x : PS), (∀ s, NewT (domT Tryz.prog p Sh E Dn PostB Aft W O G0 s)) → Rep K A S Fr L → Ers eb Fr → Running S b x →
   CallsL (domT Tryz.prog p Sh E Dn PostB Aft W O G0) Tryz.prog false 112 [ptr K, ptr b, .int .u8 4, .chan (some E)].toArray n (vs) L (fun s' v L' => vs = s' ∧ v = .nilIface ∧ ∃ A', Rep K A' (S.sleep1 b x) Fr L') := by
 obtain ⟨n0, g0⟩ := sleep_s
 apply Exists.intro
 intro p Sh E Dn PostB Aft W O G0 vs K A S Fr L eb b x hN hR hE hu
 have hI := hu.i
 have hb := hu.m
 have wx0 : 0 ≤ x.r 0 ∧ x.r 0 < 65536 := (hI.wf _ hb).r 0 (by omega)
 have w0 : IntKind.i64.wrap (x.r 0) = x.r 0 := by simp [IntKind.wrap_i64]; omega
 have hx0 : At L b 7 (.int .u16 (x.r 0)) := hR.pat hb (pget_r x (i := 0) (by omega))
 have hid : At L b 0 (.int .i64 (x.id : Nat)) := hR.pat hb (i := 0) rfl
 co_applyP callsE 106 Tryz.func112 Tryz.ntmps112
 co_applyP c_seq
 co_applyP c_region
 co_applyP oy rfl E_as
 co_applyP o_nil
 change wpE ..
 co_applyP c_seq
 co_applyP c_seq
 co_applyP c_region
 co_applyP oy rfl E_mv
 co_applyP o_nil
 change wpE ..
 co_applyP c_block
 co_applyP c_seq
 co_applyP c_region
 co_applyP oy rfl E_eql
 co_applyP oy rfl E_as
 co_applyP o_nil
 change wpE ..
 co_applyP c_false rfl
 co_applyP c_seq
 co_applyP c_region
 co_applyP oy rfl E_eql
 co_applyP oy rfl E_as
 co_applyP o_nil
 change wpE ..
 co_applyP c_false rfl
 co_applyP c_seq
 co_applyP c_region
 co_applyP oy rfl E_eql
 co_applyP oy rfl E_as
 co_applyP o_nil
 change wpE ..
 co_applyP c_false rfl
 co_applyP c_seq
 co_applyP c_region
 co_applyP oy rfl E_eql
 co_applyP oy rfl E_as
 co_applyP o_nil
 change wpE ..
 co_applyP c_false rfl
 co_applyP c_seq
 co_applyP c_region
 co_applyP oy rfl E_eql
 co_applyP oy rfl E_as
 co_applyP o_nil
 change wpE ..
 co_applyP c_true rfl
 co_applyP c_region
 co_applyP oy rfl E_mv
 co_applyP oy rfl E_mv
 co_applyP oc rfl rfl rfl (g0 K A S Fr L b x hR hI hb hu.n)
 rintro _ _ _ ⟨rfl, rfl, A2, hR2⟩
 co_applyP o_nil
 change wpE ..
 co_applyP c_seq
 co_applyP c_region
 co_applyP oy rfl E_as
 co_applyP o_nil
 change wpE ..
 co_applyP c_ret
 change ∃ v, resE .. = some v ∧ _
 exact ⟨_, rfl, rfl, rfl, A2, hR2⟩
theorem grant_5 : ∃ n, ∀ {p : Par} {Sh : Loc → Prop} {E Dn : Nat} {PostB : World → Prop} {Aft : Goroutine → World → Prop} {W : World} {O : Nat} {G0 : List (Nat × Obj)} {vs : List Value} (K : Nat) (A : Lay) (S : St) (Fr L : Frag) (eb : Nat → Nat × Nat) (b : Nat) (x : PS), (∀ s, NewT (domT Tryz.prog p Sh E Dn PostB Aft W O G0 s)) → Rep K A S Fr L → Ers eb Fr → Running S b x →
   CallsL (domT Tryz.prog p Sh E Dn PostB Aft W O G0) Tryz.prog false 112 [ptr K, ptr b, .int .u8 5, .chan (some E)].toArray n (vs) L (fun s' v L' => vs = s' ∧ v = .nilIface ∧ ∃ A', Rep K A' (S.yield1 b x) Fr L') := by
 obtain ⟨n0, g0⟩ := yield_s
 apply Exists.intro
 intro p Sh E Dn PostB Aft W O G0 vs K A S Fr L eb b x hN hR hE hu
 have hI := hu.i
 have hb := hu.m
 have wx0 : 0 ≤ x.r 0 ∧ x.r 0 < 65536 := (hI.wf _ hb).r 0 (by omega)
 have w0 : IntKind.i64.wrap (x.r 0) = x.r 0 := by simp [IntKind.wrap_i64]; omega
 have hx0 : At L b 7 (.int .u16 (x.r 0)) := hR.pat hb (pget_r x (i := 0) (by omega))
 have hid : At L b 0 (.int .i64 (x.id : Nat)) := hR.pat hb (i := 0) rfl
 co_applyP callsE 106 Tryz.func112 Tryz.ntmps112
 co_applyP c_seq
 co_applyP c_region
 co_applyP oy rfl E_as
 co_applyP o_nil
 change wpE ..
 co_applyP c_seq
 co_applyP c_seq
 co_applyP c_region
 co_applyP oy rfl E_mv
 co_applyP o_nil
 change wpE ..
 co_applyP c_block
 co_applyP c_seq
 co_applyP c_region
 co_applyP oy rfl E_eql
 co_applyP oy rfl E_as
 co_applyP o_nil
 change wpE ..
 co_applyP c_false rfl
 co_applyP c_seq
 co_applyP c_region
 co_applyP oy rfl E_eql
 co_applyP oy rfl E_as
 co_applyP o_nil
 change wpE ..
 co_applyP c_false rfl
 co_applyP c_seq
 co_applyP c_region
 co_applyP oy rfl E_eql
 co_applyP oy rfl E_as
 co_applyP o_nil
 change wpE ..
 co_applyP c_false rfl
 co_applyP c_seq
 co_applyP c_region
 co_applyP oy rfl E_eql
 co_applyP oy rfl E_as
 co_applyP o_nil
 change wpE ..
 co_applyP c_false rfl
 co_applyP c_seq
 co_applyP c_region
 co_applyP oy rfl E_eql
 co_applyP oy rfl E_as
 co_applyP o_nil
 change wpE ..
 co_applyP c_false rfl
 co_applyP c_seq
 co_applyP c_region
 co_applyP oy rfl E_eql
 co_applyP oy rfl E_as
 co_applyP o_nil
 change wpE ..
 co_applyP c_true rfl
 co_applyP c_region
 co_applyP oy rfl E_mv
 co_applyP oy rfl E_mv
 co_applyP oc rfl rfl rfl (g0 K A S Fr L b x (hN _).r hR hI hb)
 rintro _ _ _ ⟨rfl, rfl, A2, hR2⟩
 co_applyP o_nil
 change wpE ..
 co_applyP c_seq
 co_applyP c_region
 co_applyP oy rfl E_as
 co_applyP o_nil
 change wpE ..
 co_applyP c_ret
 change ∃ v, resE .. = some v ∧ _
 exact ⟨_, rfl, rfl, rfl, A2, hR2⟩
theorem grant_6 : ∃ n, ∀ {p : Par} {Sh : Loc → Prop} {E Dn : Nat} {PostB : World → Prop} {Aft : Goroutine → World → Prop} {W : World} {O : Nat} {G0 : List (Nat × Obj)} {vs : List Value} (K : Nat) (A : Lay) (S : St) (Fr L : Frag) (eb : Nat → Nat × Nat) (b : Nat) (x : PS), (∀ s, NewT (domT Tryz.prog p Sh E Dn PostB Aft W O G0 s)) → Rep K A S Fr L → Ers eb Fr → Running S b x →
   CallsL (domT Tryz.prog p Sh E Dn PostB Aft W O G0) Tryz.prog false 112 [ptr K, ptr b, .int .u8 6, .chan (some E)].toArray n (vs) L (fun s' v L' => vs = s' ∧ v = .nilIface ∧ Rep K A (S.setP b (x.r0 ((x.id : Int) % 65536))) Fr L') := by
 apply Exists.intro
 intro p Sh E Dn PostB Aft W O G0 vs K A S Fr L eb b x hN hR hE hu
 have hI := hu.i
 have hb := hu.m
 have wx0 : 0 ≤ x.r 0 ∧ x.r 0 < 65536 := (hI.wf _ hb).r 0 (by omega)
 have w0 : IntKind.i64.wrap (x.r 0) = x.r 0 := by simp [IntKind.wrap_i64]; omega
 have hx0 : At L b 7 (.int .u16 (x.r 0)) := hR.pat hb (pget_r x (i := 0) (by omega))
 have hid : At L b 0 (.int .i64 (x.id : Nat)) := hR.pat hb (i := 0) rfl
 co_applyP callsE 106 Tryz.func112 Tryz.ntmps112
 co_applyP c_seq
 co_applyP c_region
 co_applyP oy rfl E_as
 co_applyP o_nil
 change wpE ..
 co_applyP c_seq
 co_applyP c_seq
 co_applyP c_region
 co_applyP oy rfl E_mv
 co_applyP o_nil
 change wpE ..
 co_applyP c_block
 co_applyP c_seq
 co_applyP c_region
 co_applyP oy rfl E_eql
 co_applyP oy rfl E_as
 co_applyP o_nil
 change wpE ..
 co_applyP c_false rfl
 co_applyP c_seq
 co_applyP c_region
 co_applyP oy rfl E_eql
 co_applyP oy rfl E_as
 co_applyP o_nil
 change wpE ..
 co_applyP c_false rfl
 co_applyP c_seq
 co_applyP c_region
 co_applyP oy rfl E_eql
 co_applyP oy rfl E_as
 co_applyP o_nil
 change wpE ..
 co_applyP c_false rfl
 co_applyP c_seq
 co_applyP c_region
 co_applyP oy rfl E_eql
 co_applyP oy rfl E_as
 co_applyP o_nil
 change wpE ..
 co_applyP c_false rfl
 co_applyP c_seq
 co_applyP c_region
 co_applyP oy rfl E_eql
 co_applyP oy rfl E_as
 co_applyP o_nil
 change wpE ..
 co_applyP c_false rfl
 co_applyP c_seq
 co_applyP c_region
 co_applyP oy rfl E_eql
 co_applyP oy rfl E_as
 co_applyP o_nil
 change wpE ..
 co_applyP c_false rfl
 co_applyP c_seq
 co_applyP c_region
 co_applyP oy rfl E_eql
 co_applyP oy rfl E_as
 co_applyP o_nil
 change wpE ..
 co_applyP c_true rfl
 co_applyP c_draw [] 11 (nf := 0) mixed
 co_applyP tr (i := 0) rfl E_mv (pre_init (by simp))
 co_applyP tr (i := 1) rfl E_mv (pre_init (by simp))
 co_applyP tr (i := 2) rfl E_nc (pre_init (by simp))
 co_applyP tr (i := 3) rfl (E_fa (hf := fo_99_0)) (pre_init (by simp))
 co_applyP tr (i := 4) rfl (E_fa (hf := fo_49_0)) (pre_init (by simp))
 co_applyP t0 (i := 5) rfl (E_ld (ht := ag_3)) (pre_init (by simp))
 co_applyP tr (i := 6) rfl (E_cv (hs := Tryz.underlying3) (ht := Tryz.underlying32)) (pre_init (by simp))
 co_applyP tr (i := 7) rfl E_nc (pre_init (by simp))
 co_applyP tr (i := 8) rfl (E_fa (hf := fo_99_0)) (pre_init (by simp))
 co_applyP tr (i := 9) rfl (E_fa (hf := fo_49_7)) (pre_init (by simp))
 co_applyP tr (i := 10) rfl (E_ixa Tryz.underlying47 sz_32) (pre_init (by simp))
 rw [wrap_u16]
 co_applyP anyE_nd
 intro hnd
 co_applyP te (i := 11) rfl (O_sm (hnd := hnd) (hm := hR.p _ hb) (hi := by rw [psize]; omega) (hs := sz_32))
 rintro _ _ ⟨rfl, hU1⟩
 refine ⟨pre_late (by simp), ?_⟩
 rename_i L1
 have hU1' : Upd L b (.cells (pcells (x.r0 ((x.id : Int) % 65536))) 99) L1 := by rw [← pset_r0]; exact hU1
 co_applyP td (by kernel_rfl)
 change wpE ..
 co_applyP c_seq
 co_applyP c_region
 co_applyP oy rfl E_as
 co_applyP o_nil
 change wpE ..
 co_applyP c_ret
 change ∃ v, resE .. = some v ∧ _
 exact ⟨_, rfl, rfl, rfl, hR.setP hb hU1'⟩
theorem grant_7a : ∃ n, ∀ {p : Par} {Sh : Loc → Prop} {E Dn : Nat} {PostB : World → Prop} {Aft : Goroutine → World → Prop} {W : World} {O : Nat} {G0 : List (Nat × Obj)} {vs : List Value} (K : Nat) (A : Lay) (S : St) (Fr L : Frag) (eb : Nat → Nat × Nat) (b : Nat) (x : PS), (∀ s, NewT (domT Tryz.prog p Sh E Dn PostB Aft W O G0 s)) → Rep K A S Fr L → Ers eb Fr → Running S b x → S.unused = 0 →
   CallsL (domT Tryz.prog p Sh E Dn PostB Aft W O G0) Tryz.prog false 112 [ptr K, ptr b, .int .u8 7, .chan (some E)].toArray n (vs) L (fun s' v L' => vs = s' ∧ v = erv eb 4 ∧ Rep K A S Fr L') := by
 obtain ⟨n0, g0⟩ := pipe_0
 apply Exists.intro
 intro p Sh E Dn PostB Aft W O G0 vs K A S Fr L eb b x hN hR hE hu h0
 have hI := hu.i
 have hb := hu.m
 have wx0 : 0 ≤ x.r 0 ∧ x.r 0 < 65536 := (hI.wf _ hb).r 0 (by omega)
 have w0 : IntKind.i64.wrap (x.r 0) = x.r 0 := by simp [IntKind.wrap_i64]; omega
 have hx0 : At L b 7 (.int .u16 (x.r 0)) := hR.pat hb (pget_r x (i := 0) (by omega))
 have hid : At L b 0 (.int .i64 (x.id : Nat)) := hR.pat hb (i := 0) rfl
 co_applyP callsE 106 Tryz.func112 Tryz.ntmps112
 co_applyP c_seq
 co_applyP c_region
 co_applyP oy rfl E_as
 co_applyP o_nil
 change wpE ..
 co_applyP c_seq (n₂ := 0)
 co_applyP c_seq
 co_applyP c_region
 co_applyP oy rfl E_mv
 co_applyP o_nil
 change wpE ..
 co_applyP c_block
 co_applyP c_seq
 co_applyP c_region
 co_applyP oy rfl E_eql
 co_applyP oy rfl E_as
 co_applyP o_nil
 change wpE ..
 co_applyP c_false rfl
 co_applyP c_seq
 co_applyP c_region
 co_applyP oy rfl E_eql
 co_applyP oy rfl E_as
 co_applyP o_nil
 change wpE ..
 co_applyP c_false rfl
 co_applyP c_seq
 co_applyP c_region
 co_applyP oy rfl E_eql
 co_applyP oy rfl E_as
 co_applyP o_nil
 change wpE ..
 co_applyP c_false rfl
 co_applyP c_seq
 co_applyP c_region
 co_applyP oy rfl E_eql
 co_applyP oy rfl E_as
 co_applyP o_nil
 change wpE ..
 co_applyP c_false rfl
 co_applyP c_seq
 co_applyP c_region
 co_applyP oy rfl E_eql
 co_applyP oy rfl E_as
 co_applyP o_nil
 change wpE ..
 co_applyP c_false rfl
 co_applyP c_seq
 co_applyP c_region
 co_applyP oy rfl E_eql
 co_applyP oy rfl E_as
 co_applyP o_nil
 change wpE ..
 co_applyP c_false rfl
 co_applyP c_seq
 co_applyP c_region
 co_applyP oy rfl E_eql
 co_applyP oy rfl E_as
 co_applyP o_nil
 change wpE ..
 co_applyP c_false rfl
 co_applyP c_seq
 co_applyP c_region
 co_applyP oy rfl E_eql
 co_applyP oy rfl E_as
 co_applyP o_nil
 change wpE ..
 co_applyP c_true rfl
 co_applyP c_seq
 co_applyP c_region
 co_applyP oy rfl E_mv
 co_applyP oy rfl E_mv
 co_applyP oc rfl rfl rfl (g0 K A S Fr L eb b x hN hR hE hb h0)
 rintro _ _ _ ⟨rfl, rfl, hR2⟩
 co_applyP oy rfl E_as
 co_applyP o_nil
 change wpE ..
 co_applyP c_ret
 change ∃ v, resE .. = some v ∧ _
 exact ⟨_, rfl, rfl, rfl, hR2⟩
theorem grant_7b : ∃ n, ∀ {p : Par} {Sh : Loc → Prop} {E Dn : Nat} {PostB : World → Prop} {Aft : Goroutine → World → Prop} {W : World} {O : Nat} {G0 : List (Nat × Obj)} {vs : List Value} (K : Nat) (A : Lay) (S : St) (Fr L : Frag) (eb : Nat → Nat × Nat) (b : Nat) (x : PS), (∀ s, NewT (domT Tryz.prog p Sh E Dn PostB Aft W O G0 s)) → Rep K A S Fr L → Ers eb Fr → Running S b x → S.unused ≠ 0 → (x.frees 6).length < 2 →
   CallsL (domT Tryz.prog p Sh E Dn PostB Aft W O G0) Tryz.prog false 112 [ptr K, ptr b, .int .u8 7, .chan (some E)].toArray n (vs) L (fun s' v L' => vs = s' ∧ v = erv eb 4 ∧ Rep K A S Fr L') := by
 obtain ⟨n0, g0⟩ := pipe_1
 apply Exists.intro
 intro p Sh E Dn PostB Aft W O G0 vs K A S Fr L eb b x hN hR hE hu h0 h2
 have hI := hu.i
 have hb := hu.m
 have wx0 : 0 ≤ x.r 0 ∧ x.r 0 < 65536 := (hI.wf _ hb).r 0 (by omega)
 have w0 : IntKind.i64.wrap (x.r 0) = x.r 0 := by simp [IntKind.wrap_i64]; omega
 have hx0 : At L b 7 (.int .u16 (x.r 0)) := hR.pat hb (pget_r x (i := 0) (by omega))
 have hid : At L b 0 (.int .i64 (x.id : Nat)) := hR.pat hb (i := 0) rfl
 co_applyP callsE 106 Tryz.func112 Tryz.ntmps112
 co_applyP c_seq
 co_applyP c_region
 co_applyP oy rfl E_as
 co_applyP o_nil
 change wpE ..
 co_applyP c_seq (n₂ := 0)
 co_applyP c_seq
 co_applyP c_region
 co_applyP oy rfl E_mv
 co_applyP o_nil
 change wpE ..
 co_applyP c_block
 co_applyP c_seq
 co_applyP c_region
 co_applyP oy rfl E_eql
 co_applyP oy rfl E_as
 co_applyP o_nil
 change wpE ..
 co_applyP c_false rfl
 co_applyP c_seq
 co_applyP c_region
 co_applyP oy rfl E_eql
 co_applyP oy rfl E_as
 co_applyP o_nil
 change wpE ..
 co_applyP c_false rfl
 co_applyP c_seq
 co_applyP c_region
 co_applyP oy rfl E_eql
 co_applyP oy rfl E_as
 co_applyP o_nil
 change wpE ..
 co_applyP c_false rfl
 co_applyP c_seq
 co_applyP c_region
 co_applyP oy rfl E_eql
 co_applyP oy rfl E_as
 co_applyP o_nil
 change wpE ..
 co_applyP c_false rfl
 co_applyP c_seq
 co_applyP c_region
 co_applyP oy rfl E_eql
 co_applyP oy rfl E_as
 co_applyP o_nil
 change wpE ..
 co_applyP c_false rfl
 co_applyP c_seq
 co_applyP c_region
 co_applyP oy rfl E_eql
 co_applyP oy rfl E_as
 co_applyP o_nil
 change wpE ..
 co_applyP c_false rfl
 co_applyP c_seq
 co_applyP c_region
 co_applyP oy rfl E_eql
 co_applyP oy rfl E_as
 co_applyP o_nil
 change wpE ..
 co_applyP c_false rfl
 co_applyP c_seq
 co_applyP c_region
 co_applyP oy rfl E_eql
 co_applyP oy rfl E_as
 co_applyP o_nil
 change wpE ..
 co_applyP c_true rfl
 co_applyP c_seq
 co_applyP c_region
 co_applyP oy rfl E_mv
 co_applyP oy rfl E_mv
 co_applyP oc rfl rfl rfl (g0 K A S Fr L eb b x hN hR hE hb h0 h2)
 rintro _ _ _ ⟨rfl, rfl, hR2⟩
 co_applyP oy rfl E_as
 co_applyP o_nil
 change wpE ..
 co_applyP c_ret
 change ∃ v, resE .. = some v ∧ _
 exact ⟨_, rfl, rfl, rfl, hR2⟩
theorem grant_7c : ∃ n, ∀ {p : Par} {Sh : Loc → Prop} {E Dn : Nat} {PostB : World → Prop} {Aft : Goroutine → World → Prop} {W : World} {O : Nat} {G0 : List (Nat × Obj)} {vs : List Value} (K : Nat) (A : Lay) (S : St) (Fr L : Frag) (eb : Nat → Nat × Nat) (b : Nat) (x : PS) (i j : Nat) (l : List Nat), (∀ s, NewT (domT Tryz.prog p Sh E Dn PostB Aft W O G0 s)) → Rep K A S Fr L → Ers eb Fr → Running S b x → S.unused ≠ 0 → x.frees 6 = i :: j :: l → i < 6 → j < 6 →
   CallsL (domT Tryz.prog p Sh E Dn PostB Aft W O G0) Tryz.prog false 112 [ptr K, ptr b, .int .u8 7, .chan (some E)].toArray n (vs) L (fun s' v L' => vs = s' ∧ v = .nilIface ∧ ∃ A', Rep K A' ((S.setY S.unused []).setP b (x.piped S.unused i j)) Fr L') := by
 obtain ⟨n0, g0⟩ := pipe_2
 apply Exists.intro
 intro p Sh E Dn PostB Aft W O G0 vs K A S Fr L eb b x i j l hN hR hE hu h0 h2 hi hj
 have hI := hu.i
 have hb := hu.m
 have wx0 : 0 ≤ x.r 0 ∧ x.r 0 < 65536 := (hI.wf _ hb).r 0 (by omega)
 have w0 : IntKind.i64.wrap (x.r 0) = x.r 0 := by simp [IntKind.wrap_i64]; omega
 have hx0 : At L b 7 (.int .u16 (x.r 0)) := hR.pat hb (pget_r x (i := 0) (by omega))
 have hid : At L b 0 (.int .i64 (x.id : Nat)) := hR.pat hb (i := 0) rfl
 co_applyP callsE 106 Tryz.func112 Tryz.ntmps112
 co_applyP c_seq
 co_applyP c_region
 co_applyP oy rfl E_as
 co_applyP o_nil
 change wpE ..
 co_applyP c_seq (n₂ := 0)
 co_applyP c_seq
 co_applyP c_region
 co_applyP oy rfl E_mv
 co_applyP o_nil
 change wpE ..
 co_applyP c_block
 co_applyP c_seq
 co_applyP c_region
 co_applyP oy rfl E_eql
 co_applyP oy rfl E_as
 co_applyP o_nil
 change wpE ..
 co_applyP c_false rfl
 co_applyP c_seq
 co_applyP c_region
 co_applyP oy rfl E_eql
 co_applyP oy rfl E_as
 co_applyP o_nil
 change wpE ..
 co_applyP c_false rfl
 co_applyP c_seq
 co_applyP c_region
 co_applyP oy rfl E_eql
 co_applyP oy rfl E_as
 co_applyP o_nil
 change wpE ..
 co_applyP c_false rfl
 co_applyP c_seq
 co_applyP c_region
 co_applyP oy rfl E_eql
 co_applyP oy rfl E_as
 co_applyP o_nil
 change wpE ..
 co_applyP c_false rfl
 co_applyP c_seq
 co_applyP c_region
 co_applyP oy rfl E_eql
 co_applyP oy rfl E_as
 co_applyP o_nil
 change wpE ..
 co_applyP c_false rfl
 co_applyP c_seq
 co_applyP c_region
 co_applyP oy rfl E_eql
 co_applyP oy rfl E_as
 co_applyP o_nil
 change wpE ..
 co_applyP c_false rfl
 co_applyP c_seq
 co_applyP c_region
 co_applyP oy rfl E_eql
 co_applyP oy rfl E_as
 co_applyP o_nil
 change wpE ..
 co_applyP c_false rfl
 co_applyP c_seq
 co_applyP c_region
 co_applyP oy rfl E_eql
 co_applyP oy rfl E_as
 co_applyP o_nil
 change wpE ..
 co_applyP c_true rfl
 co_applyP c_seq
 co_applyP c_region
 co_applyP oy rfl E_mv
 co_applyP oy rfl E_mv
 co_applyP oc rfl rfl rfl (g0 K A S Fr L eb b x i j l hN hR hb h0 h2 hi hj)
 rintro _ _ _ ⟨rfl, rfl, A2, hR2⟩
 co_applyP oy rfl E_as
 co_applyP o_nil
 change wpE ..
 co_applyP c_ret
 change ∃ v, resE .. = some v ∧ _
 exact ⟨_, rfl, rfl, rfl, A2, hR2⟩
theorem grant_8 : ∃ n, ∀ {p : Par} {Sh : Loc → Prop} {E Dn : Nat} {PostB : World → Prop} {Aft : Goroutine → World → Prop} {W : World} {O : Nat} {G0 : List (Nat × Obj)} {vs : List Value} (K : Nat) (A : Lay) (S : St) (Fr L : Frag) (eb : Nat → Nat × Nat) (b : Nat) (x : PS), (∀ s, NewT (domT Tryz.prog p Sh E Dn PostB Aft W O G0 s)) → Rep K A S Fr L → Ers eb Fr → Running S b x →
   CallsL (domT Tryz.prog p Sh E Dn PostB Aft W O G0) Tryz.prog false 112 [ptr K, ptr b, .int .u8 8, .chan (some E)].toArray n (vs) L (fun s' v L' => vs = s' ∧ v = erV eb (S.closeR b x).1 ∧ ∃ A', Rep K A' (S.closeR b x).2 Fr L') := by
 obtain ⟨n0, g0⟩ := close_s
 apply Exists.intro
 intro p Sh E Dn PostB Aft W O G0 vs K A S Fr L eb b x hN hR hE hu
 have hI := hu.i
 have hb := hu.m
 have wx0 : 0 ≤ x.r 0 ∧ x.r 0 < 65536 := (hI.wf _ hb).r 0 (by omega)
 have w0 : IntKind.i64.wrap (x.r 0) = x.r 0 := by simp [IntKind.wrap_i64]; omega
 have hx0 : At L b 7 (.int .u16 (x.r 0)) := hR.pat hb (pget_r x (i := 0) (by omega))
 have hid : At L b 0 (.int .i64 (x.id : Nat)) := hR.pat hb (i := 0) rfl
 co_applyP callsE 106 Tryz.func112 Tryz.ntmps112
 co_applyP c_seq
 co_applyP c_region
 co_applyP oy rfl E_as
 co_applyP o_nil
 change wpE ..
 co_applyP c_seq (n₂ := 0)
 co_applyP c_seq
 co_applyP c_region
 co_applyP oy rfl E_mv
 co_applyP o_nil
 change wpE ..
 co_applyP c_block
 co_applyP c_seq
 co_applyP c_region
 co_applyP oy rfl E_eql
 co_applyP oy rfl E_as
 co_applyP o_nil
 change wpE ..
 co_applyP c_false rfl
 co_applyP c_seq
 co_applyP c_region
 co_applyP oy rfl E_eql
 co_applyP oy rfl E_as
 co_applyP o_nil
 change wpE ..
 co_applyP c_false rfl
 co_applyP c_seq
 co_applyP c_region
 co_applyP oy rfl E_eql
 co_applyP oy rfl E_as
 co_applyP o_nil
 change wpE ..
 co_applyP c_false rfl
 co_applyP c_seq
 co_applyP c_region
 co_applyP oy rfl E_eql
 co_applyP oy rfl E_as
 co_applyP o_nil
 change wpE ..
 co_applyP c_false rfl
 co_applyP c_seq
 co_applyP c_region
 co_applyP oy rfl E_eql
 co_applyP oy rfl E_as
 co_applyP o_nil
 change wpE ..
 co_applyP c_false rfl
 co_applyP c_seq
 co_applyP c_region
 co_applyP oy rfl E_eql
 co_applyP oy rfl E_as
 co_applyP o_nil
 change wpE ..
 co_applyP c_false rfl
 co_applyP c_seq
 co_applyP c_region
 co_applyP oy rfl E_eql
 co_applyP oy rfl E_as
 co_applyP o_nil
 change wpE ..
 co_applyP c_false rfl
 co_applyP c_seq
 co_applyP c_region
 co_applyP oy rfl E_eql
 co_applyP oy rfl E_as
 co_applyP o_nil
 change wpE ..
 co_applyP c_false rfl
 co_applyP c_seq
 co_applyP c_region
 co_applyP oy rfl E_eql
 co_applyP oy rfl E_as
 co_applyP o_nil
 change wpE ..
 co_applyP c_true rfl
 co_applyP c_seq
 co_applyP c_region
 co_applyP oy rfl E_mv
 co_applyP oy rfl E_mv
 co_applyP oc rfl rfl rfl (g0 K A S Fr L eb b x (fun s => (hN s).toNewK) hR hE hI hb hu.o)
 rintro _ _ _ ⟨rfl, rfl, A2, hR2⟩
 co_applyP oy rfl E_as
 co_applyP o_nil
 change wpE ..
 co_applyP c_ret
 change ∃ v, resE .. = some v ∧ _
 exact ⟨_, rfl, rfl, rfl, A2, hR2⟩
theorem grant_9 : ∃ n, ∀ {p : Par} {Sh : Loc → Prop} {E Dn : Nat} {PostB : World → Prop} {Aft : Goroutine → World → Prop} {W : World} {O : Nat} {G0 : List (Nat × Obj)} {vs : List Value} (K : Nat) (A : Lay) (S : St) (Fr L : Frag) (eb : Nat → Nat × Nat) (b : Nat) (x : PS), (∀ s, NewT (domT Tryz.prog p Sh E Dn PostB Aft W O G0 s)) → Rep K A S Fr L → Ers eb Fr → Running S b x →
   CallsL (domT Tryz.prog p Sh E Dn PostB Aft W O G0) Tryz.prog false 112 [ptr K, ptr b, .int .u8 9, .chan (some E)].toArray n (vs) L (fun s' v L' => vs = s' ∧ v = erV eb (S.askR b x 4 64).1 ∧ ∃ A', Rep K A' (S.askR b x 4 64).2 Fr L') := by
 obtain ⟨n0, g0⟩ := ask_s
 apply Exists.intro
 intro p Sh E Dn PostB Aft W O G0 vs K A S Fr L eb b x hN hR hE hu
 have hI := hu.i
 have hb := hu.m
 have wx0 : 0 ≤ x.r 0 ∧ x.r 0 < 65536 := (hI.wf _ hb).r 0 (by omega)
 have w0 : IntKind.i64.wrap (x.r 0) = x.r 0 := by simp [IntKind.wrap_i64]; omega
 have hx0 : At L b 7 (.int .u16 (x.r 0)) := hR.pat hb (pget_r x (i := 0) (by omega))
 have hid : At L b 0 (.int .i64 (x.id : Nat)) := hR.pat hb (i := 0) rfl
 co_applyP callsE 106 Tryz.func112 Tryz.ntmps112
 co_applyP c_seq
 co_applyP c_region
 co_applyP oy rfl E_as
 co_applyP o_nil
 change wpE ..
 co_applyP c_seq (n₂ := 0)
 co_applyP c_seq
 co_applyP c_region
 co_applyP oy rfl E_mv
 co_applyP o_nil
 change wpE ..
 co_applyP c_block
 co_applyP c_seq
 co_applyP c_region
 co_applyP oy rfl E_eql
 co_applyP oy rfl E_as
 co_applyP o_nil
 change wpE ..
 co_applyP c_false rfl
 co_applyP c_seq
 co_applyP c_region
 co_applyP oy rfl E_eql
 co_applyP oy rfl E_as
 co_applyP o_nil
 change wpE ..
 co_applyP c_false rfl
 co_applyP c_seq
 co_applyP c_region
 co_applyP oy rfl E_eql
 co_applyP oy rfl E_as
 co_applyP o_nil
 change wpE ..
 co_applyP c_false rfl
 co_applyP c_seq
 co_applyP c_region
 co_applyP oy rfl E_eql
 co_applyP oy rfl E_as
 co_applyP o_nil
 change wpE ..
 co_applyP c_false rfl
 co_applyP c_seq
 co_applyP c_region
 co_applyP oy rfl E_eql
 co_applyP oy rfl E_as
 co_applyP o_nil
 change wpE ..
 co_applyP c_false rfl
 co_applyP c_seq
 co_applyP c_region
 co_applyP oy rfl E_eql
 co_applyP oy rfl E_as
 co_applyP o_nil
 change wpE ..
 co_applyP c_false rfl
 co_applyP c_seq
 co_applyP c_region
 co_applyP oy rfl E_eql
 co_applyP oy rfl E_as
 co_applyP o_nil
 change wpE ..
 co_applyP c_false rfl
 co_applyP c_seq
 co_applyP c_region
 co_applyP oy rfl E_eql
 co_applyP oy rfl E_as
 co_applyP o_nil
 change wpE ..
 co_applyP c_false rfl
 co_applyP c_seq
 co_applyP c_region
 co_applyP oy rfl E_eql
 co_applyP oy rfl E_as
 co_applyP o_nil
 change wpE ..
 co_applyP c_false rfl
 co_applyP c_seq
 co_applyP c_region
 co_applyP oy rfl E_eql
 co_applyP oy rfl E_as
 co_applyP o_nil
 change wpE ..
 co_applyP c_true rfl
 co_applyP c_seq
 co_applyP c_region
 co_applyP oy rfl E_mv
 co_applyP oy rfl E_mv
 co_applyP oc rfl rfl rfl (g0 K A S Fr L eb b x 4 64 (fun s => (hN s).toNewK) hR hE hI hb hu.o hu.s (.inl rfl) (by omega))
 rintro _ _ _ ⟨rfl, rfl, A2, hR2⟩
 co_applyP oy rfl E_as
 co_applyP o_nil
 change wpE ..
 co_applyP c_ret
 change ∃ v, resE .. = some v ∧ _
 exact ⟨_, rfl, rfl, rfl, A2, hR2⟩
theorem grant_10 : ∃ n, ∀ {p : Par} {Sh : Loc → Prop} {E Dn : Nat} {PostB : World → Prop} {Aft : Goroutine → World → Prop} {W : World} {O : Nat} {G0 : List (Nat × Obj)} {vs : List Value} (K : Nat) (A : Lay) (S : St) (Fr L : Frag) (eb : Nat → Nat × Nat) (b : Nat) (x : PS), (∀ s, NewT (domT Tryz.prog p Sh E Dn PostB Aft W O G0 s)) → Rep K A S Fr L → Ers eb Fr → Running S b x →
   CallsL (domT Tryz.prog p Sh E Dn PostB Aft W O G0) Tryz.prog false 112 [ptr K, ptr b, .int .u8 10, .chan (some E)].toArray n (vs) L (fun s' v L' => vs = s' ∧ v = erV eb (S.askR b x 5 8).1 ∧ ∃ A', Rep K A' (S.askR b x 5 8).2 Fr L') := by
 obtain ⟨n0, g0⟩ := ask_s
 apply Exists.intro
 intro p Sh E Dn PostB Aft W O G0 vs K A S Fr L eb b x hN hR hE hu
 have hI := hu.i
 have hb := hu.m
 have wx0 : 0 ≤ x.r 0 ∧ x.r 0 < 65536 := (hI.wf _ hb).r 0 (by omega)
 have w0 : IntKind.i64.wrap (x.r 0) = x.r 0 := by simp [IntKind.wrap_i64]; omega
 have hx0 : At L b 7 (.int .u16 (x.r 0)) := hR.pat hb (pget_r x (i := 0) (by omega))
 have hid : At L b 0 (.int .i64 (x.id : Nat)) := hR.pat hb (i := 0) rfl
 co_applyP callsE 106 Tryz.func112 Tryz.ntmps112
 co_applyP c_seq
 co_applyP c_region
 co_applyP oy rfl E_as
 co_applyP o_nil
 change wpE ..
 co_applyP c_seq (n₂ := 0)
 co_applyP c_seq
 co_applyP c_region
 co_applyP oy rfl E_mv
 co_applyP o_nil
 change wpE ..
 co_applyP c_block
 co_applyP c_seq
 co_applyP c_region
 co_applyP oy rfl E_eql
 co_applyP oy rfl E_as
 co_applyP o_nil
 change wpE ..
 co_applyP c_false rfl
 co_applyP c_seq
 co_applyP c_region
 co_applyP oy rfl E_eql
 co_applyP oy rfl E_as
 co_applyP o_nil
 change wpE ..
 co_applyP c_false rfl
 co_applyP c_seq
 co_applyP c_region
 co_applyP oy rfl E_eql
 co_applyP oy rfl E_as
 co_applyP o_nil
 change wpE ..
 co_applyP c_false rfl
 co_applyP c_seq
 co_applyP c_region
 co_applyP oy rfl E_eql
 co_applyP oy rfl E_as
 co_applyP o_nil
 change wpE ..
 co_applyP c_false rfl
 co_applyP c_seq
 co_applyP c_region
 co_applyP oy rfl E_eql
 co_applyP oy rfl E_as
 co_applyP o_nil
 change wpE ..
 co_applyP c_false rfl
 co_applyP c_seq
 co_applyP c_region
 co_applyP oy rfl E_eql
 co_applyP oy rfl E_as
 co_applyP o_nil
 change wpE ..
 co_applyP c_false rfl
 co_applyP c_seq
 co_applyP c_region
 co_applyP oy rfl E_eql
 co_applyP oy rfl E_as
 co_applyP o_nil
 change wpE ..
 co_applyP c_false rfl
 co_applyP c_seq
 co_applyP c_region
 co_applyP oy rfl E_eql
 co_applyP oy rfl E_as
 co_applyP o_nil
 change wpE ..
 co_applyP c_false rfl
 co_applyP c_seq
 co_applyP c_region
 co_applyP oy rfl E_eql
 co_applyP oy rfl E_as
 co_applyP o_nil
 change wpE ..
 co_applyP c_false rfl
 co_applyP c_seq
 co_applyP c_region
 co_applyP oy rfl E_eql
 co_applyP oy rfl E_as
 co_applyP o_nil
 change wpE ..
 co_applyP c_false rfl
 co_applyP c_seq
 co_applyP c_region
 co_applyP oy rfl E_eql
 co_applyP oy rfl E_as
 co_applyP o_nil
 change wpE ..
 co_applyP c_true rfl
 co_applyP c_seq
 co_applyP c_region
 co_applyP oy rfl E_mv
 co_applyP oy rfl E_mv
 co_applyP oc rfl rfl rfl (g0 K A S Fr L eb b x 5 8 (fun s => (hN s).toNewK) hR hE hI hb hu.o hu.s (.inr rfl) (by omega))
 rintro _ _ _ ⟨rfl, rfl, A2, hR2⟩
 co_applyP oy rfl E_as
 co_applyP o_nil
 change wpE ..
 co_applyP c_ret
 change ∃ v, resE .. = some v ∧ _
 exact ⟨_, rfl, rfl, rfl, A2, hR2⟩
theorem grant_11 : ∃ n, ∀ {p : Par} {Sh : Loc → Prop} {E Dn : Nat} {PostB : World → Prop} {Aft : Goroutine → World → Prop} {W : World} {O : Nat} {G0 : List (Nat × Obj)} {vs : List Value} (K : Nat) (A : Lay) (S : St) (Fr L : Frag) (eb : Nat → Nat × Nat) (b : Nat) (x : PS), (∀ s, NewT (domT Tryz.prog p Sh E Dn PostB Aft W O G0 s)) → Rep K A S Fr L → Ers eb Fr → Running S b x →
   CallsL (domT Tryz.prog p Sh E Dn PostB Aft W O G0) Tryz.prog false 112 [ptr K, ptr b, .int .u8 11, .chan (some E)].toArray n (evt S.now 3 x.id (x.r 0 % 256) :: vs) L (fun s' v L' => vs = s' ∧ v = .nilIface ∧ Rep K A (S.setP b (x.r0 0)) Fr L') := by
 obtain ⟨n0, g0⟩ := tell_s
 apply Exists.intro
 intro p Sh E Dn PostB Aft W O G0 vs K A S Fr L eb b x hN hR hE hu
 have hI := hu.i
 have hb := hu.m
 have wx0 : 0 ≤ x.r 0 ∧ x.r 0 < 65536 := (hI.wf _ hb).r 0 (by omega)
 have w0 : IntKind.i64.wrap (x.r 0) = x.r 0 := by simp [IntKind.wrap_i64]; omega
 have hx0 : At L b 7 (.int .u16 (x.r 0)) := hR.pat hb (pget_r x (i := 0) (by omega))
 have hid : At L b 0 (.int .i64 (x.id : Nat)) := hR.pat hb (i := 0) rfl
 co_applyP callsE 106 Tryz.func112 Tryz.ntmps112
 co_applyP c_seq
 co_applyP c_region
 co_applyP oy rfl E_as
 co_applyP o_nil
 change wpE ..
 co_applyP c_seq
 co_applyP c_seq
 co_applyP c_region
 co_applyP oy rfl E_mv
 co_applyP o_nil
 change wpE ..
 co_applyP c_block
 co_applyP c_seq
 co_applyP c_region
 co_applyP oy rfl E_eql
 co_applyP oy rfl E_as
 co_applyP o_nil
 change wpE ..
 co_applyP c_false rfl
 co_applyP c_seq
 co_applyP c_region
 co_applyP oy rfl E_eql
 co_applyP oy rfl E_as
 co_applyP o_nil
 change wpE ..
 co_applyP c_false rfl
 co_applyP c_seq
 co_applyP c_region
 co_applyP oy rfl E_eql
 co_applyP oy rfl E_as
 co_applyP o_nil
 change wpE ..
 co_applyP c_false rfl
 co_applyP c_seq
 co_applyP c_region
 co_applyP oy rfl E_eql
 co_applyP oy rfl E_as
 co_applyP o_nil
 change wpE ..
 co_applyP c_false rfl
 co_applyP c_seq
 co_applyP c_region
 co_applyP oy rfl E_eql
 co_applyP oy rfl E_as
 co_applyP o_nil
 change wpE ..
 co_applyP c_false rfl
 co_applyP c_seq
 co_applyP c_region
 co_applyP oy rfl E_eql
 co_applyP oy rfl E_as
 co_applyP o_nil
 change wpE ..
 co_applyP c_false rfl
 co_applyP c_seq
 co_applyP c_region
 co_applyP oy rfl E_eql
 co_applyP oy rfl E_as
 co_applyP o_nil
 change wpE ..
 co_applyP c_false rfl
 co_applyP c_seq
 co_applyP c_region
 co_applyP oy rfl E_eql
 co_applyP oy rfl E_as
 co_applyP o_nil
 change wpE ..
 co_applyP c_false rfl
 co_applyP c_seq
 co_applyP c_region
 co_applyP oy rfl E_eql
 co_applyP oy rfl E_as
 co_applyP o_nil
 change wpE ..
 co_applyP c_false rfl
 co_applyP c_seq
 co_applyP c_region
 co_applyP oy rfl E_eql
 co_applyP oy rfl E_as
 co_applyP o_nil
 change wpE ..
 co_applyP c_false rfl
 co_applyP c_seq
 co_applyP c_region
 co_applyP oy rfl E_eql
 co_applyP oy rfl E_as
 co_applyP o_nil
 change wpE ..
 co_applyP c_false rfl
 co_applyP c_seq
 co_applyP c_region
 co_applyP oy rfl E_eql
 co_applyP oy rfl E_as
 co_applyP o_nil
 change wpE ..
 co_applyP c_true rfl
 co_applyP c_seq
 have w8 : IntKind.u8.wrap (x.r 0) = x.r 0 % 256 := wrap_u8 _
 have w9 : IntKind.i64.wrap (x.r 0 % 256) = x.r 0 % 256 := by simp [IntKind.wrap_i64]; omega
 co_applyP c_last 15 mixed
 co_applyP lt (i := 0) rfl E_mv
 co_applyP lt (i := 1) rfl E_mv
 co_applyP lt (i := 2) rfl E_mv
 co_applyP lt (i := 3) rfl E_nc
 co_applyP lt (i := 4) rfl (E_fa (hf := fo_99_0))
 co_applyP lt (i := 5) rfl (E_fa (hf := fo_49_0))
 co_applyP lt (i := 6) rfl (E_ld (ht := ag_3))
 co_applyP lt (i := 7) rfl E_mv
 co_applyP lt (i := 8) rfl E_nc
 co_applyP lt (i := 9) rfl (E_fa (hf := fo_99_0))
 co_applyP lt (i := 10) rfl (E_fa (hf := fo_49_7))
 co_applyP lt (i := 11) rfl (E_ixa Tryz.underlying47 sz_32)
 co_applyP lt (i := 12) rfl (E_ld (ht := ag_32))
 co_applyP lt (i := 13) rfl (E_cv (hs := Tryz.underlying32) (ht := Tryz.underlying5))
 co_applyP lt (i := 14) rfl (E_cv (hs := Tryz.underlying5) (ht := Tryz.underlying3))
 rw [w8, w9]
 co_applyP lc (i := 15) rfl rfl rfl (g0 K A S Fr L 3 x.id (x.r 0 % 256) hR)
 rintro _ _ _ ⟨rfl, rfl, rfl⟩
 change wpE ..
 co_applyP c_region
 co_applyP oy rfl E_mv
 co_applyP oy rfl E_nc
 co_applyP oy rfl (E_fa (hf := fo_99_0))
 co_applyP oy rfl (E_fa (hf := fo_49_7))
 co_applyP oy rfl (E_ixa Tryz.underlying47 sz_32)
 co_applyP osm rfl (hs := sz_32) (hm := hR.p _ hb) (hi := by first | decide | (rw [psize]; omega) | (rw [ksize]; omega))
 intro L1 hU1
 rw [pset_r0] at hU1
 co_applyP o_nil
 change wpE ..
 co_applyP c_seq
 co_applyP c_region
 co_applyP oy rfl E_as
 co_applyP o_nil
 change wpE ..
 co_applyP c_ret
 change ∃ v, resE .. = some v ∧ _
 exact ⟨_, rfl, rfl, rfl, hR.setP hb hU1⟩
theorem grant_12 : ∃ n, ∀ {p : Par} {Sh : Loc → Prop} {E Dn : Nat} {PostB : World → Prop} {Aft : Goroutine → World → Prop} {W : World} {O : Nat} {G0 : List (Nat × Obj)} {vs : List Value} (K : Nat) (A : Lay) (S : St) (Fr L : Frag) (eb : Nat → Nat × Nat) (b : Nat) (x : PS) (m : Int), (∀ s, NewT (domT Tryz.prog p Sh E Dn PostB Aft W O G0 s)) → Rep K A S Fr L → Ers eb Fr → Running S b x → (∀ i : Int, 0 ≤ i → i < 12 → m ≠ i) →
   CallsL (domT Tryz.prog p Sh E Dn PostB Aft W O G0) Tryz.prog false 112 [ptr K, ptr b, .int .u8 m, .chan (some E)].toArray n (vs) L (fun s' v L' => vs = s' ∧ v = erv eb 9 ∧ Rep K A S Fr L') := by
 apply Exists.intro
 intro p Sh E Dn PostB Aft W O G0 vs K A S Fr L eb b x m hN hR hE hu hm
 have hI := hu.i
 have hb := hu.m
 have wx0 : 0 ≤ x.r 0 ∧ x.r 0 < 65536 := (hI.wf _ hb).r 0 (by omega)
 have w0 : IntKind.i64.wrap (x.r 0) = x.r 0 := by simp [IntKind.wrap_i64]; omega
 have hx0 : At L b 7 (.int .u16 (x.r 0)) := hR.pat hb (pget_r x (i := 0) (by omega))
 have hid : At L b 0 (.int .i64 (x.id : Nat)) := hR.pat hb (i := 0) rfl
 co_applyP callsE 106 Tryz.func112 Tryz.ntmps112
 co_applyP c_seq
 co_applyP c_region
 co_applyP oy rfl E_as
 co_applyP o_nil
 change wpE ..
 co_applyP c_seq (n₂ := 0)
 co_applyP c_seq
 co_applyP c_region
 co_applyP oy rfl E_mv
 co_applyP o_nil
 change wpE ..
 co_applyP c_block
 co_applyP c_seq
 co_applyP c_region
 co_applyP oy rfl E_eql
 co_applyP oy rfl E_as
 co_applyP o_nil
 change wpE ..
 have hg := (hE.mono hR.fr).g 9 (by decide) (by decide)
 rw [show (m == 0) = false by simpa using hm 0 (by omega) (by omega)]
 co_applyP c_false rfl
 co_applyP c_seq
 co_applyP c_region
 co_applyP oy rfl E_eql
 co_applyP oy rfl E_as
 co_applyP o_nil
 change wpE ..
 rw [show (m == 1) = false by simpa using hm 1 (by omega) (by omega)]
 co_applyP c_false rfl
 co_applyP c_seq
 co_applyP c_region
 co_applyP oy rfl E_eql
 co_applyP oy rfl E_as
 co_applyP o_nil
 change wpE ..
 rw [show (m == 2) = false by simpa using hm 2 (by omega) (by omega)]
 co_applyP c_false rfl
 co_applyP c_seq
 co_applyP c_region
 co_applyP oy rfl E_eql
 co_applyP oy rfl E_as
 co_applyP o_nil
 change wpE ..
 rw [show (m == 3) = false by simpa using hm 3 (by omega) (by omega)]
 co_applyP c_false rfl
 co_applyP c_seq
 co_applyP c_region
 co_applyP oy rfl E_eql
 co_applyP oy rfl E_as
 co_applyP o_nil
 change wpE ..
 rw [show (m == 4) = false by simpa using hm 4 (by omega) (by omega)]
 co_applyP c_false rfl
 co_applyP c_seq
 co_applyP c_region
 co_applyP oy rfl E_eql
 co_applyP oy rfl E_as
 co_applyP o_nil
 change wpE ..
 rw [show (m == 5) = false by simpa using hm 5 (by omega) (by omega)]
 co_applyP c_false rfl
 co_applyP c_seq
 co_applyP c_region
 co_applyP oy rfl E_eql
 co_applyP oy rfl E_as
 co_applyP o_nil
 change wpE ..
 rw [show (m == 6) = false by simpa using hm 6 (by omega) (by omega)]
 co_applyP c_false rfl
 co_applyP c_seq
 co_applyP c_region
 co_applyP oy rfl E_eql
 co_applyP oy rfl E_as
 co_applyP o_nil
 change wpE ..
 rw [show (m == 7) = false by simpa using hm 7 (by omega) (by omega)]
 co_applyP c_false rfl
 co_applyP c_seq
 co_applyP c_region
 co_applyP oy rfl E_eql
 co_applyP oy rfl E_as
 co_applyP o_nil
 change wpE ..
 rw [show (m == 8) = false by simpa using hm 8 (by omega) (by omega)]
 co_applyP c_false rfl
 co_applyP c_seq
 co_applyP c_region
 co_applyP oy rfl E_eql
 co_applyP oy rfl E_as
 co_applyP o_nil
 change wpE ..
 rw [show (m == 9) = false by simpa using hm 9 (by omega) (by omega)]
 co_applyP c_false rfl
 co_applyP c_seq
 co_applyP c_region
 co_applyP oy rfl E_eql
 co_applyP oy rfl E_as
 co_applyP o_nil
 change wpE ..
 rw [show (m == 10) = false by simpa using hm 10 (by omega) (by omega)]
 co_applyP c_false rfl
 co_applyP c_seq
 co_applyP c_region
 co_applyP oy rfl E_eql
 co_applyP oy rfl E_as
 co_applyP o_nil
 change wpE ..
 rw [show (m == 11) = false by simpa using hm 11 (by omega) (by omega)]
 co_applyP c_false rfl
 co_applyP c_seq
 co_applyP c_region
 co_applyP oy rfl (E_ld (ht := ag_168))
 co_applyP oy rfl E_as
 co_applyP o_nil
 change wpE ..
 co_applyP c_ret
 change ∃ v, resE .. = some v ∧ _
 exact ⟨_, rfl, rfl, rfl, hR⟩
end Go.Proofs.YtejkelcaljmnoaaGreatDoor
