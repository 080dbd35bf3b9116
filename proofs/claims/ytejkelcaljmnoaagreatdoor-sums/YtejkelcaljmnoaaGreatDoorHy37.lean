/-
  Part 37 of the proof.
  No condition but those that each statement names.
-/
import Derived.Test.YtejkelcaljmnoaaGreatDoorHy36
import Derived.Test.YtejkelcaljmnoaaGreatDoorHy13
set_option maxRecDepth 100000
set_option linter.unusedVariables false
set_option linter.unusedSimpArgs false
set_option linter.unusedSectionVars false
namespace Go.Proofs.YtejkelcaljmnoaaGreatDoor
open Go.Conc Go.Hx Go.Lo
def PS.copy (x : PS) : PS := ⟨0, x.id, 0, 0, x.at_, 0, 0, x.r, x.m, x.f, 0⟩
def regv (r : Nat → Int) : Value := .agg #[.int .u16 (r 0), .int .u16 (r 1), .int .u16 (r 2), .int .u16 (r 3), .int .u16 (r 4), .int .u16 (r 5), .int .u16 (r 6), .int .u16 (r 7)]
def memv (m : Nat → Int) : Value := .agg ((List.range 64).map fun i => Value.int .u8 (m i)).toArray
def headv (par at_ : Int) (r : Nat → Int) : Value := .agg #[.int .i64 0, .int .i64 par, .int .i64 0, .int .i64 0, .int .i64 at_, .int .i64 0, .int .i64 0, .int .u16 (r 0), .int .u16 (r 1), .int .u16 (r 2), .int .u16 (r 3), .int .u16 (r 4), .int .u16 (r 5), .int .u16 (r 6), .int .u16 (r 7)]
theorem pext_regs (x : PS) : Value.agg ((pcells x).extract 7 15) = regv x.r := by rfl
theorem pext_mem (x : PS) : Value.agg ((pcells x).extract 15 79) = memv x.m := by
 have h := ext_m x (i := 0) (n := 64) (by omega)
 have h' : (pcells x).extract 15 79 = ((x.peek 0 64).map fun v => Value.int .u8 v).toArray := h
 rw [h']
 unfold memv PS.peek
 rw [List.map_map]
 congr 2
theorem bld49 (par at_ : Int) (r : Nat → Int) : evR Tryz.prog (Instr.build 49 [(1, .int .i64 par), (4, .int .i64 at_), (7, regv r)].toArray) [] = some (headv par at_ r, []) := by kernel_rfl
theorem bld99 (x : PS) : evR Tryz.prog (Instr.build 99 [(0, headv (x.id : Nat) (x.at_ : Nat) x.r), (1, memv x.m), (2, filesv x.f)].toArray) [] = some (.agg (pcells x.copy), []) := by kernel_rfl
def St.forkS (S : St) (b : Nat) (x : PS) (c : Nat) : St := (S.adopt c (x.copy.r0 0)).setP b (x.r0 (((S.last + 1 : Nat) : Int) % 65536))
theorem fork_0 : ∃ n, ∀ {σ : Type} {F : Fam σ} {Δ : ∀ s, Dom (F.R s) (F.D s)} {main : Bool} {s : σ} (K : Nat) (A : Lay) (S : St) (Fr L : Frag) (eb : Nat → Nat × Nat) (b : Nat), Rep K A S Fr L → Ers eb Fr → 8 ≤ S.ps.length →
   CallsL Δ Tryz.prog main 131 [ptr K, ptr b].toArray n s L (fun s' v L' => s = s' ∧ L = L' ∧ v = erv eb 4) := by
 apply Exists.intro
 intro σ F Δ main s K A S Fr L eb b hR hE h8
 obtain ⟨base, cap, hv, hat0⟩ := slv_view hR.pa
 simp only [List.length_map] at hv
 have h5 : At L K 5 (.slice base S.ps.length cap) := by rw [← hv]; exact hR.kat rfl
 have hg := (hE.mono hR.fr).g 4 (by decide) (by decide)
 have e8 : decide ((8 : Int) ≤ (S.ps.length : Nat)) = true := by simp; omega
 co_applyP callsE 58 Tryz.func131 Tryz.ntmps131
 co_applyP c_seq
 co_applyP c_region
 co_applyP oy rfl E_as
 co_applyP o_nil
 change wpE ..
 co_applyP c_seq (n₂ := 0)
 co_applyP c_seq
 co_applyP c_region
 co_applyP oy rfl E_mv
 co_applyP oy rfl E_nc
 co_applyP oy rfl (E_fa (hf := fo_115_2))
 co_applyP oy rfl (E_ld (ht := ag_91))
 co_applyP oy rfl (E_len (hu := Tryz.underlying91))
 co_applyP oy rfl E_geq
 co_applyP o_nil
 change wpE ..
 rw [e8]
 co_applyP c_true rfl
 co_applyP c_seq
 co_applyP c_region
 co_applyP oy rfl (E_ld (ht := ag_168))
 co_applyP oy rfl E_as
 co_applyP o_nil
 change wpE ..
 co_applyP c_ret
 change ∃ v, resE .. = some v ∧ _
 exact ⟨_, rfl, rfl, rfl, rfl⟩
theorem fork_1 : ∃ n, ∀ {σ : Type} {F : Fam σ} {Δ : ∀ s, Dom (F.R s) (F.D s)} {main : Bool} {s : σ} (K : Nat) (A : Lay) (S : St) (Fr L : Frag) (b : Nat) (x : PS), (∀ cs, (Δ s).New (.cells cs 93)) → (∀ cs, (Δ s).New (.cells cs 99)) → Rep K A S Fr L → Inv S → (b, x) ∈ S.ps → S.ps.length < 8 → S.last < 4611686018427387904 →
   CallsL Δ Tryz.prog main 131 [ptr K, ptr b].toArray n s L (fun s' v L' => s = s' ∧ v = .nilIface ∧ ∃ A' c, (∀ q ∈ S.ps, c ≠ q.1) ∧ Rep K A' (S.forkS b x c) Fr L') := by
 obtain ⟨n1, g1⟩ := add_s
 apply Exists.intro
 intro σ F Δ main s K A S Fr L b x hN hN9 hR hI hb h8 hls
 obtain ⟨base, cap, hv, hat0⟩ := slv_view hR.pa
 simp only [List.length_map] at hv
 have h5 : At L K 5 (.slice base S.ps.length cap) := by rw [← hv]; exact hR.kat rfl
 have e8 : decide ((8 : Int) ≤ (S.ps.length : Nat)) = false := by simp; omega
 have hid : At L b 0 (.int .i64 (x.id : Nat)) := hR.pat hb (i := 0) rfl
 have hat : At L b 4 (.int .i64 (x.at_ : Nat)) := hR.pat hb (i := 4) rfl
 co_applyP callsE 58 Tryz.func131 Tryz.ntmps131
 co_applyP c_seq
 co_applyP c_region
 co_applyP oy rfl E_as
 co_applyP o_nil
 change wpE ..
 co_applyP c_seq
 co_applyP c_seq
 co_applyP c_region
 co_applyP oy rfl E_mv
 co_applyP oy rfl E_nc
 co_applyP oy rfl (E_fa (hf := fo_115_2))
 co_applyP oy rfl (E_ld (ht := ag_91))
 co_applyP oy rfl (E_len (hu := Tryz.underlying91))
 co_applyP oy rfl E_geq
 co_applyP o_nil
 change wpE ..
 rw [e8]
 co_applyP c_false rfl
 co_applyP c_skip
 change wpE ..
 co_applyP c_seq
 co_applyP c_draw [] 25 (nf := 0) mixed
 co_applyP tr (i := 0) rfl E_mv (pre_init (by simp))
 co_applyP tr (i := 1) rfl E_nc (pre_init (by simp))
 co_applyP tr (i := 2) rfl (E_fa (hf := fo_99_0)) (pre_init (by simp))
 co_applyP tr (i := 3) rfl (E_fa (hf := fo_49_0)) (pre_init (by simp))
 co_applyP t0 (i := 4) rfl (E_ld (ht := ag_3)) (pre_init (by simp))
 co_applyP tr (i := 5) rfl E_mv (pre_init (by simp))
 co_applyP tr (i := 6) rfl E_nc (pre_init (by simp))
 co_applyP tr (i := 7) rfl (E_fa (hf := fo_99_0)) (pre_init (by simp))
 co_applyP tr (i := 8) rfl (E_fa (hf := fo_49_4)) (pre_init (by simp))
 co_applyP t0 (i := 9) rfl (E_ld (ht := ag_3)) (pre_init (by simp))
 co_applyP tr (i := 10) rfl E_mv (pre_init (by simp))
 co_applyP tr (i := 11) rfl E_nc (pre_init (by simp))
 co_applyP tr (i := 12) rfl (E_fa (hf := fo_99_0)) (pre_init (by simp))
 co_applyP tr (i := 13) rfl (E_fa (hf := fo_49_7)) (pre_init (by simp))
 co_applyP tr (i := 16) rfl E_mv (pre_init (by simp))
 co_applyP tr (i := 17) rfl E_nc (pre_init (by simp))
 co_applyP tr (i := 18) rfl (E_fa (hf := fo_99_1)) (pre_init (by simp))
 co_applyP tr (i := 20) rfl E_mv (pre_init (by simp))
 co_applyP tr (i := 21) rfl E_nc (pre_init (by simp))
 co_applyP tr (i := 22) rfl (E_fa (hf := fo_99_2)) (pre_init (by simp))
 co_applyP t0 (i := 14) rfl (E_lda (ht := ag_47) (hs := sz_47) (hm := hR.p _ hb) (hi := by rw [psize]; omega)) (pre_init (by simp))
 co_applyP t0 (i := 19) rfl (E_lda (ht := ag_94) (hs := sz_94) (hm := hR.p _ hb) (hi := by rw [psize]; omega)) (pre_init (by simp))
 co_applyP t0 (i := 23) rfl (E_lda (ht := ag_97) (hs := sz_97) (hm := hR.p _ hb) (hi := by rw [psize]; omega)) (pre_init (by simp))
 rw [show (0 + 0 + 7 + 8 : Nat) = 15 from rfl, show (0 + 0 + 7 : Nat) = 7 from rfl, pext_regs, show (0 + 15 + 64 : Nat) = 79 from rfl, pext_mem, show (0 + 79 + 12 : Nat) = 91 from rfl, pext_files]
 co_applyP tr (i := 15) rfl (E_build (bld49 _ _ _)) (pre_init (by simp))
 co_applyP tr (i := 24) rfl (E_build (bld99 x)) (pre_init (by simp))
 co_applyP tadd (i := 25) rfl (O_box (hN9 _))
 intro c L1 hA1
 refine ⟨pre_late (by simp), ?_⟩
 co_applyP to (i := 26) rfl (E_as) (pre_late (by simp))
 have hA1' : Add L c (.cells (pcells x.copy) 99) L1 := hA1
 have hR1 : Rep K A S (pb c x.copy :: Fr) L1 := hR.fresh ⟨hA1'.fn, hA1'.sub⟩ hA1'.new hA1'.self
 have hcp : ∀ q ∈ S.ps, c ≠ q.1 := (hR1.fd _ List.mem_cons_self).2.1
 have hcF : ∀ t ∈ Fr, t.1 ≠ c := fun t ht => hA1'.new t (hR.fr t ht)
 co_applyP td (by kernel_rfl)
 change wpE ..
 co_applyP c_seq
 co_applyP c_region
 co_applyP oy rfl E_mv
 co_applyP oy rfl E_nc
 co_applyP oy rfl (E_fa (hf := fo_99_0))
 co_applyP oy rfl (E_fa (hf := fo_49_7))
 co_applyP oy rfl (E_ixa Tryz.underlying47 sz_32)
 co_applyP osm rfl (hs := sz_32) (hm := hR1.fr _ List.mem_cons_self) (hi := by first | decide | (rw [psize]; omega) | (rw [ksize]; omega))
 intro L2 hU2
 rw [pset_r0] at hU2
 have hR2 : Rep K A S ((pb c (x.copy.r0 0) :: ([pb c x.copy].filter fun t => !decide (t.1 = c))) ++ Fr) L2 := Rep.aside (G := [pb c x.copy]) (F := Fr) hR1 List.mem_cons_self hcF hU2
 have hR2' : Rep K A S (pb c (x.copy.r0 0) :: Fr) L2 := hR2.less fun t ht => by
   rcases List.mem_cons.1 ht with rfl | h
   · simp
   · simp [h]
 co_applyP o_nil
 change wpE ..
 co_applyP c_seq
 co_applyP c_region
 co_applyP oy rfl E_mv
 co_applyP oy rfl E_mv
 co_applyP oc rfl rfl rfl (g1 K A S Fr L2 c (x.copy.r0 0) hN hR2' hcF h8 hls (by show 0 < 3; omega) (hI.g.r8 (l := 0) (by omega)))
 rintro _ _ _ ⟨rfl, rfl, A3, hR3⟩
 co_applyP o_nil
 change wpE ..
 co_applyP c_seq
 rename_i L3
 have hbc : b ≠ c := fun e => hcp _ hb e.symm
 have hb3 : (b, x) ∈ (S.adopt c (x.copy.r0 0)).ps := mem_setP_of (List.mem_append_left _ hb) hbc
 have hc3 : (c, { x.copy.r0 0 with id := S.last + 1, st := 1, used := 0 }) ∈ (S.adopt c (x.copy.r0 0)).ps := mem_setP_self (List.mem_append_right _ List.mem_cons_self)
 have hid3 : At L3 c 0 (.int .i64 ((S.last + 1 : Nat) : Nat)) := hR3.pat hc3 (i := 0) rfl
 have wl : IntKind.u16.wrap (((S.last + 1 : Nat) : Nat) : Int) = ((S.last + 1 : Nat) : Int) % 65536 := wrap_u16 _
 co_applyP c_draw [] 11 (nf := 0) mixed
 co_applyP tr (i := 0) rfl E_mv (pre_init (by simp))
 co_applyP tr (i := 1) rfl E_mv (pre_init (by simp))
 co_applyP tr (i := 2) rfl E_nc (pre_init (by simp))
 co_applyP tr (i := 3) rfl (E_fa (hf := fo_99_0)) (pre_init (by simp))
 co_applyP tr (i := 4) rfl (E_fa (hf := fo_49_0)) (pre_init (by simp))
 co_applyP t0 (i := 5) rfl (E_ld (ht := ag_3)) (pre_init (by simp))
 co_applyP tr (i := 6) rfl (E_cv (hs := Tryz.underlying3) (ht := Tryz.underlying32)) (pre_init (by simp))
 co_applyP tr (i := 7) rfl E_nc (pre_init (by simp))
 co_applyP tr (i := 8) rfl (E_fa (hf := fo_99_0)) (pre_init (by simp))
 co_applyP tr (i := 9) rfl (E_fa (hf := fo_49_7)) (pre_init (by simp))
 co_applyP tr (i := 10) rfl (E_ixa Tryz.underlying47 sz_32) (pre_init (by simp))
 rw [wl]
 co_applyP anyE_nd
 intro hnd3
 co_applyP te (i := 11) rfl (O_sm (hnd := hnd3) (hm := hR3.p _ hb3) (hi := by rw [psize]; omega) (hs := sz_32))
 rintro _ _ ⟨rfl, hU4⟩
 refine ⟨pre_late (by simp), ?_⟩
 rename_i L4
 have hU4' : Upd L3 b (.cells (pcells (x.r0 (((S.last + 1 : Nat) : Int) % 65536))) 99) L4 := by rw [← pset_r0]; exact hU4
 have hR4 := hR3.setP hb3 hU4'
 co_applyP td (by kernel_rfl)
 change wpE ..
 co_applyP c_seq
 co_applyP c_region
 co_applyP oy rfl E_as
 co_applyP o_nil
 change wpE ..
 co_applyP c_ret
 change ∃ v, resE .. = some v ∧ _
 exact ⟨_, rfl, rfl, rfl, A3, c, hcp, hR4⟩
end Go.Proofs.YtejkelcaljmnoaaGreatDoor
namespace Go.Lo
open Go.Conc Go.Hx
section
variable {σ : Type} {F : Fam σ} (Δ : ∀ s, Dom (F.R s) (F.D s)) (P : Program) (main : Bool) (fn : FuncId) (N : Nat)
def LastE (ops : Array Oper) (Q : σ → Exit → Env → Frag → Prop) (nf : Nat) (L0 : Frag) (e : Nat) (fuel : Nat) (ls : Array Bool) (s : σ) (ε : Env) (L : Frag) : Prop :=
 ∀ a, Fits N ε a → Down ops ls → ∀ w, (Δ s).Own L w → AnyY F P main fn ops (fun ls s w => ∃ L, (Δ s).Own L w ∧ (ls.getD e true = false → ∀ t ∈ L0, t ∈ L)) (up Δ (upE N Q)) nf fuel ls s a w
end
section
variable {σ : Type} {F : Fam σ} {Δ : ∀ s, Dom (F.R s) (F.D s)} {P : Program} {main : Bool} {fn : FuncId} {N : Nat} {Q : σ → Exit → Env → Frag → Prop} {s : σ} {ε : Env} {L : Frag} {ops : Array Oper} {nf : Nat} {e : Nat} {fuel : Nat} {ls : Array Bool}
theorem c_last {id : Nat} (e : Nat) {nf : Nat} (hm : P.follows .mixedOrders = true := by first | rfl | kernel_rfl) (h : LastE Δ P main fn N ops Q nf L e ops.size (Array.replicate ops.size false) s ε L) : wpE Δ P main fn N (.region id ops true) (ops.size * (nf + 3) + 1 + 1) s Q ε L := by
 intro a ha w hO
 exact wpY_region (S := fun ls s' w => ∃ L', (Δ s').Own L' w ∧ (ls.getD e true = false → ∀ t ∈ L, t ∈ L')) (Δ s).ld hm fun w₁ h₁ => h a ha down_start _ ((Δ s).draw ((Δ s).rely hO h₁)).1
theorem lt {i : Nat} {d : Option Tmp} {k : Op} {ot : TypeId} {ps : String} {af : Array Edge} {g : Option (Nat × Bool)} {v : Value} (ho : ops[i]? = some ⟨d, k, ot, ps, af, g⟩) (hy : EY P N ε L ⟨d, k, ot, ps, af, g⟩ v)
   (hs : Region.noSelect ops = true := by kernel_rfl) (hf : Region.free .any ops ls i = true := by kernel_rfl) (hr : (Region.ready .any ops ls).contains i = true := by kernel_rfl) (hie : i ≠ e := by decide) (hh : hangs ops ops.size e i = true := by kernel_rfl) (hw : wantedE ops N ε g = some true := by rfl) (hd : dstOk N d = true := by rfl)
   (h : LastE Δ P main fn N ops Q nf L e fuel (ls.setIfInBounds i true) s (putE d v ε) L) : LastE Δ P main fn N ops Q nf L e (fuel + 1) ls s ε L := by
 intro a ha hD w hO
 have hrm : i ∈ Region.ready .any ops ls := by simpa using hr
 refine anyY_take (fun _ s _ _ ⟨L, h1, h2⟩ r => ⟨L, (Δ s).rely h1 r, h2⟩) up_rely' ho hs hf hr hD (fun ls s w => ?_) (fun ls' hD' hun s' => .inl ⟨ha.wanted hw, fun w' ⟨L', hO', h3⟩ => ?_⟩) ⟨L, hO, fun _ t ht => ht⟩ (h _ (ha.put hd v) (hD.step hrm) w hO)
 · refine exists_congr fun L' => and_congr_right fun _ => ?_
   rw [getD_set_ne true hie]
 · have hsub : ∀ t ∈ L, t ∈ L' := by
     refine h3 ?_
     cases he : ls'.getD e true with
     | false => rfl
     | true =>
       have := hD'.hangs _ _ _ hh he
       rw [getD_tf this] at hun
       cases hun
   obtain ⟨q1, q2⟩ := quiet' (Δ s') hO' ((hy a ha).mono hsub)
   exact ⟨q1, (Δ s').dd ((Δ s').gr w') fun e he => q2 e (mem_listed he)⟩
theorem lc {i : Nat} {d : Option Tmp} {k : Op} {ot : TypeId} {ps : String} {af : Array Edge} {g : Option (Nat × Bool)} {f : FuncId} {args : Array Operand} {ats : Array TypeId} {vs : List Value} {Post : σ → Value → Frag → Prop} {L0 : Frag} (ho : ops[i]? = some ⟨d, k, ot, ps, af, g⟩) (hop : k = .call { callee := .value (.func f), args, argTypes := ats }) (ha : args.toList.map (ev ε) = vs.map some) (hcall : CallsL Δ P main f vs.toArray nf s L Post)
   (hr : Region.ready .any ops ls = [i] := by kernel_rfl) (hr' : Region.ready .any ops (ls.setIfInBounds i true) = [] := by kernel_rfl) (hle : (ls.setIfInBounds i true).getD e true = true := by first | rfl | decide) (hw : wantedE ops N ε g = some true := by rfl) (hd : dstOk N d = true := by rfl)
   (h : ∀ s' v L', Post s' v L' → Q s' .normal (putE d v ε) L') : LastE Δ P main fn N ops Q nf L0 e (fuel + 1) ls s ε L := by
 intro a hf hD w hO
 have e' : args.map a.eval = vs.toArray := by
   apply Array.ext'
   simp only [Array.toList_map]
   have : ∀ (l : List Operand) (vs : List Value), l.map (ev ε) = vs.map some → l.map a.eval = vs := by
     intro l
     induction l with
     | nil => intro vs h; cases vs <;> simp_all
     | cons x l ih =>
       intro vs h
       cases vs with
       | nil => simp at h
       | cons v vs =>
         simp only [List.map_cons, List.cons.injEq] at h ⊢
         exact ⟨hf.ev h.1, ih vs h.2⟩
   exact this _ _ ha
 refine anyY_all hr (by simp) fun j hj => ?_
 obtain rfl : j = i := by simpa using hj
 have hc := hcall w hO
 rw [← e'] at hc
 refine .inr ⟨_, f, args, ats, _, ho, hf.wanted hw, hop, hc, fun s' v w' ⟨L', hL, hp⟩ => ⟨⟨L', hL, fun h' => ?_⟩, anyY_done hr' ⟨L', hL, _, hf.put hd v, h s' v L' hp⟩ _⟩⟩
 rw [hle] at h'
 cases h'
end
end Go.Lo
