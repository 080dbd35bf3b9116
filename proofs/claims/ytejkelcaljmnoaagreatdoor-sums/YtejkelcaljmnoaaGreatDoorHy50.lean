/-
  Part 50 of the proof.
  No condition but those that each statement names.
-/
import Derived.Test.YtejkelcaljmnoaaGreatDoorHy49
import Derived.Conc.LeavingOf
import Derived.JoinedOf
import Derived.RowKit
import Derived.RowKitTokens
import Derived.Stop.Joined
import Derived.Test.YtejkelcaljmnoaaGreatDoorHy48
set_option maxRecDepth 100000
set_option linter.unusedVariables false
set_option linter.unusedSimpArgs false
set_option linter.unusedSectionVars false
namespace Go.Proofs.YtejkelcaljmnoaaGreatDoor
open Go.ChangeShapes Go.WideShapes Go.RowKit Go.Conc Go.ConcX Go.Hx Go.Lo
section
variable {H : Type} {enc : TypeId × Value → H}
theorem leaving_of_change_and {a : Assume} {C : Checked} {os : Os} {f : FuncId} {fn : Func} {s : ChangeSpec} {conds : List PathCond} {apart fresh handsOn again : Bool} {X : World → Array Value → Prop}
   (hX : ∀ (w w' : World) (args : Array Value), w.heap = w'.heap → X w args → X w' args)
   (own : ownKnob C.prog.godebug = none) (started : os.Started) (hfn : C.prog.funcs[f]? = some fn)
   (witness : ∃ (w : World) (tape : Tape) (i : Input), w.os = os ∧ (w.forCall tape i).Shaped C.prog ∧ i.vars = [] ∧ Input.okWide C.prog (w.forCall tape i) .any w.heap.size f i ∧
     ((s.pre enc C.prog fn conds apart (w.forCall tape i).memory i.args ∧ X (w.forCall tape i).memory i.args) ∧ sizedMet enc C.prog fn (OpenSpec.ofChange s) apart (w.forCall tape i).memory i.args) ∧ a.holds C.prog (lone (Frame.enter C.prog f i.args .normal) [] (w.forCall tape i)))
   (runs : ∀ (W : World) (base : Nat) (args : Array Value) (ds gs : List (DataW H)) (before : List MemPlace), W.ShapedOpen C.prog →
     (∀ (j : Nat) t v, fn.params[j]? = some t → args[j]? = some v → Value.okWide C.prog W .any base t v) →
     DataW.Whole enc C.prog fn.params.toList s.vars apart W args.toList ds gs before → X W args →
     ∃ M last o w' t', runNT C.prog (M + 1) (solo (G (Frame.enter C.prog f args .normal) []) W) #[] = (.ended o w', t') ∧ runN C.prog M (solo (G (Frame.enter C.prog f args .normal) []) W) = .next last ∧
       step C.prog last = .ended o w' ∧ Conc.Good C.prog (fun v W' => s.post enc C.prog fn apart fresh handsOn again W args v W') last o w' t') :
   ReturnsInLeavingWide a C os f .any (fun w args => (s.pre enc C.prog fn conds apart w args ∧ X w args) ∧ sizedMet enc C.prog fn (OpenSpec.ofChange s) apart w args) (s.post enc C.prog fn apart fresh handsOn again) := by
 refine returnsInLeavingWide_of_good own started witness ?_
 intro w tape i _ hso _ hok hpre hholds
 obtain ⟨_, _, _, fn', hfn', _, _, _, _, hval⟩ := hok
 have e : fn' = fn := Option.some.inj (hfn'.symm.trans hfn)
 subst e
 obtain ⟨⟨⟨ds, gs, before, hw, hc⟩, hx⟩, hz⟩ := hpre
 have hw' := DataW.Whole.of_heap (w' := w.forCall tape i) (by rfl) hw
 obtain ⟨M, last, o, w', t', h1, h2, h3, h4⟩ := runs (w.forCall tape i) w.heap.size i.args ds gs before hso hval hw' (hX _ _ _ (by rfl) hx)
 exact ⟨M, last, o, w', t', h1, h2, h3, h4.mono fun v hp => ChangeSpec.post_blind hp⟩
end
abbrev tx0 : ByteArray := { data := #[116, 104, 101, 114, 101, 32, 105, 115, 32, 110, 111, 32, 115, 117, 99, 104, 32, 105, 110, 115, 116, 114, 117, 99, 116, 105, 111, 110] }
abbrev tx1 : ByteArray := { data := #[116, 104, 101, 114, 101, 32, 105, 115, 32, 110, 111, 32, 115, 117, 99, 104, 32, 111, 112, 101, 114, 97, 116, 111, 114] }
abbrev tx2 : ByteArray := { data := #[116, 104, 101, 114, 101, 32, 105, 115, 32, 110, 111, 32, 115, 117, 99, 104, 32, 98, 121, 116, 101, 32, 111, 102, 32, 109, 101, 109, 111, 114, 121] }
abbrev tx3 : ByteArray := { data := #[110, 111, 32, 115, 117, 99, 104, 32, 102, 105, 108, 101, 44, 32, 111, 114, 32, 110, 111, 116, 32, 111, 102, 32, 116, 104, 97, 116, 32, 107, 105, 110, 100] }
abbrev tx4 : ByteArray := { data := #[116, 104, 101, 114, 101, 32, 105, 115, 32, 110, 111, 32, 114, 111, 111, 109, 32, 102, 111, 114, 32, 111, 110, 101, 32, 109, 111, 114, 101] }
abbrev tx5 : ByteArray := { data := #[116, 104, 101, 114, 101, 32, 105, 115, 32, 110, 111, 32, 99, 104, 105, 108, 100] }
abbrev tx6 : ByteArray := { data := #[116, 104, 101, 114, 101, 32, 105, 115, 32, 110, 111, 32, 115, 117, 99, 104, 32, 112, 114, 111, 99, 101, 115, 115] }
abbrev tx7 : ByteArray := { data := #[110, 111, 98, 111, 100, 121, 32, 99, 97, 110, 32, 114, 101, 97, 100, 32, 116, 104, 97, 116] }
abbrev tx8 : ByteArray := { data := #[109, 101, 109, 111, 114, 121, 32, 116, 104, 97, 116, 32, 116, 104, 101, 114, 101, 32, 105, 115, 32, 110, 111, 116] }
abbrev tx9 : ByteArray := { data := #[110, 111, 32, 115, 117, 99, 104, 32, 99, 97, 108, 108, 44, 32, 111, 114, 32, 110, 111, 116, 32, 119, 105, 116, 104, 32, 116, 104, 97, 116] }
noncomputable def low : Nat := (World.holding Tryz.prog default ⟨#[], #[], []⟩).heap.size
def lay (h : Array Obj) (g : Nat) (v : Value) : Array Obj := h.modify g fun
 | .cells _ t frozen => .cells #[v] t frozen
 | o => o
noncomputable def laidWorld (os : Os) : World :=
 let w0 := World.holding Tryz.prog os ⟨#[.cells #[.string tx0] 275, .cells #[.string tx1] 275, .cells #[.string tx2] 275, .cells #[.string tx3] 275, .cells #[.string tx4] 275, .cells #[.string tx5] 275, .cells #[.string tx6] 275, .cells #[.string tx7] 275, .cells #[.string tx8] 275, .cells #[.string tx9] 275], #[], []⟩
 { w0 with heap := lay (lay (lay (lay (lay (lay (lay (lay (lay (lay (lay (w0.heap) 0 (.iface 255 (.pointer (some ⟨low + 0, 0, none⟩)))) 1 (.iface 255 (.pointer (some ⟨low + 1, 0, none⟩)))) 10 (.iface 255 (.pointer (some ⟨low + 2, 0, none⟩)))) 3 (.iface 255 (.pointer (some ⟨low + 3, 0, none⟩)))) 4 (.iface 255 (.pointer (some ⟨low + 4, 0, none⟩)))) 5 (.iface 255 (.pointer (some ⟨low + 5, 0, none⟩)))) 6 (.iface 255 (.pointer (some ⟨low + 6, 0, none⟩)))) 7 (.iface 255 (.pointer (some ⟨low + 7, 0, none⟩)))) 8 (.iface 255 (.pointer (some ⟨low + 8, 0, none⟩)))) 9 (.iface 255 (.pointer (some ⟨low + 9, 0, none⟩)))) 2 (rty 168) }
theorem laidWorld_met (os : Os) (args : Array Value) : laidMetH Tryz.prog Rows.sumsRow.laid ((laidWorld os).forCall (fun _ _ => 0) ⟨#[], args, []⟩).memory :=
 laidMetH_of_parts (laidMet_of_run (ps := [.cell 0 0, .cell (low + 0) 0, .cell 1 0, .cell (low + 1) 0, .cell 10 0, .cell (low + 2) 0, .cell 3 0, .cell (low + 3) 0, .cell 4 0, .cell (low + 4) 0, .cell 5 0, .cell (low + 5) 0, .cell 6 0, .cell (low + 6) 0, .cell 7 0, .cell (low + 7) 0, .cell 8 0, .cell (low + 8) 0, .cell 9 0, .cell (low + 9) 0]) 8 (by kernel_rfl) (by kernel_rfl) (by kernel_rfl)) (by kernel_rfl)
theorem u16_in {n : Int} (h : (Lit.int .u16 n).wf = true) : 0 ≤ n ∧ n < 65536 := by
 simp [Lit.wf, IntKind.min, IntKind.max, IntKind.signed, IntKind.bits] at h
 omega
theorem i64_in {n : Int} (h : (Lit.int .i64 n).wf = true) : I64 n := by
 simp [Lit.wf, IntKind.min, IntKind.max, IntKind.signed, IntKind.bits] at h
 unfold I64
 omega
end Go.Proofs.YtejkelcaljmnoaaGreatDoor
namespace Go.Proofs.YtejkelcaljmnoaaGreatDoor
open Go.Conc Go.Hx Go.Lo
def sumsI (A B at_ : Int) : List Int := insn 1 1 A ++ insn 1 2 B ++ insn 2 3 1 ++ insn 3 3 2 ++ insn 2 4 1 ++ insn 4 4 2 ++ insn 1 5 at_ ++ insn 8 1 5 ++ insn 7 6 5 ++ insn 1 5 64 ++ insn 7 7 5
def k16 (A : Int) : Int := (A % 256 + 256 * (A / 256 % 256)) % 65536
theorem k16_id {A : Int} (h : 0 ≤ A ∧ A < 65536) : k16 A = A := by unfold k16; omega
def sumsT (A B : Int) (n : Nat) : St := St.fresh (cfgf 1 2 3) (cfgb 50) (sumsI A B (n : Nat)) 1
abbrev sumsR (A B : Int) (n : Nat) : List (Int × Int × Int × Int × Nat) × Nat × List (Nat × Nat) × List Value :=
 (((St.runs 10 (sumsT A B n)).ps.map fun q => (q.2.r 3, q.2.r 4, q.2.r 6, q.2.m n, q.2.at_)), (St.evs 10 (sumsT A B n)).length, ((St.runs 5 (St.runs 10 (sumsT A B n))).ps.map fun q => (q.2.st, q.2.at_)), St.evs 5 (St.runs 10 (sumsT A B n)))
abbrev sumsQ (A B : Int) : List (Int × Int × Int × Int × Nat) × Nat × List (Nat × Nat) × List Value :=
 ([((k16 A + k16 B) % 65536, (k16 A - k16 B) % 65536, k16 A % 256, k16 A % 256, 10)], 10, [(6, 10)], [evt 10 1 1 10, evt 10 4 1 65281])
theorem sums_r (A B : Int) : ∀ n : Nat, n < 64 → sumsR A B n = sumsQ A B
 | 0, _ => by kernel_rfl
 | 1, _ => by kernel_rfl
 | 2, _ => by kernel_rfl
 | 3, _ => by kernel_rfl
 | 4, _ => by kernel_rfl
 | 5, _ => by kernel_rfl
 | 6, _ => by kernel_rfl
 | 7, _ => by kernel_rfl
 | 8, _ => by kernel_rfl
 | 9, _ => by kernel_rfl
 | 10, _ => by kernel_rfl
 | 11, _ => by kernel_rfl
 | 12, _ => by kernel_rfl
 | 13, _ => by kernel_rfl
 | 14, _ => by kernel_rfl
 | 15, _ => by kernel_rfl
 | 16, _ => by kernel_rfl
 | 17, _ => by kernel_rfl
 | 18, _ => by kernel_rfl
 | 19, _ => by kernel_rfl
 | 20, _ => by kernel_rfl
 | 21, _ => by kernel_rfl
 | 22, _ => by kernel_rfl
 | 23, _ => by kernel_rfl
 | 24, _ => by kernel_rfl
 | 25, _ => by kernel_rfl
 | 26, _ => by kernel_rfl
 | 27, _ => by kernel_rfl
 | 28, _ => by kernel_rfl
 | 29, _ => by kernel_rfl
 | 30, _ => by kernel_rfl
 | 31, _ => by kernel_rfl
 | 32, _ => by kernel_rfl
 | 33, _ => by kernel_rfl
 | 34, _ => by kernel_rfl
 | 35, _ => by kernel_rfl
 | 36, _ => by kernel_rfl
 | 37, _ => by kernel_rfl
 | 38, _ => by kernel_rfl
 | 39, _ => by kernel_rfl
 | 40, _ => by kernel_rfl
 | 41, _ => by kernel_rfl
 | 42, _ => by kernel_rfl
 | 43, _ => by kernel_rfl
 | 44, _ => by kernel_rfl
 | 45, _ => by kernel_rfl
 | 46, _ => by kernel_rfl
 | 47, _ => by kernel_rfl
 | 48, _ => by kernel_rfl
 | 49, _ => by kernel_rfl
 | 50, _ => by kernel_rfl
 | 51, _ => by kernel_rfl
 | 52, _ => by kernel_rfl
 | 53, _ => by kernel_rfl
 | 54, _ => by kernel_rfl
 | 55, _ => by kernel_rfl
 | 56, _ => by kernel_rfl
 | 57, _ => by kernel_rfl
 | 58, _ => by kernel_rfl
 | 59, _ => by kernel_rfl
 | 60, _ => by kernel_rfl
 | 61, _ => by kernel_rfl
 | 62, _ => by kernel_rfl
 | 63, _ => by kernel_rfl
 | n + 64, h => absurd h (by omega)
theorem byt_app {l m : List Int} (h : Byt l) (k : Byt m) : Byt (l ++ m) := fun n hn => by
 rcases List.mem_append.1 hn with h1 | h1
 · exact h n h1
 · exact k n h1
theorem sumsI_byt (A B at_ : Int) : Byt (sumsI A B at_) := by
 unfold sumsI
 exact byt_app (byt_app (byt_app (byt_app (byt_app (byt_app (byt_app (byt_app (byt_app (byt_app (insn_byt _ _ _) (insn_byt _ _ _)) (insn_byt _ _ _)) (insn_byt _ _ _)) (insn_byt _ _ _)) (insn_byt _ _ _)) (insn_byt _ _ _)) (insn_byt _ _ _)) (insn_byt _ _ _)) (insn_byt _ _ _)) (insn_byt _ _ _)
def regl (x : PS) : List Value := (List.range 8).map fun i => .int .u16 (x.r i)
theorem ext_regl (b : Nat) (x : PS) (junk : List Value) : ((heads [(b, x)] ++ junk).toArray.extract 7 (7 + 8)) = (regl x).toArray := by
 simp only [List.extract_toArray, List.extract_eq_take_drop]
 rfl
theorem regl_at (x : PS) {i : Nat} (hi : i < 8) : (regl x)[i]? = some (.int .u16 (x.r i)) := by
 unfold regl
 rw [List.getElem?_map, List.getElem?_range hi]; rfl
theorem mems_at (x : PS) (junk : List Value) {i : Nat} (hi : i < 64) : (mems x ++ junk)[i]? = some (.int .u8 (x.m i)) := by
 unfold mems
 rw [List.getElem?_append_left (by simpa using hi), List.getElem?_map, List.getElem?_range hi]; rfl
theorem slOk_some {a : Sl} {xs : List Value} {e : TypeId} {L : Frag} (h : slOk a xs e L) (hn : 0 < xs.length) : ∃ g, a.b = some g := by
 cases hab : a.b with
 | some g => exact ⟨g, rfl⟩
 | none =>
   unfold slOk at h
   rw [hab] at h
   rw [h.1] at hn
   cases hn
section
variable {P : Program} {N : Nat} {ε : Env} {L : Frag} {d : Option Tmp} {ty : TypeId} {ps : String} {af : Array Edge} {g : Option (Nat × Bool)} {x y : Operand} {t u : TypeId}
theorem and255 {a : Int} (h : 0 ≤ a ∧ a < 65536) : IntKind.u16.wrap ((BitVec.ofInt 16 a &&& BitVec.ofInt 16 255).toNat : Nat) = a % 256 := by
 obtain ⟨m, rfl⟩ := Int.eq_ofNat_of_zero_le h.1
 have hm : m < 65536 := by omega
 have e2 : (BitVec.ofInt 16 (m : Int)).toNat = m := by simp [BitVec.toNat_ofInt]; omega
 have e3 : (BitVec.ofInt 16 255).toNat = 2 ^ 8 - 1 := by decide
 rw [BitVec.toNat_and, e2, e3, Nat.and_two_pow_sub_one_eq_mod, wrap_u16]
 omega
theorem E_and255 {a : Int} (hx : ev ε x = some (.int .u16 a) := by rfl) (hy : ev ε y = some (.int .u16 255) := by rfl) (h : 0 ≤ a ∧ a < 65536) : EY P N ε L ⟨d, .binOp .and t x y u, ty, ps, af, g⟩ (.int .u16 (a % 256)) := fun _ ha => by
 refine y_bin (ha.ev hx) (ha.ev hy) ?_
 rw [← and255 h]
 rfl
end
theorem i64c {c : Int} (h : 0 ≤ c ∧ c < 100 := by decide) : I64 c := ⟨by omega, by omega⟩
set_option maxHeartbeats 1000000 in
theorem sums_x : ∃ k, ∀ {Fin : Value → World → Prop} {W : World} {O : Nat} (A B c : Int) (L : Frag) (eb : Nat → Nat × Nat), 0 ≤ A ∧ A < 65536 → 0 ≤ B ∧ B < 65536 → I64 c → Fun L → Ers eb L →
   CallsL (F := FZ Tryz.prog Fin) (fun s => dom0 (Shs s.2) W O) Tryz.prog true 4 [.int .u16 A, .int .u16 B, .int .i64 c].toArray k (2, []) L (fun s' v L' => s'.1 = 0 ∧ v = .bool true) := by
 obtain ⟨n1, gpick⟩ := pick_s
 obtain ⟨n2, gi⟩ := insn_s
 obtain ⟨n3, gc⟩ := config_s
 obtain ⟨n4, gk⟩ := kernel_s
 obtain ⟨n5, gr⟩ := run_s
 obtain ⟨n6, gp⟩ := procs_s
 obtain ⟨n7, gm⟩ := memory_s
 apply Exists.intro
 intro Fin W O A B c L eb hA hB hc hF hE
 have hN : ∀ (s : Nat × List Nat) (o : Obj), (dom0 (Shs s.2) W O).New o := fun _ _ => trivial
 have wA : IntKind.i64.wrap A = A := by simp [IntKind.wrap_i64]; omega
 have wB : IntKind.i64.wrap B = B := by simp [IntKind.wrap_i64]; omega
 generalize hn : pickN c 64 = n
 have hn64 : n < 64 := by rw [← hn]; exact pickN_lt c (by decide)
 co_applyP callsE 170 Tryz.func4 Tryz.ntmps4
 co_applyP c_seq
 co_applyP c_region
 co_applyP oy rfl E_as
 co_applyP o_nil
 change wpE ..
 co_applyP c_seq
 co_applyP c_region
 co_applyP oy rfl E_mv
 co_applyP oc rfl rfl rfl (gpick L c 64 hc (by decide))
 rintro _ _ _ ⟨rfl, rfl, rfl⟩
 rw [hn]
 co_applyP oy rfl E_as
 co_applyP o_nil
 change wpE ..
 co_applyP c_seq
 co_applyP c_region
 co_applyP oy rfl E_mv
 co_applyP oy rfl (E_cv (hs := Tryz.underlying32) (ht := Tryz.underlying3))
 rw [wA]
 co_applyP oc rfl rfl rfl (gi L 1 1 A hN hF)
 rintro _ _ _ ⟨rfl, rfl, hE1⟩
 co_applyP oy rfl E_mv
 co_applyP oy rfl (E_cv (hs := Tryz.underlying32) (ht := Tryz.underlying3))
 rw [wB]
 co_applyP oc rfl rfl rfl (gi _ 1 2 B hN hE1.f)
 rintro _ _ _ ⟨rfl, rfl, hE2⟩
 co_applyP oy rfl E_sadd
 co_applyP oc rfl rfl rfl (gi _ 2 3 1 hN hE2.f)
 rintro _ _ _ ⟨rfl, rfl, hE3⟩
 co_applyP oy rfl E_sadd
 co_applyP oc rfl rfl rfl (gi _ 3 3 2 hN hE3.f)
 rintro _ _ _ ⟨rfl, rfl, hE4⟩
 co_applyP oy rfl E_sadd
 co_applyP oc rfl rfl rfl (gi _ 2 4 1 hN hE4.f)
 rintro _ _ _ ⟨rfl, rfl, hE5⟩
 co_applyP oy rfl E_sadd
 co_applyP oc rfl rfl rfl (gi _ 4 4 2 hN hE5.f)
 rintro _ _ _ ⟨rfl, rfl, hE6⟩
 co_applyP oy rfl E_sadd
 co_applyP oy rfl E_mv
 co_applyP oc rfl rfl rfl (gi _ 1 5 (n : Nat) hN hE6.f)
 rintro _ _ _ ⟨rfl, rfl, hE7⟩
 co_applyP oy rfl E_sadd
 co_applyP oc rfl rfl rfl (gi _ 8 1 5 hN hE7.f)
 rintro _ _ _ ⟨rfl, rfl, hE8⟩
 co_applyP oy rfl E_sadd
 co_applyP oc rfl rfl rfl (gi _ 7 6 5 hN hE8.f)
 rintro _ _ _ ⟨rfl, rfl, hE9⟩
 co_applyP oy rfl E_sadd
 co_applyP oc rfl rfl rfl (gi _ 1 5 64 hN hE9.f)
 rintro _ _ _ ⟨rfl, rfl, hE10⟩
 co_applyP oy rfl E_sadd
 co_applyP oc rfl rfl rfl (gi _ 7 7 5 hN hE10.f)
 rintro _ _ _ ⟨rfl, rfl, hE11⟩
 co_applyP oy rfl E_sadd
 co_applyP oy rfl E_as
 co_applyP o_nil
 change wpE ..
 co_applyP c_seq
 co_applyP c_region
 co_applyP ocm rfl rfl rfl (gc _ 1 2 3 50 hN hE11.f i64c i64c i64c i64c)
 rintro _ _ _ ⟨rfl, rfl, hE12⟩
 co_applyP oy rfl E_mv
 rename_i L12
 have hX : Ext L L12 := ((((((((((((Ext.mk hF fun _ h => h).trans hE1).trans hE2).trans hE3).trans hE4).trans hE5).trans hE6).trans hE7).trans hE8).trans hE9).trans hE10).trans hE11).trans hE12
 clear hE1 hE2 hE3 hE4 hE5 hE6 hE7 hE8 hE9 hE10 hE11 hE12
 have hER : Ers eb L12 := hE.mono hX.s
 have hok := okc_cfg 1 2 3 50
 have hoi : oki (sumsI A B (n : Nat)).length = true := by rw [show (sumsI A B (n : Nat)).length = 44 from rfl]; rfl
 co_applyP oc rfl rfl rfl (gk L12 (cfgf 1 2 3) (cfgb 50) (sumsI A B (n : Nat)) hN hX.f (sumsI_byt _ _ _) hok hoi)
 rintro _ _ _ ⟨rfl, K, A0, b0, rfl, hR0⟩
 co_applyP oy rfl E_as
 co_applyP o_nil
 change wpE ..
 co_applyP c_seq
 co_applyP c_seq
 co_applyP c_region
 co_applyP oy rfl E_mv
 co_applyP oy rfl (E_eqn (hu := Tryz.underlying35))
 co_applyP o_nil
 change wpE ..
 co_applyP c_false rfl
 co_applyP c_skip
 change wpE ..
 co_applyP c_seq
 co_applyP c_region
 co_applyP oy rfl E_mv
 have hAb0 := fresh_Ab (b := b0) hok hoi (sumsI_byt A B (n : Nat))
 obtain ⟨hr1, hr2⟩ := Prod.mk.inj (sums_r A B n hn64)
 obtain ⟨hr2, hr3⟩ := Prod.mk.inj hr2
 obtain ⟨hr3, hr4⟩ := Prod.mk.inj hr3
 change ((St.runs 10 (St.fresh (cfgf 1 2 3) (cfgb 50) (sumsI A B (n : Nat)) 1)).ps.map _) = _ at hr1
 change (St.evs 10 (St.fresh (cfgf 1 2 3) (cfgb 50) (sumsI A B (n : Nat)) 1)).length = 10 at hr2
 co_applyP oc rfl rfl rfl (gr 1 [] K A0 _ _ L12 _ eb 10 hR0 hER hAb0 (by decide) (by show (0 : Nat) < _; decide))
 rintro _ _ _ ⟨N1, told, A1, S1, rfl, rfl, hAb1, hR1, hH1⟩
 rename_i L13
 obtain ⟨Nm, hTI, hmap⟩ := hAb1.ex
 have h1' : S1.ps.map (fun q => (q.2.r 3, q.2.r 4, q.2.r 6, q.2.m n, q.2.at_)) = [((k16 A + k16 B) % 65536, (k16 A - k16 B) % 65536, k16 A % 256, k16 A % 256, 10)] := by
   rw [hmap] at hr1
   simpa [St.map, Function.comp_def] using hr1
 obtain ⟨⟨b, x⟩, hps⟩ : ∃ q, S1.ps = [q] := List.length_eq_one_iff.1 (by simpa using congrArg List.length h1')
 rw [hps] at h1'
 simp only [List.map_cons, List.map_nil, List.cons.injEq, Prod.mk.injEq, and_true] at h1'
 obtain ⟨e3, e4, e6, em, ea⟩ := h1'
 rw [k16_id hA, k16_id hB] at e3 e4
 rw [k16_id hA] at e6 em
 have hid : x.id = 1 := by
   obtain ⟨q, hq, h⟩ := hTI.m.x.p1
   rw [hps] at hq
   rw [List.mem_singleton.1 hq] at h
   exact h
 have hfind : S1.find 1 = some (b, x) := by unfold St.find; rw [hps]; simp [hid]
 rcases hH1 with ⟨_, h0⟩ | ⟨tg, tcap, tcur, rfl, _, _, _, _, _⟩
 · rw [h0] at hr2; cases hr2
 rw [hr2]
 co_applyP oy rfl E_mv
 co_applyP oy rfl E_ext
 co_applyP oy rfl E_ext
 co_applyP oy rfl E_as
 co_applyP oy rfl E_as
 co_applyP o_nil
 change wpE ..
 co_applyP c_seq
 co_applyP c_region
 co_applyP oy rfl E_mv
 co_applyP oc rfl rfl rfl (gp K A1 S1 L12 L13 hN hR1)
 rintro _ _ _ ⟨rfl, a, rfl, ha, han, hEp⟩
 rename_i L14
 have hR2 := hR1.ext hEp
 obtain ⟨ag, hag⟩ := slOk_some ha (by rw [heads_len, hps]; exact Nat.succ_pos _)
 have er1 : rowv a 15 S1.ps.length = .slice (some ⟨ag, 0, none⟩) 1 (1 + a.junk.length / 15) := by unfold rowv; rw [hag, hps]; rfl
 rw [er1]
 co_applyP oy rfl E_as
 co_applyP o_nil
 change wpE ..
 co_applyP c_seq
 co_applyP c_region
 co_applyP oy rfl E_mv
 co_applyP oc rfl rfl rfl (gm K A1 S1 L12 L14 1 b x hN hR2 hfind)
 rintro _ _ _ ⟨rfl, a2, rfl, ha2, han2, hEm⟩
 rename_i L15
 obtain ⟨am, ham⟩ := slOk_some ha2 (by simp [mems])
 have er2 : rowv a2 1 64 = .slice (some ⟨am, 0, none⟩) 64 (64 + a2.junk.length / 1) := by unfold rowv; rw [ham]
 rw [er2]
 have hR3 := hR2.ext hEm
 have hpm : (ag, true, Obj.cells (heads [(b, x)] ++ a.junk).toArray 49) ∈ L15 := by
   have := hEm.s _ (ha.mem hag)
   rw [hps] at this
   exact this
 co_applyP oy rfl E_mv
 co_applyP oy rfl E_ext
 co_applyP oy rfl E_ext
 co_applyP oy rfl E_as
 co_applyP oy rfl E_as
 co_applyP o_nil
 change wpE ..
 co_applyP c_seq
 co_applyP c_seq
 co_applyP c_region
 co_applyP oy rfl E_mv
 co_applyP oy rfl E_neq
 co_applyP oy rfl E_mv
 co_applyP oy rfl (E_mv)
 co_applyP oy rfl (E_neq)
 co_applyP oy rfl E_pick
 co_applyP oy rfl E_mv
 co_applyP oy rfl (E_mv)
 co_applyP oy rfl ((E_len (hu := Tryz.underlying38)))
 co_applyP oy rfl (E_neq)
 co_applyP oy rfl E_pick
 co_applyP oy rfl E_mv
 co_applyP oy rfl (E_mv)
 co_applyP oy rfl ((E_len (hu := Tryz.underlying42)))
 co_applyP oy rfl (E_neq)
 co_applyP oy rfl E_pick
 co_applyP oy rfl E_mv
 co_applyP oy rfl (E_mv)
 co_applyP oy rfl ((E_len (hu := Tryz.underlying44)))
 co_applyP oy rfl (E_neq)
 co_applyP oy rfl E_pick
 co_applyP o_nil
 change wpE ..
 co_applyP c_false rfl
 co_applyP c_skip
 change wpE ..
 co_applyP c_seq
 co_applyP c_region
 co_applyP oy rfl E_mv
 co_applyP oy rfl (E_ixs Tryz.underlying42 sz_49)
 co_applyP oy rfl (E_fa (hf := fo_49_7))
 co_applyP oy rfl (E_lda (ht := ag_47) (hs := sz_47) (hm := hpm) (hi := by rw [List.size_toArray, List.length_append, heads_len]; show 7 + 8 ≤ 1 * 15 + _; omega))
 rw [show (0 + 7 : Nat) = 7 from rfl, ext_regl]
 co_applyP oadd rfl (O_new (z := .agg #[.int .u16 0, .int .u16 0, .int .u16 0, .int .u16 0, .int .u16 0, .int .u16 0, .int .u16 0, .int .u16 0]) (hN _ _))
 intro xr L16 hAd
 co_applyP oeN rfl (fun hnd => O_sa (hs := sz_47) (vs := regl x) (hnd := hnd) (hm := hAd.self) (hi := Nat.le_refl _))
 rintro _ L17 ⟨rfl, hU⟩
 have hputs : puts #[Value.int .u16 0, .int .u16 0, .int .u16 0, .int .u16 0, .int .u16 0, .int .u16 0, .int .u16 0, .int .u16 0] 0 (regl x) = (regl x).toArray := by
   rw [puts_list _ _ _ (Nat.le_refl _)]
   rfl
 have hU' : Upd L16 xr (.cells (regl x).toArray 47) L17 := by rw [← hputs]; exact hU
 have hE17 : Ext L15 L17 := ⟨hU'.fn, fun t ht => hU'.ne _ (hAd.sub _ ht) (hAd.new _ ht)⟩
 have hx3 : At L17 xr 3 (.int .u16 (x.r 3)) := ⟨true, _, _, _, hU'.self, by rw [List.getElem?_toArray]; exact regl_at x (i := 3) (by decide)⟩
 have hx4 : At L17 xr 4 (.int .u16 (x.r 4)) := ⟨true, _, _, _, hU'.self, by rw [List.getElem?_toArray]; exact regl_at x (i := 4) (by decide)⟩
 have hx6 : At L17 xr 6 (.int .u16 (x.r 6)) := ⟨true, _, _, _, hU'.self, by rw [List.getElem?_toArray]; exact regl_at x (i := 6) (by decide)⟩
 have hxm : At L17 am n (.int .u8 (x.m n)) := ⟨true, _, _, _, hE17.s _ (ha2.mem ham), by rw [List.getElem?_toArray]; exact mems_at x _ hn64⟩
 have hxa : At L17 ag 4 (.int .i64 (x.at_ : Nat)) := ⟨true, _, _, _, hE17.s _ hpm, rfl⟩
 rw [e3] at hx3
 rw [e4] at hx4
 rw [e6] at hx6
 rw [em] at hxm
 rw [ea] at hxa
 have hR4 := hR3.ext hE17
 have q3 : (((A + B) % 65536) != IntKind.u16.wrap (A + B)) = false := by rw [wrap_u16]; simp
 have q4 : (((A - B) % 65536) != IntKind.u16.wrap (A - B)) = false := by rw [wrap_u16]; simp
 have q6 : ((A % 256) != (A % 256)) = false := by simp
 have q7 : ((A % 256) != IntKind.u8.wrap A) = false := by rw [wrap_u8]; simp
 co_applyP o_nil
 change wpE ..
 co_applyP c_seq
 co_applyP c_seq
 co_applyP c_region
 co_applyP oy rfl (E_ixa Tryz.underlying47 sz_32)
 co_applyP oy rfl (E_ld (ht := ag_32) (hv := hx3))
 co_applyP oy rfl E_mv
 co_applyP oy rfl E_mv
 co_applyP oy rfl E_add
 co_applyP oy rfl E_neq
 co_applyP oy rfl E_mv
 rw [q3]
 co_applyP oy rfl ((E_ixa Tryz.underlying47 sz_32))
 co_applyP oy rfl (E_ld (ht := ag_32) (hv := hx4))
 co_applyP oy rfl (E_mv)
 co_applyP oy rfl (E_mv)
 co_applyP oy rfl (E_sub)
 co_applyP oy rfl (E_neq)
 co_applyP oy rfl E_pick
 co_applyP oy rfl E_mv
 rw [q4]
 co_applyP oy rfl ((E_ixa Tryz.underlying47 sz_32))
 co_applyP oy rfl (E_ld (ht := ag_32) (hv := hx6))
 co_applyP oy rfl (E_mv)
 co_applyP oy rfl (E_and255 (h := hA))
 co_applyP oy rfl (E_neq)
 co_applyP oy rfl E_pick
 co_applyP oy rfl E_mv
 rw [q6]
 co_applyP oy rfl (E_mv)
 co_applyP oy rfl (E_mv)
 co_applyP oy rfl ((E_ixs Tryz.underlying44 sz_5))
 co_applyP oy rfl (E_ld (ht := ag_5) (hv := hxm))
 co_applyP oy rfl (E_mv)
 co_applyP oy rfl ((E_cv (hs := Tryz.underlying32) (ht := Tryz.underlying5)))
 co_applyP oy rfl (E_neq)
 co_applyP oy rfl E_pick
 co_applyP oy rfl E_mv
 rw [q7]
 co_applyP oy rfl (E_mv)
 co_applyP oy rfl ((E_ixs Tryz.underlying42 sz_49))
 co_applyP oy rfl ((E_fa (hf := fo_49_4)))
 co_applyP oy rfl (E_ld (ht := ag_3) (hv := hxa))
 co_applyP oy rfl (E_neq)
 co_applyP oy rfl E_pick
 co_applyP o_nil
 change wpE ..
 co_applyP c_false rfl
 co_applyP c_skip
 change wpE ..
 co_applyP c_seq
 co_applyP c_region
 co_applyP oy rfl E_mv
 have hAb2 : Ab S1 (St.runs 10 (St.fresh (cfgf 1 2 3) (cfgb 50) (sumsI A B (n : Nat)) 1)) := hAb1
 have hnow : S1.now < 1152921504606846976 := by
   have h1 := hAb1.now
   have h2 := runs_le 10 (St.fresh (cfgf 1 2 3) (cfgb 50) (sumsI A B (n : Nat)) 1)
   have h3 : (St.fresh (cfgf 1 2 3) (cfgb 50) (sumsI A B (n : Nat)) 1).now = 0 := rfl
   omega
 change (St.evs 5 (St.runs 10 (St.fresh (cfgf 1 2 3) (cfgb 50) (sumsI A B (n : Nat)) 1))) = _ at hr4
 change ((St.runs 5 (St.runs 10 (St.fresh (cfgf 1 2 3) (cfgb 50) (sumsI A B (n : Nat)) 1))).ps.map _) = _ at hr3
 co_applyP oc rfl rfl rfl (gr 0 [N1] K A1 _ _ L12 _ eb 5 hR4 hER hAb2 (by decide) hnow)
 rintro _ _ _ ⟨N2, told, A2, S2, rfl, rfl, hAb3, hR5, hH2⟩
 rename_i L18
 rw [hr4] at hH2
 rcases hH2 with ⟨_, h0⟩ | ⟨tg2, tcap2, tcur2, rfl, htg, _, _, htz, htc⟩
 · cases h0
 have ht5 : At L18 tg2 5 (.int .i64 4) := ⟨true, _, _, _, htg, by
   have h5 : (tcur2.toList.take 8)[5]? = some (.int .i64 4) := by
     have : tcur2.toList.take 8 = _ := htc
     rw [this]; rfl
   rw [List.getElem?_take_of_lt (by decide)] at h5
   simpa using h5⟩
 have ht7 : At L18 tg2 7 (.int .i64 65281) := ⟨true, _, _, _, htg, by
   have h5 : (tcur2.toList.take 8)[7]? = some (.int .i64 65281) := by
     have : tcur2.toList.take 8 = _ := htc
     rw [this]; rfl
   rw [List.getElem?_take_of_lt (by decide)] at h5
   simpa using h5⟩
 obtain ⟨Nm2, hTI2, hmap2⟩ := hAb3.ex
 have h3' : S2.ps.map (fun q => (q.2.st, q.2.at_)) = [(6, 10)] := by
   rw [hmap2] at hr3
   simpa [St.map, Function.comp_def] using hr3
 obtain ⟨⟨b2, x2⟩, hps2⟩ : ∃ q, S2.ps = [q] := List.length_eq_one_iff.1 (by simpa using congrArg List.length h3')
 rw [hps2] at h3'
 simp only [List.map_cons, List.map_nil, List.cons.injEq, Prod.mk.injEq, and_true] at h3'
 obtain ⟨es2, ea2⟩ := h3'
 co_applyP oy rfl E_mv
 co_applyP oy rfl E_ext
 co_applyP oy rfl E_ext
 co_applyP oy rfl E_as
 co_applyP oy rfl E_as
 co_applyP o_nil
 change wpE ..
 co_applyP c_seq
 co_applyP c_region
 co_applyP oy rfl E_mv
 co_applyP oc rfl rfl rfl (gp K A2 S2 L12 L18 hN hR5)
 rintro _ _ _ ⟨rfl, a3, rfl, ha3, han3, hEp3⟩
 rename_i L19
 obtain ⟨ag3, hag3⟩ := slOk_some ha3 (by rw [heads_len, hps2]; exact Nat.succ_pos _)
 have er3 : rowv a3 15 S2.ps.length = .slice (some ⟨ag3, 0, none⟩) 1 (1 + a3.junk.length / 15) := by unfold rowv; rw [hag3, hps2]; rfl
 rw [er3]
 have hpm3 : (ag3, true, Obj.cells (heads [(b2, x2)] ++ a3.junk).toArray 49) ∈ L19 := by
   have := ha3.mem hag3
   rw [hps2] at this
   exact this
 have hy2 : At L19 ag3 2 (.int .i64 (x2.st : Nat)) := ⟨true, _, _, _, hpm3, rfl⟩
 have hy4 : At L19 ag3 4 (.int .i64 (x2.at_ : Nat)) := ⟨true, _, _, _, hpm3, rfl⟩
 have ht5' := hEp3.at ht5
 have ht7' := hEp3.at ht7
 rw [es2] at hy2
 rw [ea2] at hy4
 co_applyP oy rfl E_as
 co_applyP o_nil
 change wpE ..
 co_applyP c_seq
 co_applyP c_region
 co_applyP oy rfl E_mv
 co_applyP oy rfl E_eql
 co_applyP oy rfl E_mv
 co_applyP oy rfl (E_mv)
 co_applyP oy rfl ((E_len (hu := Tryz.underlying38)))
 co_applyP oy rfl (E_eql)
 co_applyP oy rfl E_pick
 co_applyP oy rfl E_mv
 co_applyP oy rfl (E_mv)
 co_applyP oy rfl ((E_ixs Tryz.underlying38 sz_51))
 co_applyP oy rfl ((E_fa (hf := fo_51_1)))
 co_applyP oy rfl (E_ld (ht := ag_3) (hv := ht5'))
 co_applyP oy rfl (E_eql)
 co_applyP oy rfl E_pick
 co_applyP oy rfl E_mv
 co_applyP oy rfl (E_mv)
 co_applyP oy rfl ((E_ixs Tryz.underlying38 sz_51))
 co_applyP oy rfl ((E_fa (hf := fo_51_3)))
 co_applyP oy rfl (E_ld (ht := ag_3) (hv := ht7'))
 co_applyP oy rfl (E_eql)
 co_applyP oy rfl E_pick
 co_applyP oy rfl E_mv
 co_applyP oy rfl (E_mv)
 co_applyP oy rfl ((E_len (hu := Tryz.underlying42)))
 co_applyP oy rfl (E_eql)
 co_applyP oy rfl E_pick
 co_applyP oy rfl E_mv
 co_applyP oy rfl (E_mv)
 co_applyP oy rfl ((E_ixs Tryz.underlying42 sz_49))
 co_applyP oy rfl ((E_fa (hf := fo_49_2)))
 co_applyP oy rfl (E_ld (ht := ag_3) (hv := hy2))
 co_applyP oy rfl (E_eql)
 co_applyP oy rfl E_pick
 co_applyP oy rfl E_mv
 co_applyP oy rfl (E_mv)
 co_applyP oy rfl ((E_ixs Tryz.underlying42 sz_49))
 co_applyP oy rfl ((E_fa (hf := fo_49_4)))
 co_applyP oy rfl (E_ld (ht := ag_3) (hv := hy4))
 co_applyP oy rfl (E_eql)
 co_applyP oy rfl E_pick
 co_applyP oy rfl E_as
 co_applyP o_nil
 change wpE ..
 co_applyP c_ret
 change ∃ v, resE .. = some v ∧ _
 exact ⟨_, rfl, rfl, rfl⟩
end Go.Proofs.YtejkelcaljmnoaaGreatDoor
