/-
  Part 12 of the proof.
  No condition but those that each statement names.
-/
import Derived.Test.YtejkelcaljmnoaaGreatDoorHy11
import Derived.Conc.LeavingOf
import Derived.JoinedOf
import Derived.RowKit
import Derived.RowKitTokens
import Derived.Stop.Joined
import Derived.Carry
import Derived.Deep.Slices
import Derived.Test.YtejkelcaljmnoaaGreatDoorHy09
import Derived.Test.YtejkelcaljmnoaaGreatDoorHy10
import Derived.Test.YtejkelcaljmnoaaGreatDoorHy05
import Derived.Test.YtejkelcaljmnoaaGreatDoorHy03
set_option maxRecDepth 100000
set_option maxHeartbeats 4000000
set_option linter.unusedVariables false
set_option linter.unusedSimpArgs false
set_option linter.unusedSectionVars false
namespace Go.Proofs.YtejkelcaljmnoaaGreatDoor
open Go.ChangeShapes Go.WideShapes Go.RowKit Go.Conc Go.ConcX Go.Hx Go.Lo
section
variable {H : Type} {enc : TypeId × Value → H}
theorem fi {a : Assume} {C : Checked} {os : Os} {f : FuncId} {fn : Func} {s : ChangeSpec} {conds : List PathCond} {apart fresh handsOn again : Bool} {X : World → Array Value → Prop}
   (hX : ∀ (w w' : World) (args : Array Value), w.heap = w'.heap → X w args → X w' args)
   (own : ownKnob C.prog.godebug = none) (started : os.Started) (hfn : C.prog.funcs[f]? = some fn)
   (witness : ∃ (w : World) (tape : Tape) (i : Input), w.os = os ∧ (w.forCall tape i).Shaped C.prog ∧ i.vars = [] ∧ Input.okWide C.prog (w.forCall tape i) .any w.heap.size f i ∧
     ((s.pre enc C.prog fn conds apart (w.forCall tape i).memory i.args ∧ X (w.forCall tape i).memory i.args) ∧ sizedMet enc C.prog fn (OpenSpec.ofChange s) apart (w.forCall tape i).memory i.args) ∧ a.holds C.prog (lone (Frame.enter C.prog f i.args .normal) [] (w.forCall tape i)))
   (runs : ∀ (W : World) (base : Nat) (args : Array Value) (ds gs : List (DataW H)) (before : List MemPlace), W.ShapedOpen C.prog →
     (∀ (j : Nat) t v, fn.params[j]? = some t → args[j]? = some v → Value.okWide C.prog W .any base t v) →
     DataW.Whole enc C.prog fn.params.toList s.vars apart W args.toList ds gs before → X W args →
     ∃ M last o w' t', runNT C.prog (M + 1) (solo (G (Frame.enter C.prog f args .normal) []) W) #[] = (.ended o w', t') ∧ runN C.prog M (solo (G (Frame.enter C.prog f args .normal) []) W) = .next last ∧
       step C.prog last = .ended o w' ∧ Conc.Good C.prog (fun v W' => s.post enc C.prog fn apart fresh handsOn again W args v W') last o w' t') :
   ReturnsInLeavingWide a C os f .any (fun w args => (s.pre enc C.prog fn conds apart w args ∧ X w args) ∧ sizedMet enc C.prog fn (OpenSpec.ofChange s) apart w args) (s.post enc C.prog fn apart fresh handsOn again) := by
 refine returnsInLeavingWide_of_good own started witness ?_;intro w tape i _ hso _ hok hpre hholds;obtain ⟨_, _, _, fn', hfn', _, _, _, _, hval⟩ := hok;have e : fn' = fn := Option.some.inj (hfn'.symm.trans hfn);subst e;obtain ⟨⟨⟨ds, gs, before, hw, hc⟩, hx⟩, hz⟩ := hpre;have hw' := DataW.Whole.of_heap (w' := w.forCall tape i) (by rfl) hw;obtain ⟨M, last, o, w', t', h1, h2, h3, h4⟩ := runs (w.forCall tape i) w.heap.size i.args ds gs before hso hval hw' (hX _ _ _ (by rfl) hx);exact ⟨M, last, o, w', t', h1, h2, h3, h4.mono fun v hp => ChangeSpec.post_blind hp⟩
end
abbrev tx0 : ByteArray := { data := #[116, 104, 101, 114, 101, 32, 105, 115, 32, 110, 111, 32, 115, 117, 99, 104, 32, 105, 110, 115, 116, 114, 117, 99, 116, 105, 111, 110] }
abbrev tx1 : ByteArray := { data := #[116, 104, 101, 114, 101, 32, 105, 115, 32, 110, 111, 32, 115, 117, 99, 104, 32, 111, 112, 101, 114, 97, 116, 111, 114] }
abbrev tx2 : ByteArray := { data := #[116, 104, 101, 114, 101, 32, 105, 115, 32, 110, 111, 32, 115, 117, 99, 104, 32, 98, 121, 116, 101, 32, 111, 102, 32, 109, 101, 109, 111, 114, 121] }
abbrev tx3 : ByteArray := { data := #[110, 111, 32, 115, 117, 99, 104, 32, 102, 105, 108, 101, 44, 32, 111, 114, 32, 110, 111, 116, 32, 111, 102, 32, 116, 104, 97, 116, 32, 107, 105, 110, 100] }
abbrev tx4 : ByteArray := { data := #[116, 104, 101, 114, 101, 32, 105, 115, 32, 110, 111, 32, 114, 111, 111, 109, 32, 102, 111, 114, 32, 111, 110, 101, 32, 109, 111, 114, 101] }
abbrev tx5 : ByteArray := { data := #[116, 104, 101, 114, 101, 32, 105, 115, 32, 110, 111, 32, 99, 104, 105, 108, 100] }
abbrev tx6 : ByteArray := { data := #[116, 104, 101, 114, 101, 32, 105, 115, 32, 110, 111, 32, 115, 117, 99, 104, 32, 112, 114, 111, 99, 101, 115, 115] }
abbrev tx7 : ByteArray := { data := #[110, 111, 98, 111, 100, 121, 32, 99, 97, 110, 32, 114, 101, 97, 100, 32, 116, 104, 97, 116] }
abbrev tx8 : ByteArray := { data := #[109, 101, 109, 111, 114, 121, 32, 116, 104, 97, 116, 32, 116, 104, 101, 114, 101, 32, 105, 115, 32, 110, 111, 116] }
abbrev tx9 : ByteArray := { data := #[110, 111, 32, 115, 117, 99, 104, 32, 99, 97, 108, 108, 44, 32, 111, 114, 32, 110, 111, 116, 32, 119, 105, 116, 104, 32, 116, 104, 97, 116] }
noncomputable def low : Nat := (World.holding Tryz.prog default ⟨#[], #[], []⟩).heap.size
def lay (h : Array Obj) (g : Nat) (v : Value) : Array Obj := h.modify g fun
 | .cells _ t frozen => .cells #[v] t frozen
 | o => o
noncomputable def laidWorld (os : Os) : World :=
 let w0 := World.holding Tryz.prog os ⟨#[.cells #[.string tx0] 275, .cells #[.string tx1] 275, .cells #[.string tx2] 275, .cells #[.string tx3] 275, .cells #[.string tx4] 275, .cells #[.string tx5] 275, .cells #[.string tx6] 275, .cells #[.string tx7] 275, .cells #[.string tx8] 275, .cells #[.string tx9] 275], #[], []⟩
 { w0 with heap := lay (lay (lay (lay (lay (lay (lay (lay (lay (lay (lay (w0.heap) 0 (.iface 255 (.pointer (some ⟨low + 0, 0, none⟩)))) 1 (.iface 255 (.pointer (some ⟨low + 1, 0, none⟩)))) 10 (.iface 255 (.pointer (some ⟨low + 2, 0, none⟩)))) 3 (.iface 255 (.pointer (some ⟨low + 3, 0, none⟩)))) 4 (.iface 255 (.pointer (some ⟨low + 4, 0, none⟩)))) 5 (.iface 255 (.pointer (some ⟨low + 5, 0, none⟩)))) 6 (.iface 255 (.pointer (some ⟨low + 6, 0, none⟩)))) 7 (.iface 255 (.pointer (some ⟨low + 7, 0, none⟩)))) 8 (.iface 255 (.pointer (some ⟨low + 8, 0, none⟩)))) 9 (.iface 255 (.pointer (some ⟨low + 9, 0, none⟩)))) 2 (rty 168) }
theorem kZ (os : Os) (args : Array Value) : laidMetH Tryz.prog Rows.sumsRow.laid ((laidWorld os).forCall (fun _ _ => 0) ⟨#[], args, []⟩).memory :=
 laidMetH_of_parts (laidMet_of_run (ps := [.cell 0 0, .cell (low + 0) 0, .cell 1 0, .cell (low + 1) 0, .cell 10 0, .cell (low + 2) 0, .cell 3 0, .cell (low + 3) 0, .cell 4 0, .cell (low + 4) 0, .cell 5 0, .cell (low + 5) 0, .cell 6 0, .cell (low + 6) 0, .cell 7 0, .cell (low + 7) 0, .cell 8 0, .cell (low + 8) 0, .cell 9 0, .cell (low + 9) 0]) 8 (by kernel_rfl) (by kernel_rfl) (by kernel_rfl)) (by kernel_rfl)
theorem fg {n : Int} (h : (Lit.int .i64 n).wf = true) : I64 n := by
 simp [Lit.wf, IntKind.min, IntKind.max, IntKind.signed, IntKind.bits] at h;unfold I64;omega
end Go.Proofs.YtejkelcaljmnoaaGreatDoor
namespace Go.Proofs.YtejkelcaljmnoaaGreatDoor
open Go.ChangeShapes Go.WideShapes Go.WideElems Go.RowKit Go.Conc Go.ConcX Go.Hx Go.Lo
section
variable {H : Type} {enc : TypeId × Value → H} {P : Program}
theorem lJ (hl : laidOutB P = true) {W W' : World} (hb : Below W.heap.size W W') :
   ∀ {ts : List TypeId} {vs : List Value} {ds : List (DataW H)} {ps : List MemPlace}, (∀ t ∈ ts, P.readableRec t = true ∧ t < P.types.size) → DataW.TrodAll enc P W 0 (fun _ => true) true ts vs ds ps → DataW.TrodAll enc P W' 0 (fun b => decide (b < W.heap.size)) true ts vs ds ps
 | [], [], [], _, _, h => h
 | [], [], _ :: _, _, _, h => h.elim
 | [], _ :: _, _, _, _, h => h.elim
 | _ :: _, [], _, _, _, h => h.elim
 | _ :: _, _ :: _, [], _, _, h => h.elim
 | t :: ts, v :: vs, d :: ds, ps, hr, h => by
   have hlt := h.lt;obtain ⟨p, q, ⟨n, h1⟩, h2, e⟩ := h;have ht := hr t List.mem_cons_self;have hp : ∀ x ∈ p, x.block < W.heap.size := fun x hx => hlt x (by rw [e]; simp [hx]);exact ⟨p, q, ⟨n, DataW.trod_stays (kids_book hl ht.1) (book_sized ht.1) (fun h => by cases h) ⟨ht.2, book_self t⟩ h1 (fun x hx => hb.same (hp x hx)) (fun x hx => by simpa using hp x hx)⟩, lJ hl hb (fun t ht => hr t (List.mem_cons_of_mem _ ht)) h2, e⟩
theorem vu {w : World} {r : Reach} {b0 base : Nat} {spare : Nat → Bool} {held : Bool} {t : TypeId} {v : Value} {d : DataW H} {ps : List MemPlace} (ht : P.underlying t = some .string) (hval : Value.okWide P w r b0 t v) (hd : DataW.Trod enc P w base spare held t v d ps) : ∃ l : List Int, v = strv l ∧ Byt l ∧ l.length ≤ maxLen := by
 obtain ⟨s, rfl⟩ := okWide_string ht hval;obtain ⟨n, h⟩ := hd;obtain ⟨s', e, _, hs⟩ := DataW.trod_string ht h;obtain rfl : s = s' := by simpa [Value.cells] using e
 refine ⟨s.data.toList.map fun u => (u.toNat : Int), ?_, fun n hn => ?_, ?_⟩
 · unfold strv;congr 1;obtain ⟨⟨a⟩⟩ := s;congr 2;simp [Function.comp_def]
 · obtain ⟨u, _, rfl⟩ := List.mem_map.1 hn;have := u.toNat_lt;omega
 · simpa using hs
end
end Go.Proofs.YtejkelcaljmnoaaGreatDoor
namespace Go.Proofs.YtejkelcaljmnoaaGreatDoor
open Go.Conc Go.Hx Go.Lo
section
variable {K M : Nat} {A B : Lay} {S T : St} {F L L' L2 : Frag}
def Own (K : Nat) (A : Lay) (S : St) (b : Nat) : Prop := b = K ∨ (∃ q ∈ S.ps, b = q.1) ∨ (∃ i, (A.a i).b = some b) ∨ (∃ i, (A.y i).b = some b) ∨ b = A.wt
theorem Rep.own (h : Rep K A S F L) {b : Nat} (hb : Own K A S b) : ∃ o, (b, true, o) ∈ L ∧ ((∃ m c, o = Obj.map m c) ∨ ∃ cs e, o = Obj.cells cs e ∧ (e = 115 ∨ e = 99 ∨ e = 93 ∨ e = 5)) := by
 rcases hb with rfl | ⟨q, hq, rfl⟩ | ⟨i, hi⟩ | ⟨i, hi⟩ | rfl
 · exact ⟨_, h.k, .inr ⟨_, _, rfl, .inl rfl⟩⟩
 · exact ⟨_, h.p q hq, .inr ⟨_, _, rfl, .inr (.inl rfl)⟩⟩
 · obtain ⟨xs, hx⟩ := h.al i b hi;exact ⟨_, hx, .inr ⟨_, _, rfl, .inr (.inr (.inl rfl))⟩⟩
 · obtain ⟨xs, hx⟩ := h.yl i b hi;exact ⟨_, hx, .inr ⟨_, _, rfl, .inr (.inr (.inr rfl))⟩⟩
 · exact ⟨_, h.w, .inl ⟨_, _, rfl⟩⟩
theorem Rep.notown (h : Rep K A S F L) {b : Nat} {f : Bool} {cs : Array Value} {e : TypeId} (hm : (b, f, Obj.cells cs e) ∈ L) (he : e ≠ 115 ∧ e ≠ 99 ∧ e ≠ 93 ∧ e ≠ 5) : ¬ Own K A S b := fun hb => by
 obtain ⟨o, ho, h1⟩ := h.own hb;have e1 := (h.fn _ _ _ _ _ hm ho).2;rcases h1 with ⟨m, c, rfl⟩ | ⟨cs', e', rfl, h2⟩
 · cases e1
 · cases e1;rcases h2 with h2 | h2 | h2 | h2
   · exact he.1 h2
   · exact he.2.1 h2
   · exact he.2.2.1 h2
   · exact he.2.2.2 h2
theorem zl {b : Nat} (h : ¬ Own K A S b) : b ≠ K ∧ (∀ q ∈ S.ps, b ≠ q.1) ∧ (∀ i, (A.a i).b ≠ some b) ∧ (∀ i, (A.y i).b ≠ some b) ∧ b ≠ A.wt :=
 ⟨fun e => h (.inl e), fun q hq e => h (.inr (.inl ⟨q, hq, e⟩)), fun i e => h (.inr (.inr (.inl ⟨i, e⟩))), fun i e => h (.inr (.inr (.inr (.inl ⟨i, e⟩)))), fun e => h (.inr (.inr (.inr (.inr e))))⟩
theorem Rep.move (h : Rep K A S F L) (hf : Fun L') (ho : ∀ t ∈ L, Own K A S t.1 → t ∈ L') (hg : (A.g, true, Obj.cells A.gc 158) ∈ L') (hF : ∀ t ∈ F, t ∈ L') : Rep K A S F L' :=
 { h with
   fn := hf, k := ho _ h.k (.inl rfl), g := hg, p := fun q hq => ho _ (h.p q hq) (.inr (.inl ⟨q, hq, rfl⟩)), w := ho _ h.w (.inr (.inr (.inr (.inr rfl)))), fr := hF
   pa := h.pa.mono fun b hb _ x => ho _ x (.inr (.inr (.inl ⟨_, hb⟩)))
   rw := fun l hl => (h.rw l hl).mono fun b hb _ x => ho _ x (.inr (.inr (.inl ⟨_, hb⟩)))
   ya := fun i hi => (h.ya i hi).mono fun b hb _ x => ho _ x (.inr (.inr (.inr (.inl ⟨_, hb⟩))))
   wa := fun e he => (h.wa e he).mono fun b hb _ x => ho _ x (.inr (.inr (.inl ⟨_, hb⟩)))
   al := fun i c hc => (h.al i c hc).imp fun _ x => ho _ x (.inr (.inr (.inl ⟨_, hc⟩)))
   yl := fun i c hc => (h.yl i c hc).imp fun _ x => ho _ x (.inr (.inr (.inr (.inl ⟨_, hc⟩)))) }
theorem Rep.with (h : Rep K A S F L) {b : Nat} {cs : Array Value} {e : TypeId} (hm : (b, true, Obj.cells cs e) ∈ L) (he : e ≠ 115 ∧ e ≠ 99 ∧ e ≠ 93 ∧ e ≠ 5) : Rep K A S ((b, true, Obj.cells cs e) :: F) L :=
 { h with
   fr := fun t ht => by
     rcases List.mem_cons.1 ht with rfl | ht
     · exact hm
     · exact h.fr t ht
   fd := fun t ht => by
     rcases List.mem_cons.1 ht with rfl | ht
     · exact zl (h.notown hm he)
     · exact h.fd t ht }
theorem Rep.turnB (h : Rep K A S F L) {b : Nat} {cs : Array Value} {e : TypeId} (hm : (b, true, Obj.cells cs e) ∈ L) (he : e ≠ 115 ∧ e ≠ 99 ∧ e ≠ 93 ∧ e ≠ 5 ∧ e ≠ 158) (hn : ∀ t ∈ F, t.1 ≠ b) (hf : Fun L') (hs : ∀ t ∈ L, t.1 ≠ b → t ∈ L') : Rep K A S F L' :=
 h.move hf (fun t ht ho => hs t ht fun e' => h.notown hm ⟨he.1, he.2.1, he.2.2.1, he.2.2.2.1⟩ (e' ▸ ho))
   (hs _ h.g fun e' => absurd (h.fn _ _ _ _ _ h.g (e' ▸ hm)).2 (aF (Ne.symm he.2.2.2.2))) fun t ht => hs t (h.fr t ht) (hn t ht)
end
def setsI (xs : List Int) (i : Nat) : List Int := (List.range i).flatMap fun (j : Nat) => insn 1 (j : Nat) (xs.getD j 0)
def trapI (m : Int) (xs : List Int) : List Int := setsI xs xs.length ++ insn 9 m 0
theorem kH (xs : List Int) (i : Nat) : setsI xs (i + 1) = setsI xs i ++ insn 1 (i : Nat) (xs.getD i 0) := by
 unfold setsI; rw [List.range_succ, List.flatMap_append]; simp
theorem lK (xs : List Int) : ∀ i, (setsI xs i).length = 4 * i
 | 0 => rfl
 | i + 1 => by rw [kH, List.length_append, lK xs i]; show 4 * i + 4 = _; omega
theorem zm : ∃ n, ∀ {σ} {F : Fam σ} {Δ : DM F} {main s} (L : Frag) (m : Int) (xs : List Int) (base : Option Addr) (cap : Nat), (∀ s o, (Δ s).New o) → Fun L → xs.length ≤ 8 → (∀ i, i < xs.length → ∃ b, base = some ⟨b, 0, none⟩ ∧ At L b i (.int .i64 (xs.getD i 0))) →
   CallsL Δ Tryz.prog main 23 [.int .i64 m, .slice base xs.length cap].toArray n s L (fun s' v L' => s = s' ∧ v = strv (trapI m xs) ∧ Ext L L') := by
 obtain ⟨n1, g1⟩ := zk;apply Exists.intro;intro σ F Δ main s L m xs base cap hN hF h8 hat;co_applyP aB 25 Tryz.func23 Tryz.ntmps23;co_applyP ai;co_applyP oy rfl aj;co_applyP aa;co_applyP ai;co_applyP oy rfl aj;co_applyP aa;co_applyP ar;co_applyP ai;co_applyP oy rfl aj;co_applyP aa;co_applyP aJ;co_applyP bF (fun c s' ε' L' => s' = s ∧ Ext L L' ∧ ∃ i, i ≤ xs.length ∧ c + i = 8 ∧ kn ε' [(0, .int .i64 m), (1, .slice base xs.length cap), (5, strv (setsI xs i)), (6, .int .i64 (i : Nat))]) 8
 · exact ⟨rfl, ⟨hF, fun _ h => h⟩, 0, by omega, rfl, rfl⟩
 rintro c s' ε' L' ⟨rfl, hE, i, hi, hc, he⟩;co_applyP a0 he;have ei : IntKind.i64.wrap ((i : Int) + 1) = ((i + 1 : Nat) : Int) := by simp [IntKind.wrap_i64]; omega
 have hsl := lK xs i;co_applyP ar;co_applyP ai;co_applyP oy rfl ah;co_applyP oy rfl ah;co_applyP oy rfl (bt (hu := U54));co_applyP oy rfl ci;co_applyP aa;co_applyP bi rfl;intro hlt
 · have hlt' : i < xs.length := by simpa using hlt
   obtain ⟨b, rfl, hv⟩ := hat i hlt';have hv' := hE.at hv;co_applyP aC;co_applyP ar;co_applyP aJ;co_applyP ay;co_applyP oy rfl ah;co_applyP oy rfl ah;co_applyP oy rfl ah;co_applyP oy rfl ah;co_applyP oy rfl (bu U54 cG);co_applyP oy rfl (aG (ht := aY));co_applyP oc rfl rfl rfl (g1 L' 1 (i : Nat) (xs.getD i 0) hN hE.f);rintro _ _ _ ⟨rfl, rfl, hE2⟩;have hl2 : (setsI xs i).length + (insn 1 (i : Nat) (xs.getD i 0)).length < 1000000 := by rw [hsl]; show 4 * i + 4 < _; omega
   co_applyP oy rfl pN;co_applyP oy rfl aj;co_applyP aa;co_applyP ay;co_applyP oy rfl ah;co_applyP oy rfl a8;co_applyP oy rfl aj;co_applyP aa;change ∃ k', k' < _ ∧ _;exact ⟨c - 1, by omega, rfl, hE.trans hE2, i + 1, by omega, by omega, by rw [← ei, kH]; rfl⟩
 intro hlt;have hi' : i = xs.length := by simp at hlt; omega
 subst hi';co_applyP bN;co_applyP ai;co_applyP oy rfl ah;co_applyP oy rfl ah;co_applyP oc rfl rfl rfl (g1 L' 9 m 0 hN hE.f);rintro _ _ _ ⟨rfl, rfl, hE2⟩;have hl2 : (setsI xs xs.length).length + (insn 9 m 0).length < 1000000 := by rw [hsl]; show 4 * _ + 4 < _; omega
 co_applyP oy rfl pN;co_applyP oy rfl aj;co_applyP aa;co_applyP aI;change ∃ v, resE .. = some v ∧ _;exact ⟨_, rfl, rfl, rfl, hE.trans hE2⟩
end Go.Proofs.YtejkelcaljmnoaaGreatDoor
namespace Go.Lo
open Go.Conc Go.Hx
def resE3 (g : Func) (ε : Env) : Option Value := match g.results.toList with
 | [.tmp t, .tmp u, .tmp x] => match look ε t, look ε u, look ε x with
   | some v, some w, some y => some (.tuple #[v, w, y])
   | _, _, _ => none
 | _ => none
def bodyE3 {σ : Type} (g : Func) (Post : σ → Value → Frag → Prop) : σ → Exit → Env → Frag → Prop
 | s, .normal, ε, L | s, .ret, ε, L => ∃ v, resE3 g ε = some v ∧ Post s v L
 | _, _, _, _ => False
section
variable {σ : Type} {F : Fam σ} {Δ : ∀ s, Dom (F.R s) (F.D s)} {P : Program} {main : Bool} {fn : FuncId} {N : Nat} {Q : σ → Exit → Env → Frag → Prop} {s : σ} {ε : Env} {L : Frag}
theorem vv {g : Func} {a : Act} {v : Value} (hf : Fits N ε a) (h : resE3 g ε = some v) : wpQ P (results g a.tmps) (· = v) L := by
 unfold resE3 at h
 split at h
 · rename_i t u x e
   split at h
   · rename_i h1 h2 h3;have e' : g.results = #[.tmp t, .tmp u, .tmp x] := Array.ext' e;have r1 := (hf.at_ _ _ h1).2;have r2 := (hf.at_ _ _ h2).2;have r3 := (hf.at_ _ _ h3).2;rw [← Option.some.inj h, ← r1, ← r2, ← r3];have e0 : results g a.tmps = pure (.tuple #[a.tmps.getD t undef, a.tmps.getD u undef, a.tmps.getD x undef]) := by simp [results, e']
     rw [e0]; rfl
   · cases h
 · cases h
theorem xu (N : Nat) {f : FuncId} {g : Func} {c : Code} {vs : List Value} {n : Nat} {Post : σ → Value → Frag → Prop} (hf : P.funcs[f]? = some g) (hN : g.ntmps = N) (hname : (g.name == "runtime.NumGoroutine") = false := by rfl) (hb : g.body = some c := by rfl) (hl : Nat.ble vs.length N = true := by rfl) (h : wpE Δ P main f N c n s (bodyE3 g Post) (args vs) L) : CallsM Δ P main f vs.toArray n s L Post := by
 have hl := Nat.le_of_ble_eq_true hl;subst hN;refine ⟨g, c, hf, hname, hb, cY (h _ ⟨by simp; omega, rfl, fun t v ht => ?_⟩) fun s' e a' L' ⟨ε', hf, q⟩ => ?_⟩
 · obtain ⟨_, h2⟩ := fL vs 0 t v ht;have hlt := (List.getElem?_eq_some_iff.1 h2).1;simp only [Nat.sub_zero] at h2 hlt;refine ⟨by omega, ?_⟩;simp only [Array.getD_eq_getD_getElem?, Array.getElem?_append, List.size_toArray, hlt, if_true, List.getElem?_toArray, h2, Option.getD_some]
 · cases e <;> first | exact ⟨hf.df, q.choose, vv hf q.choose_spec.1, q.choose_spec.2⟩ | exact q
end
end Go.Lo
namespace Go.Proofs.YtejkelcaljmnoaaGreatDoor
open Go.Conc Go.Hx Go.Lo
def outB (ws : List Wd) : List Int := (ws.filter fun w => decide (w.2.1 = 3)).map fun w => w.2.2.2 % 256
def goneW (ws : List Wd) : List Wd := ws.filter fun w => decide (w.2.1 = 4)
abbrev u8s (l : List Int) : List Value := l.map (Value.int .u8)
abbrev wcs (ws : List Wd) : List Value := ws.flatMap Wd.c
theorem iE (ws : List Wd) : (wcs ws).length = ws.length * 4 := by
 induction ws with
 | nil => rfl
 | cons w ws ih =>
   have : wcs (w :: ws) = Wd.c w ++ wcs ws := rfl;rw [this, List.length_append, ih];show 4 + _ = _;simp only [List.length_cons]; omega
theorem vw (ws : List Wd) : ∀ (i : Nat) (w : Wd), ws[i]? = some w → ∀ j, j < 4 → (wcs ws)[4 * i + j]? = (Wd.c w)[j]? := by
 induction ws with
 | nil => intro i w h; simp at h
 | cons v ws ih =>
   intro i w h j hj;have e : wcs (v :: ws) = Wd.c v ++ wcs ws := rfl;have hl : (Wd.c v).length = 4 := rfl;rw [e];cases i with
   | zero =>
     obtain rfl : v = w := by simpa using h
     rw [Nat.mul_zero, Nat.zero_add, List.getElem?_append_left (by rw [hl]; exact hj)]
   | succ i =>
     rw [List.getElem?_append_right (by rw [hl]; omega), hl, show 4 * (i + 1) + j - 4 = 4 * i + j by omega];exact ih i w (by simpa using h) j hj
theorem vx {told : Value} {ws : List Wd} {L : Frag} (h : Heard told (ws.map Wd.v) L) : ∃ base cap, told = .slice base ws.length cap ∧ ∀ i w, ws[i]? = some w → ∃ g cs, base = some ⟨g, 0, none⟩ ∧ (g, true, Obj.cells cs 51) ∈ L ∧ 4 * i + 4 ≤ cs.size ∧ ∀ j, j < 4 → cs[4 * i + j]? = (Wd.c w)[j]? := by
 rcases h with ⟨rfl, h0⟩ | ⟨g, cap, cur, rfl, hg, hn, _, hz, ht⟩
 · have : ws = [] := by simpa using h0
   subst this;exact ⟨none, 0, rfl, fun i w h => by simp at h⟩
 · rw [List.length_map] at hn ht ⊢;refine ⟨_, cap, rfl, fun i w hw => ⟨g, cur, rfl, hg, ?_, fun j hj => ?_⟩⟩
   · have := (List.getElem?_eq_some_iff.1 hw).1;have := Nat.mul_le_mul_right 4 hn;omega
   · have hi := (List.getElem?_eq_some_iff.1 hw).1;rw [← vw ws i w hw j hj];have e : cur.toList.take (ws.length * 4) = wcs ws := by rw [ht, List.flatMap_map]; rfl
     rw [← e, List.getElem?_take_of_lt (by omega)];simp
theorem sP (ws : List Wd) {i : Nat} {w : Wd} (h : ws[i]? = some w) : outB (ws.take (i + 1)) = outB (ws.take i) ++ (if w.2.1 = 3 then [w.2.2.2 % 256] else []) := by
 unfold outB;rw [List.take_add_one, h, Option.toList_some, List.filter_append, List.map_append];by_cases e : w.2.1 = 3 <;> simp [e]
theorem pP (ws : List Wd) {i : Nat} {w : Wd} (h : ws[i]? = some w) : goneW (ws.take (i + 1)) = goneW (ws.take i) ++ (if w.2.1 = 4 then [w] else []) := by
 unfold goneW;rw [List.take_add_one, h, Option.toList_some, List.filter_append];by_cases e : w.2.1 = 4 <;> simp [e]
theorem xv (a b : List Wd) : wcs (a ++ b) = wcs a ++ wcs b := by simp [wcs]
section
variable {N : Nat} {ε : Env} {L : Frag} {d : Option Tmp} {ty : TypeId} {ps : String} {af : Array Edge} {g : Option (Nat × Bool)} {x : Operand}
theorem xw {a : Sl} {l : List Int} (hx : ev ε x = some (rowv a 1 l.length) := by rfl) (ha : slOk a (u8s l) 5 L) : EY Tryz.prog N ε L ⟨d, .convert 44 9 x, ty, ps, af, g⟩ (strv l) := by
 cases hab : a.b with
 | none =>
   have h := ha;unfold slOk at h;rw [hab] at h;obtain rfl : l = [] := by simpa using h.1
   have e : rowv a 1 ([] : List Int).length = .slice none 0 0 := by unfold rowv; rw [hab]
   rw [e] at hx;exact zi hx U44 U5 U9
 | some b =>
   have e : rowv a 1 l.length = .slice (some ⟨b, 0, none⟩) l.length (l.length + a.junk.length / 1) := by unfold rowv; rw [hab]
   rw [e] at hx;refine vn (l := l) hx U44 U5 U9 (ha.mem hab) (by simp) ?_;apply Array.ext';simp
end
theorem yi : zeroAt Tryz.prog 51 = some (evt 0 0 0 0) := by kernel_rfl
theorem zn : bytesAt Tryz.prog 51 = some 32 := by kernel_rfl
theorem sQ : ∃ k, ∀ {Fin : Value → World → Prop} {W : World} {O : Nat} (nn : Nat) (s : List Nat) (K : Nat) (A : Lay) (S T : St) (Fr L : Frag) (eb : Nat → Nat × Nat) (t : Nat), Rep K A S Fr L → Ers eb Fr → Ab S T → 0 < t → t ≤ 2000 → S.now < 1152921504606846976 →
   Lo.CallsM (F := FZ Tryz.prog Fin) (fun s => dom0 (Shs s.2) W O) Tryz.prog true 24 [ptr K, .int .i64 (t : Nat)].toArray k (nn + 1, s) L (fun s' v L' => ∃ N A' S' ws ag, s' = (nn, N :: s) ∧ St.evs t T = ws.map Wd.v ∧ v = .tuple #[strv (outB ws), rowv ag 4 (goneW ws).length, .bool true] ∧ Ab S' (St.runs t T) ∧ Rep K A' S' Fr L' ∧ slOk ag (wcs (goneW ws)) 51 L') := by
 obtain ⟨n1, gr⟩ := ye;apply Exists.intro;intro Fin W O nn s K A S T Fr L eb t hR hEr hAb ht0 ht hnow;have hN : ∀ (s : Nat × List Nat) (o : Obj), (dom0 (Shs s.2) W O).New o := fun _ _ => trivial;obtain ⟨ws, hws, hwl⟩ := iD t T;co_applyP xu 66 Tryz.func24 Tryz.ntmps24;co_applyP ai;co_applyP oy rfl aj;co_applyP oy rfl aj;co_applyP oy rfl aj;co_applyP aa;co_applyP ai;co_applyP oy rfl aj;co_applyP aa;co_applyP ai;co_applyP oy rfl aj;co_applyP aa;co_applyP ar;co_applyP aJ;co_applyP bF (fun k s' ε' L' => (k = 1 ∧ s' = (nn + 1, s) ∧ L' = L ∧ kn ε' [(0, ptr K), (1, .int .i64 (t : Nat)), (7, .slice none 0 0), (8, .slice none 0 0)]) ∨ (k = 0 ∧ ∃ N A' S' ab ag, s' = (nn, N :: s) ∧ Ab S' (St.runs t T) ∧ Rep K A' S' Fr L' ∧ slOk ab (u8s (outB ws)) 5 L' ∧ slOk ag (wcs (goneW ws)) 51 L' ∧ kn ε' [(1, .int .i64 0), (7, rowv ab 1 (outB ws).length), (8, rowv ag 4 (goneW ws).length)])) 1
 · exact .inl ⟨rfl, rfl, rfl, rfl⟩
 rintro k s' ε' L' hk;co_applyP bL (k = 1);intro h1
 · obtain ⟨rfl, rfl, he⟩ : s' = (nn + 1, s) ∧ L' = L ∧ kn ε' [(0, ptr K), (1, .int .i64 (t : Nat)), (7, .slice none 0 0), (8, .slice none 0 0)] := by
     rcases hk with ⟨_, a, b, c⟩ | ⟨a, _⟩
     · exact ⟨a, b, c⟩
     · omega
   co_applyP a0 he;have e0 : decide ((0 : Int) < (t : Int)) = true := by simp; omega
   have e1 : decide ((2000 : Int) < (t : Int)) = false := by simp; omega
   co_applyP ar;co_applyP ai;co_applyP oy rfl ah;co_applyP oy rfl dK;co_applyP aa;change wpE ..;rw [e0];co_applyP aS rfl;co_applyP aC;co_applyP aJ;co_applyP ai;co_applyP oy rfl ah;co_applyP oy rfl aj;co_applyP aa;co_applyP ar;co_applyP ai;co_applyP oy rfl ah;co_applyP oy rfl dK;co_applyP aa;change wpE ..;rw [e1];co_applyP ak rfl;co_applyP aC;co_applyP ai;co_applyP oy rfl ah;co_applyP oy rfl ah;co_applyP oc rfl rfl rfl (gr nn s K A S T Fr L' eb t hR hEr hAb ht hnow);rintro _ _ _ ⟨N, told, A1, S1, rfl, rfl, hAb1, hR1, hH⟩;rename_i L1;rw [hws] at hH;obtain ⟨base, cap, rfl, hat⟩ := vx hH;co_applyP oy rfl ah;co_applyP oy rfl bB;co_applyP oy rfl bB;co_applyP oy rfl aj;co_applyP oy rfl aj;co_applyP aa;co_applyP ar;co_applyP ai;co_applyP oy rfl ah;co_applyP oy rfl dZ;co_applyP aa;co_applyP ak rfl;co_applyP aC;co_applyP ar;co_applyP ai;co_applyP oy rfl aj;co_applyP aa;co_applyP aJ;co_applyP bF (fun k s' ε' L' => s' = (nn, N :: s) ∧ Ext L1 L' ∧ ∃ i ab ag, i ≤ ws.length ∧ k + i = 4000 ∧ slOk ab (u8s (outB (ws.take i))) 5 L' ∧ (∀ t ∈ L1, ab.b ≠ some t.1) ∧ slOk ag (wcs (goneW (ws.take i))) 51 L' ∧ (∀ t ∈ L1, ag.b ≠ some t.1) ∧ kn ε' [(1, .int .i64 (t : Nat)), (9, .int .i64 (t : Nat)), (10, .slice base ws.length cap), (12, .int .i64 (i : Nat)), (7, rowv ab 1 (outB (ws.take i)).length), (8, rowv ag 4 (goneW (ws.take i)).length)]) 4000
   · exact ⟨rfl, ⟨hR1.fn, fun _ h => h⟩, 0, ⟨none, []⟩, ⟨none, []⟩, by omega, rfl, ⟨rfl, rfl⟩, fun t ht => by simp, ⟨rfl, rfl⟩, fun t ht => by simp, rfl⟩
   rintro c s' ε' L2 ⟨rfl, hE, i, ab, ag, hi, hc, hb, hbn, hg, hgn, he⟩;co_applyP a0 he;have ei : IntKind.i64.wrap ((i : Int) + 1) = ((i + 1 : Nat) : Int) := by simp [IntKind.wrap_i64]; omega
   co_applyP ar;co_applyP ai;co_applyP oy rfl ah;co_applyP oy rfl ah;co_applyP oy rfl (bt (hu := U38));co_applyP oy rfl ci;co_applyP aa;co_applyP bi rfl;intro hlt
   · have hlt' : i < ws.length := by simpa using hlt
     obtain ⟨w, hw⟩ : ∃ w, ws[i]? = some w := ⟨_, List.getElem?_eq_getElem hlt'⟩;obtain ⟨tg, cs, rfl, htg, hsz, hcs⟩ := hat i w hw;have htg2 := hE.s _ htg;have k1 : At L2 tg (i * 4 + 1) (.int .i64 w.2.1) := ⟨true, _, _, _, htg2, by rw [Nat.mul_comm]; exact hcs 1 (by omega)⟩;have k3 : At L2 tg (i * 4 + 3) (.int .i64 w.2.2.2) := ⟨true, _, _, _, htg2, by rw [Nat.mul_comm]; exact hcs 3 (by omega)⟩;have hob := sP ws hw;have hog := pP ws hw;have hol : (outB (ws.take i)).length ≤ 4000 := by
       unfold outB; rw [List.length_map];have := List.length_filter_le (fun w : Wd => decide (w.2.1 = 3)) (ws.take i);have := List.length_take_le i ws;omega
     have hgl : (goneW (ws.take i)).length ≤ 4000 := by
       unfold goneW;have := List.length_filter_le (fun w : Wd => decide (w.2.1 = 4)) (ws.take i);have := List.length_take_le i ws;omega
     co_applyP aC;co_applyP dP (fun s'' ε'' L'' => s'' = (nn, N :: s) ∧ Ext L1 L'' ∧ ∃ ab ag, slOk ab (u8s (outB (ws.take (i + 1)))) 5 L'' ∧ (∀ t ∈ L1, ab.b ≠ some t.1) ∧ slOk ag (wcs (goneW (ws.take (i + 1)))) 51 L'' ∧ (∀ t ∈ L1, ag.b ≠ some t.1) ∧ kn ε'' [(1, .int .i64 (t : Nat)), (9, .int .i64 (t : Nat)), (10, .slice (some ⟨tg, 0, none⟩) ws.length cap), (12, .int .i64 (i : Nat)), (7, rowv ab 1 (outB (ws.take (i + 1))).length), (8, rowv ag 4 (goneW (ws.take (i + 1))).length)]);co_applyP aJ;co_applyP dP (fun s'' ε'' L'' => s'' = (nn, N :: s) ∧ Ext L1 L'' ∧ ∃ ab ag, slOk ab (u8s (outB (ws.take (i + 1)))) 5 L'' ∧ (∀ t ∈ L1, ab.b ≠ some t.1) ∧ slOk ag (wcs (goneW (ws.take i))) 51 L'' ∧ (∀ t ∈ L1, ag.b ≠ some t.1) ∧ kn ε'' [(1, .int .i64 (t : Nat)), (9, .int .i64 (t : Nat)), (10, .slice (some ⟨tg, 0, none⟩) ws.length cap), (12, .int .i64 (i : Nat)), (7, rowv ab 1 (outB (ws.take (i + 1))).length), (8, rowv ag 4 (goneW (ws.take i)).length)]);co_applyP ai;co_applyP oy rfl ah;co_applyP oy rfl ah;co_applyP oy rfl (bu U38 ft);co_applyP oy rfl (av (hf := mb));co_applyP oy rfl (aG (ht := aY) (hv := k1));co_applyP oy rfl aA;co_applyP aa;co_applyP bi rfl;intro h3;co_applyP ay;co_applyP oy rfl ah;co_applyP oy rfl ah;co_applyP oy rfl ah;co_applyP oy rfl (bu U38 ft);co_applyP oy rfl (av (hf := wg))
     · have h3' : w.2.1 = 3 := by simpa using h3
       co_applyP oy rfl (aG (ht := aY) (hv := k3));co_applyP oy rfl (b9 (hs := U3) (ht := U5));co_applyP bI rfl (i9 (hN _ _) (hu := U44) (hs := d9) (hz := ux));intro nb L3 hA;have hr : Reads Tryz.prog L3 1 1 (.slice (some ⟨nb, 0, none⟩) 1 1) [Value.int .u8 (IntKind.u8.wrap w.2.2.2)].toArray := by
         have := bZ (P := Tryz.prog) (sz := 1) (n := 1) (len := 1) (cap := 1) (o := 0) hA.self (by simp);simpa using this
       co_applyP oeN rfl (fun hnd => qF (a := ab) (by_ := 0) (xs := u8s (outB (ws.take i))) (n := (outB (ws.take i)).length) (m := 1) (hnd := hnd) (hu := U44) (hs := d9) (hb := xY) (hz := ux) (hzs := rfl) (hN := fun cs => hN _ _) (ha := hb.mono fun c hc o ho => hA.sub _ ho) (hn := by simp) (hr := hr) (hm := rfl) (hpl := rfl) (h0 := by decide) (h8 := by omega));rintro _ L4 ⟨ab', rfl, hp⟩;co_applyP oy rfl aj;co_applyP aa;change _ = _ ∧ _ ∧ ∃ ab ag, _ ∧ _ ∧ _ ∧ _ ∧ kn _ _;rw [if_pos h3'] at hob;refine ⟨rfl, ⟨hp.fn, fun t ht => hp.sub _ (hA.sub _ (hE.s _ ht)) (hbn t ht)⟩, ab', ag, ?_, fun t ht e => ?_, ?_, hgn, ?_⟩
       · rw [hob]; have := hp.ok; rw [mj] at this; simpa using this
       · rcases hp.d _ e with h | h
         · exact hbn t ht h
         · exact h _ (hA.sub _ (hE.s _ ht)) rfl
       · refine hg.mono fun q hq o ho => hp.sub _ (hA.sub _ ho) fun e => ?_;have m1 := hb.mem e;have m2 := hg.mem hq;exact absurd (hE.f _ _ _ _ _ m1 m2).2 (aF (by decide))
       · rw [hob, List.length_append]; rfl
     intro h3;co_applyP aC;change _ = _ ∧ _ ∧ ∃ ab ag, _ ∧ _ ∧ _ ∧ _ ∧ kn _ _;have h3' : ¬ w.2.1 = 3 := by simpa using h3
     rw [if_neg h3', List.append_nil] at hob;exact ⟨rfl, hE, ab, ag, by rw [hob]; exact hb, hbn, hg, hgn, by rw [hob]; rfl⟩;rintro s'' ε'' L3 ⟨rfl, hE3, ab3, ag3, hb3, hbn3, hg3, hgn3, he3⟩;co_applyP a0 he3;have htg3 := hE3.s _ htg;have k1' : At L3 tg (i * 4 + 1) (.int .i64 w.2.1) := ⟨true, _, _, _, htg3, by rw [Nat.mul_comm]; exact hcs 1 (by omega)⟩;have hcx : cs.extract (i * 4) (i * 4 + 4) = (Wd.c w).toArray := by
       apply Array.ext';apply List.ext_getElem?;intro j;by_cases hj : j < 4
       · rw [← hcs j hj];simp only [Array.toList_extract, List.extract_eq_take_drop];rw [List.getElem?_take_of_lt (by omega), List.getElem?_drop, Nat.mul_comm i 4];simp
       · rw [List.getElem?_eq_none (by simp; omega), List.getElem?_eq_none (by show 4 ≤ j; omega)]
     co_applyP ai;co_applyP oy rfl ah;co_applyP oy rfl ah;co_applyP oy rfl (bu U38 ft);co_applyP oy rfl (av (hf := mb));co_applyP oy rfl (aG (ht := aY) (hv := k1'));co_applyP oy rfl aA;co_applyP aa;co_applyP bi rfl;intro h4;co_applyP ay;co_applyP oy rfl ah;co_applyP oy rfl ah;co_applyP oy rfl ah;co_applyP oy rfl (bu U38 ft)
     · have h4' : w.2.1 = 4 := by simpa using h4
       co_applyP oy rfl (a5 (ht := xM) (hs := ft) (hm := htg3) (hi := by omega));rw [hcx];co_applyP bI rfl (vi (sz := 4) (hN := hN _ _) (hv := rfl) (hu := U38) (hs := ft) (hz := yi) (h0 := by decide) (h24 := by decide));intro nb L4 hA;have hr : Reads Tryz.prog L4 4 1 (.slice (some ⟨nb, 0, none⟩) 1 1) (Wd.c w).toArray := by
         have := bZ (P := Tryz.prog) (sz := 4) (n := 1) (len := 1) (cap := 1) (o := 0) hA.self (by show 0 + 1 * 4 ≤ 4; decide);exact this
       co_applyP oeN rfl (fun hnd => qF (a := ag3) (by_ := 31) (xs := wcs (goneW (ws.take i))) (n := (goneW (ws.take i)).length) (m := 1) (hnd := hnd) (hu := U38) (hs := ft) (hb := zn) (hz := yi) (hzs := rfl) (hN := fun cs => hN _ _) (ha := hg3.mono fun c hc o ho => hA.sub _ ho) (hn := iE _) (hr := hr) (hm := rfl) (hpl := rfl) (h0 := by decide) (h8 := by omega));rintro _ L5 ⟨ag', rfl, hp⟩;co_applyP oy rfl aj;co_applyP aa;change _ = _ ∧ _ ∧ ∃ ab ag, _ ∧ _ ∧ _ ∧ _ ∧ kn _ _;rw [if_pos h4'] at hog;refine ⟨rfl, ⟨hp.fn, fun t ht => hp.sub _ (hA.sub _ (hE3.s _ ht)) (hgn3 t ht)⟩, ab3, ag', ?_, hbn3, ?_, fun t ht e => ?_, ?_⟩
       · refine hb3.mono fun q hq o ho => hp.sub _ (hA.sub _ ho) fun e => ?_;have m1 := hg3.mem e;have m2 := hb3.mem hq;exact absurd (hE3.f _ _ _ _ _ m1 m2).2 (aF (by decide))
       · rw [hog, xv]; exact hp.ok
       · rcases hp.d _ e with h | h
         · exact hgn3 t ht h
         · exact h _ (hA.sub _ (hE3.s _ ht)) rfl
       · rw [hog, List.length_append]; rfl
     intro h4;co_applyP aC;change _ = _ ∧ _ ∧ ∃ ab ag, _ ∧ _ ∧ _ ∧ _ ∧ kn _ _;have h4' : ¬ w.2.1 = 4 := by simpa using h4
     rw [if_neg h4', List.append_nil] at hog;exact ⟨rfl, hE3, ab3, ag3, hb3, hbn3, by rw [hog]; exact hg3, hgn3, by rw [hog]; rfl⟩;rintro s'' ε'' L4 ⟨rfl, hE4, ab4, ag4, hb4, hbn4, hg4, hgn4, he4⟩;co_applyP a0 he4;co_applyP ay;co_applyP oy rfl ah;co_applyP oy rfl a8;co_applyP oy rfl aj;co_applyP aa;change ∃ k', k' < _ ∧ _;exact ⟨c - 1, by omega, rfl, hE4, i + 1, ab4, ag4, by omega, by omega, hb4, hbn4, hg4, hgn4, by rw [← ei]; rfl⟩
   intro hlt;have hi' : i = ws.length := by simp at hlt; omega
   subst hi';rw [List.take_length] at hb hg he;co_applyP bN;co_applyP ay;co_applyP oy rfl ah;co_applyP oy rfl ah;co_applyP oy rfl xI;co_applyP oy rfl aj;co_applyP aa;change ∃ k', k' < _ ∧ _;have e2 : IntKind.i64.wrap ((t : Int) - (t : Int)) = 0 := by simp [IntKind.wrap_i64]
   exact ⟨0, by omega, .inr ⟨rfl, N, A1, S1, ab, ag, rfl, hAb1, hR1.ext hE, hb, hg, by rw [List.take_length, e2]; rfl⟩⟩
 intro h1;obtain ⟨N, A', S', ab, ag, rfl, hAb', hR', hb, hg, he⟩ : ∃ N A' S' ab ag, s' = (nn, N :: s) ∧ Ab S' (St.runs t T) ∧ Rep K A' S' Fr L' ∧ slOk ab (u8s (outB ws)) 5 L' ∧ slOk ag (wcs (goneW ws)) 51 L' ∧ kn ε' [(1, .int .i64 0), (7, rowv ab 1 (outB ws).length), (8, rowv ag 4 (goneW ws).length)] := by
   rcases hk with ⟨a, _⟩ | ⟨_, a⟩
   · exact absurd a h1
   · exact a
 co_applyP a0 he;co_applyP ar (n₂ := 0);co_applyP ai;co_applyP oy rfl ah;co_applyP oy rfl dK;co_applyP aa;co_applyP ak rfl;co_applyP bN;co_applyP ai;co_applyP oy rfl ah;co_applyP oy rfl (xw (ha := hb));co_applyP oy rfl ah;co_applyP oy rfl aj;co_applyP oy rfl aj;co_applyP oy rfl aj;co_applyP aa;co_applyP aI;change ∃ v, resE3 _ _ = some v ∧ _;refine ⟨.tuple #[strv (outB ws), rowv ag 4 (goneW ws).length, .bool true], ?_, N, A', S', ws, ag, rfl, hws, rfl, hAb', hR', hg⟩;generalize rowv ag 4 (goneW ws).length = v5;generalize strv (outB ws) = v4;rfl
theorem vy : ∀ {a b : List Wd}, a.map Wd.v = b.map Wd.v → a = b
 | [], [], _ => rfl
 | [], _ :: _, h => by simp at h
 | _ :: _, [], h => by simp at h
 | (x1, x2, x3, x4) :: a, (y1, y2, y3, y4) :: b, h => by
   simp only [List.map_cons, List.cons.injEq] at h;have h1 : (Value.agg #[.int .i64 x1, .int .i64 x2, .int .i64 x3, .int .i64 x4]) = .agg #[.int .i64 y1, .int .i64 y2, .int .i64 y3, .int .i64 y4] := h.1;simp only [Value.agg.injEq, Array.mk.injEq, List.cons.injEq, Value.int.injEq, true_and, and_true] at h1;obtain ⟨e1, e2, e3, e4⟩ := h1;rw [e1, e2, e3, e4, vy h.2]
def knownI : List Int := trapI 11 [65] ++ trapI 0 [7]
def knownW : List Wd := [(0, 1, 1, 0), (1, 1, 1, 1), (1, 3, 1, 65), (2, 1, 1, 2), (3, 1, 1, 3), (3, 4, 1, 7)]
theorem xy : (St.evs 10 (St.fresh (cfgf 4 4 4) (cfgb 20) knownI 1), (St.runs 10 (St.fresh (cfgf 4 4 4) (cfgb 20) knownI 1)).ps.map fun q => q.2.st) = (knownW.map Wd.v, [6]) := by kernel_rfl
theorem kI : Byt knownI := by
 intro n hn;have : ∀ n ∈ knownI, 0 ≤ n ∧ n < 256 := by decide
 exact this n hn
section
variable {N : Nat} {ε : Env} {L : Frag} {d : Option Tmp} {ty : TypeId} {ps : String} {af : Array Edge} {g : Option (Nat × Bool)} {x y : Operand} {P : Program} {t u : TypeId}
theorem AM {a b : Value} {r : Bool} (hg : evR P (eqGuard .eql t x y a b) [] = some ((), [])) (hb : evR P (binOp .eql t a b) [] = some (.bool r, [])) (hx : ev ε x = some a := by rfl) (hy : ev ε y = some b := by rfl) : EY P N ε L ⟨d, .binOp .eql t x y u, ty, ps, af, g⟩ (.bool r) := fun ac ha => by
 refine cF (fun _ => rfl) fun K hK => ?_;rw [ha.ev hx, ha.ev hy];show wpQ P (eqGuard .eql t x y a b >>= fun _ => binOp .eql t a b) K L;rw [ax];exact a9 hg (a9 hb hK)
end
theorem AN (x y : Operand) : evR Tryz.prog (eqGuard .eql 51 x y (evt 3 4 1 7) (evt 3 4 1 7)) [] = some ((), []) := by kernel_rfl
theorem AO : evR Tryz.prog (binOp .eql 51 (evt 3 4 1 7) (evt 3 4 1 7)) [] = some (.bool true, []) := by kernel_rfl
theorem AP {L : Frag} {b : Nat} {v : Int} (h : (b, true, Obj.cells #[.int .i64 v] 3) ∈ L) : ∀ i, i < [v].length → ∃ b', (some ⟨b, 0, none⟩ : Option Addr) = some ⟨b', 0, none⟩ ∧ At L b' i (.int .i64 ([v].getD i 0)) := fun i hi => by
 obtain rfl : i = 0 := by simp at hi; omega
 exact ⟨b, rfl, true, _, _, _, h, rfl⟩
theorem qI {c : Int} (h : 0 ≤ c ∧ c < 100 := by decide) : I64 c := ⟨by omega, by omega⟩
theorem gO {a : Sl} {xs : List Value} {e : TypeId} {L : Frag} (h : slOk a xs e L) (hn : 0 < xs.length) : ∃ g, a.b = some g := by
 cases hab : a.b with
 | some g => exact ⟨g, rfl⟩
 | none =>
   unfold slOk at h;rw [hab] at h;rw [h.1] at hn;cases hn
theorem qJ : ∃ k, ∀ {Fin : Value → World → Prop} {W : World} {O : Nat} (nn : Nat) (s : List Nat) (L : Frag) (eb : Nat → Nat × Nat), Fun L → Ers eb L →
   CallsL (F := FZ Tryz.prog Fin) (fun s => dom0 (Shs s.2) W O) Tryz.prog true 26 [].toArray k (nn + 1, s) L (fun s' v L' => ∃ N, s' = (nn, N :: s) ∧ v = .bool true ∧ Ext L L') := by
 obtain ⟨n1, gc⟩ := kE;obtain ⟨n2, gt⟩ := zm;obtain ⟨n3, gk⟩ := ox;obtain ⟨n4, gpr⟩ := sQ;obtain ⟨n5, gp⟩ := qH;apply Exists.intro;intro Fin W O nn s L eb hF hE;have hN : ∀ (s : Nat × List Nat) (o : Obj), (dom0 (Shs s.2) W O).New o := fun _ _ => trivial;co_applyP aB 52 Tryz.func26 Tryz.ntmps26;co_applyP ai;co_applyP oy rfl aj;co_applyP aa;co_applyP ai;co_applyP ocm rfl rfl rfl (gc L 4 4 4 20 hN hF qI qI qI qI);rintro _ _ _ ⟨rfl, rfl, hE1⟩;co_applyP bI rfl (i9 (hN _ _) (hu := U54) (hs := cG) (hz := wY));intro b1 L2 hA1;co_applyP oc rfl rfl rfl (gt L2 11 [65] (some ⟨b1, 0, none⟩) 1 hN hA1.fn (by decide) (AP hA1.self));rintro _ _ _ ⟨rfl, rfl, hE2⟩;co_applyP bI rfl (i9 (hN _ _) (hu := U54) (hs := cG) (hz := wY));intro b2 L4 hA2;co_applyP oc rfl rfl rfl (gt L4 0 [7] (some ⟨b2, 0, none⟩) 1 hN hA2.fn (by decide) (AP hA2.self));rintro _ _ _ ⟨rfl, rfl, hE3⟩;co_applyP oy rfl pN;rename_i L5;have hX : Ext L L5 := ⟨hE3.f, fun t h => hE3.s _ (hA2.sub _ (hE2.s _ (hA1.sub _ (hE1.s _ h))))⟩;have hok := mJ 4 4 4 20;have hoi : oki knownI.length = true := by decide
 co_applyP oc rfl rfl rfl (gk L5 (cfgf 4 4 4) (cfgb 20) knownI hN hX.f kI hok hoi);rintro _ _ _ ⟨rfl, K, A0, b0, rfl, hR0⟩;co_applyP oy rfl aj;co_applyP aa;co_applyP ar;co_applyP ai;co_applyP oy rfl ah;co_applyP oy rfl (gu (hu := Tryz.underlying35));co_applyP aa;co_applyP ak rfl;co_applyP aC;co_applyP ai;co_applyP oy rfl ah;have hAb0 := oA (b := b0) hok hoi kI;co_applyP ocm rfl rfl rfl (gpr nn s K A0 _ _ L5 _ eb 10 hR0 (hE.mono hX.s) hAb0 (by decide) (by decide) (by show (0 : Nat) < _; decide));rintro _ _ _ ⟨N, A1, S1, ws, ag, rfl, hws, rfl, hAb1, hR1, hg⟩;rename_i L6;obtain ⟨kr1, kr2⟩ := Prod.mk.inj xy;obtain rfl : ws = knownW := vy (hws.symm.trans kr1);obtain ⟨gg, hgg⟩ := gO hg (by decide);have er1 : rowv ag 4 (goneW knownW).length = .slice (some ⟨gg, 0, none⟩) 1 (1 + ag.junk.length / 4) := by unfold rowv; rw [hgg]; rfl
 rw [er1, show outB knownW = [65] from rfl];obtain ⟨Nm, hTI, hmap⟩ := hAb1.ex;have h1' : S1.ps.map (fun q => q.2.st) = [6] := by
   rw [hmap] at kr2;simpa [St.map, Function.comp_def] using kr2
 obtain ⟨⟨b, x⟩, hps⟩ : ∃ q, S1.ps = [q] := List.length_eq_one_iff.1 (by simpa using congrArg List.length h1');rw [hps] at h1';have hst : x.st = 6 := by simpa using h1'
 co_applyP oy rfl ah;co_applyP oy rfl bB;co_applyP oy rfl bB;co_applyP oy rfl bB;co_applyP oy rfl aj;co_applyP oy rfl aj;co_applyP oy rfl aj;co_applyP aa;co_applyP ai;co_applyP oy rfl ah;co_applyP oc rfl rfl rfl (gp K A1 S1 L5 L6 hN hR1);rintro _ _ _ ⟨rfl, a, rfl, ha, han, hEp⟩;rename_i L7;obtain ⟨ap, hap⟩ := gO ha (by rw [fZ, hps]; exact Nat.succ_pos _);have er2 : rowv a 15 S1.ps.length = .slice (some ⟨ap, 0, none⟩) 1 (1 + a.junk.length / 15) := by unfold rowv; rw [hap, hps]; rfl
 rw [er2];have hpm : (ap, true, Obj.cells (heads [(b, x)] ++ a.junk).toArray 49) ∈ L7 := by
   have := ha.mem hap;rw [hps] at this;exact this
 have hgm : (gg, true, Obj.cells (wcs (goneW knownW) ++ ag.junk).toArray 51) ∈ L7 := hEp.s _ (hg.mem hgg);have hy2 : At L7 ap 2 (.int .i64 (x.st : Nat)) := ⟨true, _, _, _, hpm, rfl⟩;rw [hst] at hy2;have hE7 : Ext L L7 := ⟨hEp.f, fun t h => hEp.s _ (hR1.fr _ (hX.s _ h))⟩;have hex : Value.agg ((wcs (goneW knownW) ++ ag.junk).toArray.extract 0 (0 + 4)) = evt 3 4 1 7 := by
   simp only [List.extract_toArray, List.extract_eq_take_drop];rfl
 co_applyP oy rfl aj;co_applyP aa;co_applyP ai;co_applyP oy rfl ah;co_applyP oy rfl ah;co_applyP oy rfl (ah);co_applyP oy rfl (AG (l := [65]) (m := [65]) (hl := by intro n hn; simp at hn; omega) (hm := by intro n hn; simp at hn; omega));co_applyP oy rfl aN;co_applyP oy rfl ah;co_applyP oy rfl (ah);co_applyP oy rfl ((bt (hu := U38)));co_applyP oy rfl (aA);co_applyP oy rfl aN;co_applyP oy rfl ah;co_applyP oy rfl (ah);co_applyP oy rfl ((bu U38 ft));co_applyP oy rfl (a5 (ht := xM) (hs := ft) (hm := hgm) (hi := by rw [List.size_toArray, List.length_append, iE]; show 0 + 4 ≤ 1 * 4 + _; omega));rw [hex];co_applyP oy rfl (bl (x7 3 4 1 7));co_applyP oy rfl (AM (AN _ _) AO);co_applyP oy rfl aN;co_applyP oy rfl ah;co_applyP oy rfl (ah);co_applyP oy rfl ((bt (hu := U42)));co_applyP oy rfl (aA);co_applyP oy rfl aN;co_applyP oy rfl ah;co_applyP oy rfl (ah);co_applyP oy rfl ((bu U42 lh));co_applyP oy rfl ((av (hf := cv)));co_applyP oy rfl (aG (ht := aY) (hv := hy2));co_applyP oy rfl (aA);co_applyP oy rfl aN;co_applyP oy rfl aj;co_applyP aa;co_applyP aI;change ∃ v, resE .. = some v ∧ _;exact ⟨_, rfl, N, rfl, rfl, hE7⟩
end Go.Proofs.YtejkelcaljmnoaaGreatDoor
namespace Go.Lo
open Go.Conc Go.Hx
end Go.Lo
namespace Go.Proofs.YtejkelcaljmnoaaGreatDoor
open Go.Conc Go.Hx Go.Lo
def WL (L : Frag) (base : Option Addr) (ws : List Wd) : Prop := ∀ i w, ws[i]? = some w → ∃ g cs, base = some ⟨g, 0, none⟩ ∧ (g, true, Obj.cells cs 51) ∈ L ∧ i * 4 + 4 ≤ cs.size ∧ cs.extract (i * 4) (i * 4 + 4) = (Wd.c w).toArray
theorem WL.mono {L L' : Frag} {base : Option Addr} {ws : List Wd} (h : WL L base ws) (hs : ∀ t ∈ L, t ∈ L') : WL L' base ws := fun i w hw => by
 obtain ⟨g, cs, h1, h2, h3⟩ := h i w hw;exact ⟨g, cs, h1, hs _ h2, h3⟩
theorem xz {ws : List Wd} {i : Nat} {w : Wd} (h : ws[i]? = some w) (l : List Value) : ((wcs ws ++ l).toArray.extract (i * 4) (i * 4 + 4)) = (Wd.c w).toArray := by
 have hi := (List.getElem?_eq_some_iff.1 h).1;apply Array.ext';apply List.ext_getElem?;intro j;by_cases hj : j < 4
 · simp only [Array.toList_extract, List.extract_eq_take_drop];rw [List.getElem?_take_of_lt (by omega), List.getElem?_drop, List.getElem?_append_left (by rw [iE]; omega), Nat.mul_comm i 4, vw ws i w h j hj]
 · rw [List.getElem?_eq_none (by simp; omega), List.getElem?_eq_none (by show 4 ≤ j; omega)]
theorem qK {L : Frag} {a : Sl} {ws : List Wd} (ha : slOk a (wcs ws) 51 L) : ∃ base cap, rowv a 4 ws.length = .slice base ws.length cap ∧ WL L base ws := by
 cases hab : a.b with
 | none =>
   unfold slOk at ha;rw [hab] at ha;have h0 := ha.1;have : ws = [] := by
     have h1 := congrArg List.length h0;rw [iE] at h1;exact List.length_eq_zero_iff.1 (by simp at h1; omega)
   subst this;exact ⟨none, 0, by unfold rowv; rw [hab]; rfl, fun i w hw => by simp at hw⟩
 | some b =>
   refine ⟨some ⟨b, 0, none⟩, _, by unfold rowv; rw [hab], fun i w hw => ⟨b, _, rfl, ha.mem hab, ?_, xz hw _⟩⟩;have hi := (List.getElem?_eq_some_iff.1 hw).1;simp only [List.size_toArray, List.length_append, iE];omega
theorem jl {told : Value} {ws : List Wd} {L : Frag} (h : Heard told (ws.map Wd.v) L) : ∃ a, told = rowv a 4 ws.length ∧ slOk a (wcs ws) 51 L := by
 rcases h with ⟨rfl, h0⟩ | ⟨g, cap, cur, rfl, hg, hn, hc, hz, ht⟩
 · have : ws = [] := by simpa using h0
   subst this;exact ⟨⟨none, []⟩, rfl, rfl, rfl⟩
 · rw [List.length_map] at hn ht ⊢;have e : cur.toList.take (ws.length * 4) = wcs ws := by rw [ht, List.flatMap_map]; rfl
   have e2 : (wcs ws ++ cur.toList.drop (ws.length * 4)).toArray = cur := by
     rw [← e, List.take_append_drop]
   refine ⟨⟨some g, cur.toList.drop (ws.length * 4)⟩, ?_, ?_⟩
   · unfold rowv;simp only [List.length_drop, Array.length_toList];have : ws.length + (cur.size - ws.length * 4) / 4 = cap := by omega
     rw [this]
   · show (g, true, Obj.cells (wcs ws ++ cur.toList.drop (ws.length * 4)).toArray 51) ∈ L;rw [e2]; exact hg
theorem oD : ∀ (l : List (Nat × PS)) {i : Nat} {q : Nat × PS}, l[i]? = some q → ∀ j, j < 15 → (heads l)[i * 15 + j]? = (phead q.2)[j]?
 | [], i, q, h, _, _ => by simp at h
 | r :: l, 0, q, h, j, hj => by
   obtain rfl : r = q := by simpa using h
   show (phead r.2 ++ heads l)[0 * 15 + j]? = _;rw [List.getElem?_append_left (by show 0 * 15 + j < 15; omega), Nat.zero_mul, Nat.zero_add]
 | r :: l, i + 1, q, h, j, hj => by
   show (phead r.2 ++ heads l)[(i + 1) * 15 + j]? = _;rw [List.getElem?_append_right (by show 15 ≤ (i + 1) * 15 + j; omega), show (i + 1) * 15 + j - (phead r.2).length = i * 15 + j from (by show (i + 1) * 15 + j - 15 = _; omega)];exact oD l (by simpa using h) j hj
abbrev Key := Nat × Nat × Bool
def key (q : Nat × PS) : Key := (q.2.id, q.2.par, decide (q.2.st = 6))
def St.sk (S : St) : List Key := S.ps.map key
def mark (id : Nat) (e : Key) : Key := if e.1 = id then (e.1, e.2.1, true) else e
def orph (id : Nat) (e : Key) : Key := if e.2.1 = id then (e.1, 1, e.2.2) else e
def Del (l m : List Key) : Prop := m.Sublist l ∧ ∀ e ∈ l, e ∈ m ∨ (e.2.2 = true ∧ e.2.1 ≠ 0)
theorem Del.refl (l : List Key) : Del l l := ⟨List.Sublist.refl _, fun e h => .inl h⟩
theorem Del.trans {l m n : List Key} (h : Del l m) (k : Del m n) : Del l n := ⟨k.1.trans h.1, fun e he => by
 rcases h.2 e he with h1 | h1
 · exact k.2 e h1
 · exact .inr h1⟩
theorem Del.of {l m : List Key} (h : m = l) : Del l m := h ▸ Del.refl _
section
variable {S S' : St} {b : Nat} {x x' : PS} {k : Nat × Nat} {P : Nat → Prop} {N : Nat → Nat}
theorem bQ (hn : (S.ps.map (·.1)).Nodup) (hb : (b, x) ∈ S.ps) (hid : x'.id = x.id) (hpar : x'.par = x.par) (hs : x'.st = 6 ↔ x.st = 6) : (S.setP b x').sk = S.sk := by
 unfold St.sk St.setP;simp only [List.map_map];apply List.map_congr_left;intro q hq;simp only [Function.comp]
 split
 · rename_i e;obtain ⟨c, y⟩ := q;obtain rfl : c = b := e;obtain rfl := aT hn hq hb;simp [key, hid, hpar, hs]
 · rfl
theorem iF (hn : (S.ps.map (·.1)).Nodup) (hb : (b, x) ∈ S.ps) (h6 : x.st ≠ 6) : (S.wake1 b x).sk = S.sk :=
 bQ (x' := { x with st := 1, used := 0 }) hn hb rfl rfl ⟨fun e => by simp at e, fun e => absurd e h6⟩
theorem kJ (hn : (S.ps.map (·.1)).Nodup) (hb : (b, x) ∈ S.ps) (h6 : x.st ≠ 6) {s : Nat} (hs : s ≠ 6) : (S.stop1 b x s).sk = S.sk :=
 bQ (x' := { x with st := s }) hn hb rfl rfl ⟨fun e => absurd e hs, fun e => absurd e h6⟩
theorem oE (h : Inv S) (hS : S.serve k = some S') : S'.sk = S.sk := by
 obtain ⟨b, x, hm, _, hb, hc, rfl⟩ := cL hS;obtain ⟨ha, hk⟩ := h.atRow hm hb;obtain ⟨l1, l2, l3, l4, l5⟩ := b6 S x k;have h6 : x.st ≠ 6 := by
   have h1 := ha.s;have h2 := hk.2;omega
 have e : ((S.depart b k).carry b x k).sk = S.sk := by
   unfold St.sk;rw [cK];exact bQ (S := S.depart b k) (x' := S.carried x k) h.g.pn hb l4 l5 (by rw [l1])
 split
 · exact e
 · refine (iF (x := S.carried x k) ?_ ?_ ?_).trans e
   · rw [cK, aU]; exact h.g.pn
   · rw [cK]; exact aq (S := S.depart b k) hb
   · rw [l1]; exact h6
theorem iG (p : Nat) : ∀ (n : Nat) {S : St}, Inv S → (St.looks n S p).sk = S.sk
 | 0, _, _ => rfl
 | n + 1, S, h => by
   unfold St.looks
   split
   · rename_i S1 h1; exact (iG p n (h.serve h1)).trans (oE h h1)
   · split
     · rename_i S1 h1; exact (iG p n (h.serve h1)).trans (oE h h1)
     · rfl
theorem qL (h : MI P N S) (hb : (b, x) ∈ S.ps) (ho : S.out b) (n : Nat) : (S.shut b n).sk = S.sk := by
 unfold St.shut;rw [bf h.i.g.pn hb];have h1 := h.like (x' := { x with f := put x.f n (0, 0) }) hb ho rfl rfl ⟨(h.i.wf _ hb).r, (h.i.wf _ hb).m⟩ (gK (h.i.fl _ hb) (.inl rfl)) rfl rfl (h.x.un (b, x) hb);exact (iG _ 16 h1.i).trans (bQ (x' := { x with f := put x.f n (0, 0) }) h.i.g.pn hb rfl rfl Iff.rfl)
theorem kK (f : Nat → Nat × Nat) : ∀ (ns : List Nat) {S : St} {x : PS}, MI P N S → (b, x) ∈ S.ps → S.out b → (S.shuts b f ns).sk = S.sk
 | [], _, _, _, _, _ => rfl
 | n :: ns, S, x, h, hb, ho => by
   show ((if f n = (0, 0) then S else S.shut b n).shuts b f ns).sk = _
   split
   · exact kK f ns h hb ho
   · have hl := h.i.shut hb ho n;exact (kK f ns (h.shut hb ho n) (hl.m b _ ho (aq hb)) (hl.o b ho)).trans (qL h hb ho n)
def orphP (id : Nat) (bs : List Nat) (q : Nat × PS) : Nat × PS := if q.1 ∈ bs ∧ q.2.par = id then (q.1, { q.2 with par := 1 }) else q
theorem oF (id : Nat) : ∀ (bs : List Nat) {S : St}, (S.ps.map (·.1)).Nodup → (S.orphs id bs).ps = S.ps.map (orphP id bs)
 | [], S, _ => by
   show S.ps = _;have : ∀ q ∈ S.ps, orphP id [] q = q := fun q _ => by simp [orphP]
   rw [List.map_congr_left this]; simp
 | b :: bs, S, hn => by
   unfold St.orphs;have step : ∀ S1 : St, S1.ps = S.ps.map (orphP id [b]) → (S1.orphs id bs).ps = S.ps.map (orphP id (b :: bs)) := fun S1 h1 => by
     have hf : S1.ps.map (·.1) = S.ps.map (·.1) := by
       rw [h1, List.map_map];apply List.map_congr_left;intro q _;simp only [Function.comp, orphP]
       split <;> rfl
     rw [oF id bs (by rw [hf]; exact hn), h1, List.map_map];apply List.map_congr_left;intro q _;simp only [Function.comp, orphP];by_cases e1 : q.1 = b <;> by_cases e2 : q.2.par = id <;> by_cases e3 : q.1 ∈ bs <;> simp [e1, e2, e3]
   cases hg : S.get b with
   | none =>
     refine step S ?_;have : ∀ q ∈ S.ps, orphP id [b] q = q := fun q hq => by
       unfold orphP;rw [if_neg];rintro ⟨e, _⟩;have e : q.1 = b := by simpa using e
       have := bf hn (b := q.1) (x := q.2) hq;rw [e, hg] at this;cases this
     rw [List.map_congr_left this]; simp
   | some y =>
     simp only;have hb := aV hg
     split
     · rename_i hp;refine step _ ?_;show S.ps.map _ = _;apply List.map_congr_left;rintro ⟨c, z⟩ hq;unfold orphP;by_cases e : c = b
       · subst e;obtain rfl := aT hn hq hb;simp [hp]
       · simp [e]
     · rename_i hp;refine step S ?_;have : ∀ q ∈ S.ps, orphP id [b] q = q := fun q hq => by
         unfold orphP;rw [if_neg];rintro ⟨e, e2⟩;obtain ⟨c, z⟩ := q;obtain rfl : c = b := by simpa using e
         obtain rfl := aT hn hq hb;exact hp e2
       rw [List.map_congr_left this]; simp
theorem vz (id : Nat) (hn : (S.ps.map (·.1)).Nodup) : (S.orphs id (S.ps.map (·.1))).sk = S.sk.map (orph id) := by
 unfold St.sk;rw [oF id _ hn, List.map_map, List.map_map];apply List.map_congr_left;intro q hq;have hm : q.1 ∈ S.ps.map (·.1) := List.mem_map.2 ⟨q, hq, rfl⟩;simp only [Function.comp, orphP, orph, key];by_cases e : q.2.par = id <;> simp only [hm, e, true_and, and_true, if_true, if_false, and_false]
theorem qM (h : MI P N S) (hb : (b, x) ∈ S.ps) (ho : S.out b) {i : Nat} (hc : S.childAt x = some i) (h6 : x.st ≠ 6) : Del S.sk (S.take b x i).sk := by
 obtain ⟨q, hq, hp, hq6⟩ := b4 hc;have hbe := (h.take hb ho hc h6).2;have e : S.take b x i = ({ S.setPs (S.ps.eraseIdx i) with last := S.last } : St).setP b (told x q.2) := by unfold St.take; rw [hq]
 have hn : ((S.ps.eraseIdx i).map (·.1)).Nodup := List.Nodup.sublist ((List.eraseIdx_sublist S.ps i).map _) h.i.g.pn;rw [e, bQ (S := ({ S.setPs (S.ps.eraseIdx i) with last := S.last } : St)) (x := x) (x' := told x q.2) hn hbe rfl rfl Iff.rfl];refine ⟨(List.eraseIdx_sublist S.ps i).map _, fun e he => ?_⟩;obtain ⟨r, hr, rfl⟩ := List.mem_map.1 he;obtain ⟨j, hj⟩ := List.getElem?_of_mem hr;by_cases hji : j = i
 · subst hji;rw [hj] at hq;obtain rfl : r = q := by simpa using hq
   refine .inr ⟨by simp [key, hq6], ?_⟩;show r.2.par ≠ 0;have := (h.x.idr _ hb).1;simp only at this;omega
 · exact .inl (List.mem_map.2 ⟨r, List.mem_eraseIdx_iff_getElem?.2 ⟨j, hji, hj⟩, rfl⟩)
theorem pQ (h : MI P N S) (c : Nat) : Del S.sk (S.parent1 c).sk := by
 unfold St.parent1;cases hg : S.get c with
 | none => exact Del.refl _
 | some x =>
   simp only
   split
   · rename_i h2;cases hc : S.childAt x with
     | none => exact Del.refl _
     | some i =>
       obtain ⟨q, hq, _, h6⟩ := b4 hc;simp only [hq];have hb := aV hg;have ho := h.i.out_st hb (by omega) (by omega) (by omega);obtain ⟨hT, hci⟩ := h.take hb ho hc (by omega);have e : S.take c x i = ({ S.setPs (S.ps.eraseIdx i) with last := S.last } : St).setP c (told x q.2) := by unfold St.take; rw [hq]
       refine (qM h hb ho hc (by omega)).trans (Del.of (iF (x := told x q.2) hT.i.g.pn ?_ (by show x.st ≠ 6; omega)));rw [e]; exact aq hci
   · exact Del.refl _
theorem kL : ∀ (bs : List Nat) {S : St}, MI P N S → Del S.sk (S.parents bs).sk
 | [], _, _ => Del.refl _
 | c :: bs, _, h => (pQ h c).trans (kL bs (h.parent1 c))
theorem xA (h : MI P N S) (hb : (b, x) ∈ S.ps) (hid : x'.id = x.id) (hpar : x'.par = x.par) (hs : x'.st = 6) : (S.setP b x').sk = S.sk.map (mark x.id) := by
 unfold St.sk St.setP;simp only [List.map_map];apply List.map_congr_left;intro q hq;simp only [Function.comp]
 split
 · rename_i e;obtain ⟨c, y⟩ := q;obtain rfl : c = b := e;obtain rfl := aT h.i.g.pn hq hb;simp [key, mark, hid, hpar, hs]
 · rename_i e;unfold mark;rw [if_neg];intro e2;exact e (by rw [h.x.idn q hq _ hb e2])
theorem pR (h : MI P N S) (hb : (b, x) ∈ S.ps) (status : Int) : Del ((S.sk.map (mark x.id)).map (orph x.id)) (S.fin b x status).sk := by
 have ho := h.i.out_depart hb;have h1 : MI P N (S.depart b (x.file (x.r 0))) := h.depart;have hb1 : (b, x) ∈ (S.depart b (x.file (x.r 0))).ps := hb;have h2 := h1.stop1 hb1 ho (s := 6) (by decide);have hb2 : (b, { x with st := 6 }) ∈ ((S.depart b (x.file (x.r 0))).stop1 b x 6).ps := aq hb1;have h3 := h2.like (x' := { x with st := 6, stat := status }) hb2 ho rfl rfl ⟨(h.i.wf _ hb).r, (h.i.wf _ hb).m⟩ (h.i.fl (b, x) hb) rfl rfl (h.x.un (b, x) hb);have h4 := MI.shuts (b := b) x.f (List.range' 0 6) h3 (aq hb2) ho;have e1 : ((S.depart b (x.file (x.r 0))).stop1 b x 6).sk = S.sk.map (mark x.id) := xA (S := S) (x' := { x with st := 6 }) h hb rfl rfl rfl;have e2 := bQ (x' := { x with st := 6, stat := status }) h2.i.g.pn hb2 rfl rfl Iff.rfl;have e3 := kK (b := b) x.f (List.range' 0 6) h3 (aq hb2) ho;have e4 := vz x.id h4.i.g.pn;rw [e3, e2, e1] at e4;rw [← e4];exact kL _ (MI.orphs _ (h.x.idr _ hb).1 _ h4)
theorem vA (hn : (S.ps.map (·.1)).Nodup) (v : Int) : (S.r0 b v).sk = S.sk := by
 unfold St.r0;cases hg : S.get b with
 | none => rfl
 | some z => exact bQ (x' := z.r0 v) hn (aV hg) rfl rfl Iff.rfl
theorem qN (h : MI (fun _ => False) N S) (hb : (b, x) ∈ S.ps) (hs : x.st = 1) {use most : Nat} (hu : use = 4 ∨ use = 5) (hm : use = 5 → most ≤ 8) : (S.askR b x use most).2.sk = S.sk := by
 have ho := h.out hb hs;unfold St.askR;cases hc : x.checkUse use most with
 | some i => rfl
 | none =>
   obtain ⟨c1, c2, c3⟩ := dN hc;have hk : okEnd (x.file (x.r 0)) := (h.i.file_ok hb _).resolve_left fun e => by rw [e] at c1; simp only at c1; omega
   have hj : Inv (S.joinW b (x.file (x.r 0))) := h.i.joinW hb ho ⟨rfl, c3, fun h5 => by rw [h5] at c1; have := hm c1.symm; omega, .inl hs⟩ hk;have h2 := (hj.look (x.file (x.r 0)).1).i;have e := iG (x.file (x.r 0)).1 16 hj;simp only
   split
   · rename_i hin;cases hg : ((S.joinW b (x.file (x.r 0))).look (x.file (x.r 0)).1).get b with
     | none => exact e
     | some z =>
       have hz := aV hg;have hask := (h2.atRow hin hz).1.s;have := hk.2;exact (kJ h2.g.pn hz (by omega) (by omega)).trans e
   · exact e
inductive Skp (l : List Key) (n t id : Nat) : List Value → List Key → Nat → Prop
 | calm {l'} : Del l l' → Skp l n t id [] l' n
 | said {l'} (v : Int) : 0 ≤ v ∧ v < 256 → Del l l' → Skp l n t id [evt t 3 id v] l' n
 | fork : Skp l n t id [] (l ++ [(n + 1, id, false)]) (n + 1)
 | gone {l'} (d p : Nat) (v : Int) : (d, p, false) ∈ l → Del ((l.map (mark d)).map (orph d)) l' → Skp l n t id [evt t 4 d v] l' n
theorem vB (h : MI (fun _ => False) N S) (hb : (b, x) ∈ S.ps) (hs : x.st = 1) {c : Nat} (hc : ∀ q ∈ S.ps, c ≠ q.1) (hN : N c = S.last + 1) (m : Int) : Skp S.sk S.last S.now x.id (S.grantE b x m) (S.grantS b x m c).sk (S.grantS b x m c).last := by
 have ho := h.out hb hs;have hn := h.i.g.pn;have h6 : x.st ≠ 6 := by omega
 have same : ∀ {S' : St}, S'.sk = S.sk → S'.last = S.last → Skp S.sk S.last S.now x.id [] S'.sk S'.last := fun h1 h2 => by rw [h1, h2]; exact .calm (Del.refl _)
 have km : ∀ {q : Nat × PS}, q ∈ S.ps → q.2.st ≠ 6 → (q.2.id, q.2.par, false) ∈ S.sk := fun {q} hq h => List.mem_map.2 ⟨q, hq, by simp [key, h]⟩;unfold St.grantE St.grantS;by_cases e0 : m = 0
 · rw [if_pos e0, if_pos e0];rw [(iV S b x (x.r 0)).last];exact .gone x.id x.par _ (km hb h6) (pR h hb _)
 rw [if_neg e0, if_neg e0];by_cases e1 : m = 1
 · rw [if_neg (by omega), if_neg (by omega), if_pos e1]
   split
   · exact same rfl rfl
   · rename_i h8;have hbc : b ≠ c := fun e => hc _ hb e.symm;have hw := h.i.wf _ hb;have hid := (h.x.idr _ hb).1;obtain ⟨h1, ho1⟩ := h.taken (y := x.copy.r0 0) hc (by omega) rfl (by show 0 < 3; omega) (fy (x := x.copy) (v := 0) ⟨hw.r, hw.m⟩ (by omega)) (h.i.fl (b, x) hb) (by show x.id ≠ 0; simp only at hid; omega) (Nat.zero_le _) hN;have hcm : (c, { x.copy.r0 0 with id := S.last + 1 }) ∈ (S.taken c (x.copy.r0 0)).ps := List.mem_append_right _ List.mem_cons_self;have h2 := h1.wake1 hcm ho1 (by show (0 : Nat) ≠ 1; omega);have hb2 : (b, x) ∈ (S.adopt c (x.copy.r0 0)).ps := bT (List.mem_append_left _ hb) hbc;have e1 := bQ (x' := x.r0 (((S.last + 1 : Nat) : Int) % 65536)) h2.i.g.pn hb2 rfl rfl Iff.rfl;have e2 := iF h1.i.g.pn hcm (by show (0 : Nat) ≠ 6; omega);have e3 : (S.forkS b x c).sk = S.sk ++ [(S.last + 1, x.id, false)] := by
       refine e1.trans (e2.trans ?_);show (S.ps ++ [(c, { x.copy.r0 0 with id := S.last + 1 })]).map key = _;rw [List.map_append]; rfl
     rw [e3];exact .fork
 rw [if_neg e1];by_cases e2 : m = 2
 · rw [if_neg (by omega), if_neg (by omega), if_pos e2];rw [(nU S b x).last];refine .calm ?_;unfold St.waitR
   split
   · simp only
     split
     · exact qM h hb ho ‹_› h6
     · exact Del.of (kJ hn hb h6 (by decide))
   · exact Del.refl _
 rw [if_neg e2];by_cases e3 : m = 3
 · rw [if_pos e3, if_pos e3];cases hf : S.find (x.r 0) with
   | none => exact same rfl rfl
   | some q =>
     simp only
     split
     · exact same rfl rfl
     · rename_i h7;obtain ⟨hq, _⟩ := fA hf;rw [vA (MI.fin (b := q.1) (x := q.2) h hq _).i.g.pn 0, (nR _ b 0).last, (iV S q.1 q.2 65280).last];exact .gone q.2.id q.2.par _ (km hq h7) (pR (b := q.1) (x := q.2) h hq _)
 rw [if_neg e3, if_neg e3];by_cases e11 : m = 11
 · subst e11;simp only [if_pos];exact .said _ (by omega) (Del.of (bQ (x' := x.r0 0) hn hb rfl rfl Iff.rfl))
 rw [if_neg e11];by_cases e4 : m = 4
 · rw [if_pos e4];refine same ?_ (lz _ _ _).last;unfold St.sleep1
   split
   · exact bQ (x' := x.r0 0) hn hb rfl rfl Iff.rfl
   · refine (kJ (x := { x.r0 0 with til := (S.now : Int) + x.r 0 }) (by rw [aU]; exact hn) (aq hb) h6 (by decide)).trans ?_;exact bQ (x' := { x.r0 0 with til := (S.now : Int) + x.r 0 }) hn hb rfl rfl Iff.rfl
 rw [if_neg e4];by_cases e5 : m = 5
 · rw [if_pos e5];exact same (bQ (x' := x.r0 0) hn hb rfl rfl Iff.rfl) rfl
 rw [if_neg e5];by_cases e6 : m = 6
 · rw [if_pos e6];exact same (bQ (x' := x.r0 ((x.id : Int) % 65536)) hn hb rfl rfl Iff.rfl) rfl
 rw [if_neg e6];by_cases e7 : m = 7
 · rw [if_pos e7];refine same ?_ (nV _ _ _).last;unfold St.pipeR
   split
   · rfl
   · split
     · rename_i i j _ _;exact bQ (S := S.setY S.unused []) (x' := x.piped S.unused i j) hn hb rfl rfl Iff.rfl
     · rfl
 rw [if_neg e7];by_cases e8 : m = 8
 · rw [if_pos e8];refine same ?_ (lA _ _ _).last;unfold St.closeR
   split
   · rfl
   · exact (vA (h.shut hb ho _).i.g.pn 0).trans (qL h hb ho _)
 rw [if_neg e8];by_cases e9 : m = 9
 · rw [if_pos e9];exact same (qN h hb hs (.inl rfl) (by omega)) (jw _ _ _ _ _).last
 rw [if_neg e9];by_cases e10 : m = 10
 · rw [if_pos e10];exact same (qN h hb hs (.inr rfl) (by omega)) (jw _ _ _ _ _).last
 rw [if_neg e10, if_neg e11];exact same rfl rfl
theorem zo (h : MI (fun _ => False) N S) (hp : Coded S) (hb : (b, x) ∈ S.ps) (hs : x.st = 1) {c : Nat} (hc : ∀ q ∈ S.ps, c ≠ q.1) (hN : N c = S.last + 1) : Skp S.sk S.last S.now x.id (S.runE b x) (S.runS b x c).sk (S.runS b x c).last := by
 have ho := h.out hb hs;have hn := h.i.g.pn;have h6 : x.st ≠ 6 := by omega
 have km : (x.id, x.par, false) ∈ S.sk := List.mem_map.2 ⟨(b, x), hb, by simp [key, h6]⟩;have fault : ∀ v : Int, Skp S.sk S.last S.now x.id [evt S.now 4 x.id v] (S.fin b x v).sk (S.fin b x v).last := fun v => by
   rw [(iV S b x v).last];exact .gone x.id x.par _ km (pR h hb _)
 unfold St.runE St.runS;by_cases e1 : S.pn ≤ x.at_
 · rw [if_pos e1, if_pos e1]; exact fault _
 rw [if_neg e1, if_neg e1];by_cases e2 : S.pg x.at_ 0 = 9
 · rw [if_pos e2, if_pos e2];have h1 : MI (fun _ => False) N (S.setP b x.next) := h.like (x' := x.next) hb ho rfl rfl ⟨(h.i.wf _ hb).r, (h.i.wf _ hb).m⟩ (h.i.fl (b, x) hb) rfl rfl (h.x.un (b, x) hb);have hb1 : (b, x.next) ∈ (S.setP b x.next).ps := aq hb;have hc1 : ∀ q ∈ (S.setP b x.next).ps, c ≠ q.1 := fun q hq e => by
     have : q.1 ∈ S.ps.map (·.1) := by rw [← aU S b x.next]; exact List.mem_map.2 ⟨q, hq, rfl⟩
     obtain ⟨r, hr, e2⟩ := List.mem_map.1 this;exact hc r hr (by rw [e, ← e2])
   have hg := vB h1 hb1 hs hc1 hN (S.pg x.at_ 1);rw [bQ (x' := x.next) hn hb rfl rfl Iff.rfl] at hg
   split
   · rw [vA (h1.grantS hb1 hs hc1 hN _).i.g.pn, (nR _ b _).last]; exact hg
   · exact hg
 rw [if_neg e2, if_neg e2];cases hd : S.doR x with
 | error i => exact fault _
 | ok x' =>
   have hpc := hp.2 x.at_ (by omega);obtain ⟨d1, d2, d3, d4, d5, d6, d7⟩ := mF (h.i.wf _ hb) (hpc 2 (by omega)) (hpc 3 (by omega)) hd;show Skp S.sk S.last S.now x.id [] (S.setP b x').sk S.last;rw [bQ (x' := x') hn hb d3 d4 (by rw [d1])];exact .calm (Del.refl _)
theorem vC (hn : (S.ps.map (·.1)).Nodup) (b : Nat) : (S.after b).sk = S.sk := by
 unfold St.after;cases hg : S.get b with
 | none => rfl
 | some z =>
   have hb := aV hg;have e1 := bQ (x' := z.more) hn hb rfl rfl Iff.rfl;simp only
   split
   · unfold St.turn
     split
     · exact e1
     · simp only;exact (bQ (S := (S.setP b z.more).setRow z.more.lv (((S.setP b z.more).rows z.more.lv).erase b)) (x' := { z.more with lv := min (z.more.lv + 1) 2, used := 0 }) (by show ((S.setP b z.more).ps.map (·.1)).Nodup; rw [aU]; exact hn) (aq hb) rfl rfl Iff.rfl).trans e1
   · exact e1
theorem iH : ∀ (bs : List Nat) {S : St}, (S.ps.map (·.1)).Nodup → (S.wakes bs).sk = S.sk ∧ ((S.wakes bs).ps.map (·.1)) = S.ps.map (·.1)
 | [], _, _ => ⟨rfl, rfl⟩
 | b :: bs, S, hn => by
   unfold St.wakes;cases hg : S.get b with
   | none => exact iH bs hn
   | some x =>
     simp only
     split
     · rename_i h;have hb := aV hg;have e : (S.wake1 b x).ps.map (·.1) = S.ps.map (·.1) := aU S b _;obtain ⟨h1, h2⟩ := iH bs (S := S.wake1 b x) (by rw [e]; exact hn);exact ⟨h1.trans (iF hn hb (by omega)), h2.trans e⟩
     · exact iH bs hn
theorem iI : ∀ (bs : List Nat) {S : St}, (S.ps.map (·.1)).Nodup → (S.lifts bs).sk = S.sk
 | [], _, _ => rfl
 | b :: bs, S, hn => by
   unfold St.lifts;cases hg : S.get b with
   | none => exact iI bs hn
   | some x =>
     simp only
     split
     · have hb := aV hg;exact (iI bs (by rw [aU]; exact hn)).trans (bQ (x' := { x with lv := 0, used := 0 }) hn hb rfl rfl Iff.rfl)
     · exact iI bs hn
theorem qO (hn : (S.ps.map (·.1)).Nodup) : S.lead.sk = S.sk := by
 obtain ⟨h1, h2⟩ := iH (S.ps.map (·.1)) hn;unfold St.lead St.boost
 split
 · have h3 : ((S.wake.lifts (S.wake.ps.map (·.1))).raises 2).sk = (S.wake.lifts (S.wake.ps.map (·.1))).sk := by unfold St.sk; rw [(dD _ 2).1]
   exact h3.trans ((iI _ (S := S.wake) (by unfold St.wake; rw [h2]; exact hn)).trans h1)
 · exact h1
theorem xB {c : Nat} (h : TI N S) (hc : ∀ q ∈ S.lead.ps, c ≠ q.1) (hN : N c = S.last + 1) :
   (S.tickE = [evt S.now 2 0 0] ∧ (S.tickU c).later.sk = S.sk ∧ (S.tickU c).later.last = S.last) ∨
   ∃ id par at_ es, (id, par, false) ∈ S.sk ∧ S.tickE = evt S.now 1 (id : Nat) (at_ : Nat) :: es ∧ Skp S.sk S.last S.now id es (S.tickU c).later.sk (S.tickU c).later.last := by
 have hsk := qO h.m.i.g.pn;have hnow : S.lead.now = S.now := (bK S).now;have hl := cA S;unfold St.tickE St.tickU;cases hf : S.lead.first with
 | none => exact .inl ⟨by rw [hnow], hsk, hl⟩
 | some b =>
   obtain ⟨x, hx, hs⟩ := dE h.m.lead.i.g hf;simp only [bf h.m.lead.i.g.pn hx];have hr := zo h.m.lead h.coded_lead hx hs hc (by rw [hl]; exact hN);rw [hsk, hl, hnow] at hr;refine .inr ⟨x.id, x.par, x.at_, _, ?_, by rw [hnow], ?_⟩
   · rw [← hsk]; exact List.mem_map.2 ⟨(b, x), hx, by simp [key, hs]⟩
   · show Skp _ _ _ _ _ ((S.lead.runS b x c).after b).sk ((S.lead.runS b x c).after b).last;rw [vC (h.m.lead.runS h.coded_lead hx hs hc (by rw [hl]; exact hN)).i.g.pn, (eQ _ b).last];exact hr
end
structure KI (l : List Key) (n : Nat) : Prop where
 asc : (l.map (·.1)).Pairwise (· < ·)
 rng : ∀ e ∈ l, 1 ≤ e.1 ∧ e.1 ≤ n
 one : ∃ e ∈ l, e.1 = 1 ∧ e.2.1 = 0
 par : ∀ e ∈ l, e.1 ≠ 1 → e.2.1 ≠ 0 ∧ ∃ f ∈ l, f.1 = e.2.1 ∧ (f.2.2 = false ∨ f.1 = 1)
section
variable {l l' : List Key} {n t id : Nat}
theorem KI.fork (h : KI l n) {p : Nat} (hp : (id, p, false) ∈ l) : KI (l ++ [(n + 1, id, false)]) (n + 1) where
 asc := by
   rw [List.map_append, List.pairwise_append];refine ⟨h.asc, by simp, fun a ha b hb => ?_⟩;obtain ⟨e, he, rfl⟩ := List.mem_map.1 ha;have := (h.rng e he).2;simp at hb;omega
 rng := fun e he => by
   rcases List.mem_append.1 he with h1 | h1
   · have := h.rng e h1; omega
   · simp at h1; subst h1; exact ⟨by simp, Nat.le_refl _⟩
 one := by
   obtain ⟨e, he, h1⟩ := h.one;exact ⟨e, List.mem_append_left _ he, h1⟩
 par := fun e he h1 => by
   rcases List.mem_append.1 he with h2 | h2
   · obtain ⟨h3, f, hf, h4⟩ := h.par e h2 h1;exact ⟨h3, f, List.mem_append_left _ hf, h4⟩
   · simp at h2;subst h2;have := (h.rng _ hp).1;simp only at this;exact ⟨by simp only; omega, _, List.mem_append_left _ hp, rfl, .inl rfl⟩
theorem dp (d : Nat) (e : Key) : (orph d (mark d e)).1 = e.1 ∧ (mark d e).1 = e.1 := by
 unfold orph mark;constructor <;> (repeat' split) <;> rfl
theorem xC (d : Nat) (l : List Key) : (((l.map (mark d)).map (orph d)).map (·.1)) = l.map (·.1) := by
 rw [List.map_map, List.map_map];apply List.map_congr_left;intro e _;exact (dp d e).1
theorem xD (d : Nat) (e : Key) : (orph d (mark d e)).2.2 = (if e.1 = d then true else e.2.2) := by
 unfold orph mark
 (repeat' split) <;> first | rfl | contradiction
theorem qP (d : Nat) (e : Key) : (orph d (mark d e)).2.1 = (if e.2.1 = d then 1 else e.2.1) := by
 unfold orph mark
 (repeat' split) <;> first | rfl | contradiction | simp_all
theorem KI.gone (h : KI l n) {d : Nat} (hd : 1 ≤ d) : KI ((l.map (mark d)).map (orph d)) n := by
 have mem : ∀ e ∈ (l.map (mark d)).map (orph d), ∃ f ∈ l, e = orph d (mark d f) := fun e he => by
   obtain ⟨e1, h1, rfl⟩ := List.mem_map.1 he;obtain ⟨f, h2, rfl⟩ := List.mem_map.1 h1;exact ⟨f, h2, rfl⟩
 have of : ∀ f ∈ l, orph d (mark d f) ∈ (l.map (mark d)).map (orph d) := fun f hf => List.mem_map.2 ⟨_, List.mem_map.2 ⟨f, hf, rfl⟩, rfl⟩;obtain ⟨e1, he1, h11, h10⟩ := h.one;refine ⟨by rw [xC]; exact h.asc, fun e he => ?_, ⟨_, of e1 he1, by rw [(dp d e1).1]; exact h11, by rw [qP, h10, if_neg (by omega)]⟩, fun e he h1 => ?_⟩
 · obtain ⟨f, hf, rfl⟩ := mem e he;rw [(dp d f).1]; exact h.rng f hf
 · obtain ⟨f, hf, rfl⟩ := mem e he;rw [(dp d f).1] at h1;obtain ⟨h2, g, hg, h3, h4⟩ := h.par f hf h1;rw [qP]
   split
   · exact ⟨by decide, _, of e1 he1, by rw [(dp d e1).1]; exact h11, .inr (by rw [(dp d e1).1]; exact h11)⟩
   · rename_i hne;refine ⟨h2, _, of g hg, by rw [(dp d g).1]; exact h3, ?_⟩;rw [(dp d g).1, xD, if_neg (by omega)];exact h4
end
structure Gone (l : List Key) (n : Nat) (G : Nat → Bool) : Prop where
 e : ∀ e ∈ l, G e.1 = e.2.2
 hi : ∀ j, n < j → G j = false
 z : G 0 = false
theorem pT {c : Nat → Int} {bo : Int} {l : List Int} (hc : okc c bo = true) (hl : oki l.length = true) (hB : Byt l) : TI id (St.fresh c bo l 1) ∧ KI (St.fresh c bo l 1).sk (St.fresh c bo l 1).last ∧ Gone (St.fresh c bo l 1).sk (St.fresh c bo l 1).last (fun _ => false) := by
 have hps : (St.fresh c bo l 1).ps = [(1, PS.one)] := kF;have hsk : (St.fresh c bo l 1).sk = [(1, 0, false)] := by unfold St.sk; rw [hps]; rfl
 have hlast : (St.fresh c bo l 1).last = 1 := rfl;refine ⟨(oz hc hl hB).rename fun q hq => ?_, ?_, ?_⟩
 · rw [hps] at hq;rw [List.mem_singleton.1 hq]; rfl
 · rw [hsk, hlast];exact ⟨by simp, by simp, ⟨_, List.mem_cons_self, rfl, rfl⟩, by simp⟩
 · rw [hsk, hlast];exact ⟨by simp, fun _ _ => rfl, rfl⟩
theorem WL.turn {L L' : Frag} {base : Option Addr} {ws : List Wd} (h : WL L base ws) (hF : Fun L) {b : Nat} {cs : Array Value} {e : TypeId} (hm : (b, true, Obj.cells cs e) ∈ L) (he : e ≠ 51) (hs : ∀ t ∈ L, t.1 ≠ b → t ∈ L') : WL L' base ws := fun i w hw => by
 obtain ⟨g, ks, h1, h2, h3⟩ := h i w hw;refine ⟨g, ks, h1, hs _ h2 fun e2 => ?_, h3⟩;have e3 : g = b := e2;subst e3;exact absurd (hF _ _ _ _ _ hm h2).2 (aF he)
section
variable {P : Program} {N : Nat} {ε : Env} {L : Frag} {d : Option Tmp} {ty : TypeId} {ps : String} {af : Array Edge} {g : Option (Nat × Bool)} {x y : Operand} {t u : TypeId}
theorem mL {l : List Int} {ats : Array TypeId} (hx : ev ε x = some (strv l) := by rfl) (hu : P.underlying t = some .string := by kernel_rfl) (ha' : ats[0]? = some t := by rfl) : EY P N ε L ⟨d, .call ⟨.builtin .len, #[x], ats⟩, ty, ps, af, g⟩ (.int .i64 (l.length : Nat)) := by
 have h := yy (P := P) (N := N) (L := L) (d := d) (ty := ty) (ps := ps) (af := af) (g := g) (s' := ⟨(l.map fun n => UInt8.ofNat n.toNat).toArray⟩) hx hu ha';have e : (⟨(l.map fun n => UInt8.ofNat n.toNat).toArray⟩ : ByteArray).size = l.length := by simp [ByteArray.size]
 rw [e] at h;exact h
end
theorem qQ {S : St} {a : Sl} {i j : Nat} {q : Nat × PS} {v : Value} {L : Frag} {g : Nat} (hm : (g, true, Obj.cells (heads S.ps ++ a.junk).toArray 49) ∈ L) (h : S.ps[i]? = some q) (hj : j < 15) (hv : (phead q.2)[j]? = some v) : At L g (i * 15 + j) v := ⟨true, _, _, _, hm, by
 have hi := (List.getElem?_eq_some_iff.1 h).1;rw [List.getElem?_toArray, List.getElem?_append_left (by rw [fZ]; omega), oD _ h j hj];exact hv⟩
section
variable {p q : Nat} {R R' R'' : List Nat}
def ahead (R : List Nat) (p : Nat) : List Nat := R.takeWhile fun c => !decide (c = p)
def Lane (p : Nat) (R R' : List Nat) : Prop := ∃ X A, R' = X ++ A ∧ X.Sublist R ∧ p ∈ X
theorem Lane.pre (h : p ∈ R) (hp : R <+: R') : Lane p R R' := by
 obtain ⟨A, rfl⟩ := hp;exact ⟨R, A, rfl, List.Sublist.refl _, h⟩
theorem Lane.refl (h : p ∈ R) : Lane p R R := Lane.pre h (List.prefix_refl _)
theorem Lane.erase (h : p ∈ R) (hne : p ≠ q) : Lane p R (R.erase q) := ⟨R.erase q, [], by simp, List.erase_sublist, (List.mem_erase_of_ne hne).2 h⟩
theorem Lane.trans (h1 : Lane p R R') (h2 : Lane p R' R'') (hn : R'.Nodup) : Lane p R R'' := by
 obtain ⟨X, A, rfl, hX, hp⟩ := h1;obtain ⟨X', A', rfl, hX', hp'⟩ := h2;obtain ⟨X1, A1, rfl, s1, s2⟩ := List.sublist_append_iff.1 hX';refine ⟨X1, A1 ++ A', by simp, s1.trans hX, ?_⟩;rcases List.mem_append.1 hp' with h | h
 · exact h
 · exact absurd rfl ((List.nodup_append.1 hn).2.2 p hp p (s2.subset h))
theorem iZ : ∀ {X : List Nat} (A : List Nat), p ∈ X → ahead (X ++ A) p = ahead X p
 | a :: X, A, h => by
   unfold ahead;rw [List.cons_append, List.takeWhile_cons, List.takeWhile_cons];by_cases e : a = p
   · simp [e]
   · have hX : p ∈ X := by
       rcases List.mem_cons.1 h with h | h
       · exact absurd h.symm e
       · exact h
     have := iZ A hX;unfold ahead at this;simp [e, this]
theorem sR {X R : List Nat} (h : X.Sublist R) (hn : R.Nodup) (hp : p ∈ X) : (ahead X p).Sublist (ahead R p) := by
 induction h with
 | slnil => cases hp
 | @cons X R a h ih =>
   rw [List.nodup_cons] at hn;have hne : a ≠ p := fun e => hn.1 (by rw [e]; exact h.subset hp);have := ih hn.2 hp;unfold ahead at this ⊢;rw [List.takeWhile_cons, if_pos (by simp [hne])];exact this.cons a
 | @cons_cons X R a h ih =>
   rw [List.nodup_cons] at hn;unfold ahead at ih ⊢;rw [List.takeWhile_cons, List.takeWhile_cons];by_cases e : a = p
   · simp [e]
   · have hX : p ∈ X := by
       rcases List.mem_cons.1 hp with h | h
       · exact absurd h.symm e
       · exact h
     rw [if_pos (by simp [e]), if_pos (by simp [e])];exact (ih hn.2 hX).cons_cons a
theorem Lane.ahead (h : Lane p R R') (hn : R.Nodup) : (ahead R' p).Sublist (ahead R p) := by
 obtain ⟨X, A, rfl, hX, hp⟩ := h;rw [iZ A hp];exact sR hX hn hp
theorem sT (hp : R <+: R') (h : p ∈ R) : Go.Proofs.YtejkelcaljmnoaaGreatDoor.ahead R' p = Go.Proofs.YtejkelcaljmnoaaGreatDoor.ahead R p := by
 obtain ⟨A, rfl⟩ := hp;exact iZ A h
end
structure Gr (S S' : St) : Prop where
 r : ∀ l, l < 3 → S.rows l <+: S'.rows l
 u : ∀ c y', (c, y') ∈ S'.ps → ∃ y, (c, y) ∈ S.ps ∧ (y.st = 1 → y'.st = 1 ∧ y'.used = y.used ∧ y'.lv = y.lv) ∧ (y.st = 6 → y'.st = 6) ∧ (y.st ≠ 1 → y'.st = 1 → y'.used = 0)
section
variable {S S' S'' : St} {b : Nat} {x x' : PS} {k : Nat × Nat} {P : Nat → Prop} {N : Nat → Nat}
theorem Gr.of (h1 : ∀ q ∈ S'.ps, q ∈ S.ps) (h2 : ∀ l, l < 3 → S.rows l <+: S'.rows l) : Gr S S' := ⟨h2, fun c y' h => ⟨y', h1 _ h, fun e => ⟨e, rfl, rfl⟩, fun e => e, fun e e' => absurd e' e⟩⟩
theorem Gr.refl (S : St) : Gr S S := Gr.of (fun _ h => h) fun _ _ => List.prefix_refl _
theorem Gr.trans (h : Gr S S') (k : Gr S' S'') : Gr S S'' := ⟨fun l hl => (h.r l hl).trans (k.r l hl), fun c y'' h2 => by
 obtain ⟨y', m', a1, a2, a3⟩ := k.u c y'' h2;obtain ⟨y, m, b1, b2, b3⟩ := h.u c y' m';refine ⟨y, m, fun e => ?_, fun e => a2 (b2 e), fun e e' => ?_⟩
 · obtain ⟨c1, c2, c3⟩ := b1 e;obtain ⟨d1, d2, d3⟩ := a1 c1;exact ⟨d1, d2.trans c2, d3.trans c3⟩
 · by_cases h1 : y'.st = 1
   · rw [(a1 h1).2.1]; exact b3 e h1
   · exact a3 h1 e'⟩
theorem Gr.setP (hb : (b, x) ∈ S.ps) (hs : x'.st = x.st) (hu : x'.used = x.used) (hl : x'.lv = x.lv) : Gr S (S.setP b x') := ⟨fun l _ => List.prefix_refl _, fun c y' h => by
 rcases aP h with e | ⟨h1, _⟩
 · obtain ⟨rfl, rfl⟩ := Prod.mk.inj e;exact ⟨x, hb, fun e => ⟨hs.trans e, hu, hl⟩, fun e => hs.trans e, fun e e' => absurd (hs.symm.trans e') e⟩
 · exact ⟨y', h1, fun e => ⟨e, rfl, rfl⟩, fun e => e, fun e e' => absurd e' e⟩⟩
theorem Gr.wake1 (hb : (b, x) ∈ S.ps) (h1 : x.st ≠ 1) (h6 : x.st ≠ 6) : Gr S (S.wake1 b x) := ⟨fun l _ => by
 show S.rows l <+: put S.rows x.lv (S.rows x.lv ++ [b]) l;unfold put
 split
 · rename_i e; subst e; exact List.prefix_append _ _
 · exact List.prefix_refl _, fun c y' h => by
 rcases aP (S := S) h with e | ⟨h2, _⟩
 · obtain ⟨rfl, rfl⟩ := Prod.mk.inj e;exact ⟨x, hb, fun e => absurd e h1, fun e => absurd e h6, fun _ _ => rfl⟩
 · exact ⟨y', h2, fun e => ⟨e, rfl, rfl⟩, fun e => e, fun e e' => absurd e' e⟩⟩
theorem oG (h : Inv S) (hS : S.serve k = some S') : Gr S S' := by
 obtain ⟨b, x, hm, _, hb, hc, rfl⟩ := cL hS;obtain ⟨ha, hk⟩ := h.atRow hm hb;obtain ⟨l1, l2, l3, l4, l5⟩ := b6 S x k;have h6 : x.st ≠ 6 := by
   have h1 := ha.s;have h2 := hk.2;omega
 have e : Gr S ((S.depart b k).carry b x k) := by
   obtain ⟨ys, e1, _⟩ := eN (S.depart b k) b x k;rw [e1];have e0 : Gr S (S.depart b k) := Gr.of (fun _ h => h) fun _ _ => List.prefix_refl _;have e2 : Gr ((S.depart b k).setP b (S.carried x k)) (((S.depart b k).setP b ((S.depart b k).carried x k)).setY k.1 ys) := Gr.of (fun _ h => h) fun _ _ => List.prefix_refl _;exact e0.trans ((Gr.setP (S := S.depart b k) (x' := S.carried x k) hb l1 (iw S x k) l2).trans e2)
 split
 · exact e
 · rename_i h1;refine e.trans (Gr.wake1 (x := S.carried x k) ?_ (by rw [l1]; exact h1) (by rw [l1]; exact h6));rw [cK]; exact aq (S := S.depart b k) hb
theorem iJ (p : Nat) : ∀ (n : Nat) {S : St}, Inv S → Gr S (St.looks n S p)
 | 0, _, _ => Gr.refl _
 | n + 1, S, h => by
   unfold St.looks
   split
   · rename_i S1 h1; exact (oG h h1).trans (iJ p n (h.serve h1))
   · split
     · rename_i S1 h1; exact (oG h h1).trans (iJ p n (h.serve h1))
     · exact Gr.refl _
theorem qR (h : MI P N S) (hb : (b, x) ∈ S.ps) (ho : S.out b) (n : Nat) : Gr S (S.shut b n) := by
 unfold St.shut;rw [bf h.i.g.pn hb];have h1 := h.like (x' := { x with f := put x.f n (0, 0) }) hb ho rfl rfl ⟨(h.i.wf _ hb).r, (h.i.wf _ hb).m⟩ (gK (h.i.fl _ hb) (.inl rfl)) rfl rfl (h.x.un (b, x) hb);exact (Gr.setP (x' := { x with f := put x.f n (0, 0) }) hb rfl rfl rfl).trans (iJ _ 16 h1.i)
theorem kM (f : Nat → Nat × Nat) : ∀ (ns : List Nat) {S : St} {x : PS}, MI P N S → (b, x) ∈ S.ps → S.out b → Gr S (S.shuts b f ns)
 | [], _, _, _, _, _ => Gr.refl _
 | n :: ns, S, x, h, hb, ho => by
   show Gr S ((if f n = (0, 0) then S else S.shut b n).shuts b f ns)
   split
   · exact kM f ns h hb ho
   · have hl := h.i.shut hb ho n;exact (qR h hb ho n).trans (kM f ns (h.shut hb ho n) (hl.m b _ ho (aq hb)) (hl.o b ho))
theorem iK (id : Nat) : ∀ (bs : List Nat) (S : St), Gr S (S.orphs id bs)
 | [], _ => Gr.refl _
 | b :: bs, S => by
   unfold St.orphs;cases hg : S.get b with
   | none => exact iK id bs S
   | some y =>
     simp only
     split
     · exact (Gr.setP (x' := { y with par := 1 }) (aV hg) rfl rfl rfl).trans (iK id bs _)
     · exact iK id bs S
theorem qS (h : MI P N S) (hb : (b, x) ∈ S.ps) (ho : S.out b) {i : Nat} (hc : S.childAt x = some i) (h6 : x.st ≠ 6) : Gr S (S.take b x i) := by
 obtain ⟨q, hq, hp, hq6⟩ := b4 hc;have hbe := (h.take hb ho hc h6).2;have e : S.take b x i = ({ S.setPs (S.ps.eraseIdx i) with last := S.last } : St).setP b (told x q.2) := by unfold St.take; rw [hq]
 rw [e];exact (Gr.of (S' := ({ S.setPs (S.ps.eraseIdx i) with last := S.last } : St)) (fun q h => List.mem_of_mem_eraseIdx h) fun _ _ => List.prefix_refl _).trans (Gr.setP (x' := told x q.2) hbe rfl rfl rfl)
theorem pU (h : MI P N S) (c : Nat) : Gr S (S.parent1 c) := by
 unfold St.parent1;cases hg : S.get c with
 | none => exact Gr.refl _
 | some x =>
   simp only
   split
   · rename_i h2;cases hc : S.childAt x with
     | none => exact Gr.refl _
     | some i =>
       obtain ⟨q, hq, _, h6⟩ := b4 hc;simp only [hq];have hb := aV hg;have ho := h.i.out_st hb (by omega) (by omega) (by omega);obtain ⟨hT, hci⟩ := h.take hb ho hc (by omega);have e : S.take c x i = ({ S.setPs (S.ps.eraseIdx i) with last := S.last } : St).setP c (told x q.2) := by unfold St.take; rw [hq]
       refine (qS h hb ho hc (by omega)).trans (Gr.wake1 (x := told x q.2) ?_ (by show x.st ≠ 1; omega) (by show x.st ≠ 6; omega));rw [e]; exact aq hci
   · exact Gr.refl _
theorem kN : ∀ (bs : List Nat) {S : St}, MI P N S → Gr S (S.parents bs)
 | [], _, _ => Gr.refl _
 | c :: bs, _, h => (pU h c).trans (kN bs (h.parent1 c))
structure Ins (b : Nat) (x : PS) (S S' : St) : Prop where
 ln : ∀ l, l < 3 → ∀ p y', p ≠ b → p ∈ S.rows l → (p, y') ∈ S'.ps → y'.st = 1 → Lane p (S.rows l) (S'.rows l)
 us : ∀ c y', c ≠ b → (c, y') ∈ S'.ps → y'.st = 1 → (∃ y, (c, y) ∈ S.ps ∧ y.st = 1 ∧ y'.used = y.used ∧ y'.lv = y.lv) ∨ (y'.used = 0 ∧ ∀ y, (c, y) ∈ S.ps → y.st ≠ 1)
 bb : ∀ z, (b, z) ∈ S'.ps → z.st = 1 → z.used = x.used ∧ z.lv = x.lv
theorem Ins.gr (hn : (S.ps.map (·.1)).Nodup) (hb : (b, x) ∈ S.ps) (hs : x.st = 1) (g : Gr S S') : Ins b x S S' := by
 refine ⟨fun l hl p y' _ hp _ _ => Lane.pre hp (g.r l hl), fun c y' _ h h1 => ?_, fun z h h1 => ?_⟩
 · obtain ⟨y, m, a1, _, a3⟩ := g.u c y' h;by_cases e : y.st = 1
   · exact .inl ⟨y, m, e, (a1 e).2⟩
   · exact .inr ⟨a3 e h1, fun y2 m2 => by rw [aT hn m2 m]; exact e⟩
 · obtain ⟨y, m, a1, _, a3⟩ := g.u b z h;obtain rfl := aT hn hb m;exact (a1 hs).2
theorem Ins.stop (hn : (S.ps.map (·.1)).Nodup) (hb : (b, x) ∈ S.ps) {s : Nat} (hs : s ≠ 1) : Ins b x S (S.stop1 b x s) := by
 refine ⟨fun l hl p y' hne hp _ _ => ?_, fun c y' hne h h1 => ?_, fun z h h1 => ?_⟩
 · show Lane p (S.rows l) (put S.rows x.lv ((S.rows x.lv).erase b) l);unfold put
   split
   · rename_i e; subst e; exact Lane.erase hp hne
   · exact Lane.refl hp
 · rcases aP (S := S) h with e | ⟨h2, _⟩
   · exact absurd (congrArg Prod.fst e) hne
   · exact .inl ⟨y', h2, h1, rfl, rfl⟩
 · rcases aP (S := S) h with e | ⟨_, h2⟩
   · obtain ⟨_, rfl⟩ := Prod.mk.inj e;exact absurd h1 hs
   · exact absurd rfl h2
theorem Gr.ins {z : PS} (g : Gr S S') (hG : Good S) (hG' : Good S') (hb : (b, x) ∈ S.ps) (hs : x.st = 1) (hz : (b, z) ∈ S'.ps) (h : Ins b z S' S'') : Ins b x S S'' := by
 have hzx : z.used = x.used ∧ z.lv = x.lv := by
   obtain ⟨y, m, a1, _, _⟩ := g.u b z hz;obtain rfl := aT hG.pn hb m;exact (a1 hs).2
 refine ⟨fun l hl p y' hne hp hm h1 => ?_, fun c y' hne hm h1 => ?_, fun w hw h1 => ?_⟩
 · exact (Lane.pre hp (g.r l hl)).trans (h.ln l hl p y' hne ((g.r l hl).subset hp) hm h1) (hG'.rn l hl)
 · rcases h.us c y' hne hm h1 with ⟨y, m, e1, e2, e3⟩ | ⟨e1, e2⟩
   · obtain ⟨y0, m0, a1, _, a3⟩ := g.u c y m;by_cases e : y0.st = 1
     · exact .inl ⟨y0, m0, e, e2.trans (a1 e).2.1, e3.trans (a1 e).2.2⟩
     · exact .inr ⟨e2.trans (a3 e e1), fun y2 m2 => by rw [aT hG.pn m2 m0]; exact e⟩
   · refine .inr ⟨e1, fun y m e => ?_⟩;have hlv := hG.lv _ m;have hr := (g.r _ hlv).subset (hG.rr (c, y) m e);obtain ⟨y2, m2, _, e3⟩ := hG'.rm _ hlv c hr;exact e2 y2 m2 e3
 · obtain ⟨e1, e2⟩ := h.bb w hw h1;exact ⟨e1.trans hzx.1, e2.trans hzx.2⟩
theorem Ins.own (h : Ins b x S S') {z z' : PS} (hz : (b, z) ∈ S'.ps) (hs : z'.st = z.st) (hu : z'.used = z.used) (hl : z'.lv = z.lv) : Ins b x S (S'.setP b z') := by
 have old : ∀ c y', c ≠ b → (c, y') ∈ (S'.setP b z').ps → (c, y') ∈ S'.ps := fun c y' hne hm => by
   rcases aP hm with e | ⟨h2, _⟩
   · exact absurd (congrArg Prod.fst e) hne
   · exact h2
 refine ⟨fun l hl p y' hne hp hm h1 => h.ln l hl p y' hne hp (old p y' hne hm) h1, fun c y' hne hm h1 => h.us c y' hne (old c y' hne hm) h1, fun w hw h1 => ?_⟩;rcases aP hw with e | ⟨_, h2⟩
 · obtain ⟨_, rfl⟩ := Prod.mk.inj e;obtain ⟨a1, a2⟩ := h.bb z hz (hs.symm.trans h1);exact ⟨hu.trans a1, hl.trans a2⟩
 · exact absurd rfl h2
theorem Ins.r0 (h : Ins b x S S') (v : Int) : Ins b x S (S'.r0 b v) := by
 unfold St.r0;cases hg : S'.get b with
 | none => exact h
 | some z => exact h.own (z' := z.r0 v) (aV hg) rfl rfl rfl
theorem jy (h : MI P N S) (hb : (b, x) ∈ S.ps) (hs : x.st = 1) {q : Nat} {xq : PS} (hq : (q, xq) ∈ S.ps) (status : Int) : Ins b x S (S.fin q xq status) := by
 have ho := h.i.out_depart hq;have h1 : MI P N (S.depart q (xq.file (xq.r 0))) := h.depart;have hb1 : (q, xq) ∈ (S.depart q (xq.file (xq.r 0))).ps := hq;have h2 := h1.stop1 hb1 ho (s := 6) (by decide);have hb2 : (q, { xq with st := 6 }) ∈ ((S.depart q (xq.file (xq.r 0))).stop1 q xq 6).ps := aq hb1;have h3 := h2.like (x' := { xq with st := 6, stat := status }) hb2 ho rfl rfl ⟨(h.i.wf _ hq).r, (h.i.wf _ hq).m⟩ (h.i.fl (q, xq) hq) rfl rfl (h.x.un (q, xq) hq);have h4 := MI.shuts (b := q) xq.f (List.range' 0 6) h3 (aq hb2) ho
 have g : Gr (((S.depart q (xq.file (xq.r 0))).stop1 q xq 6).setP q { xq with st := 6, stat := status }) (S.fin q xq status) :=
   (kM (b := q) xq.f (List.range' 0 6) h3 (aq hb2) ho).trans ((iK _ _ _).trans (kN _ (MI.orphs _ (h.x.idr _ hq).1 _ h4)))
 have old : ∀ c y, (c, y) ∈ (((S.depart q (xq.file (xq.r 0))).stop1 q xq 6).setP q { xq with st := 6, stat := status }).ps → (c = q ∧ y.st = 6) ∨ (c ≠ q ∧ (c, y) ∈ S.ps) := fun c y hm => by
   rcases aP hm with e | ⟨m1, n1⟩
   · obtain ⟨rfl, rfl⟩ := Prod.mk.inj e;exact .inl ⟨rfl, rfl⟩
   · rcases aP (S := S) m1 with e | ⟨m2, n2⟩
     · exact absurd (congrArg Prod.fst e) n1
     · exact .inr ⟨n1, m2⟩
 have rows : ∀ l, (((S.depart q (xq.file (xq.r 0))).stop1 q xq 6).setP q { xq with st := 6, stat := status }).rows l = if l = xq.lv then (S.rows xq.lv).erase q else S.rows l := fun l => rfl;have back : ∀ c y', (c, y') ∈ (S.fin q xq status).ps → y'.st = 1 → c ≠ q ∧ ∃ y, (c, y) ∈ S.ps ∧ (y.st = 1 → y'.used = y.used ∧ y'.lv = y.lv) ∧ (y.st ≠ 1 → y'.used = 0) := fun c y' hm e1 => by
   obtain ⟨y, m, a1, a2, a3⟩ := g.u c y' hm;rcases old c y m with ⟨_, e6⟩ | ⟨hne, hm2⟩
   · rw [a2 e6] at e1; cases e1
   · exact ⟨hne, y, hm2, fun e => (a1 e).2, fun e => a3 e e1⟩
 refine ⟨fun l hl p y' hne hp hm e1 => ?_, fun c y' hne hm e1 => ?_, fun z hz e1 => ?_⟩
 · have hpq := (back p y' hm e1).1;have hlane : Lane p (S.rows l) ((((S.depart q (xq.file (xq.r 0))).stop1 q xq 6).setP q { xq with st := 6, stat := status }).rows l) := by
     rw [rows]
     split
     · rename_i e; subst e; exact Lane.erase hp hpq
     · exact Lane.refl hp
   have hl2 := hlane;obtain ⟨X, A, e, _, hpX⟩ := hl2;exact hlane.trans (Lane.pre (by rw [e]; exact List.mem_append_left _ hpX) (g.r l hl)) (h3.i.g.rn l hl)
 · obtain ⟨_, y, m, a1, a3⟩ := back c y' hm e1;by_cases e : y.st = 1
   · exact .inl ⟨y, m, e, a1 e⟩
   · exact .inr ⟨a3 e, fun y2 m2 => by rw [aT h.i.g.pn m2 m]; exact e⟩
 · obtain ⟨_, y, m, a1, _⟩ := back b z hz e1;obtain rfl := aT h.i.g.pn hb m;exact a1 hs
theorem qT (h : MI (fun _ => False) N S) (hb : (b, x) ∈ S.ps) (hs : x.st = 1) {use most : Nat} (hu : use = 4 ∨ use = 5) (hm : use = 5 → most ≤ 8) : Ins b x S (S.askR b x use most).2 := by
 have ho := h.out hb hs;unfold St.askR;cases hc : x.checkUse use most with
 | some i => exact Ins.gr h.i.g.pn hb hs (Gr.refl _)
 | none =>
   obtain ⟨c1, c2, c3⟩ := dN hc;have hk : okEnd (x.file (x.r 0)) := (h.i.file_ok hb _).resolve_left fun e => by rw [e] at c1; simp only at c1; omega
   have hj : Inv (S.joinW b (x.file (x.r 0))) := h.i.joinW hb ho ⟨rfl, c3, fun h5 => by rw [h5] at c1; have := hm c1.symm; omega, .inl hs⟩ hk;have h2 := (hj.look (x.file (x.r 0)).1).i;have e0 : Gr S (S.joinW b (x.file (x.r 0))) := Gr.of (fun _ h => h) fun _ _ => List.prefix_refl _;have g : Gr S ((S.joinW b (x.file (x.r 0))).look (x.file (x.r 0)).1) := e0.trans (iJ (x.file (x.r 0)).1 16 hj);simp only
   split
   · cases hg : ((S.joinW b (x.file (x.r 0))).look (x.file (x.r 0)).1).get b with
     | none => exact Ins.gr h.i.g.pn hb hs g
     | some z => exact g.ins h.i.g h2.g hb hs (aV hg) (Ins.stop h2.g.pn (aV hg) (by omega))
   · exact Ins.gr h.i.g.pn hb hs g
theorem sU (h : MI (fun _ => False) N S) (hb : (b, x) ∈ S.ps) (hs : x.st = 1) {c : Nat} (hc : ∀ q ∈ S.ps, c ≠ q.1) (hN : N c = S.last + 1) (m : Int) : Ins b x S (S.grantS b x m c) := by
 have ho := h.out hb hs;have hn := h.i.g.pn;have setp : ∀ {z : PS}, z.st = x.st → z.used = x.used → z.lv = x.lv → Ins b x S (S.setP b z) := fun h1 h2 h3 => Ins.gr hn hb hs (Gr.setP hb h1 h2 h3);have rf : Ins b x S S := Ins.gr hn hb hs (Gr.refl _);refine fe (Ins b x S) (jy h hb hs hb _) (fun h8 => ?_) ?_ (fun q hf _ => (jy (xq := q.2) h hb hs (fA hf).1 _).r0 0) ?_ ?_ (setp rfl rfl rfl) ?_ ?_ (qT h hb hs (.inl rfl) (by omega)) (qT h hb hs (.inr rfl) (by omega)) (setp rfl rfl rfl) rf
 · have hbc : b ≠ c := fun e => hc _ hb e.symm;have mem : ∀ d y', (d, y') ∈ (S.forkS b x c).ps → (d = b ∧ y'.used = x.used ∧ y'.lv = x.lv) ∨ (d ≠ b ∧ ((d, y') ∈ S.ps ∨ (d = c ∧ y'.used = 0))) := fun d y' hm => by
     rcases aP hm with e | ⟨m1, n1⟩
     · obtain ⟨rfl, rfl⟩ := Prod.mk.inj e;exact .inl ⟨rfl, rfl, rfl⟩
     · refine .inr ⟨n1, ?_⟩;rcases aP (S := S.taken c (x.copy.r0 0)) m1 with e | ⟨m2, n2⟩
       · obtain ⟨rfl, rfl⟩ := Prod.mk.inj e;exact .inr ⟨rfl, rfl⟩
       · rcases List.mem_append.1 m2 with m3 | m3
         · exact .inl m3
         · exact absurd (congrArg Prod.fst (List.mem_singleton.1 m3)) n2
   have rows : ∀ l, S.rows l <+: (S.forkS b x c).rows l := fun l => by
     show S.rows l <+: put S.rows 0 (S.rows 0 ++ [c]) l;unfold put
     split
     · rename_i e; subst e; exact List.prefix_append _ _
     · exact List.prefix_refl _
   refine ⟨fun l hl p y' _ hp _ _ => Lane.pre hp (rows l), fun d y' hne hm h1 => ?_, fun z hz h1 => ?_⟩
   · rcases mem d y' hm with ⟨e, _⟩ | ⟨_, h2 | ⟨rfl, h2⟩⟩
     · exact absurd e hne
     · exact .inl ⟨y', h2, h1, rfl, rfl⟩
     · exact .inr ⟨h2, fun y m => absurd rfl (hc _ m)⟩
   · rcases mem b z hz with ⟨_, e⟩ | ⟨e, _⟩
     · exact e
     · exact absurd rfl e
 · unfold St.waitR
   split
   · simp only
     split
     · exact Ins.gr hn hb hs (qS h hb ho ‹_› (by omega))
     · exact Ins.stop hn hb (by decide)
   · exact rf
 · unfold St.sleep1
   split
   · exact setp rfl rfl rfl
   · refine (Gr.setP (x' := { x.r0 0 with til := (S.now : Int) + x.r 0 }) hb rfl rfl rfl).ins h.i.g ?_ hb hs (aq hb) (Ins.stop (by rw [aU]; exact hn) (aq hb) (by decide));exact h.i.g.like hb rfl rfl
 · refine ⟨fun l hl p y' hne hp hm h1 => ?_, fun d y' hne hm h1 => ?_, fun z hz h1 => ?_⟩
   · show Lane p (S.rows l) (put (put S.rows x.lv ((S.rows x.lv).erase b)) x.lv (put S.rows x.lv ((S.rows x.lv).erase b) x.lv ++ [b]) l);unfold put
     split
     · rename_i e;subst e;rw [if_pos rfl];exact ⟨(S.rows x.lv).erase b, [b], rfl, List.erase_sublist, (List.mem_erase_of_ne hne).2 hp⟩
     · exact Lane.refl hp
   · rcases aP (S := S) hm with e | ⟨h2, _⟩
     · exact absurd (congrArg Prod.fst e) hne
     · exact .inl ⟨y', h2, h1, rfl, rfl⟩
   · rcases aP (S := S) hz with e | ⟨_, h2⟩
     · obtain ⟨_, rfl⟩ := Prod.mk.inj e;exact ⟨rfl, rfl⟩
     · exact absurd rfl h2
 · unfold St.pipeR
   split
   · exact rf
   · split
     · rename_i i j _ _;have e0 : Gr S (S.setY S.unused []) := Gr.of (fun _ h => h) fun _ _ => List.prefix_refl _;exact Ins.gr hn hb hs (e0.trans (Gr.setP (S := S.setY S.unused []) (x' := x.piped S.unused i j) hb rfl rfl rfl))
     · exact rf
 · unfold St.closeR
   split
   · exact rf
   · exact (Ins.gr hn hb hs (qR h hb ho _)).r0 0
theorem qU (h : MI (fun _ => False) N S) (hp : Coded S) (hb : (b, x) ∈ S.ps) (hs : x.st = 1) {c : Nat} (hc : ∀ q ∈ S.ps, c ≠ q.1) (hN : N c = S.last + 1) : Ins b x S (S.runS b x c) := by
 have ho := h.out hb hs;have hn := h.i.g.pn;unfold St.runS
 split
 · exact jy h hb hs hb _
 split
 · have h1 : MI (fun _ => False) N (S.setP b x.next) := h.like (x' := x.next) hb ho rfl rfl ⟨(h.i.wf _ hb).r, (h.i.wf _ hb).m⟩ (h.i.fl (b, x) hb) rfl rfl (h.x.un (b, x) hb);have hb1 : (b, x.next) ∈ (S.setP b x.next).ps := aq hb;have hc1 : ∀ q ∈ (S.setP b x.next).ps, c ≠ q.1 := fun q hq e => by
     have : q.1 ∈ S.ps.map (·.1) := by rw [← aU S b x.next]; exact List.mem_map.2 ⟨q, hq, rfl⟩
     obtain ⟨r, hr, e2⟩ := List.mem_map.1 this;exact hc r hr (by rw [e, ← e2])
   have hg := (Gr.setP (x' := x.next) hb rfl rfl rfl).ins h.i.g h1.i.g hb hs hb1 (sU h1 hb1 hs hc1 hN (S.pg x.at_ 1))
   split
   · exact hg.r0 _
   · exact hg
 · rename_i e1 _;cases hd : S.doR x with
   | error i => exact jy h hb hs hb _
   | ok x' =>
     have hpc := hp.2 x.at_ (by omega);obtain ⟨d1, d2, d3, d4, d5, d6, d7⟩ := mF (h.i.wf _ hb) (hpc 2 (by omega)) (hpc 3 (by omega)) hd;exact Ins.gr hn hb hs (Gr.setP hb d1 d5 d2)
end
theorem kO {f g : Nat → Nat} : ∀ {L : List Nat}, (∀ c ∈ L, f c ≤ g c) → (L.map f).sum ≤ (L.map g).sum
 | [], _ => Nat.le_refl _
 | a :: L, h => by
   have h1 := h a List.mem_cons_self;have h2 := kO (f := f) (g := g) (L := L) fun c hc => h c (List.mem_cons_of_mem _ hc);simp only [List.map_cons, List.sum_cons];omega
theorem qV {f : Nat → Nat} {L L' : List Nat} (h : L'.Sublist L) : (L'.map f).sum ≤ (L.map f).sum := by
 induction h with
 | slnil => exact Nat.le_refl _
 | cons a h ih => simp only [List.map_cons, List.sum_cons]; omega
 | cons_cons a h ih => simp only [List.map_cons, List.sum_cons]; omega
theorem vD {f f' : Nat → Nat} {b : Nat} {t L' : List Nat} (h : L'.Sublist (b :: t)) (hn : (b :: t).Nodup) (hf : ∀ c ∈ L', c ≠ b → f' c ≤ f c) (hb : b ∈ L' → f' b + 1 ≤ f b) (h1 : 1 ≤ f b) : (L'.map f').sum + 1 ≤ ((b :: t).map f).sum := by
 rw [List.nodup_cons] at hn;simp only [List.map_cons, List.sum_cons];rcases List.sublist_cons_iff.1 h with h2 | ⟨r, rfl, h2⟩
 · have h3 : (L'.map f').sum ≤ (L'.map f).sum := kO fun c hc => hf c hc fun e => hn.1 (by rw [← e]; exact h2.subset hc);have h4 := qV (f := f) h2;omega
 · have h3 : (r.map f').sum ≤ (r.map f).sum := kO fun c hc => hf c (List.mem_cons_of_mem _ hc) fun e => hn.1 (by rw [← e]; exact h2.subset hc);have h4 := qV (f := f) h2;have h5 := hb List.mem_cons_self;simp only [List.map_cons, List.sum_cons];omega
theorem oH {f : Nat → Nat} {s : Nat} : ∀ {L : List Nat}, (∀ c ∈ L, f c ≤ s) → (L.map f).sum ≤ L.length * s
 | [], _ => by simp
 | a :: L, h => by
   have h1 := h a List.mem_cons_self;have h2 := oH (f := f) (s := s) (L := L) fun c hc => h c (List.mem_cons_of_mem _ hc);simp only [List.map_cons, List.sum_cons, List.length_cons, Nat.add_mul];omega
theorem oI {p : Nat} : ∀ {R : List Nat}, p ∈ R → (ahead R p).length < R.length
 | a :: R, h => by
   unfold ahead;rw [List.takeWhile_cons];by_cases e : a = p
   · simp [e]
   · have hR : p ∈ R := by
       rcases List.mem_cons.1 h with h | h
       · exact absurd h.symm e
       · exact h
     have := oI hR;unfold ahead at this;rw [if_pos (by simp [e])];simp only [List.length_cons];omega
theorem gd {p c : Nat} {R : List Nat} (h : c ∈ ahead R p) : c ∈ R := (List.takeWhile_sublist _).subset h
section
variable {S S' L S1 S2 : St} {b c p : Nat} {x y y' : PS} {P : Nat → Prop} {N : Nat → Nat}
structure Tck (b : Nat) (x : PS) (S S' : St) : Prop where
 ln : ∀ l, l < 3 → ∀ p y', p ≠ b → p ∈ S.rows l → (p, y') ∈ S'.ps → y'.st = 1 → Lane p (S.rows l) (S'.rows l)
 us : ∀ c y', c ≠ b → (c, y') ∈ S'.ps → y'.st = 1 → (∃ y, (c, y) ∈ S.ps ∧ y.st = 1 ∧ y'.used = y.used ∧ y'.lv = y.lv) ∨ (y'.used = 0 ∧ ∀ y, (c, y) ∈ S.ps → y.st ≠ 1)
 bb : ∀ z, (b, z) ∈ S'.ps → z.st = 1 → (z.used = x.used + 1 ∧ z.lv = x.lv ∧ (z.used : Int) < S.sl z.lv) ∨ (z.used = 0 ∧ z.lv = min (x.lv + 1) 2)
theorem lL (h : Ins b x S S1) (hG : Good S1) (hsl : S1.sl = S.sl) : Tck b x S (S1.after b) := by
 unfold St.after;cases hg : S1.get b with
 | none =>
   refine ⟨h.ln, h.us, fun z hz _ => ?_⟩;have hz' : (b, z) ∈ S1.ps := hz;rw [bf hG.pn hz'] at hg;cases hg
 | some z =>
   have hz := aV hg;have old : ∀ (w : PS) c y', c ≠ b → (c, y') ∈ (S1.setP b w).ps → (c, y') ∈ S1.ps := fun w c y' hne hm => by
     rcases aP hm with e | ⟨h2, _⟩
     · exact absurd (congrArg Prod.fst e) hne
     · exact h2
   have self : ∀ (w v : PS), (b, v) ∈ (S1.setP b w).ps → v = w := fun w v hm => by
     rcases aP hm with e | ⟨_, h2⟩
     · exact (Prod.mk.inj e).2
     · exact absurd rfl h2
   simp only
   split
   · rename_i h1;obtain ⟨b1, b2⟩ := h.bb z hz h1;unfold St.turn
     split
     · rename_i hlt;refine ⟨fun l hl p y' hne hp hm e => h.ln l hl p y' hne hp (old _ p y' hne hm) e, fun c y' hne hm e => h.us c y' hne (old _ c y' hne hm) e, fun v hv e => ?_⟩;obtain rfl := self _ v hv;have hlt' : ((z.used + 1 : Nat) : Int) < S1.sl z.lv := hlt;exact .inl ⟨by show z.used + 1 = _; rw [b1], b2, by rw [← hsl]; exact hlt'⟩
     · simp only;have old2 : ∀ (w w' : PS) c y', c ≠ b → (c, y') ∈ ((S1.setP b w).setP b w').ps → (c, y') ∈ S1.ps := fun w w' c y' hne hm => by
         rcases aP hm with e | ⟨h2, _⟩
         · exact absurd (congrArg Prod.fst e) hne
         · exact old w c y' hne h2
       refine ⟨fun l hl p y' hne hp hm e => ?_, fun c y' hne hm e => h.us c y' hne (old2 _ _ c y' hne hm) e, fun v hv e => ?_⟩
       · have h2 := h.ln l hl p y' hne hp (old2 _ _ p y' hne hm) e;have h3 := h2;obtain ⟨X, A, eX, _, hpX⟩ := h3;have hp1 : p ∈ S1.rows l := by rw [eX]; exact List.mem_append_left _ hpX
         refine h2.trans ?_ (hG.rn l hl);show Lane p (S1.rows l) (put (put S1.rows z.lv ((S1.rows z.lv).erase b)) (min (z.lv + 1) 2) (put S1.rows z.lv ((S1.rows z.lv).erase b) (min (z.lv + 1) 2) ++ [b]) l);unfold put
         split
         · rename_i e1;rw [← e1]
           split
           · rename_i e2;rw [← e2];exact ⟨(S1.rows l).erase b, [b], rfl, List.erase_sublist, (List.mem_erase_of_ne hne).2 hp1⟩
           · exact Lane.pre hp1 (List.prefix_append _ _)
         · split
           · rename_i e2;rw [← e2];exact Lane.erase hp1 hne
           · exact Lane.refl hp1
       · rcases aP hv with e1 | ⟨_, h2⟩
         · obtain ⟨_, rfl⟩ := Prod.mk.inj e1;exact .inr ⟨rfl, by show min (z.lv + 1) 2 = _; rw [b2]⟩
         · exact absurd rfl h2
   · rename_i h1;refine ⟨fun l hl p y' hne hp hm e => h.ln l hl p y' hne hp (old _ p y' hne hm) e, fun c y' hne hm e => h.us c y' hne (old _ c y' hne hm) e, fun v hv e => ?_⟩;obtain rfl := self _ v hv;exact absurd e h1
structure Led (S L : St) : Prop where
 r0 : S.rows 0 <+: L.rows 0
 nb : ¬ S.boosts → ∀ l, l < 3 → S.rows l <+: L.rows l
 bo : S.boosts → L.rows 1 = [] ∧ L.rows 2 = []
 u : ∀ c y', (c, y') ∈ L.ps → y'.st = 1 → (∃ y, (c, y) ∈ S.ps ∧ y.st = 1 ∧ (y.lv = 0 → y'.used = y.used) ∧ ((y'.used = y.used ∧ y'.lv = y.lv) ∨ y'.used = 0)) ∨ (y'.used = 0 ∧ ∀ y, (c, y) ∈ S.ps → y.st ≠ 1)
theorem fD : ∀ (bs : List Nat) {S : St}, Gr S (S.wakes bs)
 | [], _ => Gr.refl _
 | b :: bs, S => by
   unfold St.wakes;cases hg : S.get b with
   | none => exact fD bs
   | some x =>
     simp only
     split
     · rename_i h;exact (Gr.wake1 (aV hg) (by omega) (by omega)).trans (fD bs)
     · exact fD bs
theorem led (h : MI P N S) : Led S S.lead := by
 have g : Gr S S.wake := fD _;have hM : MI P N S.wake := MI.wakes _ h;have hbo : S.wake.boosts ↔ S.boosts := by
   have hf := eP (S.ps.map (·.1)) S;unfold St.boosts St.wake;rw [hf.now, hf.bo]
 have uu : ∀ c y', (c, y') ∈ S.wake.ps → y'.st = 1 → (∃ y, (c, y) ∈ S.ps ∧ y.st = 1 ∧ y'.used = y.used ∧ y'.lv = y.lv) ∨ (y'.used = 0 ∧ ∀ y, (c, y) ∈ S.ps → y.st ≠ 1) := fun c y' hm e1 => by
   obtain ⟨y, m, a1, _, a3⟩ := g.u c y' hm;by_cases e : y.st = 1
   · exact .inl ⟨y, m, e, (a1 e).2⟩
   · exact .inr ⟨a3 e e1, fun y2 m2 => by rw [aT h.i.g.pn m2 m]; exact e⟩
 unfold St.lead St.boost
 split
 · rename_i hb;have e := fP hM.i.g.pn;obtain ⟨r1, _⟩ := dD (S.wake.lifts (S.wake.ps.map (·.1))) 2;rw [e] at r1;rw [e];refine ⟨?_, fun hn => absurd (hbo.1 hb) hn, fun _ => ⟨rfl, rfl⟩, fun c y' hm e1 => ?_⟩
   · refine (g.r 0 (by omega)).trans ?_;show S.wake.rows 0 <+: (S.wake.rows 0 ++ S.wake.rows 1) ++ S.wake.rows 2;rw [List.append_assoc];exact List.prefix_append _ _
   · rw [r1] at hm;obtain ⟨q, hq, e2⟩ := List.mem_map.1 hm;obtain ⟨rfl, rfl⟩ := Prod.mk.inj e2;have hst : q.2.st = 1 := by rw [← (bz q.2).1]; exact e1
     have hl : (liftP q.2).used = (if 0 < q.2.lv then 0 else q.2.used) ∧ (q.2.lv = 0 → (liftP q.2).lv = q.2.lv) := by
       unfold liftP;by_cases h0 : 0 < q.2.lv
       · rw [if_pos ⟨by omega, h0⟩, if_pos h0]; exact ⟨rfl, fun e => by omega⟩
       · rw [if_neg (by omega), if_neg h0]; exact ⟨rfl, fun _ => rfl⟩
     rcases uu q.1 q.2 hq hst with ⟨y, m, b1, b2, b3⟩ | ⟨b1, b2⟩
     · refine .inl ⟨y, m, b1, fun e0 => ?_, ?_⟩
       · rw [hl.1, if_neg (by omega)]; exact b2
       · by_cases h0 : 0 < q.2.lv
         · right; rw [hl.1, if_pos h0]
         · left; exact ⟨by rw [hl.1, if_neg h0]; exact b2, (hl.2 (by omega)).trans b3⟩
     · refine .inr ⟨?_, b2⟩;rw [hl.1]
       split
       · rfl
       · exact b1
 · rename_i hb;refine ⟨g.r 0 (by omega), fun _ => g.r, fun h2 => absurd (hbo.2 h2) hb, fun c y' hm e1 => ?_⟩;rcases uu c y' hm e1 with ⟨y, m, b1, b2, b3⟩ | h2
   · exact .inl ⟨y, m, b1, fun _ => b2, .inl ⟨b2, b3⟩⟩
   · exact .inr h2
def St.us (S : St) (c : Nat) : Nat := match S.get c with
 | some y => y.used
 | none => 0
theorem kP (hn : (S.ps.map (·.1)).Nodup) (h : (c, y) ∈ S.ps) : S.us c = y.used := by unfold St.us; rw [bf hn h]
def St.phi (S : St) (p : Nat) : Nat := ((ahead (S.rows 0) p).map fun c => (S.sl 0).toNat - S.us c).sum
def St.dist (S : St) : Nat := if 0 < S.now ∧ S.now % S.bo.toNat = 0 then 0 else S.bo.toNat - S.now % S.bo.toNat
def St.mu (S : St) (p : Nat) : Nat := if p ∈ S.rows 0 then S.phi p + 1 else S.dist + 7 * (S.sl 0).toNat + 1
structure UI (S : St) : Prop where
 s : ∀ l, l < 3 → 1 ≤ S.sl l
 b : 1 ≤ S.bo
 u : ∀ q ∈ S.ps, q.2.st = 1 → (q.2.used : Int) < S.sl q.2.lv
theorem pV (hb : 1 ≤ S.bo) : S.boosts ↔ (0 < S.now ∧ S.now % S.bo.toNat = 0) := by
 unfold St.boosts;obtain ⟨B, hB⟩ := Int.eq_ofNat_of_zero_le (show 0 ≤ S.bo by omega);rw [hB, Int.tmod_eq_emod_of_nonneg (by omega)];show (0 < S.now ∧ (S.now : Int) % (B : Int) = 0) ↔ (0 < S.now ∧ S.now % (B : Int).toNat = 0);rw [Int.toNat_natCast, ← Int.natCast_emod];constructor
 · rintro ⟨h1, h2⟩;exact ⟨h1, Int.natCast_eq_zero.1 h2⟩
 · rintro ⟨h1, h2⟩;exact ⟨h1, by rw [h2]; rfl⟩
theorem pW (h : UI S) (hM : MI P N S) : UI S.lead := by
 have hf := bK S;refine ⟨by rw [hf.sl]; exact h.s, by rw [hf.bo]; exact h.b, fun q hq h1 => ?_⟩;rw [hf.sl];have hlv := hM.lead.i.g.lv q hq;have h0 := h.s _ hlv;rcases (led hM).u q.1 q.2 hq h1 with ⟨y, m, b1, _, ⟨b2, b3⟩ | b2⟩ | ⟨b2, _⟩
 · rw [b2, b3]; exact h.u _ m b1
 · rw [b2]; omega
 · rw [b2]; omega
theorem zp (h : UI S) (hG' : Good S') (hsl : S'.sl = S.sl) (hbo : S'.bo = S.bo) (t : Tck b x S S') : UI S' := by
 refine ⟨by rw [hsl]; exact h.s, by rw [hbo]; exact h.b, fun q hq h1 => ?_⟩;rw [hsl];have h0 := h.s _ (hG'.lv q hq);by_cases e : q.1 = b
 · obtain ⟨c, z⟩ := q;obtain rfl : c = b := e;rcases t.bb z hq h1 with ⟨_, _, h2⟩ | ⟨h2, _⟩
   · exact h2
   · show (z.used : Int) < _;have h0' : 1 ≤ S.sl z.lv := h0;rw [h2]; show (0 : Int) < S.sl z.lv; omega
 · rcases t.us q.1 q.2 e hq h1 with ⟨y, m, e1, e2, e3⟩ | ⟨e1, _⟩
   · rw [e2, e3]; exact h.u _ m e1
   · rw [e1]; omega
theorem oJ (h : UI S) (hG : Good S) (hG' : Good S') (hsl : S'.sl = S.sl) (t : Tck b x S S') (hb : (b, x) ∈ S.ps) {tl : List Nat} (hrow : S.rows 0 = b :: tl) (hp : p ∈ S.rows 0) (hne : p ≠ b) (hm : (p, y') ∈ S'.ps) (h1 : y'.st = 1) : p ∈ S'.rows 0 ∧ S'.phi p + 1 ≤ S.phi p := by
 have hl := t.ln 0 (by omega) p y' hne hp hm h1;have hn := hG.rn 0 (by omega);have hl2 := hl;obtain ⟨X, A, e, _, hpX⟩ := hl2;refine ⟨by rw [e]; exact List.mem_append_left _ hpX, ?_⟩;have hsub := hl.ahead hn;have ht : p ∈ tl := by
   rw [hrow] at hp;rcases List.mem_cons.1 hp with h2 | h2
   · exact absurd h2 hne
   · exact h2
 have ha : ahead (S.rows 0) p = b :: ahead tl p := by
   rw [hrow];unfold ahead;rw [List.takeWhile_cons, if_pos (by simp; exact fun e => hne e.symm)]
 have hbl : x.lv = 0 := by
   obtain ⟨z, hz, h2, _⟩ := hG.rm 0 (by omega) b (by rw [hrow]; exact List.mem_cons_self);rw [aT hG.pn hb hz]; exact h2
 have hbs : x.st = 1 := by
   obtain ⟨z, hz, _, h2⟩ := hG.rm 0 (by omega) b (by rw [hrow]; exact List.mem_cons_self);rw [aT hG.pn hb hz]; exact h2
 have hub := h.u _ hb hbs;simp only [hbl] at hub;have hs0 : ((S.sl 0).toNat : Int) = S.sl 0 := Int.toNat_of_nonneg (by have := h.s 0 (by omega); omega);unfold St.phi;rw [ha, hsl];rw [ha] at hsub;have hnd : (b :: ahead tl p).Nodup := by
   rw [← ha]; exact List.Nodup.sublist (List.takeWhile_sublist _) hn
 refine vD hsub hnd (fun c hc hcb => ?_) (fun hc => ?_) ?_
 · have hcr := gd hc;obtain ⟨y2, m2, l2, s2⟩ := hG'.rm 0 (by omega) c hcr;have hcl : c ∈ S.rows 0 := by
     have := hsub.subset hc;rw [← ha] at this;exact gd this
   obtain ⟨y3, m3, l3, s3⟩ := hG.rm 0 (by omega) c hcl;rcases t.us c y2 hcb m2 s2 with ⟨y, m, e1, e2, e3⟩ | ⟨_, e2⟩
   · rw [kP hG'.pn m2, kP hG.pn m, e2]; exact Nat.le_refl _
   · exact absurd s3 (e2 y3 m3)
 · have hcr := gd hc;obtain ⟨y2, m2, l2, s2⟩ := hG'.rm 0 (by omega) b hcr;rw [kP hG'.pn m2, kP hG.pn hb];rcases t.bb y2 m2 s2 with ⟨e1, _, e3⟩ | ⟨_, e2⟩
   · rw [e1]; omega
   · rw [l2] at e2; omega
 · rw [kP hG.pn hb]; omega
theorem oK (h : Good S) (hp : p ∈ S.rows 0) : S.phi p ≤ 7 * (S.sl 0).toNat := by
 have h1 := oI hp;have h2 := h.r8 (l := 0) (by omega);have h3 : S.phi p ≤ (ahead (S.rows 0) p).length * (S.sl 0).toNat := oH fun c _ => Nat.sub_le _ _;exact Nat.le_trans h3 (Nat.mul_le_mul_right _ (by omega))
theorem sV (hb : 1 ≤ S.bo) (hn : ¬ S.boosts) (hnow : S'.now = S.now + 1) (hbo : S'.bo = S.bo) : S'.dist + 1 = S.dist := by
 rw [pV hb] at hn;unfold St.dist;rw [hnow, hbo, if_neg hn];generalize hB : S.bo.toNat = B at *;have hB1 : 1 ≤ B := by omega
 generalize S.now = n at *;have hr := Nat.mod_lt n (show 0 < B by omega);have hd := Nat.div_add_mod n B;by_cases e : n % B + 1 = B
 · have h1 : (n + 1) % B = 0 := by
     rw [← hd, Nat.add_assoc, e, Nat.mul_add_mod, Nat.mod_self]
   rw [if_pos ⟨by omega, h1⟩];omega
 · have h1 : (n + 1) % B = n % B + 1 := by
     conv => lhs; rw [← hd, Nat.add_assoc, Nat.mul_add_mod]
     exact Nat.mod_eq_of_lt (by omega)
   rw [if_neg (by omega), h1];omega
theorem vE (hG : Good S) (h : (p, y) ∈ S.ps) {l : Nat} (hl : l < 3) (hp : p ∈ S.rows l) : y.lv = l ∧ y.st = 1 := by
 obtain ⟨z, hz, h1, h2⟩ := hG.rm l hl p hp;rw [aT hG.pn h hz]; exact ⟨h1, h2⟩
theorem xE (h : UI S) (hT : TI N S) (hc : ∀ q ∈ S.lead.ps, c ≠ q.1) (hN : N c = S.last + 1) (hb : S.lead.first = some b) (hy : (p, y) ∈ S.ps) (h1 : y.st = 1) (hne : p ≠ b) (hy' : (p, y') ∈ (S.tickU c).later.ps) (h1' : y'.st = 1) : (S.tickU c).later.mu p + 1 ≤ S.mu p := by
 obtain ⟨x, hx, hs⟩ := dE hT.m.lead.i.g hb;have hL := hT.m.lead;have hN' : N c = S.lead.last + 1 := by rw [cA]; exact hN
 have hG2 : Good (S.tickU c).later := (hT.tick hc hN).m.i.g;have hE : S.tickU c = (S.lead.runS b x c).after b := by unfold St.tickU; rw [hb]; simp only [bf hL.i.g.pn hx]
 have hR := qU hL hT.coded_lead hx hs hc hN';have hf := bK S;have hfr := (ff S.lead b x c).1;have t : Tck b x S.lead (S.tickU c).later := by
   have := lL hR (hL.runS hT.coded_lead hx hs hc hN').i.g hfr.sl;rw [hE]; exact ⟨this.ln, this.us, this.bb⟩
 have hfa := eQ (S.lead.runS b x c) b;have hsl : (S.tickU c).later.sl = S.lead.sl := by rw [hE]; exact hfa.sl.trans hfr.sl
 have hbo : (S.tickU c).later.bo = S.lead.bo := by rw [hE]; exact hfa.bo.trans hfr.bo
 have hnow : (S.tickU c).later.now = S.now + 1 := by show (S.tickU c).now + 1 = _; rw [gb]
 have hUL := pW h hT.m;have hl := led hT.m;have hlv := hT.m.i.g.lv _ hy;have hrow := hT.m.i.g.rr _ hy h1;have head : p ∈ S.lead.rows 0 → ∃ tl, S.lead.rows 0 = b :: tl := fun h2 => by
   unfold St.first at hb
   cases hr : S.lead.rows 0 with
   | nil => rw [hr] at h2; cases h2
   | cons a tl =>
     rw [hr] at hb;obtain rfl : a = b := by simpa using hb
     exact ⟨tl, rfl⟩
 unfold St.mu;by_cases h0 : p ∈ S.rows 0
 · have hp := hl.r0.subset h0;obtain ⟨tl, htl⟩ := head hp;obtain ⟨q1, q2⟩ := oJ hUL hL.i.g hG2 hsl t hx htl hp hne hy' h1';rw [if_pos h0, if_pos q1];have e : S.lead.phi p = S.phi p := by
     unfold St.phi;rw [sT hl.r0 h0, hf.sl];congr 1;apply List.map_congr_left;intro c hc;have hcr := gd hc;obtain ⟨y1, m1, l1, s1⟩ := hT.m.i.g.rm 0 (by omega) c hcr;obtain ⟨y2, m2, l2, s2⟩ := hL.i.g.rm 0 (by omega) c (hl.r0.subset hcr);rw [kP hT.m.i.g.pn m1, kP hL.i.g.pn m2];rcases hl.u c y2 m2 s2 with ⟨y3, m3, _, e3, _⟩ | ⟨_, e2⟩
     · rw [aT hT.m.i.g.pn m1 m3] at l1 ⊢;rw [e3 l1]
     · exact absurd s1 (e2 y1 m1)
   omega
 · rw [if_neg h0];by_cases hbs : S.boosts
   · obtain ⟨r1, r2⟩ := hl.bo hbs;have hp : p ∈ S.lead.rows 0 := by
       have hfst : p ∈ S.lead.ps.map (·.1) := by rw [iB]; exact List.mem_map.2 ⟨_, hy, rfl⟩
       obtain ⟨q, hq, e⟩ := List.mem_map.1 hfst;obtain ⟨p', yl⟩ := q;obtain rfl : p' = p := e;have hsk := qO hT.m.i.g.pn;by_cases hst : yl.st = 1
       · have hr := hL.i.g.rr _ hq hst;have hv := hL.i.g.lv _ hq;simp only at hr hv;rcases Nat.lt_or_ge yl.lv 1 with h3 | h3
         · rw [show yl.lv = 0 by omega] at hr; exact hr
         · rcases Nat.lt_or_ge yl.lv 2 with h4 | h4
           · rw [show yl.lv = 1 by omega, r1] at hr; cases hr
           · rw [show yl.lv = 2 by omega, r2] at hr; cases hr
       · exfalso;have hw : Gr S S.wake := fD _;have hpw := (hw.r _ hlv).subset hrow;have hMw : MI (fun _ => False) N S.wake := MI.wakes _ hT.m;obtain ⟨z, hz, _, hz1⟩ := hMw.i.g.rm _ hlv p' hpw;have hz2 : ∃ z', (p', z') ∈ S.lead.ps ∧ z'.st = 1 := by
           unfold St.lead St.boost
           split
           · have e2 := fP hMw.i.g.pn;refine ⟨liftP z, ?_, by rw [(bz z).1]; exact hz1⟩;rw [(dD _ 2).1];rw [e2];exact List.mem_map.2 ⟨_, hz, rfl⟩
           · exact ⟨z, hz, hz1⟩
         obtain ⟨z', m', e'⟩ := hz2;rw [aT hL.i.g.pn hq m'] at hst;exact hst e'
     obtain ⟨tl, htl⟩ := head hp;obtain ⟨q1, q2⟩ := oJ hUL hL.i.g hG2 hsl t hx htl hp hne hy' h1';rw [if_pos q1];have := oK hL.i.g hp;rw [hf.sl] at this;omega
   · have hpl := (hl.nb hbs _ hlv).subset hrow;have hl2 := t.ln _ hlv p y' hne hpl hy' h1';obtain ⟨X, A, e, _, hpX⟩ := hl2;have hp2 : p ∈ (S.tickU c).later.rows y.lv := by rw [e]; exact List.mem_append_left _ hpX
     have hlv' : y'.lv = y.lv := (vE hG2 hy' hlv hp2).1;have hy0 : y.lv ≠ 0 := fun e0 => h0 (by rw [← e0]; exact hrow);have hn0 : p ∉ (S.tickU c).later.rows 0 := fun h3 => by
       have := (vE hG2 hy' (by omega) h3).1;omega
     rw [if_neg hn0, hsl, hf.sl];have := sV (S' := (S.tickU c).later) h.b hbs hnow (hbo.trans hf.bo);omega
theorem qW (h : UI S) (hG : Good S) (hn : 0 < S.now ∨ p ∈ S.rows 0) : S.mu p ≤ S.bo.toNat + 7 * (S.sl 0).toNat := by
 have hb := h.b;unfold St.mu
 split
 · rename_i hp;have := oK hG hp;omega
 · rename_i hp;have hn' : 0 < S.now := hn.resolve_right hp;unfold St.dist
   split
   · omega
   · rename_i h1;have : 0 < S.now % S.bo.toNat := Nat.pos_of_ne_zero fun e => h1 ⟨hn', e⟩;omega
end
theorem Skp.ids {l l' : List Key} {n n' t id : Nat} {es : List Value} (h : Skp l n t id es l' n') : (∀ e ∈ l', (∃ f ∈ l, f.1 = e.1) ∨ e.1 = n + 1) ∧ n ≤ n' := by
 cases h with
 | calm h1 => exact ⟨fun e he => .inl ⟨e, h1.1.subset he, rfl⟩, Nat.le_refl _⟩
 | said v hv h1 => exact ⟨fun e he => .inl ⟨e, h1.1.subset he, rfl⟩, Nat.le_refl _⟩
 | fork =>
   refine ⟨fun e he => ?_, by omega⟩;rcases List.mem_append.1 he with h1 | h1
   · exact .inl ⟨e, h1, rfl⟩
   · simp at h1; subst h1; exact .inr rfl
 | gone d p v hd h1 =>
   refine ⟨fun e he => .inl ?_, Nat.le_refl _⟩;obtain ⟨e1, h2, rfl⟩ := List.mem_map.1 (h1.1.subset he);obtain ⟨f, h3, rfl⟩ := List.mem_map.1 h2;exact ⟨f, h3, (dp d f).1.symm⟩
theorem qX : ∀ {a b : List Wd}, a.map Wd.v = b.map Wd.v → a = b
 | [], [], _ => rfl
 | [], _ :: _, h => by simp at h
 | _ :: _, [], h => by simp at h
 | (x1, x2, x3, x4) :: a, (y1, y2, y3, y4) :: b, h => by
   simp only [List.map_cons, List.cons.injEq] at h;have h1 : (Value.agg #[.int .i64 x1, .int .i64 x2, .int .i64 x3, .int .i64 x4]) = .agg #[.int .i64 y1, .int .i64 y2, .int .i64 y3, .int .i64 y4] := h.1;simp only [Value.agg.injEq, Array.mk.injEq, List.cons.injEq, Value.int.injEq, true_and, and_true] at h1;obtain ⟨e1, e2, e3, e4⟩ := h1;rw [e1, e2, e3, e4, qX h.2]
def ran (ws : List Wd) (id : Nat) : Bool := match ws with
 | w :: _ => decide (w.2.1 = 1 ∧ w.2.2.1 = (id : Int))
 | [] => false
def nv (ws : List Wd) (σ : Nat → Nat) (q : Nat × PS) : Nat := if q.2.st ≠ 1 ∨ ran ws q.2.id = true then 0 else σ q.2.id + 1
def most (T : St) : Nat := T.bo.toNat + 8 * (T.sl 0).toNat
structure FI (T : St) (σ : Nat → Nat) : Prop where
 r : ∀ q ∈ T.ps, q.2.st = 1 → σ q.2.id + T.mu q.1 ≤ most T
 z : ∀ q ∈ T.ps, q.2.st ≠ 1 → σ q.2.id = 0
 n : ∀ j, T.last < j → σ j = 0
theorem lM (T : St) : most T.next = most T ∧ T.next.sl = T.sl ∧ T.next.bo = T.bo := by
 have hf := bK T;have h : T.next.sl = T.sl ∧ T.next.bo = T.bo := by
   unfold St.next St.tickU
   cases h1 : T.lead.first with
   | none => exact ⟨hf.sl, hf.bo⟩
   | some b =>
     simp only;cases h2 : T.lead.get b with
     | none => exact ⟨hf.sl, hf.bo⟩
     | some x =>
       have h3 := (ff T.lead b x (T.last + 1)).1;have h4 := eQ (T.lead.runS b x (T.last + 1)) b;exact ⟨h4.sl.trans (h3.sl.trans hf.sl), h4.bo.trans (h3.bo.trans hf.bo)⟩
 refine ⟨?_, h⟩;unfold most;rw [h.1, h.2]
theorem sW {T : St} {σ σ' : Nat → Nat} {ws : List Wd} (hT : TI id T) (hU : UI T) (hF : FI T σ) (hw : T.tickE = ws.map Wd.v) (hin : ∀ q ∈ T.next.ps, σ' q.2.id = nv ws σ q) (hout : ∀ j, (∀ q ∈ T.next.ps, q.2.id ≠ j) → σ' j = σ j) :
   TI id T.next ∧ UI T.next ∧ FI T.next σ' ∧ (∀ q ∈ T.next.ps, σ' q.2.id < most T ∧ σ q.2.id ≤ most T) ∧ ws ≠ [] := by
 have hc : ∀ q ∈ T.lead.ps, T.last + 1 ≠ q.1 := fun q hq e => by
   have h2 := hT.m.lead.x.nm q hq;have h3 := (hT.m.lead.x.idr q hq).2;rw [cA] at h3;have h4 : q.1 = q.2.id := h2;omega
 have hT' : TI id T.next := hT.tick hc rfl
 have hnm : ∀ q ∈ T.next.ps, q.1 = q.2.id := fun q hq => hT'.m.x.nm q hq
 have hnm0 : ∀ q ∈ T.ps, q.1 = q.2.id := fun q hq => hT.m.x.nm q hq;have hnow : T.next.now = T.now + 1 := by show (T.tickU (T.last + 1)).now + 1 = _; rw [gb]
 obtain ⟨em, esl, ebo⟩ := lM T;have hs0 := hU.s 0 (by omega);have hb0 := hU.b;have hids : (∀ q ∈ T.next.ps, (∃ r ∈ T.ps, r.2.id = q.2.id) ∨ q.2.id = T.last + 1) ∧ T.last ≤ T.next.last := by
   have conv : (∀ e ∈ T.next.sk, (∃ f ∈ T.sk, f.1 = e.1) ∨ e.1 = T.last + 1) → ∀ q ∈ T.next.ps, (∃ r ∈ T.ps, r.2.id = q.2.id) ∨ q.2.id = T.last + 1 := fun h q hq => by
     rcases h (key q) (List.mem_map.2 ⟨q, hq, rfl⟩) with ⟨f, hf, e⟩ | e
     · obtain ⟨r, hr, rfl⟩ := List.mem_map.1 hf;exact .inl ⟨r, hr, e⟩
     · exact .inr e
   rcases xB hT hc rfl with ⟨_, t2, t3⟩ | ⟨d, p, a, es, _, _, t3⟩
   · refine ⟨conv fun e he => .inl ⟨e, ?_, rfl⟩, Nat.le_of_eq t3.symm⟩;have : e ∈ ((T.tickU (T.last + 1)).later).sk := he;rw [t2] at this;exact this
   · exact ⟨conv t3.ids.1, t3.ids.2⟩
 have hn : ∀ j, T.next.last < j → σ' j = 0 := fun j hj => by
   rw [hout j fun q hq e => by have := (hT'.m.x.idr q hq).2; omega];exact hF.n j (by omega)
 have hle : ∀ q ∈ T.next.ps, σ q.2.id ≤ most T := fun q hq => by
   rcases hids.1 q hq with ⟨r, hr, e⟩ | e
   · rw [← e];by_cases h1 : r.2.st = 1
     · have := hF.r r hr h1; omega
     · rw [hF.z r hr h1]; omega
   · rw [hF.n _ (by omega)]; omega
 have hm0 : 0 < most T := by unfold most; omega
 cases hf : T.lead.first with
 | none =>
   have hE : T.tickU (T.last + 1) = T.lead := by unfold St.tickU; rw [hf]
   have hU' : UI T.next := by
     have := pW hU hT.m;unfold St.next
     rw [hE]; exact ⟨this.s, this.b, this.u⟩
   have no : ∀ q ∈ T.next.ps, q.2.st ≠ 1 := fun q hq h1 => by
     have hq' : q ∈ T.lead.ps := by
       have : q ∈ (T.tickU (T.last + 1)).later.ps := hq;rw [hE] at this; exact this
     have hr := hT.m.lead.i.g.rr q hq' h1;have hv := hT.m.lead.i.g.lv q hq';unfold St.first at hf
     rw [List.head?_eq_none_iff] at hf;simp only [List.append_eq_nil_iff] at hf;rcases Nat.lt_or_ge q.2.lv 1 with h3 | h3
     · rw [show q.2.lv = 0 by omega, hf.1] at hr; cases hr
     · rcases Nat.lt_or_ge q.2.lv 2 with h4 | h4
       · rw [show q.2.lv = 1 by omega, hf.2.1] at hr; cases hr
       · rw [show q.2.lv = 2 by omega, hf.2.2] at hr; cases hr
   have z0 : ∀ q ∈ T.next.ps, σ' q.2.id = 0 := fun q hq => by rw [hin q hq]; unfold nv; rw [if_pos (.inl (no q hq))]
   refine ⟨hT', hU', ⟨fun q hq h1 => absurd h1 (no q hq), fun q hq _ => z0 q hq, hn⟩, fun q hq => ⟨by rw [z0 q hq]; exact hm0, hle q hq⟩, fun e => ?_⟩;unfold St.tickE at hw;rw [hf, e] at hw;cases hw
 | some b =>
   obtain ⟨x, hx, hs⟩ := dE hT.m.lead.i.g hf;have hbx : b = x.id := hT.m.lead.x.nm _ hx;have hE : T.tickU (T.last + 1) = (T.lead.runS b x (T.last + 1)).after b := by unfold St.tickU; rw [hf]; simp only [bf hT.m.lead.i.g.pn hx]
   have hN' : id (T.last + 1) = T.lead.last + 1 := by rw [cA]; rfl
   have hR := qU hT.m.lead hT.coded_lead hx hs hc hN';have hfr := (ff T.lead b x (T.last + 1)).1;have hfl := bK T;have hU' : UI T.next := by
     have t := lL hR (hT.m.lead.runS hT.coded_lead hx hs hc hN').i.g hfr.sl;refine zp (S := T.lead) (pW hU hT.m) hT'.m.i.g (by rw [esl, hfl.sl]) (by rw [ebo, hfl.bo]) (b := b) (x := x) ?_;unfold St.next
     rw [hE]; exact ⟨t.ln, t.us, t.bb⟩
   obtain ⟨w, wr, rfl, hw1, hw2⟩ : ∃ w wr, ws = w :: wr ∧ w.2.1 = 1 ∧ w.2.2.1 = (x.id : Int) := by
     unfold St.tickE at hw;rw [hf] at hw;simp only [bf hT.m.lead.i.g.pn hx] at hw;cases ws with
     | nil => cases hw
     | cons w wr =>
       have h1 : [((T.lead.now : Int), (1 : Int), (x.id : Int), (x.at_ : Int))].map Wd.v = [w].map Wd.v := by
         simp only [List.map_cons, List.cons.injEq] at hw;simp only [List.map_cons, List.map_nil, List.cons.injEq, and_true];exact hw.1
       obtain rfl : ((T.lead.now : Int), (1 : Int), (x.id : Int), (x.at_ : Int)) = w := by simpa using qX h1
       exact ⟨_, wr, rfl, rfl, rfl⟩
   have hran : ∀ q ∈ T.next.ps, (ran (w :: wr) q.2.id = true ↔ q.1 = b) := fun q hq => by
     unfold ran;simp only [decide_eq_true_eq];rw [hnm q hq, hbx, hw2];constructor
     · rintro ⟨_, h⟩; omega
     · intro h; exact ⟨hw1, by omega⟩
   have hmost : ∀ q ∈ T.next.ps, T.next.mu q.1 + 1 ≤ most T := fun q hq => by
     have := qW (p := q.1) hU' hT'.m.i.g (.inl (by omega));rw [esl, ebo] at this;unfold most;omega
   have hpos : ∀ q, 1 ≤ T.next.mu q := fun q => by unfold St.mu; split <;> omega
   have main : ∀ q ∈ T.next.ps, q.2.st = 1 → q.1 ≠ b → σ q.2.id + 1 + T.next.mu q.1 ≤ most T := fun q hq h1 hne => by
     by_cases hy : ∃ y, (q.1, y) ∈ T.ps ∧ y.st = 1
     · obtain ⟨y, hy, hy1⟩ := hy;have h2 := xE hU hT hc rfl hf hy hy1 hne (y' := q.2) hq h1;have h3 := hF.r _ hy hy1;have h4 : y.id = q.2.id := by rw [← hnm q hq]; exact (hnm0 _ hy).symm
       simp only [h4] at h3;have h5 : T.next.mu q.1 + 1 ≤ T.mu q.1 := h2
       omega
     · have h0 : σ q.2.id = 0 := by
         rcases hids.1 q hq with ⟨r, hr, e⟩ | e
         · have hr1 : r.2.st ≠ 1 := fun e1 => hy ⟨r.2, by rw [hnm q hq, ← e, ← hnm0 r hr]; exact hr, e1⟩;rw [← e]; exact hF.z r hr hr1
         · exact hF.n _ (by omega)
       have := hmost q hq;omega
   have val : ∀ q ∈ T.next.ps, σ' q.2.id + T.next.mu q.1 ≤ most T := fun q hq => by
     rw [hin q hq];unfold nv
     split
     · have := hmost q hq; omega
     · rename_i h2;have h3 : q.2.st = 1 := Classical.byContradiction fun e => h2 (.inl e);exact main q hq h3 fun e => h2 (.inr ((hran q hq).2 e))
   refine ⟨hT', hU', ⟨fun q hq _ => by rw [em]; exact val q hq, fun q hq h1 => ?_, hn⟩, fun q hq => ⟨?_, hle q hq⟩, by simp⟩
   · rw [hin q hq]; unfold nv; rw [if_pos (.inl h1)]
   · have h1 := val q hq;have h2 := hpos q.1;omega
theorem pX {c : Nat → Int} {bo : Int} {l : List Int} (hc : okc c bo = true) (hl : oki l.length = true) (hB : Byt l) : TI id (St.fresh c bo l 1) ∧ UI (St.fresh c bo l 1) ∧ FI (St.fresh c bo l 1) (fun _ => 0) := by
 have hT := (pT hc hl hB).1;have hps : (St.fresh c bo l 1).ps = [(1, PS.one)] := kF;have hc' : (∀ i, i < 3 → 1 ≤ c i ∧ c i ≤ 10) ∧ 1 ≤ bo ∧ bo ≤ 1000 := by
   have h : ((1 ≤ c 0 ∧ c 0 ≤ 10) ∧ (1 ≤ c 1 ∧ c 1 ≤ 10) ∧ (1 ≤ c 2 ∧ c 2 ≤ 10)) ∧ 1 ≤ bo ∧ bo ≤ 1000 := by simpa [okc] using hc
   refine ⟨fun i hi => ?_, h.2⟩;have : i = 0 ∨ i = 1 ∨ i = 2 := by omega
   rcases this with rfl | rfl | rfl
   · exact h.1.1
   · exact h.1.2.1
   · exact h.1.2.2
 have hU : UI (St.fresh c bo l 1) := by
   refine ⟨fun l hl => (hc'.1 l hl).1, hc'.2.1, fun q hq _ => ?_⟩;rw [hps] at hq;rw [List.mem_singleton.1 hq];have := (hc'.1 0 (by omega)).1;show (0 : Int) < c 0;omega
 refine ⟨hT, hU, fun q hq h1 => ?_, fun _ _ _ => rfl, fun _ _ => rfl⟩;have h1 : q.1 ∈ (St.fresh c bo l 1).rows 0 := by
   rw [hps] at hq;rw [List.mem_singleton.1 hq, pO];simp [put]
 have := qW (p := q.1) hU hT.m.i.g (.inr h1);unfold most;omega
def cnt : Nat → St → Nat
 | 0, _ => 0
 | n + 1, T => if T.isOver then 1 else cnt n T.next + 1
end Go.Proofs.YtejkelcaljmnoaaGreatDoor
namespace Go.Lo
open Go.Conc Go.Hx
theorem Fits.unw {N : Nat} {ε : Env} {a : Act} (h : Fits N ε a) {ops : Array Oper} {o : Oper} {j : Nat} {want : Bool} {d : Tmp} (hg : o.guard = some (j, want)) (hd : (ops[j]?).bind (·.dst) = some d) (hl : look ε d = some undef) : Region.wanted o (yielded ops a.tmps) = false := by
 unfold Region.wanted;rw [hg];obtain ⟨h1, h2⟩ := h.at_ _ _ hl;have h3 : a.tmps[d]? = some undef := by
   have : d < a.tmps.size := by rw [h.sz]; exact h1
   simp [Array.getD_eq_getD_getElem?, this] at h2;simp [this, h2]
 have h4 : yielded ops a.tmps j = none := by
   unfold yielded;rw [hd];show (match a.tmps[d]? with | some (.bool b) => some b | _ => none) = none;rw [h3]; rfl
 simp only [h4];rfl
section
variable {σ : Type} {F : Fam σ} {Δ : ∀ s, Dom (F.R s) (F.D s)} {P : Program} {main : Bool} {fn : FuncId} {N : Nat} {Q : σ → Exit → Env → Frag → Prop} {s : σ} {ε : Env} {L : Frag}
theorem on {ops : Array Oper} {i : Nat} {rest : List Nat} {d : Option Tmp} {k : Op} {ot : TypeId} {ps : String} {af : Array Edge} {j : Nat} {want : Bool} {dd : Tmp} {n : Nat} (ho : ops[i]? = some ⟨d, k, ot, ps, af, some (j, want)⟩) (hdd : (ops[j]?).bind (·.dst) = some dd := by rfl) (hl : look ε dd = some undef := by rfl) (hd : dstOk N d = true := by rfl) (h : OpsE Δ P main fn N ops rest n s Q (putE d undef ε) L) : OpsE Δ P main fn N ops (i :: rest) (n + 1) s Q ε L :=
 fun a ha => gi ho (ha.unw rfl hdd hl) (h _ (ha.put hd undef))
end
end Go.Lo
