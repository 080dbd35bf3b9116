/-
  Part 18 of the proof.
  No condition but those that each statement names.
-/
import Derived.Test.YtejkelcaljmnoaaGreatDoorHy17
import Derived.Conc.LeavingOf
import Derived.JoinedOf
import Derived.RowKit
import Derived.RowKitTokens
import Derived.Stop.Joined
import Derived.Carry
import Derived.Deep.Slices
import Derived.Test.YtejkelcaljmnoaaGreatDoorHy15
import Derived.Test.YtejkelcaljmnoaaGreatDoorHy16
import Derived.Test.YtejkelcaljmnoaaGreatDoorHy07
set_option maxRecDepth 100000
set_option linter.unusedVariables false
set_option linter.unusedSimpArgs false
set_option linter.unusedSectionVars false
namespace Go.Proofs.YtejkelcaljmnoaaGreatDoor
open Go.ChangeShapes Go.WideShapes Go.RowKit Go.Conc Go.ConcX Go.Hx Go.Lo
section
variable {H : Type} {enc : TypeId × Value → H}
theorem fk {a : Assume} {C : Checked} {os : Os} {f : FuncId} {fn : Func} {s : ChangeSpec} {conds : List PathCond} {apart fresh handsOn again : Bool} {X : World → Array Value → Prop}
   (hX : ∀ (w w' : World) (args : Array Value), w.heap = w'.heap → X w args → X w' args)
   (own : ownKnob C.prog.godebug = none) (started : os.Started) (hfn : C.prog.funcs[f]? = some fn)
   (witness : ∃ (w : World) (tape : Tape) (i : Input), w.os = os ∧ (w.forCall tape i).Shaped C.prog ∧ i.vars = [] ∧ Input.okWide C.prog (w.forCall tape i) .any w.heap.size f i ∧
     ((s.pre enc C.prog fn conds apart (w.forCall tape i).memory i.args ∧ X (w.forCall tape i).memory i.args) ∧ sizedMet enc C.prog fn (OpenSpec.ofChange s) apart (w.forCall tape i).memory i.args) ∧ a.holds C.prog (lone (Frame.enter C.prog f i.args .normal) [] (w.forCall tape i)))
   (runs : ∀ (W : World) (base : Nat) (args : Array Value) (ds gs : List (DataW H)) (before : List MemPlace), W.ShapedOpen C.prog →
     (∀ (j : Nat) t v, fn.params[j]? = some t → args[j]? = some v → Value.okWide C.prog W .any base t v) →
     DataW.Whole enc C.prog fn.params.toList s.vars apart W args.toList ds gs before → X W args →
     ∃ M last o w' t', runNT C.prog (M + 1) (solo (G (Frame.enter C.prog f args .normal) []) W) #[] = (.ended o w', t') ∧ runN C.prog M (solo (G (Frame.enter C.prog f args .normal) []) W) = .next last ∧
       step C.prog last = .ended o w' ∧ Conc.Good C.prog (fun v W' => s.post enc C.prog fn apart fresh handsOn again W args v W') last o w' t') :
   ReturnsInLeavingWide a C os f .any (fun w args => (s.pre enc C.prog fn conds apart w args ∧ X w args) ∧ sizedMet enc C.prog fn (OpenSpec.ofChange s) apart w args) (s.post enc C.prog fn apart fresh handsOn again) := by
 refine returnsInLeavingWide_of_good own started witness ?_;intro w tape i _ hso _ hok hpre hholds;obtain ⟨_, _, _, fn', hfn', _, _, _, _, hval⟩ := hok;have e : fn' = fn := Option.some.inj (hfn'.symm.trans hfn);subst e;obtain ⟨⟨⟨ds, gs, before, hw, hc⟩, hx⟩, hz⟩ := hpre;have hw' := DataW.Whole.of_heap (w' := w.forCall tape i) (by rfl) hw;obtain ⟨M, last, o, w', t', h1, h2, h3, h4⟩ := runs (w.forCall tape i) w.heap.size i.args ds gs before hso hval hw' (hX _ _ _ (by rfl) hx);exact ⟨M, last, o, w', t', h1, h2, h3, h4.mono fun v hp => ChangeSpec.post_blind hp⟩
end
abbrev tx0 : ByteArray := { data := #[116, 104, 101, 114, 101, 32, 105, 115, 32, 110, 111, 32, 115, 117, 99, 104, 32, 105, 110, 115, 116, 114, 117, 99, 116, 105, 111, 110] }
abbrev tx1 : ByteArray := { data := #[116, 104, 101, 114, 101, 32, 105, 115, 32, 110, 111, 32, 115, 117, 99, 104, 32, 111, 112, 101, 114, 97, 116, 111, 114] }
abbrev tx2 : ByteArray := { data := #[116, 104, 101, 114, 101, 32, 105, 115, 32, 110, 111, 32, 115, 117, 99, 104, 32, 98, 121, 116, 101, 32, 111, 102, 32, 109, 101, 109, 111, 114, 121] }
abbrev tx3 : ByteArray := { data := #[110, 111, 32, 115, 117, 99, 104, 32, 102, 105, 108, 101, 44, 32, 111, 114, 32, 110, 111, 116, 32, 111, 102, 32, 116, 104, 97, 116, 32, 107, 105, 110, 100] }
abbrev tx4 : ByteArray := { data := #[116, 104, 101, 114, 101, 32, 105, 115, 32, 110, 111, 32, 114, 111, 111, 109, 32, 102, 111, 114, 32, 111, 110, 101, 32, 109, 111, 114, 101] }
abbrev tx5 : ByteArray := { data := #[116, 104, 101, 114, 101, 32, 105, 115, 32, 110, 111, 32, 99, 104, 105, 108, 100] }
abbrev tx6 : ByteArray := { data := #[116, 104, 101, 114, 101, 32, 105, 115, 32, 110, 111, 32, 115, 117, 99, 104, 32, 112, 114, 111, 99, 101, 115, 115] }
abbrev tx7 : ByteArray := { data := #[110, 111, 98, 111, 100, 121, 32, 99, 97, 110, 32, 114, 101, 97, 100, 32, 116, 104, 97, 116] }
abbrev tx8 : ByteArray := { data := #[109, 101, 109, 111, 114, 121, 32, 116, 104, 97, 116, 32, 116, 104, 101, 114, 101, 32, 105, 115, 32, 110, 111, 116] }
abbrev tx9 : ByteArray := { data := #[110, 111, 32, 115, 117, 99, 104, 32, 99, 97, 108, 108, 44, 32, 111, 114, 32, 110, 111, 116, 32, 119, 105, 116, 104, 32, 116, 104, 97, 116] }
noncomputable def low : Nat := (World.holding Tryz.prog default ⟨#[], #[], []⟩).heap.size
def lay (h : Array Obj) (g : Nat) (v : Value) : Array Obj := h.modify g fun
 | .cells _ t frozen => .cells #[v] t frozen
 | o => o
noncomputable def laidWorld (os : Os) : World :=
 let w0 := World.holding Tryz.prog os ⟨#[.cells #[.string tx0] 275, .cells #[.string tx1] 275, .cells #[.string tx2] 275, .cells #[.string tx3] 275, .cells #[.string tx4] 275, .cells #[.string tx5] 275, .cells #[.string tx6] 275, .cells #[.string tx7] 275, .cells #[.string tx8] 275, .cells #[.string tx9] 275], #[], []⟩
 { w0 with heap := lay (lay (lay (lay (lay (lay (lay (lay (lay (lay (lay (w0.heap) 0 (.iface 255 (.pointer (some ⟨low + 0, 0, none⟩)))) 1 (.iface 255 (.pointer (some ⟨low + 1, 0, none⟩)))) 10 (.iface 255 (.pointer (some ⟨low + 2, 0, none⟩)))) 3 (.iface 255 (.pointer (some ⟨low + 3, 0, none⟩)))) 4 (.iface 255 (.pointer (some ⟨low + 4, 0, none⟩)))) 5 (.iface 255 (.pointer (some ⟨low + 5, 0, none⟩)))) 6 (.iface 255 (.pointer (some ⟨low + 6, 0, none⟩)))) 7 (.iface 255 (.pointer (some ⟨low + 7, 0, none⟩)))) 8 (.iface 255 (.pointer (some ⟨low + 8, 0, none⟩)))) 9 (.iface 255 (.pointer (some ⟨low + 9, 0, none⟩)))) 2 (rty 168) }
theorem kU (os : Os) (args : Array Value) : laidMetH Tryz.prog Rows.sumsRow.laid ((laidWorld os).forCall (fun _ _ => 0) ⟨#[], args, []⟩).memory :=
 laidMetH_of_parts (laidMet_of_run (ps := [.cell 0 0, .cell (low + 0) 0, .cell 1 0, .cell (low + 1) 0, .cell 10 0, .cell (low + 2) 0, .cell 3 0, .cell (low + 3) 0, .cell 4 0, .cell (low + 4) 0, .cell 5 0, .cell (low + 5) 0, .cell 6 0, .cell (low + 6) 0, .cell 7 0, .cell (low + 7) 0, .cell 8 0, .cell (low + 8) 0, .cell 9 0, .cell (low + 9) 0]) 8 (by kernel_rfl) (by kernel_rfl) (by kernel_rfl)) (by kernel_rfl)
theorem ff {n : Int} (h : (Lit.int .i64 n).wf = true) : I64 n := by
 simp [Lit.wf, IntKind.min, IntKind.max, IntKind.signed, IntKind.bits] at h;unfold I64;omega
end Go.Proofs.YtejkelcaljmnoaaGreatDoor
namespace Go.Proofs.YtejkelcaljmnoaaGreatDoor
open Go.ChangeShapes Go.WideShapes Go.WideElems Go.RowKit Go.Conc Go.ConcX Go.Hx Go.Lo
section
variable {H : Type} {enc : TypeId × Value → H} {P : Program}
theorem lF (hl : laidOutB P = true) {W W' : World} (hb : Below W.heap.size W W') :
   ∀ {ts : List TypeId} {vs : List Value} {ds : List (DataW H)} {ps : List MemPlace}, (∀ t ∈ ts, P.readableRec t = true ∧ t < P.types.size) → DataW.TrodAll enc P W 0 (fun _ => true) true ts vs ds ps → DataW.TrodAll enc P W' 0 (fun b => decide (b < W.heap.size)) true ts vs ds ps
 | [], [], [], _, _, h => h
 | [], [], _ :: _, _, _, h => h.elim
 | [], _ :: _, _, _, _, h => h.elim
 | _ :: _, [], _, _, _, h => h.elim
 | _ :: _, _ :: _, [], _, _, h => h.elim
 | t :: ts, v :: vs, d :: ds, ps, hr, h => by
   have hlt := h.lt;obtain ⟨p, q, ⟨n, h1⟩, h2, e⟩ := h;have ht := hr t List.mem_cons_self;have hp : ∀ x ∈ p, x.block < W.heap.size := fun x hx => hlt x (by rw [e]; simp [hx]);exact ⟨p, q, ⟨n, DataW.trod_stays (kids_book hl ht.1) (book_sized ht.1) (fun h => by cases h) ⟨ht.2, book_self t⟩ h1 (fun x hx => hb.same (hp x hx)) (fun x hx => by simpa using hp x hx)⟩, lF hl hb (fun t ht => hr t (List.mem_cons_of_mem _ ht)) h2, e⟩
theorem uT {w : World} {r : Reach} {b0 base : Nat} {spare : Nat → Bool} {held : Bool} {t : TypeId} {v : Value} {d : DataW H} {ps : List MemPlace} (ht : P.underlying t = some .string) (hval : Value.okWide P w r b0 t v) (hd : DataW.Trod enc P w base spare held t v d ps) : ∃ l : List Int, v = strv l ∧ Byt l ∧ l.length ≤ maxLen := by
 obtain ⟨s, rfl⟩ := okWide_string ht hval;obtain ⟨n, h⟩ := hd;obtain ⟨s', e, _, hs⟩ := DataW.trod_string ht h;obtain rfl : s = s' := by simpa [Value.cells] using e
 refine ⟨s.data.toList.map fun u => (u.toNat : Int), ?_, fun n hn => ?_, ?_⟩
 · unfold strv;congr 1;obtain ⟨⟨a⟩⟩ := s;congr 2;simp [Function.comp_def]
 · obtain ⟨u, _, rfl⟩ := List.mem_map.1 hn;have := u.toNat_lt;omega
 · simpa using hs
end
end Go.Proofs.YtejkelcaljmnoaaGreatDoor
namespace Go.Proofs.YtejkelcaljmnoaaGreatDoor
open Go.Conc Go.Hx Go.Lo
section
variable {K M : Nat} {A B : Lay} {S T : St} {F L L' L2 : Frag}
def Own (K : Nat) (A : Lay) (S : St) (b : Nat) : Prop := b = K ∨ (∃ q ∈ S.ps, b = q.1) ∨ (∃ i, (A.a i).b = some b) ∨ (∃ i, (A.y i).b = some b) ∨ b = A.wt
theorem Rep.own (h : Rep K A S F L) {b : Nat} (hb : Own K A S b) : ∃ o, (b, true, o) ∈ L ∧ ((∃ m c, o = Obj.map m c) ∨ ∃ cs e, o = Obj.cells cs e ∧ (e = 115 ∨ e = 99 ∨ e = 93 ∨ e = 5)) := by
 rcases hb with rfl | ⟨q, hq, rfl⟩ | ⟨i, hi⟩ | ⟨i, hi⟩ | rfl
 · exact ⟨_, h.k, .inr ⟨_, _, rfl, .inl rfl⟩⟩
 · exact ⟨_, h.p q hq, .inr ⟨_, _, rfl, .inr (.inl rfl)⟩⟩
 · obtain ⟨xs, hx⟩ := h.al i b hi;exact ⟨_, hx, .inr ⟨_, _, rfl, .inr (.inr (.inl rfl))⟩⟩
 · obtain ⟨xs, hx⟩ := h.yl i b hi;exact ⟨_, hx, .inr ⟨_, _, rfl, .inr (.inr (.inr rfl))⟩⟩
 · exact ⟨_, h.w, .inl ⟨_, _, rfl⟩⟩
theorem Rep.notown (h : Rep K A S F L) {b : Nat} {f : Bool} {cs : Array Value} {e : TypeId} (hm : (b, f, Obj.cells cs e) ∈ L) (he : e ≠ 115 ∧ e ≠ 99 ∧ e ≠ 93 ∧ e ≠ 5) : ¬ Own K A S b := fun hb => by
 obtain ⟨o, ho, h1⟩ := h.own hb;have e1 := (h.fn _ _ _ _ _ hm ho).2;rcases h1 with ⟨m, c, rfl⟩ | ⟨cs', e', rfl, h2⟩
 · cases e1
 · cases e1;rcases h2 with h2 | h2 | h2 | h2
   · exact he.1 h2
   · exact he.2.1 h2
   · exact he.2.2.1 h2
   · exact he.2.2.2 h2
theorem yR {b : Nat} (h : ¬ Own K A S b) : b ≠ K ∧ (∀ q ∈ S.ps, b ≠ q.1) ∧ (∀ i, (A.a i).b ≠ some b) ∧ (∀ i, (A.y i).b ≠ some b) ∧ b ≠ A.wt :=
 ⟨fun e => h (.inl e), fun q hq e => h (.inr (.inl ⟨q, hq, e⟩)), fun i e => h (.inr (.inr (.inl ⟨i, e⟩))), fun i e => h (.inr (.inr (.inr (.inl ⟨i, e⟩)))), fun e => h (.inr (.inr (.inr (.inr e))))⟩
theorem Rep.move (h : Rep K A S F L) (hf : Fun L') (ho : ∀ t ∈ L, Own K A S t.1 → t ∈ L') (hg : (A.g, true, Obj.cells A.gc 158) ∈ L') (hF : ∀ t ∈ F, t ∈ L') : Rep K A S F L' :=
 { h with
   fn := hf, k := ho _ h.k (.inl rfl), g := hg, p := fun q hq => ho _ (h.p q hq) (.inr (.inl ⟨q, hq, rfl⟩)), w := ho _ h.w (.inr (.inr (.inr (.inr rfl)))), fr := hF
   pa := h.pa.mono fun b hb _ x => ho _ x (.inr (.inr (.inl ⟨_, hb⟩)))
   rw := fun l hl => (h.rw l hl).mono fun b hb _ x => ho _ x (.inr (.inr (.inl ⟨_, hb⟩)))
   ya := fun i hi => (h.ya i hi).mono fun b hb _ x => ho _ x (.inr (.inr (.inr (.inl ⟨_, hb⟩))))
   wa := fun e he => (h.wa e he).mono fun b hb _ x => ho _ x (.inr (.inr (.inl ⟨_, hb⟩)))
   al := fun i c hc => (h.al i c hc).imp fun _ x => ho _ x (.inr (.inr (.inl ⟨_, hc⟩)))
   yl := fun i c hc => (h.yl i c hc).imp fun _ x => ho _ x (.inr (.inr (.inr (.inl ⟨_, hc⟩)))) }
theorem Rep.with (h : Rep K A S F L) {b : Nat} {cs : Array Value} {e : TypeId} (hm : (b, true, Obj.cells cs e) ∈ L) (he : e ≠ 115 ∧ e ≠ 99 ∧ e ≠ 93 ∧ e ≠ 5) : Rep K A S ((b, true, Obj.cells cs e) :: F) L :=
 { h with
   fr := fun t ht => by
     rcases List.mem_cons.1 ht with rfl | ht
     · exact hm
     · exact h.fr t ht
   fd := fun t ht => by
     rcases List.mem_cons.1 ht with rfl | ht
     · exact yR (h.notown hm he)
     · exact h.fd t ht }
theorem Rep.turnB (h : Rep K A S F L) {b : Nat} {cs : Array Value} {e : TypeId} (hm : (b, true, Obj.cells cs e) ∈ L) (he : e ≠ 115 ∧ e ≠ 99 ∧ e ≠ 93 ∧ e ≠ 5 ∧ e ≠ 158) (hn : ∀ t ∈ F, t.1 ≠ b) (hf : Fun L') (hs : ∀ t ∈ L, t.1 ≠ b → t ∈ L') : Rep K A S F L' :=
 h.move hf (fun t ht ho => hs t ht fun e' => h.notown hm ⟨he.1, he.2.1, he.2.2.1, he.2.2.2.1⟩ (e' ▸ ho))
   (hs _ h.g fun e' => absurd (h.fn _ _ _ _ _ h.g (e' ▸ hm)).2 (aF (Ne.symm he.2.2.2.2))) fun t ht => hs t (h.fr t ht) (hn t ht)
end
def setsI (xs : List Int) (i : Nat) : List Int := (List.range i).flatMap fun (j : Nat) => insn 1 (j : Nat) (xs.getD j 0)
def trapI (m : Int) (xs : List Int) : List Int := setsI xs xs.length ++ insn 9 m 0
theorem kG (xs : List Int) (i : Nat) : setsI xs (i + 1) = setsI xs i ++ insn 1 (i : Nat) (xs.getD i 0) := by
 unfold setsI; rw [List.range_succ, List.flatMap_append]; simp
theorem lG (xs : List Int) : ∀ i, (setsI xs i).length = 4 * i
 | 0 => rfl
 | i + 1 => by rw [kG, List.length_append, lG xs i]; show 4 * i + 4 = _; omega
theorem yS : ∃ n, ∀ {σ : Type} {F : Fam σ} {Δ : ∀ s, Dom (F.R s) (F.D s)} {main : Bool} {s : σ} (L : Frag) (m : Int) (xs : List Int) (base : Option Addr) (cap : Nat), (∀ s o, (Δ s).New o) → Fun L → xs.length ≤ 8 → (∀ i, i < xs.length → ∃ b, base = some ⟨b, 0, none⟩ ∧ At L b i (.int .i64 (xs.getD i 0))) →
   CallsL Δ Tryz.prog main 23 [.int .i64 m, .slice base xs.length cap].toArray n s L (fun s' v L' => s = s' ∧ v = strv (trapI m xs) ∧ Ext L L') := by
 obtain ⟨n1, g1⟩ := yQ;apply Exists.intro;intro σ F Δ main s L m xs base cap hN hF h8 hat;co_applyP aB 25 Tryz.func23 Tryz.ntmps23;co_applyP ae;co_applyP aa;co_applyP oy rfl ak;co_applyP ah;change wpE ..;co_applyP ae;co_applyP aa;co_applyP oy rfl ak;co_applyP ah;change wpE ..;co_applyP ae;co_applyP ae;co_applyP aa;co_applyP oy rfl ak;co_applyP ah;change wpE ..;co_applyP aI;co_applyP bG (fun c s' ε' L' => s' = s ∧ Ext L L' ∧ ∃ i, i ≤ xs.length ∧ c + i = 8 ∧ kn ε' [(0, .int .i64 m), (1, .slice base xs.length cap), (5, strv (setsI xs i)), (6, .int .i64 (i : Nat))]) 8
 · exact ⟨rfl, ⟨hF, fun _ h => h⟩, 0, by omega, rfl, rfl⟩
 rintro c s' ε' L' ⟨rfl, hE, i, hi, hc, he⟩;co_applyP a6 he;have ei : IntKind.i64.wrap ((i : Int) + 1) = ((i + 1 : Nat) : Int) := by simp [IntKind.wrap_i64]; omega
 have hsl := lG xs i;co_applyP ae;co_applyP ae;co_applyP aa;co_applyP oy rfl aj;co_applyP oy rfl aj;co_applyP oy rfl (bz (hu := Tryz.underlying54));co_applyP oy rfl bX;co_applyP ah;change wpE ..;co_applyP bl rfl;intro hlt
 · have hlt' : i < xs.length := by simpa using hlt
   obtain ⟨b, rfl, hv⟩ := hat i hlt';have hv' := hE.at hv;co_applyP aA;change wpE ..;co_applyP ae;co_applyP aI;co_applyP aa;co_applyP oy rfl aj;co_applyP oy rfl aj;co_applyP oy rfl aj;co_applyP oy rfl aj;co_applyP oy rfl (bv Tryz.underlying54 dm);co_applyP oy rfl (aC (ht := aV));co_applyP oc rfl rfl rfl (g1 L' 1 (i : Nat) (xs.getD i 0) hN hE.f);rintro _ _ _ ⟨rfl, rfl, hE2⟩;have hl2 : (setsI xs i).length + (insn 1 (i : Nat) (xs.getD i 0)).length < 1000000 := by rw [hsl]; show 4 * i + 4 < _; omega
   co_applyP oy rfl pw;co_applyP oy rfl ak;co_applyP ah;change wpE ..;co_applyP aa;co_applyP oy rfl aj;co_applyP oy rfl a7;co_applyP oy rfl ak;co_applyP ah;change ∃ k', k' < _ ∧ _;exact ⟨c - 1, by omega, rfl, hE.trans hE2, i + 1, by omega, by omega, by rw [← ei, kG]; rfl⟩
 intro hlt;have hi' : i = xs.length := by simp at hlt; omega
 subst hi';co_applyP bL;change wpE ..;co_applyP ae;co_applyP aa;co_applyP oy rfl aj;co_applyP oy rfl aj;co_applyP oc rfl rfl rfl (g1 L' 9 m 0 hN hE.f);rintro _ _ _ ⟨rfl, rfl, hE2⟩;have hl2 : (setsI xs xs.length).length + (insn 9 m 0).length < 1000000 := by rw [hsl]; show 4 * _ + 4 < _; omega
 co_applyP oy rfl pw;co_applyP oy rfl ak;co_applyP ah;change wpE ..;co_applyP aJ;change ∃ v, resE .. = some v ∧ _;exact ⟨_, rfl, rfl, rfl, hE.trans hE2⟩
end Go.Proofs.YtejkelcaljmnoaaGreatDoor
namespace Go.Lo
open Go.Conc Go.Hx
def resE3 (g : Func) (ε : Env) : Option Value := match g.results.toList with
 | [.tmp t, .tmp u, .tmp x] => match look ε t, look ε u, look ε x with
   | some v, some w, some y => some (.tuple #[v, w, y])
   | _, _, _ => none
 | _ => none
def bodyE3 {σ : Type} (g : Func) (Post : σ → Value → Frag → Prop) : σ → Exit → Env → Frag → Prop
 | s, .normal, ε, L | s, .ret, ε, L => ∃ v, resE3 g ε = some v ∧ Post s v L
 | _, _, _, _ => False
section
variable {σ : Type} {F : Fam σ} {Δ : ∀ s, Dom (F.R s) (F.D s)} {P : Program} {main : Bool} {fn : FuncId} {N : Nat} {Q : σ → Exit → Env → Frag → Prop} {s : σ} {ε : Env} {L : Frag}
theorem uU {g : Func} {a : Act} {v : Value} (hf : Fits N ε a) (h : resE3 g ε = some v) : wpQ P (results g a.tmps) (· = v) L := by
 unfold resE3 at h
 split at h
 · rename_i t u x e
   split at h
   · rename_i h1 h2 h3;have e' : g.results = #[.tmp t, .tmp u, .tmp x] := Array.ext' e;have r1 := (hf.at_ _ _ h1).2;have r2 := (hf.at_ _ _ h2).2;have r3 := (hf.at_ _ _ h3).2;rw [← Option.some.inj h, ← r1, ← r2, ← r3];have e0 : results g a.tmps = pure (.tuple #[a.tmps.getD t undef, a.tmps.getD u undef, a.tmps.getD x undef]) := by simp [results, e']
     rw [e0]; rfl
   · cases h
 · cases h
theorem wP (N : Nat) {f : FuncId} {g : Func} {c : Code} {vs : List Value} {n : Nat} {Post : σ → Value → Frag → Prop} (hf : P.funcs[f]? = some g) (hN : g.ntmps = N) (hname : (g.name == "runtime.NumGoroutine") = false := by rfl) (hb : g.body = some c := by rfl) (hl : Nat.ble vs.length N = true := by rfl) (h : wpE Δ P main f N c n s (bodyE3 g Post) (args vs) L) : CallsM Δ P main f vs.toArray n s L Post := by
 have hl := Nat.le_of_ble_eq_true hl;subst hN;refine ⟨g, c, hf, hname, hb, de (h _ ⟨by simp; omega, rfl, fun t v ht => ?_⟩) fun s' e a' L' ⟨ε', hf, q⟩ => ?_⟩
 · obtain ⟨_, h2⟩ := fL vs 0 t v ht;have hlt := (List.getElem?_eq_some_iff.1 h2).1;simp only [Nat.sub_zero] at h2 hlt;refine ⟨by omega, ?_⟩;simp only [Array.getD_eq_getD_getElem?, Array.getElem?_append, List.size_toArray, hlt, if_true, List.getElem?_toArray, h2, Option.getD_some]
 · cases e <;> first | exact ⟨hf.df, q.choose, uU hf q.choose_spec.1, q.choose_spec.2⟩ | exact q
end
end Go.Lo
namespace Go.Proofs.YtejkelcaljmnoaaGreatDoor
open Go.Conc Go.Hx Go.Lo
def outB (ws : List Wd) : List Int := (ws.filter fun w => decide (w.2.1 = 3)).map fun w => w.2.2.2 % 256
def goneW (ws : List Wd) : List Wd := ws.filter fun w => decide (w.2.1 = 4)
abbrev u8s (l : List Int) : List Value := l.map (Value.int .u8)
abbrev wcs (ws : List Wd) : List Value := ws.flatMap Wd.c
theorem iA (ws : List Wd) : (wcs ws).length = ws.length * 4 := by
 induction ws with
 | nil => rfl
 | cons w ws ih =>
   have : wcs (w :: ws) = Wd.c w ++ wcs ws := rfl;rw [this, List.length_append, ih];show 4 + _ = _;simp only [List.length_cons]; omega
theorem uV (ws : List Wd) : ∀ (i : Nat) (w : Wd), ws[i]? = some w → ∀ j, j < 4 → (wcs ws)[4 * i + j]? = (Wd.c w)[j]? := by
 induction ws with
 | nil => intro i w h; simp at h
 | cons v ws ih =>
   intro i w h j hj;have e : wcs (v :: ws) = Wd.c v ++ wcs ws := rfl;have hl : (Wd.c v).length = 4 := rfl;rw [e];cases i with
   | zero =>
     obtain rfl : v = w := by simpa using h
     rw [Nat.mul_zero, Nat.zero_add, List.getElem?_append_left (by rw [hl]; exact hj)]
   | succ i =>
     rw [List.getElem?_append_right (by rw [hl]; omega), hl, show 4 * (i + 1) + j - 4 = 4 * i + j by omega];exact ih i w (by simpa using h) j hj
theorem uW {told : Value} {ws : List Wd} {L : Frag} (h : Heard told (ws.map Wd.v) L) : ∃ base cap, told = .slice base ws.length cap ∧ ∀ i w, ws[i]? = some w → ∃ g cs, base = some ⟨g, 0, none⟩ ∧ (g, true, Obj.cells cs 51) ∈ L ∧ 4 * i + 4 ≤ cs.size ∧ ∀ j, j < 4 → cs[4 * i + j]? = (Wd.c w)[j]? := by
 rcases h with ⟨rfl, h0⟩ | ⟨g, cap, cur, rfl, hg, hn, _, hz, ht⟩
 · have : ws = [] := by simpa using h0
   subst this;exact ⟨none, 0, rfl, fun i w h => by simp at h⟩
 · rw [List.length_map] at hn ht ⊢;refine ⟨_, cap, rfl, fun i w hw => ⟨g, cur, rfl, hg, ?_, fun j hj => ?_⟩⟩
   · have := (List.getElem?_eq_some_iff.1 hw).1;have := Nat.mul_le_mul_right 4 hn;omega
   · have hi := (List.getElem?_eq_some_iff.1 hw).1;rw [← uV ws i w hw j hj];have e : cur.toList.take (ws.length * 4) = wcs ws := by rw [ht, List.flatMap_map]; rfl
     rw [← e, List.getElem?_take_of_lt (by omega)];simp
theorem sd (ws : List Wd) {i : Nat} {w : Wd} (h : ws[i]? = some w) : outB (ws.take (i + 1)) = outB (ws.take i) ++ (if w.2.1 = 3 then [w.2.2.2 % 256] else []) := by
 unfold outB;rw [List.take_add_one, h, Option.toList_some, List.filter_append, List.map_append];by_cases e : w.2.1 = 3 <;> simp [e]
theorem px (ws : List Wd) {i : Nat} {w : Wd} (h : ws[i]? = some w) : goneW (ws.take (i + 1)) = goneW (ws.take i) ++ (if w.2.1 = 4 then [w] else []) := by
 unfold goneW;rw [List.take_add_one, h, Option.toList_some, List.filter_append];by_cases e : w.2.1 = 4 <;> simp [e]
theorem wQ (a b : List Wd) : wcs (a ++ b) = wcs a ++ wcs b := by simp [wcs]
section
variable {N : Nat} {ε : Env} {L : Frag} {d : Option Tmp} {ty : TypeId} {ps : String} {af : Array Edge} {g : Option (Nat × Bool)} {x : Operand}
theorem wR {a : Sl} {l : List Int} (hx : ev ε x = some (rowv a 1 l.length) := by rfl) (ha : slOk a (u8s l) 5 L) : EY Tryz.prog N ε L ⟨d, .convert 44 9 x, ty, ps, af, g⟩ (strv l) := by
 cases hab : a.b with
 | none =>
   have h := ha;unfold slOk at h;rw [hab] at h;obtain rfl : l = [] := by simpa using h.1
   have e : rowv a 1 ([] : List Int).length = .slice none 0 0 := by unfold rowv; rw [hab]
   rw [e] at hx;exact yP hx Tryz.underlying44 Tryz.underlying5 Tryz.underlying9
 | some b =>
   have e : rowv a 1 l.length = .slice (some ⟨b, 0, none⟩) l.length (l.length + a.junk.length / 1) := by unfold rowv; rw [hab]
   rw [e] at hx;refine uO (l := l) hx Tryz.underlying44 Tryz.underlying5 Tryz.underlying9 (ha.mem hab) (by simp) ?_;apply Array.ext';simp
end
theorem xJ : zeroAt Tryz.prog 51 = some (evt 0 0 0 0) := by kernel_rfl
theorem yT : bytesAt Tryz.prog 51 = some 32 := by kernel_rfl
set_option maxHeartbeats 1000000 in
theorem se : ∃ k, ∀ {Fin : Value → World → Prop} {W : World} {O : Nat} (nn : Nat) (s : List Nat) (K : Nat) (A : Lay) (S T : St) (Fr L : Frag) (eb : Nat → Nat × Nat) (t : Nat), Rep K A S Fr L → Ers eb Fr → Ab S T → 0 < t → t ≤ 2000 → S.now < 1152921504606846976 →
   Lo.CallsM (F := FZ Tryz.prog Fin) (fun s => dom0 (Shs s.2) W O) Tryz.prog true 24 [ptr K, .int .i64 (t : Nat)].toArray k (nn + 1, s) L (fun s' v L' => ∃ N A' S' ws ag, s' = (nn, N :: s) ∧ St.evs t T = ws.map Wd.v ∧ v = .tuple #[strv (outB ws), rowv ag 4 (goneW ws).length, .bool true] ∧ Ab S' (St.runs t T) ∧ Rep K A' S' Fr L' ∧ slOk ag (wcs (goneW ws)) 51 L') := by
 obtain ⟨n1, gr⟩ := xF;apply Exists.intro;intro Fin W O nn s K A S T Fr L eb t hR hEr hAb ht0 ht hnow;have hN : ∀ (s : Nat × List Nat) (o : Obj), (dom0 (Shs s.2) W O).New o := fun _ _ => trivial;obtain ⟨ws, hws, hwl⟩ := iz t T;co_applyP wP 66 Tryz.func24 Tryz.ntmps24;co_applyP ae;co_applyP aa;co_applyP oy rfl ak;co_applyP oy rfl ak;co_applyP oy rfl ak;co_applyP ah;change wpE ..;co_applyP ae;co_applyP aa;co_applyP oy rfl ak;co_applyP ah;change wpE ..;co_applyP ae;co_applyP aa;co_applyP oy rfl ak;co_applyP ah;change wpE ..;co_applyP ae;co_applyP aI;co_applyP bG (fun k s' ε' L' => (k = 1 ∧ s' = (nn + 1, s) ∧ L' = L ∧ kn ε' [(0, ptr K), (1, .int .i64 (t : Nat)), (7, .slice none 0 0), (8, .slice none 0 0)]) ∨ (k = 0 ∧ ∃ N A' S' ab ag, s' = (nn, N :: s) ∧ Ab S' (St.runs t T) ∧ Rep K A' S' Fr L' ∧ slOk ab (u8s (outB ws)) 5 L' ∧ slOk ag (wcs (goneW ws)) 51 L' ∧ kn ε' [(1, .int .i64 0), (7, rowv ab 1 (outB ws).length), (8, rowv ag 4 (goneW ws).length)])) 1
 · exact .inl ⟨rfl, rfl, rfl, rfl⟩
 rintro k s' ε' L' hk;co_applyP bK (k = 1);intro h1
 · obtain ⟨rfl, rfl, he⟩ : s' = (nn + 1, s) ∧ L' = L ∧ kn ε' [(0, ptr K), (1, .int .i64 (t : Nat)), (7, .slice none 0 0), (8, .slice none 0 0)] := by
     rcases hk with ⟨_, a, b, c⟩ | ⟨a, _⟩
     · exact ⟨a, b, c⟩
     · omega
   co_applyP a6 he;have e0 : decide ((0 : Int) < (t : Int)) = true := by simp; omega
   have e1 : decide ((2000 : Int) < (t : Int)) = false := by simp; omega
   co_applyP ae;co_applyP ae;co_applyP aa;co_applyP oy rfl aj;co_applyP oy rfl dj;co_applyP ah;change wpE ..;rw [e0];co_applyP aW rfl;co_applyP aA;change wpE ..;co_applyP aI;co_applyP ae;co_applyP aa;co_applyP oy rfl aj;co_applyP oy rfl ak;co_applyP ah;change wpE ..;co_applyP ae;co_applyP ae;co_applyP aa;co_applyP oy rfl aj;co_applyP oy rfl dj;co_applyP ah;change wpE ..;rw [e1];co_applyP aq rfl;co_applyP aA;change wpE ..;co_applyP ae;co_applyP aa;co_applyP oy rfl aj;co_applyP oy rfl aj;co_applyP oc rfl rfl rfl (gr nn s K A S T Fr L' eb t hR hEr hAb ht hnow);rintro _ _ _ ⟨N, told, A1, S1, rfl, rfl, hAb1, hR1, hH⟩;rename_i L1;rw [hws] at hH;obtain ⟨base, cap, rfl, hat⟩ := uW hH;co_applyP oy rfl aj;co_applyP oy rfl bM;co_applyP oy rfl bM;co_applyP oy rfl ak;co_applyP oy rfl ak;co_applyP ah;change wpE ..;co_applyP ae;co_applyP ae;co_applyP aa;co_applyP oy rfl aj;co_applyP oy rfl cY;co_applyP ah;change wpE ..;co_applyP aq rfl;co_applyP aA;change wpE ..;co_applyP ae;co_applyP ae;co_applyP aa;co_applyP oy rfl ak;co_applyP ah;change wpE ..;co_applyP aI;co_applyP bG (fun k s' ε' L' => s' = (nn, N :: s) ∧ Ext L1 L' ∧ ∃ i ab ag, i ≤ ws.length ∧ k + i = 4000 ∧ slOk ab (u8s (outB (ws.take i))) 5 L' ∧ (∀ t ∈ L1, ab.b ≠ some t.1) ∧ slOk ag (wcs (goneW (ws.take i))) 51 L' ∧ (∀ t ∈ L1, ag.b ≠ some t.1) ∧ kn ε' [(1, .int .i64 (t : Nat)), (9, .int .i64 (t : Nat)), (10, .slice base ws.length cap), (12, .int .i64 (i : Nat)), (7, rowv ab 1 (outB (ws.take i)).length), (8, rowv ag 4 (goneW (ws.take i)).length)]) 4000
   · exact ⟨rfl, ⟨hR1.fn, fun _ h => h⟩, 0, ⟨none, []⟩, ⟨none, []⟩, by omega, rfl, ⟨rfl, rfl⟩, fun t ht => by simp, ⟨rfl, rfl⟩, fun t ht => by simp, rfl⟩
   rintro c s' ε' L2 ⟨rfl, hE, i, ab, ag, hi, hc, hb, hbn, hg, hgn, he⟩;co_applyP a6 he;have ei : IntKind.i64.wrap ((i : Int) + 1) = ((i + 1 : Nat) : Int) := by simp [IntKind.wrap_i64]; omega
   co_applyP ae;co_applyP ae;co_applyP aa;co_applyP oy rfl aj;co_applyP oy rfl aj;co_applyP oy rfl (bz (hu := Tryz.underlying38));co_applyP oy rfl bX;co_applyP ah;change wpE ..;co_applyP bl rfl;intro hlt
   · have hlt' : i < ws.length := by simpa using hlt
     obtain ⟨w, hw⟩ : ∃ w, ws[i]? = some w := ⟨_, List.getElem?_eq_getElem hlt'⟩;obtain ⟨tg, cs, rfl, htg, hsz, hcs⟩ := hat i w hw;have htg2 := hE.s _ htg;have k1 : At L2 tg (i * 4 + 1) (.int .i64 w.2.1) := ⟨true, _, _, _, htg2, by rw [Nat.mul_comm]; exact hcs 1 (by omega)⟩;have k3 : At L2 tg (i * 4 + 3) (.int .i64 w.2.2.2) := ⟨true, _, _, _, htg2, by rw [Nat.mul_comm]; exact hcs 3 (by omega)⟩;have hob := sd ws hw;have hog := px ws hw;have hol : (outB (ws.take i)).length ≤ 4000 := by
       unfold outB; rw [List.length_map];have := List.length_filter_le (fun w : Wd => decide (w.2.1 = 3)) (ws.take i);have := List.length_take_le i ws;omega
     have hgl : (goneW (ws.take i)).length ≤ 4000 := by
       unfold goneW;have := List.length_filter_le (fun w : Wd => decide (w.2.1 = 4)) (ws.take i);have := List.length_take_le i ws;omega
     co_applyP aA;change wpE ..;co_applyP dR (fun s'' ε'' L'' => s'' = (nn, N :: s) ∧ Ext L1 L'' ∧ ∃ ab ag, slOk ab (u8s (outB (ws.take (i + 1)))) 5 L'' ∧ (∀ t ∈ L1, ab.b ≠ some t.1) ∧ slOk ag (wcs (goneW (ws.take (i + 1)))) 51 L'' ∧ (∀ t ∈ L1, ag.b ≠ some t.1) ∧ kn ε'' [(1, .int .i64 (t : Nat)), (9, .int .i64 (t : Nat)), (10, .slice (some ⟨tg, 0, none⟩) ws.length cap), (12, .int .i64 (i : Nat)), (7, rowv ab 1 (outB (ws.take (i + 1))).length), (8, rowv ag 4 (goneW (ws.take (i + 1))).length)]);co_applyP aI;co_applyP dR (fun s'' ε'' L'' => s'' = (nn, N :: s) ∧ Ext L1 L'' ∧ ∃ ab ag, slOk ab (u8s (outB (ws.take (i + 1)))) 5 L'' ∧ (∀ t ∈ L1, ab.b ≠ some t.1) ∧ slOk ag (wcs (goneW (ws.take i))) 51 L'' ∧ (∀ t ∈ L1, ag.b ≠ some t.1) ∧ kn ε'' [(1, .int .i64 (t : Nat)), (9, .int .i64 (t : Nat)), (10, .slice (some ⟨tg, 0, none⟩) ws.length cap), (12, .int .i64 (i : Nat)), (7, rowv ab 1 (outB (ws.take (i + 1))).length), (8, rowv ag 4 (goneW (ws.take i)).length)]);co_applyP ae;co_applyP aa;co_applyP oy rfl aj;co_applyP oy rfl aj;co_applyP oy rfl (bv Tryz.underlying38 fh);co_applyP oy rfl (av (hf := jq));co_applyP oy rfl (aC (ht := aV) (hv := k1));co_applyP oy rfl ay;co_applyP ah;change wpE ..;co_applyP bl rfl;intro h3;co_applyP aa;co_applyP oy rfl aj;co_applyP oy rfl aj;co_applyP oy rfl aj;co_applyP oy rfl (bv Tryz.underlying38 fh);co_applyP oy rfl (av (hf := lV))
     · have h3' : w.2.1 = 3 := by simpa using h3
       co_applyP oy rfl (aC (ht := aV) (hv := k3));co_applyP oy rfl (cg (hs := Tryz.underlying3) (ht := Tryz.underlying5));co_applyP bN rfl (iY (hN _ _) (hu := Tryz.underlying44) (hs := ee) (hz := tS));intro nb L3 hA;have hr : Reads Tryz.prog L3 1 1 (.slice (some ⟨nb, 0, none⟩) 1 1) [Value.int .u8 (IntKind.u8.wrap w.2.2.2)].toArray := by
         have := b7 (P := Tryz.prog) (sz := 1) (n := 1) (len := 1) (cap := 1) (o := 0) hA.self (by simp);simpa using this
       co_applyP oeN rfl (fun hnd => ql (a := ab) (by_ := 0) (xs := u8s (outB (ws.take i))) (n := (outB (ws.take i)).length) (m := 1) (hnd := hnd) (hu := Tryz.underlying44) (hs := ee) (hb := xy) (hz := tS) (hzs := rfl) (hN := fun cs => hN _ _) (ha := hb.mono fun c hc o ho => hA.sub _ ho) (hn := by simp) (hr := hr) (hm := rfl) (hpl := rfl) (h0 := by decide) (h8 := by omega));rintro _ L4 ⟨ab', rfl, hp⟩;co_applyP oy rfl ak;co_applyP ah;change _ = _ ∧ _ ∧ ∃ ab ag, _ ∧ _ ∧ _ ∧ _ ∧ kn _ _;rw [if_pos h3'] at hob;refine ⟨rfl, ⟨hp.fn, fun t ht => hp.sub _ (hA.sub _ (hE.s _ ht)) (hbn t ht)⟩, ab', ag, ?_, fun t ht e => ?_, ?_, hgn, ?_⟩
       · rw [hob]; have := hp.ok; rw [l0] at this; simpa using this
       · rcases hp.d _ e with h | h
         · exact hbn t ht h
         · exact h _ (hA.sub _ (hE.s _ ht)) rfl
       · refine hg.mono fun q hq o ho => hp.sub _ (hA.sub _ ho) fun e => ?_;have m1 := hb.mem e;have m2 := hg.mem hq;exact absurd (hE.f _ _ _ _ _ m1 m2).2 (aF (by decide))
       · rw [hob, List.length_append]; rfl
     intro h3;co_applyP aA;change _ = _ ∧ _ ∧ ∃ ab ag, _ ∧ _ ∧ _ ∧ _ ∧ kn _ _;have h3' : ¬ w.2.1 = 3 := by simpa using h3
     rw [if_neg h3', List.append_nil] at hob;exact ⟨rfl, hE, ab, ag, by rw [hob]; exact hb, hbn, hg, hgn, by rw [hob]; rfl⟩;rintro s'' ε'' L3 ⟨rfl, hE3, ab3, ag3, hb3, hbn3, hg3, hgn3, he3⟩;co_applyP a6 he3;have htg3 := hE3.s _ htg;have k1' : At L3 tg (i * 4 + 1) (.int .i64 w.2.1) := ⟨true, _, _, _, htg3, by rw [Nat.mul_comm]; exact hcs 1 (by omega)⟩;have hcx : cs.extract (i * 4) (i * 4 + 4) = (Wd.c w).toArray := by
       apply Array.ext';apply List.ext_getElem?;intro j;by_cases hj : j < 4
       · rw [← hcs j hj];simp only [Array.toList_extract, List.extract_eq_take_drop];rw [List.getElem?_take_of_lt (by omega), List.getElem?_drop, Nat.mul_comm i 4];simp
       · rw [List.getElem?_eq_none (by simp; omega), List.getElem?_eq_none (by show 4 ≤ j; omega)]
     co_applyP ae;co_applyP aa;co_applyP oy rfl aj;co_applyP oy rfl aj;co_applyP oy rfl (bv Tryz.underlying38 fh);co_applyP oy rfl (av (hf := jq));co_applyP oy rfl (aC (ht := aV) (hv := k1'));co_applyP oy rfl ay;co_applyP ah;change wpE ..;co_applyP bl rfl;intro h4;co_applyP aa;co_applyP oy rfl aj;co_applyP oy rfl aj;co_applyP oy rfl aj;co_applyP oy rfl (bv Tryz.underlying38 fh)
     · have h4' : w.2.1 = 4 := by simpa using h4
       co_applyP oy rfl (a8 (ht := th) (hs := fh) (hm := htg3) (hi := by omega));rw [hcx];co_applyP bN rfl (uJ (sz := 4) (hN := hN _ _) (hv := rfl) (hu := Tryz.underlying38) (hs := fh) (hz := xJ) (h0 := by decide) (h24 := by decide));intro nb L4 hA;have hr : Reads Tryz.prog L4 4 1 (.slice (some ⟨nb, 0, none⟩) 1 1) (Wd.c w).toArray := by
         have := b7 (P := Tryz.prog) (sz := 4) (n := 1) (len := 1) (cap := 1) (o := 0) hA.self (by show 0 + 1 * 4 ≤ 4; decide);exact this
       co_applyP oeN rfl (fun hnd => ql (a := ag3) (by_ := 31) (xs := wcs (goneW (ws.take i))) (n := (goneW (ws.take i)).length) (m := 1) (hnd := hnd) (hu := Tryz.underlying38) (hs := fh) (hb := yT) (hz := xJ) (hzs := rfl) (hN := fun cs => hN _ _) (ha := hg3.mono fun c hc o ho => hA.sub _ ho) (hn := iA _) (hr := hr) (hm := rfl) (hpl := rfl) (h0 := by decide) (h8 := by omega));rintro _ L5 ⟨ag', rfl, hp⟩;co_applyP oy rfl ak;co_applyP ah;change _ = _ ∧ _ ∧ ∃ ab ag, _ ∧ _ ∧ _ ∧ _ ∧ kn _ _;rw [if_pos h4'] at hog;refine ⟨rfl, ⟨hp.fn, fun t ht => hp.sub _ (hA.sub _ (hE3.s _ ht)) (hgn3 t ht)⟩, ab3, ag', ?_, hbn3, ?_, fun t ht e => ?_, ?_⟩
       · refine hb3.mono fun q hq o ho => hp.sub _ (hA.sub _ ho) fun e => ?_;have m1 := hg3.mem e;have m2 := hb3.mem hq;exact absurd (hE3.f _ _ _ _ _ m1 m2).2 (aF (by decide))
       · rw [hog, wQ]; exact hp.ok
       · rcases hp.d _ e with h | h
         · exact hgn3 t ht h
         · exact h _ (hA.sub _ (hE3.s _ ht)) rfl
       · rw [hog, List.length_append]; rfl
     intro h4;co_applyP aA;change _ = _ ∧ _ ∧ ∃ ab ag, _ ∧ _ ∧ _ ∧ _ ∧ kn _ _;have h4' : ¬ w.2.1 = 4 := by simpa using h4
     rw [if_neg h4', List.append_nil] at hog;exact ⟨rfl, hE3, ab3, ag3, hb3, hbn3, by rw [hog]; exact hg3, hgn3, by rw [hog]; rfl⟩;rintro s'' ε'' L4 ⟨rfl, hE4, ab4, ag4, hb4, hbn4, hg4, hgn4, he4⟩;co_applyP a6 he4;co_applyP aa;co_applyP oy rfl aj;co_applyP oy rfl a7;co_applyP oy rfl ak;co_applyP ah;change ∃ k', k' < _ ∧ _;exact ⟨c - 1, by omega, rfl, hE4, i + 1, ab4, ag4, by omega, by omega, hb4, hbn4, hg4, hgn4, by rw [← ei]; rfl⟩
   intro hlt;have hi' : i = ws.length := by simp at hlt; omega
   subst hi';rw [List.take_length] at hb hg he;co_applyP bL;change wpE ..;co_applyP aa;co_applyP oy rfl aj;co_applyP oy rfl aj;co_applyP oy rfl pJ;co_applyP oy rfl ak;co_applyP ah;change ∃ k', k' < _ ∧ _;have e2 : IntKind.i64.wrap ((t : Int) - (t : Int)) = 0 := by simp [IntKind.wrap_i64]
   exact ⟨0, by omega, .inr ⟨rfl, N, A1, S1, ab, ag, rfl, hAb1, hR1.ext hE, hb, hg, by rw [List.take_length, e2]; rfl⟩⟩
 intro h1;obtain ⟨N, A', S', ab, ag, rfl, hAb', hR', hb, hg, he⟩ : ∃ N A' S' ab ag, s' = (nn, N :: s) ∧ Ab S' (St.runs t T) ∧ Rep K A' S' Fr L' ∧ slOk ab (u8s (outB ws)) 5 L' ∧ slOk ag (wcs (goneW ws)) 51 L' ∧ kn ε' [(1, .int .i64 0), (7, rowv ab 1 (outB ws).length), (8, rowv ag 4 (goneW ws).length)] := by
   rcases hk with ⟨a, _⟩ | ⟨_, a⟩
   · exact absurd a h1
   · exact a
 co_applyP a6 he;co_applyP ae (n₂ := 0);co_applyP ae;co_applyP aa;co_applyP oy rfl aj;co_applyP oy rfl dj;co_applyP ah;change wpE ..;co_applyP aq rfl;co_applyP bL;change wpE ..;co_applyP ae;co_applyP aa;co_applyP oy rfl aj;co_applyP oy rfl (wR (ha := hb));co_applyP oy rfl aj;co_applyP oy rfl ak;co_applyP oy rfl ak;co_applyP oy rfl ak;co_applyP ah;change wpE ..;co_applyP aJ;change ∃ v, resE3 _ _ = some v ∧ _;refine ⟨.tuple #[strv (outB ws), rowv ag 4 (goneW ws).length, .bool true], ?_, N, A', S', ws, ag, rfl, hws, rfl, hAb', hR', hg⟩;generalize rowv ag 4 (goneW ws).length = v5;generalize strv (outB ws) = v4;rfl
theorem py : ∀ {a b : List Wd}, a.map Wd.v = b.map Wd.v → a = b
 | [], [], _ => rfl
 | [], _ :: _, h => by simp at h
 | _ :: _, [], h => by simp at h
 | (x1, x2, x3, x4) :: a, (y1, y2, y3, y4) :: b, h => by
   simp only [List.map_cons, List.cons.injEq] at h;have h1 : (Value.agg #[.int .i64 x1, .int .i64 x2, .int .i64 x3, .int .i64 x4]) = .agg #[.int .i64 y1, .int .i64 y2, .int .i64 y3, .int .i64 y4] := h.1;simp only [Value.agg.injEq, Array.mk.injEq, List.cons.injEq, Value.int.injEq, true_and, and_true] at h1;obtain ⟨e1, e2, e3, e4⟩ := h1;rw [e1, e2, e3, e4, py h.2]
def knownI : List Int := trapI 11 [65] ++ trapI 0 [7]
def knownW : List Wd := [(0, 1, 1, 0), (1, 1, 1, 1), (1, 3, 1, 65), (2, 1, 1, 2), (3, 1, 1, 3), (3, 4, 1, 7)]
theorem wS : (St.evs 10 (St.fresh (cfgf 4 4 4) (cfgb 20) knownI 1), (St.runs 10 (St.fresh (cfgf 4 4 4) (cfgb 20) knownI 1)).ps.map fun q => q.2.st) = (knownW.map Wd.v, [6]) := by kernel_rfl
theorem kH : Byt knownI := by
 intro n hn;have : ∀ n ∈ knownI, 0 ≤ n ∧ n < 256 := by decide
 exact this n hn
section
variable {N : Nat} {ε : Env} {L : Frag} {d : Option Tmp} {ty : TypeId} {ps : String} {af : Array Edge} {g : Option (Nat × Bool)} {x y : Operand} {P : Program} {t u : TypeId}
theorem Ap {a b : Value} {r : Bool} (hg : evR P (eqGuard .eql t x y a b) [] = some ((), [])) (hb : evR P (binOp .eql t a b) [] = some (.bool r, [])) (hx : ev ε x = some a := by rfl) (hy : ev ε y = some b := by rfl) : EY P N ε L ⟨d, .binOp .eql t x y u, ty, ps, af, g⟩ (.bool r) := fun ac ha => by
 refine cG (fun _ => rfl) fun K hK => ?_;rw [ha.ev hx, ha.ev hy];show wpQ P (eqGuard .eql t x y a b >>= fun _ => binOp .eql t a b) K L;rw [ax];exact bd hg (bd hb hK)
end
theorem Aq (x y : Operand) : evR Tryz.prog (eqGuard .eql 51 x y (evt 3 4 1 7) (evt 3 4 1 7)) [] = some ((), []) := by kernel_rfl
theorem Ar : evR Tryz.prog (binOp .eql 51 (evt 3 4 1 7) (evt 3 4 1 7)) [] = some (.bool true, []) := by kernel_rfl
theorem As {L : Frag} {b : Nat} {v : Int} (h : (b, true, Obj.cells #[.int .i64 v] 3) ∈ L) : ∀ i, i < [v].length → ∃ b', (some ⟨b, 0, none⟩ : Option Addr) = some ⟨b', 0, none⟩ ∧ At L b' i (.int .i64 ([v].getD i 0)) := fun i hi => by
 obtain rfl : i = 0 := by simp at hi; omega
 exact ⟨b, rfl, true, _, _, _, h, rfl⟩
theorem qo {c : Int} (h : 0 ≤ c ∧ c < 100 := by decide) : I64 c := ⟨by omega, by omega⟩
theorem gK {a : Sl} {xs : List Value} {e : TypeId} {L : Frag} (h : slOk a xs e L) (hn : 0 < xs.length) : ∃ g, a.b = some g := by
 cases hab : a.b with
 | some g => exact ⟨g, rfl⟩
 | none =>
   unfold slOk at h;rw [hab] at h;rw [h.1] at hn;cases hn
set_option maxHeartbeats 1000000 in
theorem qp : ∃ k, ∀ {Fin : Value → World → Prop} {W : World} {O : Nat} (nn : Nat) (s : List Nat) (L : Frag) (eb : Nat → Nat × Nat), Fun L → Ers eb L →
   CallsL (F := FZ Tryz.prog Fin) (fun s => dom0 (Shs s.2) W O) Tryz.prog true 26 [].toArray k (nn + 1, s) L (fun s' v L' => ∃ N, s' = (nn, N :: s) ∧ v = .bool true ∧ Ext L L') := by
 obtain ⟨n1, gc⟩ := kE;obtain ⟨n2, gt⟩ := yS;obtain ⟨n3, gk⟩ := nT;obtain ⟨n4, gpr⟩ := se;obtain ⟨n5, gp⟩ := qn;apply Exists.intro;intro Fin W O nn s L eb hF hE;have hN : ∀ (s : Nat × List Nat) (o : Obj), (dom0 (Shs s.2) W O).New o := fun _ _ => trivial;co_applyP aB 52 Tryz.func26 Tryz.ntmps26;co_applyP ae;co_applyP aa;co_applyP oy rfl ak;co_applyP ah;change wpE ..;co_applyP ae;co_applyP aa;co_applyP ocm rfl rfl rfl (gc L 4 4 4 20 hN hF qo qo qo qo);rintro _ _ _ ⟨rfl, rfl, hE1⟩;co_applyP bN rfl (iY (hN _ _) (hu := Tryz.underlying54) (hs := dm) (hz := wq));intro b1 L2 hA1;co_applyP oc rfl rfl rfl (gt L2 11 [65] (some ⟨b1, 0, none⟩) 1 hN hA1.fn (by decide) (As hA1.self));rintro _ _ _ ⟨rfl, rfl, hE2⟩;co_applyP bN rfl (iY (hN _ _) (hu := Tryz.underlying54) (hs := dm) (hz := wq));intro b2 L4 hA2;co_applyP oc rfl rfl rfl (gt L4 0 [7] (some ⟨b2, 0, none⟩) 1 hN hA2.fn (by decide) (As hA2.self));rintro _ _ _ ⟨rfl, rfl, hE3⟩;co_applyP oy rfl pw;rename_i L5;have hX : Ext L L5 := ⟨hE3.f, fun t h => hE3.s _ (hA2.sub _ (hE2.s _ (hA1.sub _ (hE1.s _ h))))⟩;have hok := mw 4 4 4 20;have hoi : oki knownI.length = true := by decide
 co_applyP oc rfl rfl rfl (gk L5 (cfgf 4 4 4) (cfgb 20) knownI hN hX.f kH hok hoi);rintro _ _ _ ⟨rfl, K, A0, b0, rfl, hR0⟩;co_applyP oy rfl ak;co_applyP ah;change wpE ..;co_applyP ae;co_applyP ae;co_applyP aa;co_applyP oy rfl aj;co_applyP oy rfl (gj (hu := Tryz.underlying35));co_applyP ah;change wpE ..;co_applyP aq rfl;co_applyP aA;change wpE ..;co_applyP ae;co_applyP aa;co_applyP oy rfl aj;have hAb0 := nW (b := b0) hok hoi kH;co_applyP ocm rfl rfl rfl (gpr nn s K A0 _ _ L5 _ eb 10 hR0 (hE.mono hX.s) hAb0 (by decide) (by decide) (by show (0 : Nat) < _; decide));rintro _ _ _ ⟨N, A1, S1, ws, ag, rfl, hws, rfl, hAb1, hR1, hg⟩;rename_i L6;obtain ⟨kr1, kr2⟩ := Prod.mk.inj wS;obtain rfl : ws = knownW := py (hws.symm.trans kr1);obtain ⟨gg, hgg⟩ := gK hg (by decide);have er1 : rowv ag 4 (goneW knownW).length = .slice (some ⟨gg, 0, none⟩) 1 (1 + ag.junk.length / 4) := by unfold rowv; rw [hgg]; rfl
 rw [er1, show outB knownW = [65] from rfl];obtain ⟨Nm, hTI, hmap⟩ := hAb1.ex;have h1' : S1.ps.map (fun q => q.2.st) = [6] := by
   rw [hmap] at kr2;simpa [St.map, Function.comp_def] using kr2
 obtain ⟨⟨b, x⟩, hps⟩ : ∃ q, S1.ps = [q] := List.length_eq_one_iff.1 (by simpa using congrArg List.length h1');rw [hps] at h1';have hst : x.st = 6 := by simpa using h1'
 co_applyP oy rfl aj;co_applyP oy rfl bM;co_applyP oy rfl bM;co_applyP oy rfl bM;co_applyP oy rfl ak;co_applyP oy rfl ak;co_applyP oy rfl ak;co_applyP ah;change wpE ..;co_applyP ae;co_applyP aa;co_applyP oy rfl aj;co_applyP oc rfl rfl rfl (gp K A1 S1 L5 L6 hN hR1);rintro _ _ _ ⟨rfl, a, rfl, ha, han, hEp⟩;rename_i L7;obtain ⟨ap, hap⟩ := gK ha (by rw [f9, hps]; exact Nat.succ_pos _);have er2 : rowv a 15 S1.ps.length = .slice (some ⟨ap, 0, none⟩) 1 (1 + a.junk.length / 15) := by unfold rowv; rw [hap, hps]; rfl
 rw [er2];have hpm : (ap, true, Obj.cells (heads [(b, x)] ++ a.junk).toArray 49) ∈ L7 := by
   have := ha.mem hap;rw [hps] at this;exact this
 have hgm : (gg, true, Obj.cells (wcs (goneW knownW) ++ ag.junk).toArray 51) ∈ L7 := hEp.s _ (hg.mem hgg);have hy2 : At L7 ap 2 (.int .i64 (x.st : Nat)) := ⟨true, _, _, _, hpm, rfl⟩;rw [hst] at hy2;have hE7 : Ext L L7 := ⟨hEp.f, fun t h => hEp.s _ (hR1.fr _ (hX.s _ h))⟩;have hex : Value.agg ((wcs (goneW knownW) ++ ag.junk).toArray.extract 0 (0 + 4)) = evt 3 4 1 7 := by
   simp only [List.extract_toArray, List.extract_eq_take_drop];rfl
 co_applyP oy rfl ak;co_applyP ah;change wpE ..;co_applyP ae;co_applyP aa;co_applyP oy rfl aj;co_applyP oy rfl aj;co_applyP oy rfl (aj);co_applyP oy rfl (Aj (l := [65]) (m := [65]) (hl := by intro n hn; simp at hn; omega) (hm := by intro n hn; simp at hn; omega));co_applyP oy rfl aN;co_applyP oy rfl aj;co_applyP oy rfl (aj);co_applyP oy rfl ((bz (hu := Tryz.underlying38)));co_applyP oy rfl (ay);co_applyP oy rfl aN;co_applyP oy rfl aj;co_applyP oy rfl (aj);co_applyP oy rfl ((bv Tryz.underlying38 fh));co_applyP oy rfl (a8 (ht := th) (hs := fh) (hm := hgm) (hi := by rw [List.size_toArray, List.length_append, iA]; show 0 + 4 ≤ 1 * 4 + _; omega));rw [hex];co_applyP oy rfl (bq (xB 3 4 1 7));co_applyP oy rfl (Ap (Aq _ _) Ar);co_applyP oy rfl aN;co_applyP oy rfl aj;co_applyP oy rfl (aj);co_applyP oy rfl ((bz (hu := Tryz.underlying42)));co_applyP oy rfl (ay);co_applyP oy rfl aN;co_applyP oy rfl aj;co_applyP oy rfl (aj);co_applyP oy rfl ((bv Tryz.underlying42 eO));co_applyP oy rfl ((av (hf := cA)));co_applyP oy rfl (aC (ht := aV) (hv := hy2));co_applyP oy rfl (ay);co_applyP oy rfl aN;co_applyP oy rfl ak;co_applyP ah;change wpE ..;co_applyP aJ;change ∃ v, resE .. = some v ∧ _;exact ⟨_, rfl, N, rfl, rfl, hE7⟩
end Go.Proofs.YtejkelcaljmnoaaGreatDoor
namespace Go.Lo
open Go.Conc Go.Hx
def Same (P : Program) (d : Nat) (t : TypeId) (v : Value) : Prop := ∀ {K : Bool → Prop} {L : Frag}, K true → wpQ P (Op.equalIn d t v v) K L
end Go.Lo
namespace Go.Proofs.YtejkelcaljmnoaaGreatDoor
open Go.Conc Go.Hx Go.Lo
def WL (L : Frag) (base : Option Addr) (ws : List Wd) : Prop := ∀ i w, ws[i]? = some w → ∃ g cs, base = some ⟨g, 0, none⟩ ∧ (g, true, Obj.cells cs 51) ∈ L ∧ i * 4 + 4 ≤ cs.size ∧ cs.extract (i * 4) (i * 4 + 4) = (Wd.c w).toArray
theorem WL.mono {L L' : Frag} {base : Option Addr} {ws : List Wd} (h : WL L base ws) (hs : ∀ t ∈ L, t ∈ L') : WL L' base ws := fun i w hw => by
 obtain ⟨g, cs, h1, h2, h3⟩ := h i w hw;exact ⟨g, cs, h1, hs _ h2, h3⟩
theorem wT {ws : List Wd} {i : Nat} {w : Wd} (h : ws[i]? = some w) (l : List Value) : ((wcs ws ++ l).toArray.extract (i * 4) (i * 4 + 4)) = (Wd.c w).toArray := by
 have hi := (List.getElem?_eq_some_iff.1 h).1;apply Array.ext';apply List.ext_getElem?;intro j;by_cases hj : j < 4
 · simp only [Array.toList_extract, List.extract_eq_take_drop];rw [List.getElem?_take_of_lt (by omega), List.getElem?_drop, List.getElem?_append_left (by rw [iA]; omega), Nat.mul_comm i 4, uV ws i w h j hj]
 · rw [List.getElem?_eq_none (by simp; omega), List.getElem?_eq_none (by show 4 ≤ j; omega)]
theorem wU {L : Frag} {a : Sl} {ws : List Wd} (ha : slOk a (wcs ws) 51 L) : ∃ base cap, rowv a 4 ws.length = .slice base ws.length cap ∧ WL L base ws := by
 cases hab : a.b with
 | none =>
   unfold slOk at ha;rw [hab] at ha;have h0 := ha.1;have : ws = [] := by
     have h1 := congrArg List.length h0;rw [iA] at h1;exact List.length_eq_zero_iff.1 (by simp at h1; omega)
   subst this;exact ⟨none, 0, by unfold rowv; rw [hab]; rfl, fun i w hw => by simp at hw⟩
 | some b =>
   refine ⟨some ⟨b, 0, none⟩, _, by unfold rowv; rw [hab], fun i w hw => ⟨b, _, rfl, ha.mem hab, ?_, wT hw _⟩⟩;have hi := (List.getElem?_eq_some_iff.1 hw).1;simp only [List.size_toArray, List.length_append, iA];omega
theorem nZ {told : Value} {ws : List Wd} {L : Frag} (h : Heard told (ws.map Wd.v) L) : ∃ a, told = rowv a 4 ws.length ∧ slOk a (wcs ws) 51 L := by
 rcases h with ⟨rfl, h0⟩ | ⟨g, cap, cur, rfl, hg, hn, hc, hz, ht⟩
 · have : ws = [] := by simpa using h0
   subst this;exact ⟨⟨none, []⟩, rfl, rfl, rfl⟩
 · rw [List.length_map] at hn ht ⊢;have e : cur.toList.take (ws.length * 4) = wcs ws := by rw [ht, List.flatMap_map]; rfl
   have e2 : (wcs ws ++ cur.toList.drop (ws.length * 4)).toArray = cur := by
     rw [← e, List.take_append_drop]
   refine ⟨⟨some g, cur.toList.drop (ws.length * 4)⟩, ?_, ?_⟩
   · unfold rowv;simp only [List.length_drop, Array.length_toList];have : ws.length + (cur.size - ws.length * 4) / 4 = cap := by omega
     rw [this]
   · show (g, true, Obj.cells (wcs ws ++ cur.toList.drop (ws.length * 4)).toArray 51) ∈ L;rw [e2]; exact hg
theorem oa : ∀ (l : List (Nat × PS)) {i : Nat} {q : Nat × PS}, l[i]? = some q → ∀ j, j < 15 → (heads l)[i * 15 + j]? = (phead q.2)[j]?
 | [], i, q, h, _, _ => by simp at h
 | r :: l, 0, q, h, j, hj => by
   obtain rfl : r = q := by simpa using h
   show (phead r.2 ++ heads l)[0 * 15 + j]? = _;rw [List.getElem?_append_left (by show 0 * 15 + j < 15; omega), Nat.zero_mul, Nat.zero_add]
 | r :: l, i + 1, q, h, j, hj => by
   show (phead r.2 ++ heads l)[(i + 1) * 15 + j]? = _;rw [List.getElem?_append_right (by show 15 ≤ (i + 1) * 15 + j; omega), show (i + 1) * 15 + j - (phead r.2).length = i * 15 + j from (by show (i + 1) * 15 + j - 15 = _; omega)];exact oa l (by simpa using h) j hj
abbrev Key := Nat × Nat × Bool
def key (q : Nat × PS) : Key := (q.2.id, q.2.par, decide (q.2.st = 6))
def St.sk (S : St) : List Key := S.ps.map key
def mark (id : Nat) (e : Key) : Key := if e.1 = id then (e.1, e.2.1, true) else e
def orph (id : Nat) (e : Key) : Key := if e.2.1 = id then (e.1, 1, e.2.2) else e
def Del (l m : List Key) : Prop := m.Sublist l ∧ ∀ e ∈ l, e ∈ m ∨ (e.2.2 = true ∧ e.2.1 ≠ 0)
theorem Del.refl (l : List Key) : Del l l := ⟨List.Sublist.refl _, fun e h => .inl h⟩
theorem Del.trans {l m n : List Key} (h : Del l m) (k : Del m n) : Del l n := ⟨k.1.trans h.1, fun e he => by
 rcases h.2 e he with h1 | h1
 · exact k.2 e h1
 · exact .inr h1⟩
theorem Del.of {l m : List Key} (h : m = l) : Del l m := h ▸ Del.refl _
section
variable {S S' : St} {b : Nat} {x x' : PS} {k : Nat × Nat} {P : Nat → Prop} {N : Nat → Nat}
theorem bT (hn : (S.ps.map (·.1)).Nodup) (hb : (b, x) ∈ S.ps) (hid : x'.id = x.id) (hpar : x'.par = x.par) (hs : x'.st = 6 ↔ x.st = 6) : (S.setP b x').sk = S.sk := by
 unfold St.sk St.setP;simp only [List.map_map];apply List.map_congr_left;intro q hq;simp only [Function.comp]
 split
 · rename_i e;obtain ⟨c, y⟩ := q;obtain rfl : c = b := e;obtain rfl := bp hn hq hb;simp [key, hid, hpar, hs]
 · rfl
theorem iB (hn : (S.ps.map (·.1)).Nodup) (hb : (b, x) ∈ S.ps) (h6 : x.st ≠ 6) : (S.wake1 b x).sk = S.sk :=
 bT (x' := { x with st := 1, used := 0 }) hn hb rfl rfl ⟨fun e => by simp at e, fun e => absurd e h6⟩
theorem kI (hn : (S.ps.map (·.1)).Nodup) (hb : (b, x) ∈ S.ps) (h6 : x.st ≠ 6) {s : Nat} (hs : s ≠ 6) : (S.stop1 b x s).sk = S.sk :=
 bT (x' := { x with st := s }) hn hb rfl rfl ⟨fun e => absurd e hs, fun e => absurd e h6⟩
theorem og (h : Inv S) (hS : S.serve k = some S') : S'.sk = S.sk := by
 obtain ⟨b, x, hm, _, hb, hc, rfl⟩ := cW hS;obtain ⟨ha, hk⟩ := h.atRow hm hb;obtain ⟨l1, l2, l3, l4, l5⟩ := cC S x k;have h6 : x.st ≠ 6 := by
   have h1 := ha.s;have h2 := hk.2;omega
 have e : ((S.depart b k).carry b x k).sk = S.sk := by
   unfold St.sk;rw [cR];exact bT (S := S.depart b k) (x' := S.carried x k) h.g.pn hb l4 l5 (by rw [l1])
 split
 · exact e
 · refine (iB (x := S.carried x k) ?_ ?_ ?_).trans e
   · rw [cR, aX]; exact h.g.pn
   · rw [cR]; exact au (S := S.depart b k) hb
   · rw [l1]; exact h6
theorem iC (p : Nat) : ∀ (n : Nat) {S : St}, Inv S → (St.looks n S p).sk = S.sk
 | 0, _, _ => rfl
 | n + 1, S, h => by
   unfold St.looks
   split
   · rename_i S1 h1; exact (iC p n (h.serve h1)).trans (og h h1)
   · split
     · rename_i S1 h1; exact (iC p n (h.serve h1)).trans (og h h1)
     · rfl
theorem qq (h : MI P N S) (hb : (b, x) ∈ S.ps) (ho : S.out b) (n : Nat) : (S.shut b n).sk = S.sk := by
 unfold St.shut;rw [bt h.i.g.pn hb];have h1 := h.like (x' := { x with f := put x.f n (0, 0) }) hb ho rfl rfl ⟨(h.i.wf _ hb).r, (h.i.wf _ hb).m⟩ (iQ (h.i.fl _ hb) (.inl rfl)) rfl rfl (h.x.un (b, x) hb);exact (iC _ 16 h1.i).trans (bT (x' := { x with f := put x.f n (0, 0) }) h.i.g.pn hb rfl rfl Iff.rfl)
theorem kJ (f : Nat → Nat × Nat) : ∀ (ns : List Nat) {S : St} {x : PS}, MI P N S → (b, x) ∈ S.ps → S.out b → (S.shuts b f ns).sk = S.sk
 | [], _, _, _, _, _ => rfl
 | n :: ns, S, x, h, hb, ho => by
   show ((if f n = (0, 0) then S else S.shut b n).shuts b f ns).sk = _
   split
   · exact kJ f ns h hb ho
   · have hl := h.i.shut hb ho n;exact (kJ f ns (h.shut hb ho n) (hl.m b _ ho (au hb)) (hl.o b ho)).trans (qq h hb ho n)
def orphP (id : Nat) (bs : List Nat) (q : Nat × PS) : Nat × PS := if q.1 ∈ bs ∧ q.2.par = id then (q.1, { q.2 with par := 1 }) else q
theorem oh (id : Nat) : ∀ (bs : List Nat) {S : St}, (S.ps.map (·.1)).Nodup → (S.orphs id bs).ps = S.ps.map (orphP id bs)
 | [], S, _ => by
   show S.ps = _;have : ∀ q ∈ S.ps, orphP id [] q = q := fun q _ => by simp [orphP]
   rw [List.map_congr_left this]; simp
 | b :: bs, S, hn => by
   unfold St.orphs;have step : ∀ S1 : St, S1.ps = S.ps.map (orphP id [b]) → (S1.orphs id bs).ps = S.ps.map (orphP id (b :: bs)) := fun S1 h1 => by
     have hf : S1.ps.map (·.1) = S.ps.map (·.1) := by
       rw [h1, List.map_map];apply List.map_congr_left;intro q _;simp only [Function.comp, orphP]
       split <;> rfl
     rw [oh id bs (by rw [hf]; exact hn), h1, List.map_map];apply List.map_congr_left;intro q _;simp only [Function.comp, orphP];by_cases e1 : q.1 = b <;> by_cases e2 : q.2.par = id <;> by_cases e3 : q.1 ∈ bs <;> simp [e1, e2, e3]
   cases hg : S.get b with
   | none =>
     refine step S ?_;have : ∀ q ∈ S.ps, orphP id [b] q = q := fun q hq => by
       unfold orphP;rw [if_neg];rintro ⟨e, _⟩;have e : q.1 = b := by simpa using e
       have := bt hn (b := q.1) (x := q.2) hq;rw [e, hg] at this;cases this
     rw [List.map_congr_left this]; simp
   | some y =>
     simp only;have hb := bk hg
     split
     · rename_i hp;refine step _ ?_;show S.ps.map _ = _;apply List.map_congr_left;rintro ⟨c, z⟩ hq;unfold orphP;by_cases e : c = b
       · subst e;obtain rfl := bp hn hq hb;simp [hp]
       · simp [e]
     · rename_i hp;refine step S ?_;have : ∀ q ∈ S.ps, orphP id [b] q = q := fun q hq => by
         unfold orphP;rw [if_neg];rintro ⟨e, e2⟩;obtain ⟨c, z⟩ := q;obtain rfl : c = b := by simpa using e
         obtain rfl := bp hn hq hb;exact hp e2
       rw [List.map_congr_left this]; simp
theorem uX (id : Nat) (hn : (S.ps.map (·.1)).Nodup) : (S.orphs id (S.ps.map (·.1))).sk = S.sk.map (orph id) := by
 unfold St.sk;rw [oh id _ hn, List.map_map, List.map_map];apply List.map_congr_left;intro q hq;have hm : q.1 ∈ S.ps.map (·.1) := List.mem_map.2 ⟨q, hq, rfl⟩;simp only [Function.comp, orphP, orph, key];by_cases e : q.2.par = id <;> simp only [hm, e, true_and, and_true, if_true, if_false, and_false]
theorem qr (h : MI P N S) (hb : (b, x) ∈ S.ps) (ho : S.out b) {i : Nat} (hc : S.childAt x = some i) (h6 : x.st ≠ 6) : Del S.sk (S.take b x i).sk := by
 obtain ⟨q, hq, hp, hq6⟩ := cO hc;have hbe := (h.take hb ho hc h6).2;have e : S.take b x i = ({ S.setPs (S.ps.eraseIdx i) with last := S.last } : St).setP b (told x q.2) := by unfold St.take; rw [hq]
 have hn : ((S.ps.eraseIdx i).map (·.1)).Nodup := List.Nodup.sublist ((List.eraseIdx_sublist S.ps i).map _) h.i.g.pn;rw [e, bT (S := ({ S.setPs (S.ps.eraseIdx i) with last := S.last } : St)) (x := x) (x' := told x q.2) hn hbe rfl rfl Iff.rfl];refine ⟨(List.eraseIdx_sublist S.ps i).map _, fun e he => ?_⟩;obtain ⟨r, hr, rfl⟩ := List.mem_map.1 he;obtain ⟨j, hj⟩ := List.getElem?_of_mem hr;by_cases hji : j = i
 · subst hji;rw [hj] at hq;obtain rfl : r = q := by simpa using hq
   refine .inr ⟨by simp [key, hq6], ?_⟩;show r.2.par ≠ 0;have := (h.x.idr _ hb).1;simp only at this;omega
 · exact .inl (List.mem_map.2 ⟨r, List.mem_eraseIdx_iff_getElem?.2 ⟨j, hji, hj⟩, rfl⟩)
theorem pz (h : MI P N S) (c : Nat) : Del S.sk (S.parent1 c).sk := by
 unfold St.parent1;cases hg : S.get c with
 | none => exact Del.refl _
 | some x =>
   simp only
   split
   · rename_i h2;cases hc : S.childAt x with
     | none => exact Del.refl _
     | some i =>
       obtain ⟨q, hq, _, h6⟩ := cO hc;simp only [hq];have hb := bk hg;have ho := h.i.out_st hb (by omega) (by omega) (by omega);obtain ⟨hT, hci⟩ := h.take hb ho hc (by omega);have e : S.take c x i = ({ S.setPs (S.ps.eraseIdx i) with last := S.last } : St).setP c (told x q.2) := by unfold St.take; rw [hq]
       refine (qr h hb ho hc (by omega)).trans (Del.of (iB (x := told x q.2) hT.i.g.pn ?_ (by show x.st ≠ 6; omega)));rw [e]; exact au hci
   · exact Del.refl _
theorem kK : ∀ (bs : List Nat) {S : St}, MI P N S → Del S.sk (S.parents bs).sk
 | [], _, _ => Del.refl _
 | c :: bs, _, h => (pz h c).trans (kK bs (h.parent1 c))
theorem wV (h : MI P N S) (hb : (b, x) ∈ S.ps) (hid : x'.id = x.id) (hpar : x'.par = x.par) (hs : x'.st = 6) : (S.setP b x').sk = S.sk.map (mark x.id) := by
 unfold St.sk St.setP;simp only [List.map_map];apply List.map_congr_left;intro q hq;simp only [Function.comp]
 split
 · rename_i e;obtain ⟨c, y⟩ := q;obtain rfl : c = b := e;obtain rfl := bp h.i.g.pn hq hb;simp [key, mark, hid, hpar, hs]
 · rename_i e;unfold mark;rw [if_neg];intro e2;exact e (by rw [h.x.idn q hq _ hb e2])
theorem pB (h : MI P N S) (hb : (b, x) ∈ S.ps) (status : Int) : Del ((S.sk.map (mark x.id)).map (orph x.id)) (S.fin b x status).sk := by
 have ho := h.i.out_depart hb;have h1 : MI P N (S.depart b (x.file (x.r 0))) := h.depart;have hb1 : (b, x) ∈ (S.depart b (x.file (x.r 0))).ps := hb;have h2 := h1.stop1 hb1 ho (s := 6) (by decide);have hb2 : (b, { x with st := 6 }) ∈ ((S.depart b (x.file (x.r 0))).stop1 b x 6).ps := au hb1;have h3 := h2.like (x' := { x with st := 6, stat := status }) hb2 ho rfl rfl ⟨(h.i.wf _ hb).r, (h.i.wf _ hb).m⟩ (h.i.fl (b, x) hb) rfl rfl (h.x.un (b, x) hb);have h4 := MI.shuts (b := b) x.f (List.range' 0 6) h3 (au hb2) ho;have e1 : ((S.depart b (x.file (x.r 0))).stop1 b x 6).sk = S.sk.map (mark x.id) := wV (S := S) (x' := { x with st := 6 }) h hb rfl rfl rfl;have e2 := bT (x' := { x with st := 6, stat := status }) h2.i.g.pn hb2 rfl rfl Iff.rfl;have e3 := kJ (b := b) x.f (List.range' 0 6) h3 (au hb2) ho;have e4 := uX x.id h4.i.g.pn;rw [e3, e2, e1] at e4;rw [← e4];exact kK _ (MI.orphs _ (h.x.idr _ hb).1 _ h4)
theorem uY (hn : (S.ps.map (·.1)).Nodup) (v : Int) : (S.r0 b v).sk = S.sk := by
 unfold St.r0;cases hg : S.get b with
 | none => rfl
 | some z => exact bT (x' := z.r0 v) hn (bk hg) rfl rfl Iff.rfl
theorem qt (h : MI (fun _ => False) N S) (hb : (b, x) ∈ S.ps) (hs : x.st = 1) {use most : Nat} (hu : use = 4 ∨ use = 5) (hm : use = 5 → most ≤ 8) : (S.askR b x use most).2.sk = S.sk := by
 have ho := h.out hb hs;unfold St.askR;cases hc : x.checkUse use most with
 | some i => rfl
 | none =>
   obtain ⟨c1, c2, c3⟩ := eF hc;have hk : okEnd (x.file (x.r 0)) := (h.i.file_ok hb _).resolve_left fun e => by rw [e] at c1; simp only at c1; omega
   have hj : Inv (S.joinW b (x.file (x.r 0))) := h.i.joinW hb ho ⟨rfl, c3, fun h5 => by rw [h5] at c1; have := hm c1.symm; omega, .inl hs⟩ hk;have h2 := (hj.look (x.file (x.r 0)).1).i;have e := iC (x.file (x.r 0)).1 16 hj;simp only
   split
   · rename_i hin;cases hg : ((S.joinW b (x.file (x.r 0))).look (x.file (x.r 0)).1).get b with
     | none => exact e
     | some z =>
       have hz := bk hg;have hask := (h2.atRow hin hz).1.s;have := hk.2;exact (kI h2.g.pn hz (by omega) (by omega)).trans e
   · exact e
inductive Skp (l : List Key) (n t id : Nat) : List Value → List Key → Nat → Prop
 | calm {l'} : Del l l' → Skp l n t id [] l' n
 | said {l'} (v : Int) : 0 ≤ v ∧ v < 256 → Del l l' → Skp l n t id [evt t 3 id v] l' n
 | fork : Skp l n t id [] (l ++ [(n + 1, id, false)]) (n + 1)
 | gone {l'} (d p : Nat) (v : Int) : (d, p, false) ∈ l → Del ((l.map (mark d)).map (orph d)) l' → Skp l n t id [evt t 4 d v] l' n
theorem uZ (h : MI (fun _ => False) N S) (hb : (b, x) ∈ S.ps) (hs : x.st = 1) {c : Nat} (hc : ∀ q ∈ S.ps, c ≠ q.1) (hN : N c = S.last + 1) (m : Int) : Skp S.sk S.last S.now x.id (S.grantE b x m) (S.grantS b x m c).sk (S.grantS b x m c).last := by
 have ho := h.out hb hs;have hn := h.i.g.pn;have h6 : x.st ≠ 6 := by omega
 have same : ∀ {S' : St}, S'.sk = S.sk → S'.last = S.last → Skp S.sk S.last S.now x.id [] S'.sk S'.last := fun h1 h2 => by rw [h1, h2]; exact .calm (Del.refl _)
 have km : ∀ {q : Nat × PS}, q ∈ S.ps → q.2.st ≠ 6 → (q.2.id, q.2.par, false) ∈ S.sk := fun {q} hq h => List.mem_map.2 ⟨q, hq, by simp [key, h]⟩;unfold St.grantE St.grantS;by_cases e0 : m = 0
 · rw [if_pos e0, if_pos e0];rw [(iS S b x (x.r 0)).last];exact .gone x.id x.par _ (km hb h6) (pB h hb _)
 rw [if_neg e0, if_neg e0];by_cases e1 : m = 1
 · rw [if_neg (by omega), if_neg (by omega), if_pos e1]
   split
   · exact same rfl rfl
   · rename_i h8;have hbc : b ≠ c := fun e => hc _ hb e.symm;have hw := h.i.wf _ hb;have hid := (h.x.idr _ hb).1;obtain ⟨h1, ho1⟩ := h.taken (y := x.copy.r0 0) hc (by omega) rfl (by show 0 < 3; omega) (fA (x := x.copy) (v := 0) ⟨hw.r, hw.m⟩ (by omega)) (h.i.fl (b, x) hb) (by show x.id ≠ 0; simp only at hid; omega) (Nat.zero_le _) hN;have hcm : (c, { x.copy.r0 0 with id := S.last + 1 }) ∈ (S.taken c (x.copy.r0 0)).ps := List.mem_append_right _ List.mem_cons_self;have h2 := h1.wake1 hcm ho1 (by show (0 : Nat) ≠ 1; omega);have hb2 : (b, x) ∈ (S.adopt c (x.copy.r0 0)).ps := bW (List.mem_append_left _ hb) hbc;have e1 := bT (x' := x.r0 (((S.last + 1 : Nat) : Int) % 65536)) h2.i.g.pn hb2 rfl rfl Iff.rfl;have e2 := iB h1.i.g.pn hcm (by show (0 : Nat) ≠ 6; omega);have e3 : (S.forkS b x c).sk = S.sk ++ [(S.last + 1, x.id, false)] := by
       refine e1.trans (e2.trans ?_);show (S.ps ++ [(c, { x.copy.r0 0 with id := S.last + 1 })]).map key = _;rw [List.map_append]; rfl
     rw [e3];exact .fork
 rw [if_neg e1];by_cases e2 : m = 2
 · rw [if_neg (by omega), if_neg (by omega), if_pos e2];rw [(nF S b x).last];refine .calm ?_;unfold St.waitR
   split
   · simp only
     split
     · exact qr h hb ho ‹_› h6
     · exact Del.of (kI hn hb h6 (by decide))
   · exact Del.refl _
 rw [if_neg e2];by_cases e3 : m = 3
 · rw [if_pos e3, if_pos e3];cases hf : S.find (x.r 0) with
   | none => exact same rfl rfl
   | some q =>
     simp only
     split
     · exact same rfl rfl
     · rename_i h7;obtain ⟨hq, _⟩ := fC hf;rw [uY (MI.fin (b := q.1) (x := q.2) h hq _).i.g.pn 0, (nC _ b 0).last, (iS S q.1 q.2 65280).last];exact .gone q.2.id q.2.par _ (km hq h7) (pB (b := q.1) (x := q.2) h hq _)
 rw [if_neg e3, if_neg e3];by_cases e11 : m = 11
 · subst e11;simp only [if_pos];exact .said _ (by omega) (Del.of (bT (x' := x.r0 0) hn hb rfl rfl Iff.rfl))
 rw [if_neg e11];by_cases e4 : m = 4
 · rw [if_pos e4];refine same ?_ (lu _ _ _).last;unfold St.sleep1
   split
   · exact bT (x' := x.r0 0) hn hb rfl rfl Iff.rfl
   · refine (kI (x := { x.r0 0 with til := (S.now : Int) + x.r 0 }) (by rw [aX]; exact hn) (au hb) h6 (by decide)).trans ?_;exact bT (x' := { x.r0 0 with til := (S.now : Int) + x.r 0 }) hn hb rfl rfl Iff.rfl
 rw [if_neg e4];by_cases e5 : m = 5
 · rw [if_pos e5];exact same (bT (x' := x.r0 0) hn hb rfl rfl Iff.rfl) rfl
 rw [if_neg e5];by_cases e6 : m = 6
 · rw [if_pos e6];exact same (bT (x' := x.r0 ((x.id : Int) % 65536)) hn hb rfl rfl Iff.rfl) rfl
 rw [if_neg e6];by_cases e7 : m = 7
 · rw [if_pos e7];refine same ?_ (nG _ _ _).last;unfold St.pipeR
   split
   · rfl
   · split
     · rename_i i j _ _;exact bT (S := S.setY S.unused []) (x' := x.piped S.unused i j) hn hb rfl rfl Iff.rfl
     · rfl
 rw [if_neg e7];by_cases e8 : m = 8
 · rw [if_pos e8];refine same ?_ (lw _ _ _).last;unfold St.closeR
   split
   · rfl
   · exact (uY (h.shut hb ho _).i.g.pn 0).trans (qq h hb ho _)
 rw [if_neg e8];by_cases e9 : m = 9
 · rw [if_pos e9];exact same (qt h hb hs (.inl rfl) (by omega)) (jv _ _ _ _ _).last
 rw [if_neg e9];by_cases e10 : m = 10
 · rw [if_pos e10];exact same (qt h hb hs (.inr rfl) (by omega)) (jv _ _ _ _ _).last
 rw [if_neg e10, if_neg e11];exact same rfl rfl
theorem yU (h : MI (fun _ => False) N S) (hp : Coded S) (hb : (b, x) ∈ S.ps) (hs : x.st = 1) {c : Nat} (hc : ∀ q ∈ S.ps, c ≠ q.1) (hN : N c = S.last + 1) : Skp S.sk S.last S.now x.id (S.runE b x) (S.runS b x c).sk (S.runS b x c).last := by
 have ho := h.out hb hs;have hn := h.i.g.pn;have h6 : x.st ≠ 6 := by omega
 have km : (x.id, x.par, false) ∈ S.sk := List.mem_map.2 ⟨(b, x), hb, by simp [key, h6]⟩;have fault : ∀ v : Int, Skp S.sk S.last S.now x.id [evt S.now 4 x.id v] (S.fin b x v).sk (S.fin b x v).last := fun v => by
   rw [(iS S b x v).last];exact .gone x.id x.par _ km (pB h hb _)
 unfold St.runE St.runS;by_cases e1 : S.pn ≤ x.at_
 · rw [if_pos e1, if_pos e1]; exact fault _
 rw [if_neg e1, if_neg e1];by_cases e2 : S.pg x.at_ 0 = 9
 · rw [if_pos e2, if_pos e2];have h1 : MI (fun _ => False) N (S.setP b x.next) := h.like (x' := x.next) hb ho rfl rfl ⟨(h.i.wf _ hb).r, (h.i.wf _ hb).m⟩ (h.i.fl (b, x) hb) rfl rfl (h.x.un (b, x) hb);have hb1 : (b, x.next) ∈ (S.setP b x.next).ps := au hb;have hc1 : ∀ q ∈ (S.setP b x.next).ps, c ≠ q.1 := fun q hq e => by
     have : q.1 ∈ S.ps.map (·.1) := by rw [← aX S b x.next]; exact List.mem_map.2 ⟨q, hq, rfl⟩
     obtain ⟨r, hr, e2⟩ := List.mem_map.1 this;exact hc r hr (by rw [e, ← e2])
   have hg := uZ h1 hb1 hs hc1 hN (S.pg x.at_ 1);rw [bT (x' := x.next) hn hb rfl rfl Iff.rfl] at hg
   split
   · rw [uY (h1.grantS hb1 hs hc1 hN _).i.g.pn, (nC _ b _).last]; exact hg
   · exact hg
 rw [if_neg e2, if_neg e2];cases hd : S.doR x with
 | error i => exact fault _
 | ok x' =>
   have hpc := hp.2 x.at_ (by omega);obtain ⟨d1, d2, d3, d4, d5, d6, d7⟩ := qk (h.i.wf _ hb) (hpc 2 (by omega)) (hpc 3 (by omega)) hd;show Skp S.sk S.last S.now x.id [] (S.setP b x').sk S.last;rw [bT (x' := x') hn hb d3 d4 (by rw [d1])];exact .calm (Del.refl _)
theorem u3 (hn : (S.ps.map (·.1)).Nodup) (b : Nat) : (S.after b).sk = S.sk := by
 unfold St.after;cases hg : S.get b with
 | none => rfl
 | some z =>
   have hb := bk hg;have e1 := bT (x' := z.more) hn hb rfl rfl Iff.rfl;simp only
   split
   · unfold St.turn
     split
     · exact e1
     · simp only;exact (bT (S := (S.setP b z.more).setRow z.more.lv (((S.setP b z.more).rows z.more.lv).erase b)) (x' := { z.more with lv := min (z.more.lv + 1) 2, used := 0 }) (by show ((S.setP b z.more).ps.map (·.1)).Nodup; rw [aX]; exact hn) (au hb) rfl rfl Iff.rfl).trans e1
   · exact e1
theorem iD : ∀ (bs : List Nat) {S : St}, (S.ps.map (·.1)).Nodup → (S.wakes bs).sk = S.sk ∧ ((S.wakes bs).ps.map (·.1)) = S.ps.map (·.1)
 | [], _, _ => ⟨rfl, rfl⟩
 | b :: bs, S, hn => by
   unfold St.wakes;cases hg : S.get b with
   | none => exact iD bs hn
   | some x =>
     simp only
     split
     · rename_i h;have hb := bk hg;have e : (S.wake1 b x).ps.map (·.1) = S.ps.map (·.1) := aX S b _;obtain ⟨h1, h2⟩ := iD bs (S := S.wake1 b x) (by rw [e]; exact hn);exact ⟨h1.trans (iB hn hb (by omega)), h2.trans e⟩
     · exact iD bs hn
theorem iE : ∀ (bs : List Nat) {S : St}, (S.ps.map (·.1)).Nodup → (S.lifts bs).sk = S.sk
 | [], _, _ => rfl
 | b :: bs, S, hn => by
   unfold St.lifts;cases hg : S.get b with
   | none => exact iE bs hn
   | some x =>
     simp only
     split
     · have hb := bk hg;exact (iE bs (by rw [aX]; exact hn)).trans (bT (x' := { x with lv := 0, used := 0 }) hn hb rfl rfl Iff.rfl)
     · exact iE bs hn
theorem wW (hn : (S.ps.map (·.1)).Nodup) : S.lead.sk = S.sk := by
 obtain ⟨h1, h2⟩ := iD (S.ps.map (·.1)) hn;unfold St.lead St.boost
 split
 · have h3 : ((S.wake.lifts (S.wake.ps.map (·.1))).raises 2).sk = (S.wake.lifts (S.wake.ps.map (·.1))).sk := by unfold St.sk; rw [(eV _ 2).1]
   exact h3.trans ((iE _ (S := S.wake) (by unfold St.wake; rw [h2]; exact hn)).trans h1)
 · exact h1
theorem wX {c : Nat} (h : TI N S) (hc : ∀ q ∈ S.lead.ps, c ≠ q.1) (hN : N c = S.last + 1) :
   (S.tickE = [evt S.now 2 0 0] ∧ (S.tickU c).later.sk = S.sk ∧ (S.tickU c).later.last = S.last) ∨
   ∃ id par at_ es, (id, par, false) ∈ S.sk ∧ S.tickE = evt S.now 1 (id : Nat) (at_ : Nat) :: es ∧ Skp S.sk S.last S.now id es (S.tickU c).later.sk (S.tickU c).later.last := by
 have hsk := wW h.m.i.g.pn;have hnow : S.lead.now = S.now := (cv S).now;have hl := dI S;unfold St.tickE St.tickU;cases hf : S.lead.first with
 | none => exact .inl ⟨by rw [hnow], hsk, hl⟩
 | some b =>
   obtain ⟨x, hx, hs⟩ := eW h.m.lead.i.g hf;simp only [bt h.m.lead.i.g.pn hx];have hr := yU h.m.lead h.coded_lead hx hs hc (by rw [hl]; exact hN);rw [hsk, hl, hnow] at hr;refine .inr ⟨x.id, x.par, x.at_, _, ?_, by rw [hnow], ?_⟩
   · rw [← hsk]; exact List.mem_map.2 ⟨(b, x), hx, by simp [key, hs]⟩
   · show Skp _ _ _ _ _ ((S.lead.runS b x c).after b).sk ((S.lead.runS b x c).after b).last;rw [u3 (h.m.lead.runS h.coded_lead hx hs hc (by rw [hl]; exact hN)).i.g.pn, (ir _ b).last];exact hr
end
structure KI (l : List Key) (n : Nat) : Prop where
 asc : (l.map (·.1)).Pairwise (· < ·)
 rng : ∀ e ∈ l, 1 ≤ e.1 ∧ e.1 ≤ n
 one : ∃ e ∈ l, e.1 = 1 ∧ e.2.1 = 0
 par : ∀ e ∈ l, e.1 ≠ 1 → e.2.1 ≠ 0 ∧ ∃ f ∈ l, f.1 = e.2.1 ∧ (f.2.2 = false ∨ f.1 = 1)
section
variable {l l' : List Key} {n t id : Nat}
theorem wY {l : List Key} (h : (l.map (·.1)).Pairwise (· < ·)) {e f : Key} (he : e ∈ l) (hf : f ∈ l) (hh : e.1 = f.1) : e = f := by
 induction l with
 | nil => cases he
 | cons a l ih =>
   rw [List.map_cons, List.pairwise_cons] at h;rcases List.mem_cons.1 he with rfl | he' <;> rcases List.mem_cons.1 hf with rfl | hf'
   · rfl
   · exact absurd hh (Nat.ne_of_lt (h.1 _ (List.mem_map.2 ⟨f, hf', rfl⟩)))
   · exact absurd hh.symm (Nat.ne_of_lt (h.1 _ (List.mem_map.2 ⟨e, he', rfl⟩)))
   · exact ih h.2 he' hf'
theorem KI.del (h : KI l n) (d : Del l l') : KI l' n where
 asc := List.Pairwise.sublist (d.1.map _) h.asc
 rng := fun e he => h.rng e (d.1.subset he)
 one := by
   obtain ⟨e, he, h1, h2⟩ := h.one;rcases d.2 e he with h3 | h3
   · exact ⟨e, h3, h1, h2⟩
   · exact absurd h2 h3.2
 par := fun e he h1 => by
   obtain ⟨h2, f, hf, h3, h4⟩ := h.par e (d.1.subset he) h1;refine ⟨h2, f, ?_, h3, h4⟩;rcases d.2 f hf with h5 | h5
   · exact h5
   · rcases h4 with h6 | h6
     · rw [h6] at h5; exact absurd h5.1 (by simp)
     · obtain ⟨e1, he1, h7, h8⟩ := h.one;rw [wY h.asc hf he1 (by rw [h6, h7])] at h5;exact absurd h8 h5.2
theorem KI.fork (h : KI l n) {p : Nat} (hp : (id, p, false) ∈ l) : KI (l ++ [(n + 1, id, false)]) (n + 1) where
 asc := by
   rw [List.map_append, List.pairwise_append];refine ⟨h.asc, by simp, fun a ha b hb => ?_⟩;obtain ⟨e, he, rfl⟩ := List.mem_map.1 ha;have := (h.rng e he).2;simp at hb;omega
 rng := fun e he => by
   rcases List.mem_append.1 he with h1 | h1
   · have := h.rng e h1; omega
   · simp at h1; subst h1; exact ⟨by simp, Nat.le_refl _⟩
 one := by
   obtain ⟨e, he, h1⟩ := h.one;exact ⟨e, List.mem_append_left _ he, h1⟩
 par := fun e he h1 => by
   rcases List.mem_append.1 he with h2 | h2
   · obtain ⟨h3, f, hf, h4⟩ := h.par e h2 h1;exact ⟨h3, f, List.mem_append_left _ hf, h4⟩
   · simp at h2;subst h2;have := (h.rng _ hp).1;simp only at this;exact ⟨by simp only; omega, _, List.mem_append_left _ hp, rfl, .inl rfl⟩
theorem dw (d : Nat) (e : Key) : (orph d (mark d e)).1 = e.1 ∧ (mark d e).1 = e.1 := by
 unfold orph mark;constructor <;> (repeat' split) <;> rfl
theorem wZ (d : Nat) (l : List Key) : (((l.map (mark d)).map (orph d)).map (·.1)) = l.map (·.1) := by
 rw [List.map_map, List.map_map];apply List.map_congr_left;intro e _;exact (dw d e).1
theorem qu (d : Nat) (e : Key) : (orph d (mark d e)).2.2 = (if e.1 = d then true else e.2.2) := by
 unfold orph mark
 (repeat' split) <;> first | rfl | contradiction
theorem qv (d : Nat) (e : Key) : (orph d (mark d e)).2.1 = (if e.2.1 = d then 1 else e.2.1) := by
 unfold orph mark
 (repeat' split) <;> first | rfl | contradiction | simp_all
theorem KI.gone (h : KI l n) {d : Nat} (hd : 1 ≤ d) : KI ((l.map (mark d)).map (orph d)) n := by
 have mem : ∀ e ∈ (l.map (mark d)).map (orph d), ∃ f ∈ l, e = orph d (mark d f) := fun e he => by
   obtain ⟨e1, h1, rfl⟩ := List.mem_map.1 he;obtain ⟨f, h2, rfl⟩ := List.mem_map.1 h1;exact ⟨f, h2, rfl⟩
 have of : ∀ f ∈ l, orph d (mark d f) ∈ (l.map (mark d)).map (orph d) := fun f hf => List.mem_map.2 ⟨_, List.mem_map.2 ⟨f, hf, rfl⟩, rfl⟩;obtain ⟨e1, he1, h11, h10⟩ := h.one;refine ⟨by rw [wZ]; exact h.asc, fun e he => ?_, ⟨_, of e1 he1, by rw [(dw d e1).1]; exact h11, by rw [qv, h10, if_neg (by omega)]⟩, fun e he h1 => ?_⟩
 · obtain ⟨f, hf, rfl⟩ := mem e he;rw [(dw d f).1]; exact h.rng f hf
 · obtain ⟨f, hf, rfl⟩ := mem e he;rw [(dw d f).1] at h1;obtain ⟨h2, g, hg, h3, h4⟩ := h.par f hf h1;rw [qv]
   split
   · exact ⟨by decide, _, of e1 he1, by rw [(dw d e1).1]; exact h11, .inr (by rw [(dw d e1).1]; exact h11)⟩
   · rename_i hne;refine ⟨h2, _, of g hg, by rw [(dw d g).1]; exact h3, ?_⟩;rw [(dw d g).1, qu, if_neg (by omega)];exact h4
end
abbrev Chk := Int × (Nat → Bool)
def chk (s : Chk) (w : Wd) : Option Chk :=
 if w.2.2.1 < 0 ∨ 700 ≤ w.2.2.1 ∨ (s.2 1 = true ∧ w.1 ≠ s.1) then none
 else if w.2.1 = 1 ∨ w.2.1 = 2 then (if w.1 = s.1 + 1 ∧ (w.2.1 = 2 ↔ w.2.2.1 = 0) ∧ s.2 w.2.2.1.toNat = false then some (s.1 + 1, s.2) else none)
 else if w.2.1 = 3 then (if w.1 = s.1 ∧ 0 ≤ w.2.2.2 ∧ w.2.2.2 ≤ 255 then some s else none)
 else if w.2.1 = 4 then (if w.1 = s.1 ∧ s.2 w.2.2.1.toNat = false ∧ w.2.2.1 ≠ 0 then some (s.1, put s.2 w.2.2.1.toNat true) else none)
 else none
def chks : List Wd → Chk → Option Chk
 | [], s => some s
 | w :: ws, s => (chk s w).bind (chks ws)
theorem eG : ∀ (a b : List Wd) (s : Chk), chks (a ++ b) s = (chks a s).bind (chks b)
 | [], b, s => rfl
 | w :: a, b, s => by
   show (chk s w).bind (chks (a ++ b)) = ((chk s w).bind (chks a)).bind (chks b);cases chk s w with
   | none => rfl
   | some s' => exact eG a b s'
structure Gone (l : List Key) (n : Nat) (G : Nat → Bool) : Prop where
 e : ∀ e ∈ l, G e.1 = e.2.2
 hi : ∀ j, n < j → G j = false
 z : G 0 = false
theorem xa {s : Chk} {id : Nat} {a : Int} (h0 : id ≠ 0) (h7 : id < 700) (h1 : s.2 1 = false) (hG : s.2 id = false) : chk s (s.1 + 1, 1, (id : Int), a) = some (s.1 + 1, s.2) := by
 unfold chk;have e : ((id : Int)).toNat = id := by omega
 simp only [e, hG, h1];rw [if_neg (by simp; omega)];simp; omega
theorem u4 {s : Chk} (h1 : s.2 1 = false) (hG : s.2 0 = false) : chk s (s.1 + 1, 2, 0, 0) = some (s.1 + 1, s.2) := by
 unfold chk;simp [h1, hG]
theorem u5 {s : Chk} {id : Nat} {v : Int} (h7 : id < 700) (hv : 0 ≤ v ∧ v < 256) : chk s (s.1, 3, (id : Int), v) = some s := by
 unfold chk;simp only;rw [if_neg (by simp; omega)];simp; omega
theorem va {s : Chk} {id : Nat} {v : Int} (h0 : id ≠ 0) (h7 : id < 700) (hG : s.2 id = false) : chk s (s.1, 4, (id : Int), v) = some (s.1, put s.2 id true) := by
 unfold chk;have e : ((id : Int)).toNat = id := by omega
 simp only [e, hG];rw [if_neg (by simp; omega)];simp; omega
section
variable {l l' : List Key} {n n' t id : Nat}
theorem Gone.del {G : Nat → Bool} (h : Gone l n G) (d : Del l l') : Gone l' n G := ⟨fun e he => h.e e (d.1.subset he), h.hi, h.z⟩
theorem vb {es : List Value} (hs : Skp l n t id es l' n') (hK : KI l n) {p : Nat} (hid : (id, p, false) ∈ l) (hn : n < 700) {G : Nat → Bool} (hG : Gone l n G) : ∃ ws G', es = ws.map Wd.v ∧ chks ws ((t : Int), G) = some ((t : Int), G') ∧ KI l' n' ∧ Gone l' n' G' ∧ n' ≤ n + 1 := by
 cases hs with
 | calm h1 => exact ⟨[], G, rfl, rfl, hK.del h1, hG.del h1, by omega⟩
 | said v hv h1 =>
   have := hK.rng _ hid;simp only at this;refine ⟨[((t : Int), 3, (id : Int), v)], G, rfl, ?_, hK.del h1, hG.del h1, by omega⟩;show (chk _ _).bind _ = _;rw [u5 (s := ((t : Int), G)) (by omega) hv]; rfl
 | fork =>
   refine ⟨[], G, rfl, rfl, hK.fork hid, ⟨fun e he => ?_, fun j hj => hG.hi j (by omega), hG.z⟩, by omega⟩;rcases List.mem_append.1 he with h1 | h1
   · exact hG.e e h1
   · simp at h1; subst h1; exact hG.hi _ (by simp)
 | gone d q v hd h1 =>
   have hr := hK.rng _ hd;simp only at hr;have hK1 := hK.gone (d := d) hr.1;refine ⟨[((t : Int), 4, (d : Int), v)], put G d true, rfl, ?_, hK1.del h1, Gone.del ⟨fun e he => ?_, fun j hj => ?_, ?_⟩ h1, by omega⟩
   · show (chk _ _).bind _ = _;rw [va (s := ((t : Int), G)) (by omega) (by omega) (hG.e _ hd)]; rfl
   · obtain ⟨e1, h2, rfl⟩ := List.mem_map.1 he;obtain ⟨f, h3, rfl⟩ := List.mem_map.1 h2;rw [(dw d f).1, qu];unfold put
     split
     · rfl
     · exact hG.e f h3
   · unfold put; rw [if_neg (by omega)]; exact hG.hi j hj
   · unfold put; rw [if_neg (by omega)]; exact hG.z
end
theorem vc {T : St} {N : Nat → Nat} (h : TI N T) {G : Nat → Bool} (hG : Gone T.sk T.last G) : T.isOver = G 1 := by
 obtain ⟨q, hq, h1⟩ := h.m.x.p1;unfold St.isOver;cases hf : T.find 1 with
 | none =>
   unfold St.find at hf;have := List.find?_eq_none.1 hf q hq;simp at this;omega
 | some r =>
   obtain ⟨hr, h2⟩ := fC hf;have h3 := hG.e (key r) (List.mem_map.2 ⟨r, hr, rfl⟩);have h4 : (key r).1 = 1 := by show r.2.id = 1; omega
   rw [h4] at h3;rw [h3]; rfl
theorem ol : ∀ (m : Nat) (T : St) (G : Nat → Bool), TI id T → KI T.sk T.last → Gone T.sk T.last G → T.last + m < 700 →
   ∃ ws tk G', St.evs m T = ws.map Wd.v ∧ chks ws ((T.now : Int) - 1, G) = some (tk, G') ∧ TI id (St.runs m T) ∧ KI (St.runs m T).sk (St.runs m T).last ∧ Gone (St.runs m T).sk (St.runs m T).last G' ∧ (G' 1 = false → tk = (T.now : Int) - 1 + m) ∧ (St.runs m T).last < 700
 | 0, T, G, h, hK, hG, hl => ⟨[], _, G, rfl, rfl, h, hK, hG, fun _ => by omega, hl⟩
 | m + 1, T, G, h, hK, hG, hl => by
   have ho := vc h hG;unfold St.evs St.runs;by_cases h1 : T.isOver = true
   · rw [if_pos h1, if_pos h1];exact ⟨[], _, G, rfl, rfl, h, hK, hG, fun e => (by rw [ho, e] at h1; cases h1), by omega⟩
   · rw [if_neg h1, if_neg h1];have hG1 : G 1 = false := by rw [← ho]; simpa using h1
     have hc : ∀ q ∈ T.lead.ps, T.last + 1 ≠ q.1 := fun q hq e => by
       have h2 := h.m.lead.x.nm q hq;have h3 := (h.m.lead.x.idr q hq).2;rw [dI] at h3;have h4 : q.1 = q.2.id := h2;omega
     have hT : TI id T.next := h.tick hc rfl
     have hnow : T.next.now = T.now + 1 := by show (T.tickU (T.last + 1)).now + 1 = _; rw [rZ]
     obtain ⟨ws, G1, n1, e1, e2, e3, e4, e5⟩ : ∃ ws G1, ∃ u : Unit, T.tickE = ws.map Wd.v ∧ chks ws ((T.now : Int) - 1, G) = some ((T.now : Int), G1) ∧ KI T.next.sk T.next.last ∧ Gone T.next.sk T.next.last G1 ∧ T.next.last ≤ T.last + 1 := by
       rcases wX h hc rfl with ⟨t1, t2, t3⟩ | ⟨d, p, a, es, t1, t2, t3⟩
       · change T.next.sk = _ at t2
         change T.next.last = _ at t3
         rw [t2, t3];refine ⟨[((T.now : Int), 2, 0, 0)], G, (), t1, ?_, hK, hG, by omega⟩;show (chk _ _).bind _ = _;have := u4 (s := ((T.now : Int) - 1, G)) hG1 hG.z;simp only [Int.sub_add_cancel] at this;rw [this]; rfl
       · obtain ⟨ws, G1, f1, f2, f3, f4, f5⟩ := vb t3 hK t1 (by omega) hG;have hr := hK.rng _ t1;simp only at hr;refine ⟨((T.now : Int), 1, (d : Int), (a : Int)) :: ws, G1, (), by rw [t2, f1]; rfl, ?_, f3, f4, f5⟩;show (chk _ _).bind _ = _;have := xa (s := ((T.now : Int) - 1, G)) (id := d) (a := (a : Int)) (by omega) (by omega) hG1 (hG.e _ t1);simp only [Int.sub_add_cancel] at this;rw [this];exact f2
     obtain ⟨ws2, tk, G2, g1, g2, g3, g4, g5, g6, g7⟩ := ol m T.next G1 hT e3 e4 (by omega)
     refine ⟨ws ++ ws2, tk, G2, by rw [e1, g1, List.map_append], ?_, g3, g4, g5, fun e => ?_, g7⟩
     · rw [eG, e2];show chks ws2 _ = _;rw [← g2, hnow];congr 2;omega
     · rw [g6 e, hnow]; omega
theorem pC {c : Nat → Int} {bo : Int} {l : List Int} (hc : okc c bo = true) (hl : oki l.length = true) (hB : Byt l) : TI id (St.fresh c bo l 1) ∧ KI (St.fresh c bo l 1).sk (St.fresh c bo l 1).last ∧ Gone (St.fresh c bo l 1).sk (St.fresh c bo l 1).last (fun _ => false) := by
 have hps : (St.fresh c bo l 1).ps = [(1, PS.one)] := nU;have hsk : (St.fresh c bo l 1).sk = [(1, 0, false)] := by unfold St.sk; rw [hps]; rfl
 have hlast : (St.fresh c bo l 1).last = 1 := rfl;refine ⟨(nV hc hl hB).rename fun q hq => ?_, ?_, ?_⟩
 · rw [hps] at hq;rw [List.mem_singleton.1 hq]; rfl
 · rw [hsk, hlast];exact ⟨by simp, by simp, ⟨_, List.mem_cons_self, rfl, rfl⟩, by simp⟩
 · rw [hsk, hlast];exact ⟨by simp, fun _ _ => rfl, rfl⟩
end Go.Proofs.YtejkelcaljmnoaaGreatDoor
