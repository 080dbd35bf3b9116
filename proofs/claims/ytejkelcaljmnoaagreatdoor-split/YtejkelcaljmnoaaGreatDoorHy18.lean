/-
  Part 18 of the proof.
  No condition but those that each statement names.
-/
import Derived.Test.YtejkelcaljmnoaaGreatDoorHy17
import Derived.Conc.LeavingOf
import Derived.JoinedOf
import Derived.RowKit
import Derived.RowKitTokens
import Derived.Stop.Joined
import Derived.Carry
import Derived.Deep.Slices
import Derived.Test.YtejkelcaljmnoaaGreatDoorHy15
import Derived.Test.YtejkelcaljmnoaaGreatDoorHy16
import Derived.Test.YtejkelcaljmnoaaGreatDoorHy07
set_option maxRecDepth 100000
set_option linter.unusedVariables false
set_option linter.unusedSimpArgs false
set_option linter.unusedSectionVars false
namespace Go.Proofs.YtejkelcaljmnoaaGreatDoor
open Go.ChangeShapes Go.WideShapes Go.RowKit Go.Conc Go.ConcX Go.Hx Go.Lo
section
variable {H : Type} {enc : TypeId × Value → H}
theorem fi {a : Assume} {C : Checked} {os : Os} {f : FuncId} {fn : Func} {s : ChangeSpec} {conds : List PathCond} {apart fresh handsOn again : Bool} {X : World → Array Value → Prop}
   (hX : ∀ (w w' : World) (args : Array Value), w.heap = w'.heap → X w args → X w' args)
   (own : ownKnob C.prog.godebug = none) (started : os.Started) (hfn : C.prog.funcs[f]? = some fn)
   (witness : ∃ (w : World) (tape : Tape) (i : Input), w.os = os ∧ (w.forCall tape i).Shaped C.prog ∧ i.vars = [] ∧ Input.okWide C.prog (w.forCall tape i) .any w.heap.size f i ∧
     ((s.pre enc C.prog fn conds apart (w.forCall tape i).memory i.args ∧ X (w.forCall tape i).memory i.args) ∧ sizedMet enc C.prog fn (OpenSpec.ofChange s) apart (w.forCall tape i).memory i.args) ∧ a.holds C.prog (lone (Frame.enter C.prog f i.args .normal) [] (w.forCall tape i)))
   (runs : ∀ (W : World) (base : Nat) (args : Array Value) (ds gs : List (DataW H)) (before : List MemPlace), W.ShapedOpen C.prog →
     (∀ (j : Nat) t v, fn.params[j]? = some t → args[j]? = some v → Value.okWide C.prog W .any base t v) →
     DataW.Whole enc C.prog fn.params.toList s.vars apart W args.toList ds gs before → X W args →
     ∃ M last o w' t', runNT C.prog (M + 1) (solo (G (Frame.enter C.prog f args .normal) []) W) #[] = (.ended o w', t') ∧ runN C.prog M (solo (G (Frame.enter C.prog f args .normal) []) W) = .next last ∧
       step C.prog last = .ended o w' ∧ Conc.Good C.prog (fun v W' => s.post enc C.prog fn apart fresh handsOn again W args v W') last o w' t') :
   ReturnsInLeavingWide a C os f .any (fun w args => (s.pre enc C.prog fn conds apart w args ∧ X w args) ∧ sizedMet enc C.prog fn (OpenSpec.ofChange s) apart w args) (s.post enc C.prog fn apart fresh handsOn again) := by
 refine returnsInLeavingWide_of_good own started witness ?_;intro w tape i _ hso _ hok hpre hholds;obtain ⟨_, _, _, fn', hfn', _, _, _, _, hval⟩ := hok;have e : fn' = fn := Option.some.inj (hfn'.symm.trans hfn);subst e;obtain ⟨⟨⟨ds, gs, before, hw, hc⟩, hx⟩, hz⟩ := hpre;have hw' := DataW.Whole.of_heap (w' := w.forCall tape i) (by rfl) hw;obtain ⟨M, last, o, w', t', h1, h2, h3, h4⟩ := runs (w.forCall tape i) w.heap.size i.args ds gs before hso hval hw' (hX _ _ _ (by rfl) hx);exact ⟨M, last, o, w', t', h1, h2, h3, h4.mono fun v hp => ChangeSpec.post_blind hp⟩
end
abbrev tx0 : ByteArray := { data := #[116, 104, 101, 114, 101, 32, 105, 115, 32, 110, 111, 32, 115, 117, 99, 104, 32, 105, 110, 115, 116, 114, 117, 99, 116, 105, 111, 110] }
abbrev tx1 : ByteArray := { data := #[116, 104, 101, 114, 101, 32, 105, 115, 32, 110, 111, 32, 115, 117, 99, 104, 32, 111, 112, 101, 114, 97, 116, 111, 114] }
abbrev tx2 : ByteArray := { data := #[116, 104, 101, 114, 101, 32, 105, 115, 32, 110, 111, 32, 115, 117, 99, 104, 32, 98, 121, 116, 101, 32, 111, 102, 32, 109, 101, 109, 111, 114, 121] }
abbrev tx3 : ByteArray := { data := #[110, 111, 32, 115, 117, 99, 104, 32, 102, 105, 108, 101, 44, 32, 111, 114, 32, 110, 111, 116, 32, 111, 102, 32, 116, 104, 97, 116, 32, 107, 105, 110, 100] }
abbrev tx4 : ByteArray := { data := #[116, 104, 101, 114, 101, 32, 105, 115, 32, 110, 111, 32, 114, 111, 111, 109, 32, 102, 111, 114, 32, 111, 110, 101, 32, 109, 111, 114, 101] }
abbrev tx5 : ByteArray := { data := #[116, 104, 101, 114, 101, 32, 105, 115, 32, 110, 111, 32, 99, 104, 105, 108, 100] }
abbrev tx6 : ByteArray := { data := #[116, 104, 101, 114, 101, 32, 105, 115, 32, 110, 111, 32, 115, 117, 99, 104, 32, 112, 114, 111, 99, 101, 115, 115] }
abbrev tx7 : ByteArray := { data := #[110, 111, 98, 111, 100, 121, 32, 99, 97, 110, 32, 114, 101, 97, 100, 32, 116, 104, 97, 116] }
abbrev tx8 : ByteArray := { data := #[109, 101, 109, 111, 114, 121, 32, 116, 104, 97, 116, 32, 116, 104, 101, 114, 101, 32, 105, 115, 32, 110, 111, 116] }
abbrev tx9 : ByteArray := { data := #[110, 111, 32, 115, 117, 99, 104, 32, 99, 97, 108, 108, 44, 32, 111, 114, 32, 110, 111, 116, 32, 119, 105, 116, 104, 32, 116, 104, 97, 116] }
noncomputable def low : Nat := (World.holding Tryz.prog default ⟨#[], #[], []⟩).heap.size
def lay (h : Array Obj) (g : Nat) (v : Value) : Array Obj := h.modify g fun
 | .cells _ t frozen => .cells #[v] t frozen
 | o => o
noncomputable def laidWorld (os : Os) : World :=
 let w0 := World.holding Tryz.prog os ⟨#[.cells #[.string tx0] 275, .cells #[.string tx1] 275, .cells #[.string tx2] 275, .cells #[.string tx3] 275, .cells #[.string tx4] 275, .cells #[.string tx5] 275, .cells #[.string tx6] 275, .cells #[.string tx7] 275, .cells #[.string tx8] 275, .cells #[.string tx9] 275], #[], []⟩
 { w0 with heap := lay (lay (lay (lay (lay (lay (lay (lay (lay (lay (lay (w0.heap) 0 (.iface 255 (.pointer (some ⟨low + 0, 0, none⟩)))) 1 (.iface 255 (.pointer (some ⟨low + 1, 0, none⟩)))) 10 (.iface 255 (.pointer (some ⟨low + 2, 0, none⟩)))) 3 (.iface 255 (.pointer (some ⟨low + 3, 0, none⟩)))) 4 (.iface 255 (.pointer (some ⟨low + 4, 0, none⟩)))) 5 (.iface 255 (.pointer (some ⟨low + 5, 0, none⟩)))) 6 (.iface 255 (.pointer (some ⟨low + 6, 0, none⟩)))) 7 (.iface 255 (.pointer (some ⟨low + 7, 0, none⟩)))) 8 (.iface 255 (.pointer (some ⟨low + 8, 0, none⟩)))) 9 (.iface 255 (.pointer (some ⟨low + 9, 0, none⟩)))) 2 (rty 168) }
theorem kH (os : Os) (args : Array Value) : laidMetH Tryz.prog Rows.sumsRow.laid ((laidWorld os).forCall (fun _ _ => 0) ⟨#[], args, []⟩).memory :=
 laidMetH_of_parts (laidMet_of_run (ps := [.cell 0 0, .cell (low + 0) 0, .cell 1 0, .cell (low + 1) 0, .cell 10 0, .cell (low + 2) 0, .cell 3 0, .cell (low + 3) 0, .cell 4 0, .cell (low + 4) 0, .cell 5 0, .cell (low + 5) 0, .cell 6 0, .cell (low + 6) 0, .cell 7 0, .cell (low + 7) 0, .cell 8 0, .cell (low + 8) 0, .cell 9 0, .cell (low + 9) 0]) 8 (by kernel_rfl) (by kernel_rfl) (by kernel_rfl)) (by kernel_rfl)
theorem fg {n : Int} (h : (Lit.int .i64 n).wf = true) : I64 n := by
 simp [Lit.wf, IntKind.min, IntKind.max, IntKind.signed, IntKind.bits] at h;unfold I64;omega
end Go.Proofs.YtejkelcaljmnoaaGreatDoor
namespace Go.Proofs.YtejkelcaljmnoaaGreatDoor
open Go.ChangeShapes Go.WideShapes Go.WideElems Go.RowKit Go.Conc Go.ConcX Go.Hx Go.Lo
section
variable {H : Type} {enc : TypeId × Value → H} {P : Program}
theorem ln (hl : laidOutB P = true) {W W' : World} (hb : Below W.heap.size W W') :
   ∀ {ts : List TypeId} {vs : List Value} {ds : List (DataW H)} {ps : List MemPlace}, (∀ t ∈ ts, P.readableRec t = true ∧ t < P.types.size) → DataW.TrodAll enc P W 0 (fun _ => true) true ts vs ds ps → DataW.TrodAll enc P W' 0 (fun b => decide (b < W.heap.size)) true ts vs ds ps
 | [], [], [], _, _, h => h
 | [], [], _ :: _, _, _, h => h.elim
 | [], _ :: _, _, _, _, h => h.elim
 | _ :: _, [], _, _, _, h => h.elim
 | _ :: _, _ :: _, [], _, _, h => h.elim
 | t :: ts, v :: vs, d :: ds, ps, hr, h => by
   have hlt := h.lt;obtain ⟨p, q, ⟨n, h1⟩, h2, e⟩ := h;have ht := hr t List.mem_cons_self;have hp : ∀ x ∈ p, x.block < W.heap.size := fun x hx => hlt x (by rw [e]; simp [hx]);exact ⟨p, q, ⟨n, DataW.trod_stays (kids_book hl ht.1) (book_sized ht.1) (fun h => by cases h) ⟨ht.2, book_self t⟩ h1 (fun x hx => hb.same (hp x hx)) (fun x hx => by simpa using hp x hx)⟩, ln hl hb (fun t ht => hr t (List.mem_cons_of_mem _ ht)) h2, e⟩
theorem uB {w : World} {r : Reach} {b0 base : Nat} {spare : Nat → Bool} {held : Bool} {t : TypeId} {v : Value} {d : DataW H} {ps : List MemPlace} (ht : P.underlying t = some .string) (hval : Value.okWide P w r b0 t v) (hd : DataW.Trod enc P w base spare held t v d ps) : ∃ l : List Int, v = strv l ∧ Byt l ∧ l.length ≤ maxLen := by
 obtain ⟨s, rfl⟩ := okWide_string ht hval;obtain ⟨n, h⟩ := hd;obtain ⟨s', e, _, hs⟩ := DataW.trod_string ht h;obtain rfl : s = s' := by simpa [Value.cells] using e
 refine ⟨s.data.toList.map fun u => (u.toNat : Int), ?_, fun n hn => ?_, ?_⟩
 · unfold strv;congr 1;obtain ⟨⟨a⟩⟩ := s;congr 2;simp [Function.comp_def]
 · obtain ⟨u, _, rfl⟩ := List.mem_map.1 hn;have := u.toNat_lt;omega
 · simpa using hs
theorem rL {w : World} {r : Reach} {b0 base : Nat} {spare : Nat → Bool} {held : Bool} {t e : TypeId} {v : Value} {d : DataW H} {ps : List MemPlace} (ht : P.underlying t = some (.slice e)) (he : P.underlying e = some (.int .i64)) (hc : P.cellsOf e = 1) (hval : Value.okWide P w r b0 t v) (hd : DataW.Trod enc P w base spare held t v d ps) :
   ∃ (b : Option Addr) (cap : Nat) (cs : List Int), v = .slice b cs.length cap ∧ cs.length ≤ maxLen ∧ ∀ i c, cs[i]? = some c → I64 c ∧ ∃ g o, b = some ⟨g, o, none⟩ ∧ At (base0 w) g (o + i) (.int .i64 c) := by
 obtain ⟨a, len, cap, rfl⟩ := okWide_slice ht hval;obtain ⟨n, h⟩ := hd;rcases Go.Deep.open_slice1 ht hc h with ⟨e1, _⟩ | ⟨a', len', cap', m, n', V, D, Pl, e1, _, h2, h3, h4, _, h6⟩
 · obtain ⟨rfl, rfl, rfl⟩ : a = none ∧ len = 0 ∧ cap = 0 := by simpa [Value.cells] using e1
   exact ⟨none, 0, [], rfl, by simp, fun i c hi => by simp at hi⟩
 · obtain ⟨rfl, rfl, rfl⟩ : a = some a' ∧ len = len' ∧ cap = cap' := by simpa [Value.cells] using e1
   have hm : len ≤ m := by rw [h4]; split <;> omega
   have hV : ∀ i, i < len → ∃ c, V i = .int .i64 c ∧ (Lit.int .i64 c).wf = true := fun i hi => by
     obtain ⟨n2, e2, _, h7⟩ := DataW.trod_int he (h6 i (by omega)).2;exact ⟨n2, by simpa using e2, h7⟩
   refine ⟨some a', cap, (List.range len).map fun i => match V i with | .int _ c => c | _ => 0, by simp, by simp; omega, fun i c hi => ?_⟩;have hlt : i < len := by simpa using (List.getElem?_eq_some_iff.1 hi).1
   obtain ⟨c', e2, h7⟩ := hV i hlt;obtain rfl : c' = c := by simpa [hlt, e2] using hi
   have h0 := (h6 0 (by omega)).1;have h8 := (h6 i (by omega)).1;obtain ⟨g, o, sp⟩ := a';obtain rfl : sp = none := by
     unfold World.cell? at h0
     split at h0
     · split at h0
       · cases h0
       · rename_i hsp;simpa [Addr.add] using hsp
     · cases h0
   have ea : (⟨g, o, none⟩ : Addr).add i = ⟨g, o + i, none⟩ := by unfold Addr.add; split <;> simp_all
   rw [ea, e2] at h8;exact ⟨fg h7, g, o, rfl, kr h8⟩
end
end Go.Proofs.YtejkelcaljmnoaaGreatDoor
namespace Go.Proofs.YtejkelcaljmnoaaGreatDoor
open Go.Conc Go.Hx Go.Lo
section
variable {K M : Nat} {A B : Lay} {S T : St} {F L L' L2 : Frag}
def Own (K : Nat) (A : Lay) (S : St) (b : Nat) : Prop := b = K ∨ (∃ q ∈ S.ps, b = q.1) ∨ (∃ i, (A.a i).b = some b) ∨ (∃ i, (A.y i).b = some b) ∨ b = A.wt
theorem Rep.own (h : Rep K A S F L) {b : Nat} (hb : Own K A S b) : ∃ o, (b, true, o) ∈ L ∧ ((∃ m c, o = Obj.map m c) ∨ ∃ cs e, o = Obj.cells cs e ∧ (e = 115 ∨ e = 99 ∨ e = 93 ∨ e = 5)) := by
 rcases hb with rfl | ⟨q, hq, rfl⟩ | ⟨i, hi⟩ | ⟨i, hi⟩ | rfl
 · exact ⟨_, h.k, .inr ⟨_, _, rfl, .inl rfl⟩⟩
 · exact ⟨_, h.p q hq, .inr ⟨_, _, rfl, .inr (.inl rfl)⟩⟩
 · obtain ⟨xs, hx⟩ := h.al i b hi;exact ⟨_, hx, .inr ⟨_, _, rfl, .inr (.inr (.inl rfl))⟩⟩
 · obtain ⟨xs, hx⟩ := h.yl i b hi;exact ⟨_, hx, .inr ⟨_, _, rfl, .inr (.inr (.inr rfl))⟩⟩
 · exact ⟨_, h.w, .inl ⟨_, _, rfl⟩⟩
theorem Rep.notown (h : Rep K A S F L) {b : Nat} {f : Bool} {cs : Array Value} {e : TypeId} (hm : (b, f, Obj.cells cs e) ∈ L) (he : e ≠ 115 ∧ e ≠ 99 ∧ e ≠ 93 ∧ e ≠ 5) : ¬ Own K A S b := fun hb => by
 obtain ⟨o, ho, h1⟩ := h.own hb;have e1 := (h.fn _ _ _ _ _ hm ho).2;rcases h1 with ⟨m, c, rfl⟩ | ⟨cs', e', rfl, h2⟩
 · cases e1
 · cases e1;rcases h2 with h2 | h2 | h2 | h2
   · exact he.1 h2
   · exact he.2.1 h2
   · exact he.2.2.1 h2
   · exact he.2.2.2 h2
theorem uC {b : Nat} (h : ¬ Own K A S b) : b ≠ K ∧ (∀ q ∈ S.ps, b ≠ q.1) ∧ (∀ i, (A.a i).b ≠ some b) ∧ (∀ i, (A.y i).b ≠ some b) ∧ b ≠ A.wt :=
 ⟨fun e => h (.inl e), fun q hq e => h (.inr (.inl ⟨q, hq, e⟩)), fun i e => h (.inr (.inr (.inl ⟨i, e⟩))), fun i e => h (.inr (.inr (.inr (.inl ⟨i, e⟩)))), fun e => h (.inr (.inr (.inr (.inr e))))⟩
theorem Rep.frown (h : Rep K A S F L) {t : Nat × Bool × Obj} (ht : t ∈ F) : ¬ Own K A S t.1 := by
 obtain ⟨h1, h2, h3, h4, h5⟩ := h.fd t ht;rintro (e | ⟨q, hq, e⟩ | ⟨i, e⟩ | ⟨i, e⟩ | e)
 · exact h1 e
 · exact h2 q hq e
 · exact h3 i e
 · exact h4 i e
 · exact h5 e
theorem Rep.move (h : Rep K A S F L) (hf : Fun L') (ho : ∀ t ∈ L, Own K A S t.1 → t ∈ L') (hg : (A.g, true, Obj.cells A.gc 158) ∈ L') (hF : ∀ t ∈ F, t ∈ L') : Rep K A S F L' :=
 { h with
   fn := hf, k := ho _ h.k (.inl rfl), g := hg, p := fun q hq => ho _ (h.p q hq) (.inr (.inl ⟨q, hq, rfl⟩)), w := ho _ h.w (.inr (.inr (.inr (.inr rfl)))), fr := hF
   pa := h.pa.mono fun b hb _ x => ho _ x (.inr (.inr (.inl ⟨_, hb⟩)))
   rw := fun l hl => (h.rw l hl).mono fun b hb _ x => ho _ x (.inr (.inr (.inl ⟨_, hb⟩)))
   ya := fun i hi => (h.ya i hi).mono fun b hb _ x => ho _ x (.inr (.inr (.inr (.inl ⟨_, hb⟩))))
   wa := fun e he => (h.wa e he).mono fun b hb _ x => ho _ x (.inr (.inr (.inl ⟨_, hb⟩)))
   al := fun i c hc => (h.al i c hc).imp fun _ x => ho _ x (.inr (.inr (.inl ⟨_, hc⟩)))
   yl := fun i c hc => (h.yl i c hc).imp fun _ x => ho _ x (.inr (.inr (.inr (.inl ⟨_, hc⟩)))) }
theorem Rep.with (h : Rep K A S F L) {b : Nat} {cs : Array Value} {e : TypeId} (hm : (b, true, Obj.cells cs e) ∈ L) (he : e ≠ 115 ∧ e ≠ 99 ∧ e ≠ 93 ∧ e ≠ 5) : Rep K A S ((b, true, Obj.cells cs e) :: F) L :=
 { h with
   fr := fun t ht => by
     rcases List.mem_cons.1 ht with rfl | ht
     · exact hm
     · exact h.fr t ht
   fd := fun t ht => by
     rcases List.mem_cons.1 ht with rfl | ht
     · exact uC (h.notown hm he)
     · exact h.fd t ht }
theorem Rep.turnB (h : Rep K A S F L) {b : Nat} {cs : Array Value} {e : TypeId} (hm : (b, true, Obj.cells cs e) ∈ L) (he : e ≠ 115 ∧ e ≠ 99 ∧ e ≠ 93 ∧ e ≠ 5 ∧ e ≠ 158) (hn : ∀ t ∈ F, t.1 ≠ b) (hf : Fun L') (hs : ∀ t ∈ L, t.1 ≠ b → t ∈ L') : Rep K A S F L' :=
 h.move hf (fun t ht ho => hs t ht fun e' => h.notown hm ⟨he.1, he.2.1, he.2.2.1, he.2.2.2.1⟩ (e' ▸ ho))
   (hs _ h.g fun e' => absurd (h.fn _ _ _ _ _ h.g (e' ▸ hm)).2 (aE (Ne.symm he.2.2.2.2))) fun t ht => hs t (h.fr t ht) (hn t ht)
theorem Rep.turn (h : Rep K A S F L) {xs : List Value} {e : TypeId} {a : Sl} (ha : slOk a xs e L) (he : e ≠ 115 ∧ e ≠ 99 ∧ e ≠ 93 ∧ e ≠ 5 ∧ e ≠ 158) (hn : ∀ t ∈ F, a.b ≠ some t.1) (hf : Fun L') (hs : ∀ t ∈ L, a.b ≠ some t.1 → t ∈ L') : Rep K A S F L' := by
 cases hab : a.b with
 | none => exact h.of hf fun t ht => hs t ht (by rw [hab]; simp)
 | some b => exact h.turnB (ha.mem hab) he (fun t ht e => hn t ht (by rw [hab, e])) hf fun t ht hne => hs t ht (by rw [hab]; simp; exact fun e => hne e.symm)
theorem Rep.hold (h : Rep K A S F L) {a : Sl} {xs : List Value} {e : TypeId} (ha : slOk a xs e L) (he : e ≠ 115 ∧ e ≠ 99 ∧ e ≠ 93 ∧ e ≠ 5) : ∃ F', Rep K A S F' L ∧ (∀ t ∈ F, t ∈ F') ∧ ∀ L', (∀ t ∈ F', t ∈ L') → slOk a xs e L' := by
 cases hab : a.b with
 | none => exact ⟨F, h, fun _ x => x, fun L' _ => ha.mono fun b hb => by rw [hab] at hb; cases hb⟩
 | some b => exact ⟨_ :: F, h.with (ha.mem hab) he, fun _ x => List.mem_cons_of_mem _ x, fun L' hs => by unfold slOk; rw [hab]; exact hs _ List.mem_cons_self⟩
theorem uD {F2 : Frag} (hK : Rep K A S F L) (hM : Rep M B T F2 F) : ∃ G, Rep M B T G L ∧ Rep K A S F2 G ∧ ∀ t ∈ L, ¬ Own M B T t.1 → t ∈ G := by
 classical
 have hG : ∀ t, t ∈ L.filter (fun t => decide (¬ Own M B T t.1)) ↔ t ∈ L ∧ ¬ Own M B T t.1 := fun t => by simp
 have hM' := hM.of hK.fn hK.fr;refine ⟨_, { hM' with fr := fun t ht => ((hG t).1 ht).1, fd := fun t ht => uC ((hG t).1 ht).2 }, ?_, fun t ht h => (hG t).2 ⟨ht, h⟩⟩;refine (hK.less hM.fr).move (fun b f o f' o' a c => hK.fn b f o f' o' ((hG _).1 a).1 ((hG _).1 c).1) (fun t ht ho => (hG t).2 ⟨ht, fun e => ?_⟩) ((hG _).2 ⟨hK.g, hM'.notown hK.g (by decide)⟩) fun t ht => (hG t).2 ⟨hK.fr _ (hM.fr t ht), hM.frown ht⟩;obtain ⟨o, hm, _⟩ := hM.own e;exact hK.frown hm ho
end
def setsI (xs : List Int) (i : Nat) : List Int := (List.range i).flatMap fun (j : Nat) => insn 1 (j : Nat) (xs.getD j 0)
def trapI (m : Int) (xs : List Int) : List Int := setsI xs xs.length ++ insn 9 m 0
theorem ks (xs : List Int) (i : Nat) : setsI xs (i + 1) = setsI xs i ++ insn 1 (i : Nat) (xs.getD i 0) := by
 unfold setsI; rw [List.range_succ, List.flatMap_append]; simp
theorem lp (xs : List Int) : ∀ i, (setsI xs i).length = 4 * i
 | 0 => rfl
 | i + 1 => by rw [ks, List.length_append, lp xs i]; show 4 * i + 4 = _; omega
theorem yk : ∃ n, ∀ {σ : Type} {F : Fam σ} {Δ : ∀ s, Dom (F.R s) (F.D s)} {main : Bool} {s : σ} (L : Frag) (m : Int) (xs : List Int) (base : Option Addr) (cap : Nat), (∀ s o, (Δ s).New o) → Fun L → xs.length ≤ 8 → (∀ i, i < xs.length → ∃ b, base = some ⟨b, 0, none⟩ ∧ At L b i (.int .i64 (xs.getD i 0))) →
   CallsL Δ Tryz.prog main 23 [.int .i64 m, .slice base xs.length cap].toArray n s L (fun s' v L' => s = s' ∧ v = strv (trapI m xs) ∧ Ext L L') := by
 obtain ⟨n1, g1⟩ := yj;apply Exists.intro;intro σ F Δ main s L m xs base cap hN hF h8 hat;co_applyP ay 25 Tryz.func23 Tryz.ntmps23;co_applyP ae;co_applyP aa;co_applyP oy rfl ak;co_applyP ah;change wpE ..;co_applyP ae;co_applyP aa;co_applyP oy rfl ak;co_applyP ah;change wpE ..;co_applyP ae;co_applyP ae;co_applyP aa;co_applyP oy rfl ak;co_applyP ah;change wpE ..;co_applyP aH;co_applyP bB (fun c s' ε' L' => s' = s ∧ Ext L L' ∧ ∃ i, i ≤ xs.length ∧ c + i = 8 ∧ kn ε' [(0, .int .i64 m), (1, .slice base xs.length cap), (5, strv (setsI xs i)), (6, .int .i64 (i : Nat))]) 8
 · exact ⟨rfl, ⟨hF, fun _ h => h⟩, 0, by omega, rfl, rfl⟩
 rintro c s' ε' L' ⟨rfl, hE, i, hi, hc, he⟩;co_applyP a0 he;have ei : IntKind.i64.wrap ((i : Int) + 1) = ((i + 1 : Nat) : Int) := by simp [IntKind.wrap_i64]; omega
 have hsl := lp xs i;co_applyP ae;co_applyP ae;co_applyP aa;co_applyP oy rfl aj;co_applyP oy rfl aj;co_applyP oy rfl (bp (hu := Tryz.underlying54));co_applyP oy rfl bZ;co_applyP ah;change wpE ..;co_applyP bk rfl;intro hlt
 · have hlt' : i < xs.length := by simpa using hlt
   obtain ⟨b, rfl, hv⟩ := hat i hlt';have hv' := hE.at hv;co_applyP aB;change wpE ..;co_applyP ae;co_applyP aH;co_applyP aa;co_applyP oy rfl aj;co_applyP oy rfl aj;co_applyP oy rfl aj;co_applyP oy rfl aj;co_applyP oy rfl (bu Tryz.underlying54 cZ);co_applyP oy rfl (aF (ht := a5));co_applyP oc rfl rfl rfl (g1 L' 1 (i : Nat) (xs.getD i 0) hN hE.f);rintro _ _ _ ⟨rfl, rfl, hE2⟩;have hl2 : (setsI xs i).length + (insn 1 (i : Nat) (xs.getD i 0)).length < 1000000 := by rw [hsl]; show 4 * i + 4 < _; omega
   co_applyP oy rfl o5;co_applyP oy rfl ak;co_applyP ah;change wpE ..;co_applyP aa;co_applyP oy rfl aj;co_applyP oy rfl ba;co_applyP oy rfl ak;co_applyP ah;change ∃ k', k' < _ ∧ _;exact ⟨c - 1, by omega, rfl, hE.trans hE2, i + 1, by omega, by omega, by rw [← ei, ks]; rfl⟩
 intro hlt;have hi' : i = xs.length := by simp at hlt; omega
 subst hi';co_applyP bJ;change wpE ..;co_applyP ae;co_applyP aa;co_applyP oy rfl aj;co_applyP oy rfl aj;co_applyP oc rfl rfl rfl (g1 L' 9 m 0 hN hE.f);rintro _ _ _ ⟨rfl, rfl, hE2⟩;have hl2 : (setsI xs xs.length).length + (insn 9 m 0).length < 1000000 := by rw [hsl]; show 4 * _ + 4 < _; omega
 co_applyP oy rfl o5;co_applyP oy rfl ak;co_applyP ah;change wpE ..;co_applyP aJ;change ∃ v, resE .. = some v ∧ _;exact ⟨_, rfl, rfl, rfl, hE.trans hE2⟩
theorem ku {T : St} (h : T.isOver = true) : ∀ m, St.evs m T = []
 | 0 => rfl
 | m + 1 => by unfold St.evs; rw [if_pos h]
theorem fX {T : St} (h : T.isOver = true) : ∀ m, St.runs m T = T
 | 0 => rfl
 | m + 1 => by unfold St.runs; rw [if_pos h]
theorem nJ : ∀ (a b : Nat) (T : St), St.runs (a + b) T = St.runs b (St.runs a T)
 | 0, b, T => by rw [Nat.zero_add]; rfl
 | a + 1, b, T => by
   by_cases h : T.isOver = true
   · rw [fX h, fX h, fX h]
   · rw [show a + 1 + b = (a + b) + 1 by omega];have e1 : ∀ n, St.runs (n + 1) T = St.runs n T.next := fun n => by
       show (if T.isOver then T else St.runs n T.next) = _;rw [if_neg h]
     rw [e1, e1];exact nJ a b T.next
theorem pW : ∀ (a b : Nat) (T : St), St.evs (a + b) T = St.evs a T ++ St.evs b (St.runs a T)
 | 0, b, T => by rw [Nat.zero_add]; rfl
 | a + 1, b, T => by
   by_cases h : T.isOver = true
   · rw [fX h, ku h, ku h, ku h]; rfl
   · rw [show a + 1 + b = (a + b) + 1 by omega];have e1 : St.runs (a + 1) T = St.runs a T.next := by
       show (if T.isOver then T else St.runs a T.next) = _;rw [if_neg h]
     have e2 : ∀ n, St.evs (n + 1) T = T.tickE ++ St.evs n T.next := fun n => by
       show (if T.isOver then [] else T.tickE ++ St.evs n T.next) = _;rw [if_neg h]
     rw [e1, e2, e2, pW a b T.next, List.append_assoc]
end Go.Proofs.YtejkelcaljmnoaaGreatDoor
namespace Go.Lo
open Go.Conc Go.Hx
def resE3 (g : Func) (ε : Env) : Option Value := match g.results.toList with
 | [.tmp t, .tmp u, .tmp x] => match look ε t, look ε u, look ε x with
   | some v, some w, some y => some (.tuple #[v, w, y])
   | _, _, _ => none
 | _ => none
def bodyE3 {σ : Type} (g : Func) (Post : σ → Value → Frag → Prop) : σ → Exit → Env → Frag → Prop
 | s, .normal, ε, L | s, .ret, ε, L => ∃ v, resE3 g ε = some v ∧ Post s v L
 | _, _, _, _ => False
section
variable {σ : Type} {F : Fam σ} {Δ : ∀ s, Dom (F.R s) (F.D s)} {P : Program} {main : Bool} {fn : FuncId} {N : Nat} {Q : σ → Exit → Env → Frag → Prop} {s : σ} {ε : Env} {L : Frag}
theorem uE {g : Func} {a : Act} {v : Value} (hf : Fits N ε a) (h : resE3 g ε = some v) : wpQ P (results g a.tmps) (· = v) L := by
 unfold resE3 at h
 split at h
 · rename_i t u x e
   split at h
   · rename_i h1 h2 h3;have e' : g.results = #[.tmp t, .tmp u, .tmp x] := Array.ext' e;have r1 := (hf.at_ _ _ h1).2;have r2 := (hf.at_ _ _ h2).2;have r3 := (hf.at_ _ _ h3).2;rw [← Option.some.inj h, ← r1, ← r2, ← r3];have e0 : results g a.tmps = pure (.tuple #[a.tmps.getD t undef, a.tmps.getD u undef, a.tmps.getD x undef]) := by simp [results, e']
     rw [e0]; rfl
   · cases h
 · cases h
theorem wp (N : Nat) {f : FuncId} {g : Func} {c : Code} {vs : List Value} {n : Nat} {Post : σ → Value → Frag → Prop} (hf : P.funcs[f]? = some g) (hN : g.ntmps = N) (hname : (g.name == "runtime.NumGoroutine") = false := by rfl) (hb : g.body = some c := by rfl) (hl : Nat.ble vs.length N = true := by rfl) (h : wpE Δ P main f N c n s (bodyE3 g Post) (args vs) L) : CallsM Δ P main f vs.toArray n s L Post := by
 have hl := Nat.le_of_ble_eq_true hl;subst hN;refine ⟨g, c, hf, hname, hb, da (h _ ⟨by simp; omega, rfl, fun t v ht => ?_⟩) fun s' e a' L' ⟨ε', hf, q⟩ => ?_⟩
 · obtain ⟨_, h2⟩ := fH vs 0 t v ht;have hlt := (List.getElem?_eq_some_iff.1 h2).1;simp only [Nat.sub_zero] at h2 hlt;refine ⟨by omega, ?_⟩;simp only [Array.getD_eq_getD_getElem?, Array.getElem?_append, List.size_toArray, hlt, if_true, List.getElem?_toArray, h2, Option.getD_some]
 · cases e <;> first | exact ⟨hf.df, q.choose, uE hf q.choose_spec.1, q.choose_spec.2⟩ | exact q
end
end Go.Lo
namespace Go.Proofs.YtejkelcaljmnoaaGreatDoor
open Go.Conc Go.Hx Go.Lo
def outB (ws : List Wd) : List Int := (ws.filter fun w => decide (w.2.1 = 3)).map fun w => w.2.2.2 % 256
def goneW (ws : List Wd) : List Wd := ws.filter fun w => decide (w.2.1 = 4)
abbrev u8s (l : List Int) : List Value := l.map (Value.int .u8)
abbrev wcs (ws : List Wd) : List Value := ws.flatMap Wd.c
theorem eC (ws : List Wd) : (wcs ws).length = ws.length * 4 := by
 induction ws with
 | nil => rfl
 | cons w ws ih =>
   have : wcs (w :: ws) = Wd.c w ++ wcs ws := rfl;rw [this, List.length_append, ih];show 4 + _ = _;simp only [List.length_cons]; omega
theorem uF (ws : List Wd) : ∀ (i : Nat) (w : Wd), ws[i]? = some w → ∀ j, j < 4 → (wcs ws)[4 * i + j]? = (Wd.c w)[j]? := by
 induction ws with
 | nil => intro i w h; simp at h
 | cons v ws ih =>
   intro i w h j hj;have e : wcs (v :: ws) = Wd.c v ++ wcs ws := rfl;have hl : (Wd.c v).length = 4 := rfl;rw [e];cases i with
   | zero =>
     obtain rfl : v = w := by simpa using h
     rw [Nat.mul_zero, Nat.zero_add, List.getElem?_append_left (by rw [hl]; exact hj)]
   | succ i =>
     rw [List.getElem?_append_right (by rw [hl]; omega), hl, show 4 * (i + 1) + j - 4 = 4 * i + j by omega];exact ih i w (by simpa using h) j hj
theorem uG {told : Value} {ws : List Wd} {L : Frag} (h : Heard told (ws.map Wd.v) L) : ∃ base cap, told = .slice base ws.length cap ∧ ∀ i w, ws[i]? = some w → ∃ g cs, base = some ⟨g, 0, none⟩ ∧ (g, true, Obj.cells cs 51) ∈ L ∧ 4 * i + 4 ≤ cs.size ∧ ∀ j, j < 4 → cs[4 * i + j]? = (Wd.c w)[j]? := by
 rcases h with ⟨rfl, h0⟩ | ⟨g, cap, cur, rfl, hg, hn, _, hz, ht⟩
 · have : ws = [] := by simpa using h0
   subst this;exact ⟨none, 0, rfl, fun i w h => by simp at h⟩
 · rw [List.length_map] at hn ht ⊢;refine ⟨_, cap, rfl, fun i w hw => ⟨g, cur, rfl, hg, ?_, fun j hj => ?_⟩⟩
   · have := (List.getElem?_eq_some_iff.1 hw).1;have := Nat.mul_le_mul_right 4 hn;omega
   · have hi := (List.getElem?_eq_some_iff.1 hw).1;rw [← uF ws i w hw j hj];have e : cur.toList.take (ws.length * 4) = wcs ws := by rw [ht, List.flatMap_map]; rfl
     rw [← e, List.getElem?_take_of_lt (by omega)];simp
theorem rM (ws : List Wd) {i : Nat} {w : Wd} (h : ws[i]? = some w) : outB (ws.take (i + 1)) = outB (ws.take i) ++ (if w.2.1 = 3 then [w.2.2.2 % 256] else []) := by
 unfold outB;rw [List.take_add_one, h, Option.toList_some, List.filter_append, List.map_append];by_cases e : w.2.1 = 3 <;> simp [e]
theorem o6 (ws : List Wd) {i : Nat} {w : Wd} (h : ws[i]? = some w) : goneW (ws.take (i + 1)) = goneW (ws.take i) ++ (if w.2.1 = 4 then [w] else []) := by
 unfold goneW;rw [List.take_add_one, h, Option.toList_some, List.filter_append];by_cases e : w.2.1 = 4 <;> simp [e]
theorem pX (a b : List Wd) : wcs (a ++ b) = wcs a ++ wcs b := by simp [wcs]
section
variable {N : Nat} {ε : Env} {L : Frag} {d : Option Tmp} {ty : TypeId} {ps : String} {af : Array Edge} {g : Option (Nat × Bool)} {x : Operand}
theorem mj {a : Sl} {l : List Int} (hx : ev ε x = some (rowv a 1 l.length) := by rfl) (ha : slOk a (u8s l) 5 L) : EY Tryz.prog N ε L ⟨d, .convert 44 9 x, ty, ps, af, g⟩ (strv l) := by
 cases hab : a.b with
 | none =>
   have h := ha;unfold slOk at h;rw [hab] at h;obtain rfl : l = [] := by simpa using h.1
   have e : rowv a 1 ([] : List Int).length = .slice none 0 0 := by unfold rowv; rw [hab]
   rw [e] at hx;exact yi hx Tryz.underlying44 Tryz.underlying5 Tryz.underlying9
 | some b =>
   have e : rowv a 1 l.length = .slice (some ⟨b, 0, none⟩) l.length (l.length + a.junk.length / 1) := by unfold rowv; rw [hab]
   rw [e] at hx;refine uu (l := l) hx Tryz.underlying44 Tryz.underlying5 Tryz.underlying9 (ha.mem hab) (by simp) ?_;apply Array.ext';simp
end
theorem uH : zeroAt Tryz.prog 51 = some (evt 0 0 0 0) := by kernel_rfl
theorem uI : bytesAt Tryz.prog 51 = some 32 := by kernel_rfl
set_option maxHeartbeats 1000000 in
theorem rN : ∃ k, ∀ {Fin : Value → World → Prop} {W : World} {O : Nat} (nn : Nat) (s : List Nat) (K : Nat) (A : Lay) (S T : St) (Fr L : Frag) (eb : Nat → Nat × Nat) (t : Nat), Rep K A S Fr L → Ers eb Fr → Ab S T → 0 < t → t ≤ 2000 → S.now < 1152921504606846976 →
   Lo.CallsM (F := FZ Tryz.prog Fin) (fun s => dom0 (Shs s.2) W O) Tryz.prog true 24 [ptr K, .int .i64 (t : Nat)].toArray k (nn + 1, s) L (fun s' v L' => ∃ N A' S' ws ag, s' = (nn, N :: s) ∧ St.evs t T = ws.map Wd.v ∧ v = .tuple #[strv (outB ws), rowv ag 4 (goneW ws).length, .bool true] ∧ Ab S' (St.runs t T) ∧ Rep K A' S' Fr L' ∧ slOk ag (wcs (goneW ws)) 51 L') := by
 obtain ⟨n1, gr⟩ := wZ;apply Exists.intro;intro Fin W O nn s K A S T Fr L eb t hR hEr hAb ht0 ht hnow;have hN : ∀ (s : Nat × List Nat) (o : Obj), (dom0 (Shs s.2) W O).New o := fun _ _ => trivial;obtain ⟨ws, hws, hwl⟩ := ir t T;co_applyP wp 66 Tryz.func24 Tryz.ntmps24;co_applyP ae;co_applyP aa;co_applyP oy rfl ak;co_applyP oy rfl ak;co_applyP oy rfl ak;co_applyP ah;change wpE ..;co_applyP ae;co_applyP aa;co_applyP oy rfl ak;co_applyP ah;change wpE ..;co_applyP ae;co_applyP aa;co_applyP oy rfl ak;co_applyP ah;change wpE ..;co_applyP ae;co_applyP aH;co_applyP bB (fun k s' ε' L' => (k = 1 ∧ s' = (nn + 1, s) ∧ L' = L ∧ kn ε' [(0, ptr K), (1, .int .i64 (t : Nat)), (7, .slice none 0 0), (8, .slice none 0 0)]) ∨ (k = 0 ∧ ∃ N A' S' ab ag, s' = (nn, N :: s) ∧ Ab S' (St.runs t T) ∧ Rep K A' S' Fr L' ∧ slOk ab (u8s (outB ws)) 5 L' ∧ slOk ag (wcs (goneW ws)) 51 L' ∧ kn ε' [(1, .int .i64 0), (7, rowv ab 1 (outB ws).length), (8, rowv ag 4 (goneW ws).length)])) 1
 · exact .inl ⟨rfl, rfl, rfl, rfl⟩
 rintro k s' ε' L' hk;co_applyP bS (k = 1);intro h1
 · obtain ⟨rfl, rfl, he⟩ : s' = (nn + 1, s) ∧ L' = L ∧ kn ε' [(0, ptr K), (1, .int .i64 (t : Nat)), (7, .slice none 0 0), (8, .slice none 0 0)] := by
     rcases hk with ⟨_, a, b, c⟩ | ⟨a, _⟩
     · exact ⟨a, b, c⟩
     · omega
   co_applyP a0 he;have e0 : decide ((0 : Int) < (t : Int)) = true := by simp; omega
   have e1 : decide ((2000 : Int) < (t : Int)) = false := by simp; omega
   co_applyP ae;co_applyP ae;co_applyP aa;co_applyP oy rfl aj;co_applyP oy rfl dM;co_applyP ah;change wpE ..;rw [e0];co_applyP aV rfl;co_applyP aB;change wpE ..;co_applyP aH;co_applyP ae;co_applyP aa;co_applyP oy rfl aj;co_applyP oy rfl ak;co_applyP ah;change wpE ..;co_applyP ae;co_applyP ae;co_applyP aa;co_applyP oy rfl aj;co_applyP oy rfl dM;co_applyP ah;change wpE ..;rw [e1];co_applyP aq rfl;co_applyP aB;change wpE ..;co_applyP ae;co_applyP aa;co_applyP oy rfl aj;co_applyP oy rfl aj;co_applyP oc rfl rfl rfl (gr nn s K A S T Fr L' eb t hR hEr hAb ht hnow);rintro _ _ _ ⟨N, told, A1, S1, rfl, rfl, hAb1, hR1, hH⟩;rename_i L1;rw [hws] at hH;obtain ⟨base, cap, rfl, hat⟩ := uG hH;co_applyP oy rfl aj;co_applyP oy rfl bz;co_applyP oy rfl bz;co_applyP oy rfl ak;co_applyP oy rfl ak;co_applyP ah;change wpE ..;co_applyP ae;co_applyP ae;co_applyP aa;co_applyP oy rfl aj;co_applyP oy rfl dY;co_applyP ah;change wpE ..;co_applyP aq rfl;co_applyP aB;change wpE ..;co_applyP ae;co_applyP ae;co_applyP aa;co_applyP oy rfl ak;co_applyP ah;change wpE ..;co_applyP aH;co_applyP bB (fun k s' ε' L' => s' = (nn, N :: s) ∧ Ext L1 L' ∧ ∃ i ab ag, i ≤ ws.length ∧ k + i = 4000 ∧ slOk ab (u8s (outB (ws.take i))) 5 L' ∧ (∀ t ∈ L1, ab.b ≠ some t.1) ∧ slOk ag (wcs (goneW (ws.take i))) 51 L' ∧ (∀ t ∈ L1, ag.b ≠ some t.1) ∧ kn ε' [(1, .int .i64 (t : Nat)), (9, .int .i64 (t : Nat)), (10, .slice base ws.length cap), (12, .int .i64 (i : Nat)), (7, rowv ab 1 (outB (ws.take i)).length), (8, rowv ag 4 (goneW (ws.take i)).length)]) 4000
   · exact ⟨rfl, ⟨hR1.fn, fun _ h => h⟩, 0, ⟨none, []⟩, ⟨none, []⟩, by omega, rfl, ⟨rfl, rfl⟩, fun t ht => by simp, ⟨rfl, rfl⟩, fun t ht => by simp, rfl⟩
   rintro c s' ε' L2 ⟨rfl, hE, i, ab, ag, hi, hc, hb, hbn, hg, hgn, he⟩;co_applyP a0 he;have ei : IntKind.i64.wrap ((i : Int) + 1) = ((i + 1 : Nat) : Int) := by simp [IntKind.wrap_i64]; omega
   co_applyP ae;co_applyP ae;co_applyP aa;co_applyP oy rfl aj;co_applyP oy rfl aj;co_applyP oy rfl (bp (hu := Tryz.underlying38));co_applyP oy rfl bZ;co_applyP ah;change wpE ..;co_applyP bk rfl;intro hlt
   · have hlt' : i < ws.length := by simpa using hlt
     obtain ⟨w, hw⟩ : ∃ w, ws[i]? = some w := ⟨_, List.getElem?_eq_getElem hlt'⟩;obtain ⟨tg, cs, rfl, htg, hsz, hcs⟩ := hat i w hw;have htg2 := hE.s _ htg;have k1 : At L2 tg (i * 4 + 1) (.int .i64 w.2.1) := ⟨true, _, _, _, htg2, by rw [Nat.mul_comm]; exact hcs 1 (by omega)⟩;have k3 : At L2 tg (i * 4 + 3) (.int .i64 w.2.2.2) := ⟨true, _, _, _, htg2, by rw [Nat.mul_comm]; exact hcs 3 (by omega)⟩;have hob := rM ws hw;have hog := o6 ws hw;have hol : (outB (ws.take i)).length ≤ 4000 := by
       unfold outB; rw [List.length_map];have := List.length_filter_le (fun w : Wd => decide (w.2.1 = 3)) (ws.take i);have := List.length_take_le i ws;omega
     have hgl : (goneW (ws.take i)).length ≤ 4000 := by
       unfold goneW;have := List.length_filter_le (fun w : Wd => decide (w.2.1 = 4)) (ws.take i);have := List.length_take_le i ws;omega
     co_applyP aB;change wpE ..;co_applyP dZ (fun s'' ε'' L'' => s'' = (nn, N :: s) ∧ Ext L1 L'' ∧ ∃ ab ag, slOk ab (u8s (outB (ws.take (i + 1)))) 5 L'' ∧ (∀ t ∈ L1, ab.b ≠ some t.1) ∧ slOk ag (wcs (goneW (ws.take (i + 1)))) 51 L'' ∧ (∀ t ∈ L1, ag.b ≠ some t.1) ∧ kn ε'' [(1, .int .i64 (t : Nat)), (9, .int .i64 (t : Nat)), (10, .slice (some ⟨tg, 0, none⟩) ws.length cap), (12, .int .i64 (i : Nat)), (7, rowv ab 1 (outB (ws.take (i + 1))).length), (8, rowv ag 4 (goneW (ws.take (i + 1))).length)]);co_applyP aH;co_applyP dZ (fun s'' ε'' L'' => s'' = (nn, N :: s) ∧ Ext L1 L'' ∧ ∃ ab ag, slOk ab (u8s (outB (ws.take (i + 1)))) 5 L'' ∧ (∀ t ∈ L1, ab.b ≠ some t.1) ∧ slOk ag (wcs (goneW (ws.take i))) 51 L'' ∧ (∀ t ∈ L1, ag.b ≠ some t.1) ∧ kn ε'' [(1, .int .i64 (t : Nat)), (9, .int .i64 (t : Nat)), (10, .slice (some ⟨tg, 0, none⟩) ws.length cap), (12, .int .i64 (i : Nat)), (7, rowv ab 1 (outB (ws.take (i + 1))).length), (8, rowv ag 4 (goneW (ws.take i)).length)]);co_applyP ae;co_applyP aa;co_applyP oy rfl aj;co_applyP oy rfl aj;co_applyP oy rfl (bu Tryz.underlying38 ez);co_applyP oy rfl (av (hf := pq));co_applyP oy rfl (aF (ht := a5) (hv := k1));co_applyP oy rfl aA;co_applyP ah;change wpE ..;co_applyP bk rfl;intro h3;co_applyP aa;co_applyP oy rfl aj;co_applyP oy rfl aj;co_applyP oy rfl aj;co_applyP oy rfl (bu Tryz.underlying38 ez);co_applyP oy rfl (av (hf := vc))
     · have h3' : w.2.1 = 3 := by simpa using h3
       co_applyP oy rfl (aF (ht := a5) (hv := k3));co_applyP oy rfl (cg (hs := Tryz.underlying3) (ht := Tryz.underlying5));co_applyP bM rfl (iN (hN _ _) (hu := Tryz.underlying44) (hs := dI) (hz := qQ));intro nb L3 hA;have hr : Reads Tryz.prog L3 1 1 (.slice (some ⟨nb, 0, none⟩) 1 1) [Value.int .u8 (IntKind.u8.wrap w.2.2.2)].toArray := by
         have := bY (P := Tryz.prog) (sz := 1) (n := 1) (len := 1) (cap := 1) (o := 0) hA.self (by simp);simpa using this
       co_applyP oeN rfl (fun hnd => lj (a := ab) (by_ := 0) (xs := u8s (outB (ws.take i))) (n := (outB (ws.take i)).length) (m := 1) (hnd := hnd) (hu := Tryz.underlying44) (hs := dI) (hb := tl) (hz := qQ) (hzs := rfl) (hN := fun cs => hN _ _) (ha := hb.mono fun c hc o ho => hA.sub _ ho) (hn := by simp) (hr := hr) (hm := rfl) (hpl := rfl) (h0 := by decide) (h8 := by omega));rintro _ L4 ⟨ab', rfl, hp⟩;co_applyP oy rfl ak;co_applyP ah;change _ = _ ∧ _ ∧ ∃ ab ag, _ ∧ _ ∧ _ ∧ _ ∧ kn _ _;rw [if_pos h3'] at hob;refine ⟨rfl, ⟨hp.fn, fun t ht => hp.sub _ (hA.sub _ (hE.s _ ht)) (hbn t ht)⟩, ab', ag, ?_, fun t ht e => ?_, ?_, hgn, ?_⟩
       · rw [hob]; have := hp.ok; rw [lN] at this; simpa using this
       · rcases hp.d _ e with h | h
         · exact hbn t ht h
         · exact h _ (hA.sub _ (hE.s _ ht)) rfl
       · refine hg.mono fun q hq o ho => hp.sub _ (hA.sub _ ho) fun e => ?_;have m1 := hb.mem e;have m2 := hg.mem hq;exact absurd (hE.f _ _ _ _ _ m1 m2).2 (aE (by decide))
       · rw [hob, List.length_append]; rfl
     intro h3;co_applyP aB;change _ = _ ∧ _ ∧ ∃ ab ag, _ ∧ _ ∧ _ ∧ _ ∧ kn _ _;have h3' : ¬ w.2.1 = 3 := by simpa using h3
     rw [if_neg h3', List.append_nil] at hob;exact ⟨rfl, hE, ab, ag, by rw [hob]; exact hb, hbn, hg, hgn, by rw [hob]; rfl⟩;rintro s'' ε'' L3 ⟨rfl, hE3, ab3, ag3, hb3, hbn3, hg3, hgn3, he3⟩;co_applyP a0 he3;have htg3 := hE3.s _ htg;have k1' : At L3 tg (i * 4 + 1) (.int .i64 w.2.1) := ⟨true, _, _, _, htg3, by rw [Nat.mul_comm]; exact hcs 1 (by omega)⟩;have hcx : cs.extract (i * 4) (i * 4 + 4) = (Wd.c w).toArray := by
       apply Array.ext';apply List.ext_getElem?;intro j;by_cases hj : j < 4
       · rw [← hcs j hj];simp only [Array.toList_extract, List.extract_eq_take_drop];rw [List.getElem?_take_of_lt (by omega), List.getElem?_drop, Nat.mul_comm i 4];simp
       · rw [List.getElem?_eq_none (by simp; omega), List.getElem?_eq_none (by show 4 ≤ j; omega)]
     co_applyP ae;co_applyP aa;co_applyP oy rfl aj;co_applyP oy rfl aj;co_applyP oy rfl (bu Tryz.underlying38 ez);co_applyP oy rfl (av (hf := pq));co_applyP oy rfl (aF (ht := a5) (hv := k1'));co_applyP oy rfl aA;co_applyP ah;change wpE ..;co_applyP bk rfl;intro h4;co_applyP aa;co_applyP oy rfl aj;co_applyP oy rfl aj;co_applyP oy rfl aj;co_applyP oy rfl (bu Tryz.underlying38 ez)
     · have h4' : w.2.1 = 4 := by simpa using h4
       co_applyP oy rfl (aX (ht := po) (hs := ez) (hm := htg3) (hi := by omega));rw [hcx];co_applyP bM rfl (uj (sz := 4) (hN := hN _ _) (hv := rfl) (hu := Tryz.underlying38) (hs := ez) (hz := uH) (h0 := by decide) (h24 := by decide));intro nb L4 hA;have hr : Reads Tryz.prog L4 4 1 (.slice (some ⟨nb, 0, none⟩) 1 1) (Wd.c w).toArray := by
         have := bY (P := Tryz.prog) (sz := 4) (n := 1) (len := 1) (cap := 1) (o := 0) hA.self (by show 0 + 1 * 4 ≤ 4; decide);exact this
       co_applyP oeN rfl (fun hnd => lj (a := ag3) (by_ := 31) (xs := wcs (goneW (ws.take i))) (n := (goneW (ws.take i)).length) (m := 1) (hnd := hnd) (hu := Tryz.underlying38) (hs := ez) (hb := uI) (hz := uH) (hzs := rfl) (hN := fun cs => hN _ _) (ha := hg3.mono fun c hc o ho => hA.sub _ ho) (hn := eC _) (hr := hr) (hm := rfl) (hpl := rfl) (h0 := by decide) (h8 := by omega));rintro _ L5 ⟨ag', rfl, hp⟩;co_applyP oy rfl ak;co_applyP ah;change _ = _ ∧ _ ∧ ∃ ab ag, _ ∧ _ ∧ _ ∧ _ ∧ kn _ _;rw [if_pos h4'] at hog;refine ⟨rfl, ⟨hp.fn, fun t ht => hp.sub _ (hA.sub _ (hE3.s _ ht)) (hgn3 t ht)⟩, ab3, ag', ?_, hbn3, ?_, fun t ht e => ?_, ?_⟩
       · refine hb3.mono fun q hq o ho => hp.sub _ (hA.sub _ ho) fun e => ?_;have m1 := hg3.mem e;have m2 := hb3.mem hq;exact absurd (hE3.f _ _ _ _ _ m1 m2).2 (aE (by decide))
       · rw [hog, pX]; exact hp.ok
       · rcases hp.d _ e with h | h
         · exact hgn3 t ht h
         · exact h _ (hA.sub _ (hE3.s _ ht)) rfl
       · rw [hog, List.length_append]; rfl
     intro h4;co_applyP aB;change _ = _ ∧ _ ∧ ∃ ab ag, _ ∧ _ ∧ _ ∧ _ ∧ kn _ _;have h4' : ¬ w.2.1 = 4 := by simpa using h4
     rw [if_neg h4', List.append_nil] at hog;exact ⟨rfl, hE3, ab3, ag3, hb3, hbn3, by rw [hog]; exact hg3, hgn3, by rw [hog]; rfl⟩;rintro s'' ε'' L4 ⟨rfl, hE4, ab4, ag4, hb4, hbn4, hg4, hgn4, he4⟩;co_applyP a0 he4;co_applyP aa;co_applyP oy rfl aj;co_applyP oy rfl ba;co_applyP oy rfl ak;co_applyP ah;change ∃ k', k' < _ ∧ _;exact ⟨c - 1, by omega, rfl, hE4, i + 1, ab4, ag4, by omega, by omega, hb4, hbn4, hg4, hgn4, by rw [← ei]; rfl⟩
   intro hlt;have hi' : i = ws.length := by simp at hlt; omega
   subst hi';rw [List.take_length] at hb hg he;co_applyP bJ;change wpE ..;co_applyP aa;co_applyP oy rfl aj;co_applyP oy rfl aj;co_applyP oy rfl wD;co_applyP oy rfl ak;co_applyP ah;change ∃ k', k' < _ ∧ _;have e2 : IntKind.i64.wrap ((t : Int) - (t : Int)) = 0 := by simp [IntKind.wrap_i64]
   exact ⟨0, by omega, .inr ⟨rfl, N, A1, S1, ab, ag, rfl, hAb1, hR1.ext hE, hb, hg, by rw [List.take_length, e2]; rfl⟩⟩
 intro h1;obtain ⟨N, A', S', ab, ag, rfl, hAb', hR', hb, hg, he⟩ : ∃ N A' S' ab ag, s' = (nn, N :: s) ∧ Ab S' (St.runs t T) ∧ Rep K A' S' Fr L' ∧ slOk ab (u8s (outB ws)) 5 L' ∧ slOk ag (wcs (goneW ws)) 51 L' ∧ kn ε' [(1, .int .i64 0), (7, rowv ab 1 (outB ws).length), (8, rowv ag 4 (goneW ws).length)] := by
   rcases hk with ⟨a, _⟩ | ⟨_, a⟩
   · exact absurd a h1
   · exact a
 co_applyP a0 he;co_applyP ae (n₂ := 0);co_applyP ae;co_applyP aa;co_applyP oy rfl aj;co_applyP oy rfl dM;co_applyP ah;change wpE ..;co_applyP aq rfl;co_applyP bJ;change wpE ..;co_applyP ae;co_applyP aa;co_applyP oy rfl aj;co_applyP oy rfl (mj (ha := hb));co_applyP oy rfl aj;co_applyP oy rfl ak;co_applyP oy rfl ak;co_applyP oy rfl ak;co_applyP ah;change wpE ..;co_applyP aJ;change ∃ v, resE3 _ _ = some v ∧ _;refine ⟨.tuple #[strv (outB ws), rowv ag 4 (goneW ws).length, .bool true], ?_, N, A', S', ws, ag, rfl, hws, rfl, hAb', hR', hg⟩;generalize rowv ag 4 (goneW ws).length = v5;generalize strv (outB ws) = v4;rfl
theorem uJ : ∀ {a b : List Wd}, a.map Wd.v = b.map Wd.v → a = b
 | [], [], _ => rfl
 | [], _ :: _, h => by simp at h
 | _ :: _, [], h => by simp at h
 | (x1, x2, x3, x4) :: a, (y1, y2, y3, y4) :: b, h => by
   simp only [List.map_cons, List.cons.injEq] at h;have h1 : (Value.agg #[.int .i64 x1, .int .i64 x2, .int .i64 x3, .int .i64 x4]) = .agg #[.int .i64 y1, .int .i64 y2, .int .i64 y3, .int .i64 y4] := h.1;simp only [Value.agg.injEq, Array.mk.injEq, List.cons.injEq, Value.int.injEq, true_and, and_true] at h1;obtain ⟨e1, e2, e3, e4⟩ := h1;rw [e1, e2, e3, e4, uJ h.2]
def knownI : List Int := trapI 11 [65] ++ trapI 0 [7]
def knownW : List Wd := [(0, 1, 1, 0), (1, 1, 1, 1), (1, 3, 1, 65), (2, 1, 1, 2), (3, 1, 1, 3), (3, 4, 1, 7)]
theorem wq : (St.evs 10 (St.fresh (cfgf 4 4 4) (cfgb 20) knownI 1), (St.runs 10 (St.fresh (cfgf 4 4 4) (cfgb 20) knownI 1)).ps.map fun q => q.2.st) = (knownW.map Wd.v, [6]) := by kernel_rfl
theorem kw : Byt knownI := by
 intro n hn;have : ∀ n ∈ knownI, 0 ≤ n ∧ n < 256 := by decide
 exact this n hn
section
variable {N : Nat} {ε : Env} {L : Frag} {d : Option Tmp} {ty : TypeId} {ps : String} {af : Array Edge} {g : Option (Nat × Bool)} {x y : Operand} {P : Program} {t u : TypeId}
theorem zL {a b : Value} {r : Bool} (hg : evR P (eqGuard .eql t x y a b) [] = some ((), [])) (hb : evR P (binOp .eql t a b) [] = some (.bool r, [])) (hx : ev ε x = some a := by rfl) (hy : ev ε y = some b := by rfl) : EY P N ε L ⟨d, .binOp .eql t x y u, ty, ps, af, g⟩ (.bool r) := fun ac ha => by
 refine cw (fun _ => rfl) fun K hK => ?_;rw [ha.ev hx, ha.ev hy];show wpQ P (eqGuard .eql t x y a b >>= fun _ => binOp .eql t a b) K L;rw [au];exact a7 hg (a7 hb hK)
end
theorem zM (x y : Operand) : evR Tryz.prog (eqGuard .eql 51 x y (evt 3 4 1 7) (evt 3 4 1 7)) [] = some ((), []) := by kernel_rfl
theorem zN : evR Tryz.prog (binOp .eql 51 (evt 3 4 1 7) (evt 3 4 1 7)) [] = some (.bool true, []) := by kernel_rfl
theorem zO {L : Frag} {b : Nat} {v : Int} (h : (b, true, Obj.cells #[.int .i64 v] 3) ∈ L) : ∀ i, i < [v].length → ∃ b', (some ⟨b, 0, none⟩ : Option Addr) = some ⟨b', 0, none⟩ ∧ At L b' i (.int .i64 ([v].getD i 0)) := fun i hi => by
 obtain rfl : i = 0 := by simp at hi; omega
 exact ⟨b, rfl, true, _, _, _, h, rfl⟩
theorem pY {c : Int} (h : 0 ≤ c ∧ c < 100 := by decide) : I64 c := ⟨by omega, by omega⟩
theorem gH {a : Sl} {xs : List Value} {e : TypeId} {L : Frag} (h : slOk a xs e L) (hn : 0 < xs.length) : ∃ g, a.b = some g := by
 cases hab : a.b with
 | some g => exact ⟨g, rfl⟩
 | none =>
   unfold slOk at h;rw [hab] at h;rw [h.1] at hn;cases hn
set_option maxHeartbeats 1000000 in
theorem p6 : ∃ k, ∀ {Fin : Value → World → Prop} {W : World} {O : Nat} (nn : Nat) (s : List Nat) (L : Frag) (eb : Nat → Nat × Nat), Fun L → Ers eb L →
   CallsL (F := FZ Tryz.prog Fin) (fun s => dom0 (Shs s.2) W O) Tryz.prog true 26 [].toArray k (nn + 1, s) L (fun s' v L' => ∃ N, s' = (nn, N :: s) ∧ v = .bool true ∧ Ext L L') := by
 obtain ⟨n1, gc⟩ := kl;obtain ⟨n2, gt⟩ := yk;obtain ⟨n3, gk⟩ := nH;obtain ⟨n4, gpr⟩ := rN;obtain ⟨n5, gp⟩ := pU;apply Exists.intro;intro Fin W O nn s L eb hF hE;have hN : ∀ (s : Nat × List Nat) (o : Obj), (dom0 (Shs s.2) W O).New o := fun _ _ => trivial;co_applyP ay 52 Tryz.func26 Tryz.ntmps26;co_applyP ae;co_applyP aa;co_applyP oy rfl ak;co_applyP ah;change wpE ..;co_applyP ae;co_applyP aa;co_applyP ocm rfl rfl rfl (gc L 4 4 4 20 hN hF pY pY pY pY);rintro _ _ _ ⟨rfl, rfl, hE1⟩;co_applyP bM rfl (iN (hN _ _) (hu := Tryz.underlying54) (hs := cZ) (hz := vM));intro b1 L2 hA1;co_applyP oc rfl rfl rfl (gt L2 11 [65] (some ⟨b1, 0, none⟩) 1 hN hA1.fn (by decide) (zO hA1.self));rintro _ _ _ ⟨rfl, rfl, hE2⟩;co_applyP bM rfl (iN (hN _ _) (hu := Tryz.underlying54) (hs := cZ) (hz := vM));intro b2 L4 hA2;co_applyP oc rfl rfl rfl (gt L4 0 [7] (some ⟨b2, 0, none⟩) 1 hN hA2.fn (by decide) (zO hA2.self));rintro _ _ _ ⟨rfl, rfl, hE3⟩;co_applyP oy rfl o5;rename_i L5;have hX : Ext L L5 := ⟨hE3.f, fun t h => hE3.s _ (hA2.sub _ (hE2.s _ (hA1.sub _ (hE1.s _ h))))⟩;have hok := mh 4 4 4 20;have hoi : oki knownI.length = true := by decide
 co_applyP oc rfl rfl rfl (gk L5 (cfgf 4 4 4) (cfgb 20) knownI hN hX.f kw hok hoi);rintro _ _ _ ⟨rfl, K, A0, b0, rfl, hR0⟩;co_applyP oy rfl ak;co_applyP ah;change wpE ..;co_applyP ae;co_applyP ae;co_applyP aa;co_applyP oy rfl aj;co_applyP oy rfl (ey (hu := Tryz.underlying35));co_applyP ah;change wpE ..;co_applyP aq rfl;co_applyP aB;change wpE ..;co_applyP ae;co_applyP aa;co_applyP oy rfl aj;have hAb0 := ko (b := b0) hok hoi kw;co_applyP ocm rfl rfl rfl (gpr nn s K A0 _ _ L5 _ eb 10 hR0 (hE.mono hX.s) hAb0 (by decide) (by decide) (by show (0 : Nat) < _; decide));rintro _ _ _ ⟨N, A1, S1, ws, ag, rfl, hws, rfl, hAb1, hR1, hg⟩;rename_i L6;obtain ⟨kr1, kr2⟩ := Prod.mk.inj wq;obtain rfl : ws = knownW := uJ (hws.symm.trans kr1);obtain ⟨gg, hgg⟩ := gH hg (by decide);have er1 : rowv ag 4 (goneW knownW).length = .slice (some ⟨gg, 0, none⟩) 1 (1 + ag.junk.length / 4) := by unfold rowv; rw [hgg]; rfl
 rw [er1, show outB knownW = [65] from rfl];obtain ⟨Nm, hTI, hmap⟩ := hAb1.ex;have h1' : S1.ps.map (fun q => q.2.st) = [6] := by
   rw [hmap] at kr2;simpa [St.map, Function.comp_def] using kr2
 obtain ⟨⟨b, x⟩, hps⟩ : ∃ q, S1.ps = [q] := List.length_eq_one_iff.1 (by simpa using congrArg List.length h1');rw [hps] at h1';have hst : x.st = 6 := by simpa using h1'
 co_applyP oy rfl aj;co_applyP oy rfl bz;co_applyP oy rfl bz;co_applyP oy rfl bz;co_applyP oy rfl ak;co_applyP oy rfl ak;co_applyP oy rfl ak;co_applyP ah;change wpE ..;co_applyP ae;co_applyP aa;co_applyP oy rfl aj;co_applyP oc rfl rfl rfl (gp K A1 S1 L5 L6 hN hR1);rintro _ _ _ ⟨rfl, a, rfl, ha, han, hEp⟩;rename_i L7;obtain ⟨ap, hap⟩ := gH ha (by rw [cu, hps]; exact Nat.succ_pos _);have er2 : rowv a 15 S1.ps.length = .slice (some ⟨ap, 0, none⟩) 1 (1 + a.junk.length / 15) := by unfold rowv; rw [hap, hps]; rfl
 rw [er2];have hpm : (ap, true, Obj.cells (heads [(b, x)] ++ a.junk).toArray 49) ∈ L7 := by
   have := ha.mem hap;rw [hps] at this;exact this
 have hgm : (gg, true, Obj.cells (wcs (goneW knownW) ++ ag.junk).toArray 51) ∈ L7 := hEp.s _ (hg.mem hgg);have hy2 : At L7 ap 2 (.int .i64 (x.st : Nat)) := ⟨true, _, _, _, hpm, rfl⟩;rw [hst] at hy2;have hE7 : Ext L L7 := ⟨hEp.f, fun t h => hEp.s _ (hR1.fr _ (hX.s _ h))⟩;have hex : Value.agg ((wcs (goneW knownW) ++ ag.junk).toArray.extract 0 (0 + 4)) = evt 3 4 1 7 := by
   simp only [List.extract_toArray, List.extract_eq_take_drop];rfl
 co_applyP oy rfl ak;co_applyP ah;change wpE ..;co_applyP ae;co_applyP aa;co_applyP oy rfl aj;co_applyP oy rfl aj;co_applyP oy rfl (aj);co_applyP oy rfl (zF (l := [65]) (m := [65]) (hl := by intro n hn; simp at hn; omega) (hm := by intro n hn; simp at hn; omega));co_applyP oy rfl aS;co_applyP oy rfl aj;co_applyP oy rfl (aj);co_applyP oy rfl ((bp (hu := Tryz.underlying38)));co_applyP oy rfl (aA);co_applyP oy rfl aS;co_applyP oy rfl aj;co_applyP oy rfl (aj);co_applyP oy rfl ((bu Tryz.underlying38 ez));co_applyP oy rfl (aX (ht := po) (hs := ez) (hm := hgm) (hi := by rw [List.size_toArray, List.length_append, eC]; show 0 + 4 ≤ 1 * 4 + _; omega));rw [hex];co_applyP oy rfl (bm (wV 3 4 1 7));co_applyP oy rfl (zL (zM _ _) zN);co_applyP oy rfl aS;co_applyP oy rfl aj;co_applyP oy rfl (aj);co_applyP oy rfl ((bp (hu := Tryz.underlying42)));co_applyP oy rfl (aA);co_applyP oy rfl aS;co_applyP oy rfl aj;co_applyP oy rfl (aj);co_applyP oy rfl ((bu Tryz.underlying42 eO));co_applyP oy rfl ((av (hf := cG)));co_applyP oy rfl (aF (ht := a5) (hv := hy2));co_applyP oy rfl (aA);co_applyP oy rfl aS;co_applyP oy rfl ak;co_applyP ah;change wpE ..;co_applyP aJ;change ∃ v, resE .. = some v ∧ _;exact ⟨_, rfl, N, rfl, rfl, hE7⟩
end Go.Proofs.YtejkelcaljmnoaaGreatDoor
namespace Go.Lo
open Go.Conc Go.Hx
def Same (P : Program) (d : Nat) (t : TypeId) (v : Value) : Prop := ∀ {K : Bool → Prop} {L : Frag}, K true → wpQ P (Op.equalIn d t v v) K L
section
variable {P : Program} {N : Nat} {ε : Env} {L : Frag} {d : Option Tmp} {ty : TypeId} {ps : String} {af : Array Edge} {g : Option (Nat × Bool)} {x y : Operand} {t u : TypeId}
theorem kx {d : Nat} {k k' : IntKind} {a : Int} (h : P.underlying t = some (.int k')) : Same P (d + 1) t (.int k a) := fun hK => dK h (by rw [beq_self_eq_true]; exact hK)
theorem iX {d : Nat} {xs : Array Value} {fs : Array Field} (ht : P.underlying t = some (.struct fs)) (hp : P.stoodInHeld t = false) (h : ∀ f ∈ fs.toList, ∃ v, evR P (part f.type xs f.offset) [] = some (v, []) ∧ Same P d f.type v) : Same P (d + 1) t (.agg xs) := fun {K L} hK => by
 refine ee ht hp ?_;generalize fs.toList = l at h
 induction l with
 | nil => exact hK
 | cons f l ih =>
   have hr := ih fun f hf => h f (List.mem_cons_of_mem _ hf);simp only [Op.eqFields]
   split
   · obtain ⟨v, h1, h2⟩ := h f List.mem_cons_self;simp only [au];refine a7 h1 (a7 h1 (h2 ?_));simpa using hr
   · exact hr
theorem o7 {d n z : Nat} {e : TypeId} {xs : Array Value} (ht : P.underlying t = some (.array n e)) (hz : sizeAt P e = some z) (h : ∀ i, i < n → ∃ v, evR P (part e xs (i * z)) [] = some (v, []) ∧ Same P d e v) : Same P (d + 1) t (.agg xs) := fun {K L} hK => by
 rw [Op.equalIn.eq_def, au, aM ht];simp only;rw [au, cf hz];simp only [Std.Legacy.Range.forIn_eq_forIn_range', Std.Legacy.Range.size, Nat.sub_zero, Nat.add_one_sub_one, Nat.div_one];have hr : ∀ i ∈ List.range' 0 n, ∃ v, evR P (part e xs (i * z)) [] = some (v, []) ∧ Same P d e v := fun i hi => h i (by simpa using hi);generalize List.range' 0 n = l at hr
 induction l with
 | nil => exact hK
 | cons i l ih =>
   have hr' := ih fun f hf => hr f (List.mem_cons_of_mem _ hf);simp only [List.forIn_cons, au];obtain ⟨v, h1, h2⟩ := hr i List.mem_cons_self;refine a7 h1 (a7 h1 (h2 ?_));simpa [au, bH] using hr'
theorem xa {xs : Array Value} (H : Same P 10000 t (.agg xs)) (hg : ∀ x y, evR P (eqGuard .neq t x y (.agg xs) (.agg xs)) [] = some ((), [])) (hx : ev ε x = some (.agg xs) := by rfl) (hy : ev ε y = some (.agg xs) := by rfl) : EY P N ε L ⟨d, .binOp .neq t x y u, ty, ps, af, g⟩ (.bool false) := fun a ha => by
 refine cw (fun _ => rfl) fun K hQ => ?_;rw [ha.ev hx, ha.ev hy, au];refine a7 (hg _ _) ?_;show wpQ P (do pure (.bool (!(← Op.equal t (.agg xs) (.agg xs))))) K L;rw [au, cW];exact H hQ
end
end Go.Lo
namespace Go.Proofs.YtejkelcaljmnoaaGreatDoor
open Go.Conc Go.Hx Go.Lo
def WL (L : Frag) (base : Option Addr) (ws : List Wd) : Prop := ∀ i w, ws[i]? = some w → ∃ g cs, base = some ⟨g, 0, none⟩ ∧ (g, true, Obj.cells cs 51) ∈ L ∧ i * 4 + 4 ≤ cs.size ∧ cs.extract (i * 4) (i * 4 + 4) = (Wd.c w).toArray
theorem wu {ws : List Wd} {i : Nat} {w : Wd} (h : ws[i]? = some w) (l : List Value) : ((wcs ws ++ l).toArray.extract (i * 4) (i * 4 + 4)) = (Wd.c w).toArray := by
 have hi := (List.getElem?_eq_some_iff.1 h).1;apply Array.ext';apply List.ext_getElem?;intro j;by_cases hj : j < 4
 · simp only [Array.toList_extract, List.extract_eq_take_drop];rw [List.getElem?_take_of_lt (by omega), List.getElem?_drop, List.getElem?_append_left (by rw [eC]; omega), Nat.mul_comm i 4, uF ws i w h j hj]
 · rw [List.getElem?_eq_none (by simp; omega), List.getElem?_eq_none (by show 4 ≤ j; omega)]
theorem ml {L : Frag} {a : Sl} {ws : List Wd} (ha : slOk a (wcs ws) 51 L) : ∃ base cap, rowv a 4 ws.length = .slice base ws.length cap ∧ WL L base ws := by
 cases hab : a.b with
 | none =>
   unfold slOk at ha;rw [hab] at ha;have h0 := ha.1;have : ws = [] := by
     have h1 := congrArg List.length h0;rw [eC] at h1;exact List.length_eq_zero_iff.1 (by simp at h1; omega)
   subst this;exact ⟨none, 0, by unfold rowv; rw [hab]; rfl, fun i w hw => by simp at hw⟩
 | some b =>
   refine ⟨some ⟨b, 0, none⟩, _, by unfold rowv; rw [hab], fun i w hw => ⟨b, _, rfl, ha.mem hab, ?_, wu hw _⟩⟩;have hi := (List.getElem?_eq_some_iff.1 hw).1;simp only [List.size_toArray, List.length_append, eC];omega
theorem iY {told : Value} {ws : List Wd} {L : Frag} (h : Heard told (ws.map Wd.v) L) : ∃ a, told = rowv a 4 ws.length ∧ slOk a (wcs ws) 51 L := by
 rcases h with ⟨rfl, h0⟩ | ⟨g, cap, cur, rfl, hg, hn, hc, hz, ht⟩
 · have : ws = [] := by simpa using h0
   subst this;exact ⟨⟨none, []⟩, rfl, rfl, rfl⟩
 · rw [List.length_map] at hn ht ⊢;have e : cur.toList.take (ws.length * 4) = wcs ws := by rw [ht, List.flatMap_map]; rfl
   have e2 : (wcs ws ++ cur.toList.drop (ws.length * 4)).toArray = cur := by
     rw [← e, List.take_append_drop]
   refine ⟨⟨some g, cur.toList.drop (ws.length * 4)⟩, ?_, ?_⟩
   · unfold rowv;simp only [List.length_drop, Array.length_toList];have : ws.length + (cur.size - ws.length * 4) / 4 = cap := by omega
     rw [this]
   · show (g, true, Obj.cells (wcs ws ++ cur.toList.drop (ws.length * 4)).toArray 51) ∈ L;rw [e2]; exact hg
theorem lq : ∀ (ws : List Wd), (wcs ws).all plainV = true
 | [] => rfl
 | w :: ws => by
   show (Wd.c w ++ wcs ws).all plainV = true;rw [List.all_append, lq ws]; rfl
theorem nK : ∀ (vs : List Value) (cs : Array Value) (o i : Nat), o + vs.length ≤ i → (puts cs o vs)[i]? = cs[i]?
 | [], cs, o, i, _ => rfl
 | v :: vs, cs, o, i, h => by
   simp only [List.length_cons] at h;show (puts (cs.setIfInBounds o v) (o + 1) vs)[i]? = _;rw [nK vs _ _ _ (by omega), Array.getElem?_setIfInBounds, if_neg (by omega)]
theorem lr : ∀ (vs : List Value) (cs : Array Value) (o : Nat), (puts cs o vs).size = cs.size
 | [], cs, o => rfl
 | v :: vs, cs, o => by
   show (puts (cs.setIfInBounds o v) (o + 1) vs).size = _;rw [lr vs]; simp
theorem iu : ∀ (l : List (Nat × PS)) {i : Nat} {q : Nat × PS}, l[i]? = some q → ∀ j, j < 15 → (heads l)[i * 15 + j]? = (phead q.2)[j]?
 | [], i, q, h, _, _ => by simp at h
 | r :: l, 0, q, h, j, hj => by
   obtain rfl : r = q := by simpa using h
   show (phead r.2 ++ heads l)[0 * 15 + j]? = _;rw [List.getElem?_append_left (by show 0 * 15 + j < 15; omega), Nat.zero_mul, Nat.zero_add]
 | r :: l, i + 1, q, h, j, hj => by
   show (phead r.2 ++ heads l)[(i + 1) * 15 + j]? = _;rw [List.getElem?_append_right (by show 15 ≤ (i + 1) * 15 + j; omega), show (i + 1) * 15 + j - (phead r.2).length = i * 15 + j from (by show (i + 1) * 15 + j - 15 = _; omega)];exact iu l (by simpa using h) j hj
theorem lu {l : List (Nat × PS)} {i : Nat} {q : Nat × PS} (h : l[i]? = some q) (m : List Value) : ((heads l ++ m).toArray.extract (i * 15) (i * 15 + 15)) = (phead q.2).toArray := by
 have hi := (List.getElem?_eq_some_iff.1 h).1;apply Array.ext';apply List.ext_getElem?;intro j;by_cases hj : j < 15
 · simp only [Array.toList_extract, List.extract_eq_take_drop];rw [List.getElem?_take_of_lt (by omega), List.getElem?_drop, List.getElem?_append_left (by rw [cu]; omega), iu l h j hj]
 · rw [List.getElem?_eq_none (by simp; omega), List.getElem?_eq_none (by show 15 ≤ j; omega)]
theorem ym (w : Wd) : Same Tryz.prog 10000 51 (.agg (Wd.c w).toArray) := by
 refine iX (d := 9999) Tryz.underlying51 (by kernel_rfl) ?_;have k : ∀ a : Int, Same Tryz.prog 9999 3 (.int .i64 a) := fun a => kx (d := 9998) Tryz.underlying3;refine List.forall_mem_cons.2 ⟨⟨.int .i64 w.1, by kernel_rfl, k _⟩, List.forall_mem_cons.2 ⟨⟨.int .i64 w.2.1, by kernel_rfl, k _⟩, List.forall_mem_cons.2 ⟨⟨.int .i64 w.2.2.1, by kernel_rfl, k _⟩, List.forall_mem_cons.2 ⟨⟨.int .i64 w.2.2.2, by kernel_rfl, k _⟩, ?_⟩⟩⟩⟩;intro f hf;cases hf
theorem yn (r : Nat → Int) : Same Tryz.prog 9999 47 (.agg ((List.range 8).map fun i => Value.int .u16 (r i)).toArray) := by
 refine o7 (d := 9998) Tryz.underlying47 a8 fun i hi => ⟨.int .u16 (r i), ?_, kx (d := 9997) Tryz.underlying32⟩;rcases i with _ | _ | _ | _ | _ | _ | _ | _ | i <;> first | omega | kernel_rfl
theorem yo (z : PS) : Same Tryz.prog 10000 49 (.agg (phead z).toArray) := by
 refine iX (d := 9999) Tryz.underlying49 (by kernel_rfl) ?_;have k : ∀ a : Int, Same Tryz.prog 9999 3 (.int .i64 a) := fun a => kx (d := 9998) Tryz.underlying3;refine List.forall_mem_cons.2 ⟨⟨.int .i64 z.id, by kernel_rfl, k _⟩, List.forall_mem_cons.2 ⟨⟨.int .i64 z.par, by kernel_rfl, k _⟩, List.forall_mem_cons.2 ⟨⟨.int .i64 z.st, by kernel_rfl, k _⟩, List.forall_mem_cons.2 ⟨⟨.int .i64 z.stat, by kernel_rfl, k _⟩, ?_⟩⟩⟩⟩;refine List.forall_mem_cons.2 ⟨⟨.int .i64 z.at_, by kernel_rfl, k _⟩, List.forall_mem_cons.2 ⟨⟨.int .i64 z.lv, by kernel_rfl, k _⟩, List.forall_mem_cons.2 ⟨⟨.int .i64 z.used, by kernel_rfl, k _⟩, List.forall_mem_cons.2 ⟨⟨_, by kernel_rfl, yn z.r⟩, ?_⟩⟩⟩⟩;intro f hf;cases hf
theorem yp (w : Wd) (x y : Operand) : evR Tryz.prog (eqGuard .neq 51 x y (.agg (Wd.c w).toArray) (.agg (Wd.c w).toArray)) [] = some ((), []) := by kernel_rfl
theorem yq (z : PS) (x y : Operand) : evR Tryz.prog (eqGuard .neq 49 x y (.agg (phead z).toArray) (.agg (phead z).toArray)) [] = some ((), []) := by kernel_rfl
section
variable {P : Program} {N : Nat} {ε : Env} {L : Frag} {d : Option Tmp} {ty : TypeId} {ps : String} {af : Array Edge} {g : Option (Nat × Bool)} {x y : Operand} {t u : TypeId}
theorem zP {l : List Int} (hx : ev ε x = some (strv l) := by rfl) (hy : ev ε y = some (strv l) := by rfl) : EY P N ε L ⟨d, .binOp .neq t x y u, ty, ps, af, g⟩ (.bool false) := fun a ha => by
 refine cw (fun _ => rfl) fun K hK => ?_;rw [ha.ev hx, ha.ev hy];have e1 : eqGuard .neq t x y (strv l) (strv l) = pure () := by unfold eqGuard strv; rfl
 show wpQ P (eqGuard .neq t x y (strv l) (strv l) >>= fun _ => binOp .neq t (strv l) (strv l)) K L;rw [e1];show K (.bool _);simpa using hK
end
set_option maxHeartbeats 1000000 in
theorem wv : ∃ k, ∀ {Fin : Value → World → Prop} {W : World} {O : Nat} (a b c d : Int) (l : List Int) (v5 : Value) (L : Frag) (eb : Nat → Nat × Nat), I64 a → I64 b → I64 c → I64 d → Byt l → oki l.length = false → Fun L → Ers eb L →
   CallsL (F := FZ Tryz.prog Fin) (fun s => dom0 (Shs s.2) W O) Tryz.prog true 10 [.int .i64 a, .int .i64 b, .int .i64 c, .int .i64 d, strv l, v5].toArray k (1, []) L (fun s' v L' => s'.1 = 0 ∧ v = .bool true) := by
 obtain ⟨n1, gn⟩ := p6;obtain ⟨n2, gc⟩ := kl;obtain ⟨n3, gk⟩ := uy;apply Exists.intro;intro Fin W O a b c d l v5 L eb ha hb hc hd hl hoi hF hE;have hN : ∀ (s : Nat × List Nat) (o : Obj), (dom0 (Shs s.2) W O).New o := fun _ _ => trivial;co_applyP ay 195 Tryz.func10 Tryz.ntmps10;co_applyP ae;co_applyP aa;co_applyP oy rfl ak;co_applyP ah;change wpE ..;co_applyP ae;co_applyP aa;co_applyP oc rfl rfl rfl (gn 0 [] L eb hF hE);rintro _ _ _ ⟨N0, rfl, rfl, hE0⟩;co_applyP oy rfl ak;co_applyP ah;change wpE ..;co_applyP ae;co_applyP aa;co_applyP oy rfl aj;co_applyP oy rfl aj;co_applyP oy rfl aj;co_applyP oy rfl aj;rename_i L0;co_applyP ocm rfl rfl rfl (gc L0 a b c d hN hE0.f ha hb hc hd);rintro _ _ _ ⟨rfl, rfl, hE1⟩;rename_i L1;co_applyP bM rfl (dN (z := .agg #[.int .i64 0, .int .i64 0, .int .i64 0, .int .i64 0]) (hN _ _));intro xr L2 hA;co_applyP oeN rfl (fun hnd => eM (hs := eN) (vs := [.int .i64 (cfgf a b c 0), .int .i64 (cfgf a b c 1), .int .i64 (cfgf a b c 2), .int .i64 (cfgb d)]) (hnd := hnd) (hm := hA.self) (hi := Nat.le_refl _));rintro _ L3 ⟨rfl, hU⟩;co_applyP ah;change wpE ..;co_applyP ae;co_applyP aa;have hok := mh a b c d;co_applyP oy rfl (aX (ht := gd) (hs := eN) (hm := hU.self) (hi := by show 0 + 4 ≤ 4; decide));co_applyP oy rfl aj;co_applyP oc rfl rfl rfl (gk L3 (cfgf a b c) (cfgb d) l hN hU.fn hl hok hoi);rintro _ _ _ ⟨rfl, rfl, hE4⟩;co_applyP oy rfl ak;co_applyP ah;change wpE ..;co_applyP ae;co_applyP aa;rename_i L4;co_applyP oy rfl (aX (ht := gd) (hs := eN) (hm := hE4.s _ hU.self) (hi := by show 0 + 4 ≤ 4; decide));co_applyP oy rfl aj;co_applyP oc rfl rfl rfl (gk L4 (cfgf a b c) (cfgb d) l hN hE4.f hl hok hoi);rintro _ _ _ ⟨rfl, rfl, hE5⟩;co_applyP oy rfl ak;co_applyP ah;change wpE ..;co_applyP ae (n₂ := 0);co_applyP ae;co_applyP aa;co_applyP oy rfl aj;co_applyP oy rfl (ey (hu := Tryz.underlying35));co_applyP oy rfl aj;co_applyP ou rfl;co_applyP ou rfl;co_applyP oy rfl aS;co_applyP oy rfl aj;co_applyP ou rfl;co_applyP ou rfl;co_applyP oy rfl aS;co_applyP ah;change wpE ..;co_applyP aV rfl;co_applyP ae;co_applyP aa;co_applyP oy rfl aj;co_applyP oy rfl aj;co_applyP oy rfl (aj);co_applyP oy rfl ((ey (hu := Tryz.underlying35)));co_applyP oy rfl aS;co_applyP oy rfl aj;co_applyP oy rfl (aj);co_applyP oy rfl ((ey (hu := Tryz.underlying35)));co_applyP oy rfl aS;co_applyP oy rfl ak;co_applyP ah;change wpE ..;co_applyP aJ;change ∃ v, resE .. = some v ∧ _;exact ⟨_, rfl, rfl, rfl⟩
theorem Ab.snd {S T : St} (h : Ab S T) : S.ps.map (·.2) = T.ps.map (·.2) := by
 obtain ⟨N, _, rfl⟩ := h.ex;simp [St.map, Function.comp_def]
theorem uK {S S' : St} (h : S.ps.map (·.2) = S'.ps.map (·.2)) (id : Int) : (S.find id).map (·.2) = (S'.find id).map (·.2) := by
 have e : ∀ S : St, (S.find id).map (·.2) = (S.ps.map (·.2)).find? fun x => (x.id : Int) == id := fun S => by
   unfold St.find;rw [List.find?_map]; rfl
 rw [e, e, h]
theorem p9 {S : St} {i : Nat} {q : Nat × PS} (h : S.ps[i]? = some q) : ∃ b x, S.find (q.2.id : Nat) = some (b, x) := by
 cases hf : S.find (q.2.id : Nat) with
 | some r => exact ⟨r.1, r.2, rfl⟩
 | none =>
   unfold St.find at hf;have := List.find?_eq_none.1 hf q (List.mem_of_getElem? h);simp at this
theorem iJ {a : Sl} {xs : List Value} {e : TypeId} {L : Frag} {sz n : Nat} (h : slOk a xs e L) (hn : 0 < xs.length) : ∃ g, a.b = some g ∧ rowv a sz n = .slice (some ⟨g, 0, none⟩) n (n + a.junk.length / sz) ∧ (g, true, Obj.cells (xs ++ a.junk).toArray e) ∈ L := by
 obtain ⟨g, hg⟩ := gH h hn;exact ⟨g, hg, by unfold rowv; rw [hg], h.mem hg⟩
theorem yr : evR Tryz.prog (Instr.build 49 ([] : List (Nat × Value)).toArray) [] = some (.agg (phead PS.zero).toArray, []) := by kernel_rfl
theorem uL {N : Nat → Nat} {S : St} (h : TI N S) : 0 < S.ps.length := by
 obtain ⟨q, hq, _⟩ := h.m.x.p1;exact List.length_pos_of_mem hq
theorem ww (x : PS) : mems x = u8s ((List.range 64).map x.m) := by simp [mems, Function.comp_def]
set_option maxHeartbeats 4000000 in
theorem wy : ∃ k, ∀ {Fin : Value → World → Prop} {W : World} {O : Nat} (a b c d : Int) (l : List Int) (cb : Option Addr) (cap m : Nat) (cs : List Int) (L : Frag) (eb : Nat → Nat × Nat), I64 a → I64 b → I64 c → I64 d → Byt l → oki l.length = true → m = min cs.length 20 → (∀ i x, cs[i]? = some x → I64 x ∧ ∃ g o, cb = some ⟨g, o, none⟩ ∧ At L g (o + i) (.int .i64 x)) → Fun L → Ers eb L →
   CallsL (F := FZ Tryz.prog Fin) (fun s => dom0 (Shs s.2) W O) Tryz.prog true 10 [.int .i64 a, .int .i64 b, .int .i64 c, .int .i64 d, strv l, .slice cb cs.length cap].toArray k (m + 1 + 1, []) L (fun s' v L' => s'.1 = 0 ∧ v = .bool true) := by
 obtain ⟨n1, gn⟩ := p6;obtain ⟨n2, gc⟩ := kl;obtain ⟨n3, gk⟩ := nH;obtain ⟨n4, gpick⟩ := ux;obtain ⟨n5, gr⟩ := wZ;obtain ⟨n6, gp⟩ := pU;obtain ⟨n7, gm⟩ := ur;apply Exists.intro;intro Fin W O a b c d l cb cap m cs L eb ha hb hc hd hl hoi hm hcs hF hE;have hN : ∀ (s : Nat × List Nat) (o : Obj), (dom0 (Shs s.2) W O).New o := fun _ _ => trivial;co_applyP ay 195 Tryz.func10 Tryz.ntmps10;co_applyP ae;co_applyP aa;co_applyP oy rfl ak;co_applyP ah;change wpE ..;co_applyP ae;co_applyP aa;co_applyP oc rfl rfl rfl (gn (m + 1) [] L eb hF hE);rintro _ _ _ ⟨N0, rfl, rfl, hE0⟩;co_applyP oy rfl ak;co_applyP ah;change wpE ..;co_applyP ae;co_applyP aa;co_applyP oy rfl aj;co_applyP oy rfl aj;co_applyP oy rfl aj;co_applyP oy rfl aj;rename_i L0;co_applyP ocm rfl rfl rfl (gc L0 a b c d hN hE0.f ha hb hc hd);rintro _ _ _ ⟨rfl, rfl, hE1⟩;rename_i L1;co_applyP bM rfl (dN (z := .agg #[.int .i64 0, .int .i64 0, .int .i64 0, .int .i64 0]) (hN _ _));intro xr L2 hA;co_applyP oeN rfl (fun hnd => eM (hs := eN) (vs := [.int .i64 (cfgf a b c 0), .int .i64 (cfgf a b c 1), .int .i64 (cfgf a b c 2), .int .i64 (cfgb d)]) (hnd := hnd) (hm := hA.self) (hi := Nat.le_refl _));rintro _ L3 ⟨rfl, hU⟩;co_applyP ah;change wpE ..;co_applyP ae;co_applyP aa;have hok := mh a b c d;have hX3 : ∀ t ∈ L, t ∈ L3 := fun t h => hU.ne _ (hA.sub _ (hE1.s _ (hE0.s _ h))) (hA.new _ (hE1.s _ (hE0.s _ h)));co_applyP oy rfl (aX (ht := gd) (hs := eN) (hm := hU.self) (hi := by show 0 + 4 ≤ 4; decide));co_applyP oy rfl aj;co_applyP oc rfl rfl rfl (gk L3 (cfgf a b c) (cfgb d) l hN hU.fn hl hok hoi);rintro _ _ _ ⟨rfl, K, A0, b0, rfl, hR0⟩;co_applyP oy rfl ak;co_applyP ah;change wpE ..;co_applyP ae;co_applyP aa;rename_i L4;co_applyP oy rfl (aX (ht := gd) (hs := eN) (hm := hR0.fr _ hU.self) (hi := by show 0 + 4 ≤ 4; decide));co_applyP oy rfl aj;co_applyP oc rfl rfl rfl (gk L4 (cfgf a b c) (cfgb d) l hN hR0.fn hl hok hoi);rintro _ _ _ ⟨rfl, M, B0, b1, rfl, hM0⟩;co_applyP oy rfl ak;co_applyP ah;change wpE ..;co_applyP ae;co_applyP ae;rename_i L5;obtain ⟨G, hRK, hM, _⟩ := uD hM0 hR0;have hAb0 := ko (b := b0) hok hoi hl;have hAbM := ko (b := b1) hok hoi hl;have hT0 : (St.fresh (cfgf a b c) (cfgb d) l 1).now = 0 := rfl;generalize St.fresh (cfgf a b c) (cfgb d) l 1 = T at hAb0 hAbM hT0;have hLG : ∀ t ∈ L, t ∈ G := fun t h => hM.fr _ (hX3 t h);have hEG : Ers eb G := hE.mono hLG;co_applyP aa;co_applyP oy rfl aj;co_applyP oy rfl (ey (hu := Tryz.underlying35));co_applyP oy rfl aj;co_applyP oy rfl (aj);co_applyP oy rfl ((ey (hu := Tryz.underlying35)));co_applyP oy rfl aS;co_applyP oy rfl aj;co_applyP oy rfl (aj);co_applyP oy rfl (b5);co_applyP oy rfl aS;co_applyP ah;change wpE ..;co_applyP aq rfl;co_applyP aB;change wpE ..;co_applyP ae;co_applyP aa;co_applyP oy rfl ak;co_applyP ah;change wpE ..;co_applyP ae
 co_applyP aa;co_applyP oy rfl ak;co_applyP ah;change wpE ..;co_applyP ae;co_applyP ae;co_applyP aa;co_applyP oy rfl ak;co_applyP ah;change wpE ..;co_applyP aH;co_applyP bB (fun k s' ε' L' => ∃ i sl A' S' aal tot ws, k + i = 20 ∧ i ≤ m ∧ s' = (m - i + 1, sl) ∧ tot ≤ 39 * i ∧ Ab S' (St.runs tot T) ∧ St.evs tot T = ws.map Wd.v ∧ ws.length ≤ 2 * tot ∧ Rep K A' S' G L' ∧ slOk aal (wcs ws) 51 L' ∧ (∀ t ∈ G, aal.b ≠ some t.1) ∧ kn ε' [(5, .slice cb cs.length cap), (15, ptr K), (16, ptr M), (17, .int .i64 (tot : Nat)), (18, rowv aal 4 ws.length), (19, .int .i64 (i : Nat))]) 20
 · exact ⟨0, _, A0, _, ⟨none, []⟩, 0, [], rfl, Nat.zero_le _, rfl, Nat.le_refl _, hAb0, rfl, Nat.le_refl _, hRK, ⟨rfl, rfl⟩, fun t ht => by simp, rfl⟩
 rintro c0 s' ε' L' ⟨i, sl, A1, S1, aal, tot, ws, hci, him, rfl, htot, hAb1, hws, hwl, hR1, hal, hGn, he⟩;co_applyP a0 he;have ei : IntKind.i64.wrap ((i : Int) + 1) = ((i + 1 : Nat) : Int) := by simp [IntKind.wrap_i64]; omega
 have hnow1 : S1.now ≤ tot := by
   have h1 := hAb1.now;have h2 := pV tot T;omega
 co_applyP ae;co_applyP ae;co_applyP kS ([(73, .bool (decide (i < m))), (5, .slice cb cs.length cap), (15, ptr K), (16, ptr M), (17, .int .i64 (tot : Nat)), (18, rowv aal 4 ws.length), (19, .int .i64 (i : Nat))]);co_applyP aa;co_applyP oy rfl aj;co_applyP oy rfl aj;co_applyP oy rfl (bp (hu := Tryz.underlying54));co_applyP oy rfl bZ;co_applyP oy rfl aj
 · by_cases h1 : i < cs.length
   · have e3 : decide ((i : Int) < (cs.length : Int)) = true := by simp [h1]
     rw [e3];co_applyP oy rfl (aj);co_applyP oy rfl (bZ);co_applyP oy rfl aS;co_applyP ah;change _ = _ ∧ _ = _ ∧ kn _ _;refine ⟨rfl, rfl, ?_⟩;have e4 : decide ((i : Int) < 20) = decide (i < m) := decide_eq_decide.2 (by omega);rw [← e4]; rfl
   · have e3 : decide ((i : Int) < (cs.length : Int)) = false := by simp; omega
     rw [e3];co_applyP ou rfl;co_applyP ou rfl;co_applyP oy rfl aS;co_applyP ah;change _ = _ ∧ _ = _ ∧ kn _ _;refine ⟨rfl, rfl, ?_⟩;have e4 : false = decide (i < m) := by symm; simp; omega
     rw [← e4]; rfl
 co_applyP bk rfl;intro hlt
 · have hlt' : i < m := by simpa using hlt
   obtain ⟨x, hx⟩ : ∃ x, cs[i]? = some x := ⟨_, List.getElem?_eq_getElem (by omega)⟩;obtain ⟨hx64, g, o, hcb, hxat⟩ := hcs i x hx;have hX1 : Ext L L' := ⟨hR1.fn, fun t h => hR1.fr _ (hLG t h)⟩;have hxL := hX1.at hxat;have hn40 : pickN x 40 < 40 := dp x (by decide);generalize hpn : pickN x 40 = n at hn40;rw [hcb];co_applyP aB;change wpE ..;co_applyP ae;co_applyP aH;co_applyP ae;co_applyP aa;co_applyP oy rfl aj;co_applyP oy rfl aj;co_applyP oy rfl (bu Tryz.underlying54 cZ);co_applyP oy rfl (aF (ht := a5) (hv := hxL));co_applyP oc rfl rfl rfl (gpick L' x 40 hx64 (by decide));rintro _ _ _ ⟨rfl, rfl, rfl⟩;co_applyP oy rfl ak;co_applyP ah;change wpE ..;co_applyP ae;co_applyP aa;co_applyP oy rfl aj;co_applyP oy rfl aj;rw [hpn];obtain ⟨F1, hRF, hGF, hkeep⟩ := hR1.hold hal (by decide);co_applyP oc rfl rfl rfl (gr (m - i) sl K A1 S1 _ F1 L' eb n hRF (hEG.mono hGF) hAb1 (by omega) (by omega));rintro _ _ _ ⟨N1, told, A2, S2, rfl, rfl, hAb2, hRF2, hH⟩;rename_i L6;have hR2 := hRF2.less hGF;have hal2 := hkeep L6 hRF2.fr;obtain ⟨ws2, hws2, hwl2⟩ := ir n (St.runs tot T);rw [hws2] at hH;rw [← nJ] at hAb2;obtain ⟨at2, rfl, hat2⟩ := iY hH;obtain ⟨tb, tc, htv, _⟩ := ml hat2;have hrd := pQ (P := Tryz.prog) hat2 (eC ws2) (show 0 < 4 by decide);rw [htv] at hrd;rw [htv];have hws3 : St.evs (tot + n) T = (ws ++ ws2).map Wd.v := by rw [pW, hws, hws2, List.map_append]
   co_applyP oy rfl aj;co_applyP oy rfl bz;co_applyP oy rfl bz;co_applyP oy rfl ak;co_applyP oy rfl ak;co_applyP ah;change wpE ..;co_applyP ae;co_applyP ae;co_applyP aa;co_applyP oy rfl aj;co_applyP oy rfl dY;co_applyP ah;change wpE ..;co_applyP aq rfl;co_applyP aB;change wpE ..;co_applyP ae;co_applyP aa;co_applyP oy rfl aj;co_applyP oy rfl aj;co_applyP oeN rfl (fun hnd => lj (a := aal) (by_ := 31) (xs := wcs ws) (n := ws.length) (m := ws2.length) (hnd := hnd) (hu := Tryz.underlying38) (hs := ez) (hb := uI) (hz := uH) (hzs := rfl) (hN := fun cs => hN _ _) (ha := hal2) (hn := eC _) (hr := hrd) (hm := eC _) (hpl := lq _) (h0 := by decide) (h8 := by omega));rintro _ L7 ⟨aal3, rfl, hp⟩;co_applyP oy rfl ak;co_applyP ah;change wpE ..;co_applyP ae;co_applyP aa;co_applyP oy rfl aj;co_applyP oy rfl aj;co_applyP oy rfl ba;co_applyP oy rfl ak;co_applyP ah;change wpE ..;co_applyP ae;co_applyP aa;co_applyP oy rfl aj;have hR3 := hR2.turn hal2 (by decide) hGn hp.fn hp.sub;have hal3 : slOk aal3 (wcs (ws ++ ws2)) 51 L7 := by rw [pX]; exact hp.ok
   have hGn3 : ∀ t ∈ G, aal3.b ≠ some t.1 := fun t ht e => by
     rcases hp.d _ e with h | h
     · exact hGn t ht h
     · exact h _ (hR2.fr _ ht) rfl
   co_applyP oc rfl rfl rfl (gp K A2 S2 G L7 hN hR3);rintro _ _ _ ⟨rfl, ap, rfl, hap, hapn, hEp⟩;co_applyP oy rfl ak;co_applyP ah;change wpE ..;co_applyP ae;co_applyP aa;co_applyP oy rfl ak;co_applyP ah;change wpE ..;co_applyP aH;rename_i L8;obtain ⟨Nm, hTI, _⟩ := hAb2.ex;obtain ⟨pg, hpg, hpv, hpm⟩ := iJ (sz := 15) (n := S2.ps.length) hap (by rw [cu]; have := uL hTI; omega);rw [hpv];have h8 := hR3.p8;have hpnG : ∀ t ∈ G, t.1 ≠ pg := fun t ht e => hapn t (hR3.fr _ ht) (by rw [hpg, e]);have et : IntKind.i64.wrap ((tot : Int) + (n : Int)) = ((tot + n : Nat) : Int) := by simp [IntKind.wrap_i64]; omega
   co_applyP bB (fun k s'' ε'' L'' => s'' = (m - i, N1 :: sl) ∧ ∃ j pc, k + j = 8 ∧ j ≤ S2.ps.length ∧ Rep K A2 S2 G L'' ∧ slOk aal3 (wcs (ws ++ ws2)) 51 L'' ∧ (pg, true, Obj.cells pc 49) ∈ L'' ∧ S2.ps.length * 15 ≤ pc.size ∧ (∀ i' q, j ≤ i' → S2.ps[i']? = some q → pc[i' * 15]? = some (.int .i64 (q.2.id : Nat))) ∧ kn ε'' [(5, .slice (some ⟨g, o, none⟩) cs.length cap), (15, ptr K), (16, ptr M), (17, .int .i64 ((tot + n : Nat) : Int)), (18, rowv aal3 4 (ws ++ ws2).length), (19, .int .i64 (i : Nat)), (23, .slice (some ⟨pg, 0, none⟩) S2.ps.length (S2.ps.length + ap.junk.length / 15)), (24, .int .i64 (j : Nat))]) 8
   · refine ⟨rfl, 0, _, rfl, Nat.zero_le _, hR3.ext hEp, hal3.mono fun _ _ _ h => hEp.s _ h, hpm, by simp [cu], fun i' q _ hq => ?_, by rw [← et, List.length_append]; rfl⟩;have hi' := (List.getElem?_eq_some_iff.1 hq).1;rw [List.getElem?_toArray, List.getElem?_append_left (by rw [cu]; omega)];exact iu _ hq 0 (by decide)
   rintro c1 s'' ε'' L9 ⟨rfl, j, pc, hcj, hj, hR5, hal5, hpm5, hps5, hpid, he5⟩;co_applyP a0 he5;have ej : IntKind.i64.wrap ((j : Int) + 1) = ((j + 1 : Nat) : Int) := by simp [IntKind.wrap_i64]; omega
   co_applyP ae;co_applyP ae;co_applyP aa;co_applyP oy rfl aj;co_applyP oy rfl aj;co_applyP oy rfl (bp (hu := Tryz.underlying42));co_applyP oy rfl bZ;co_applyP ah;change wpE ..;co_applyP bk rfl;intro hlt2
   · have hj2 : j < S2.ps.length := by simpa using hlt2
     obtain ⟨q, hq⟩ : ∃ q, S2.ps[j]? = some q := ⟨_, List.getElem?_eq_getElem hj2⟩;have hida : At L9 pg (j * 15) (.int .i64 (q.2.id : Nat)) := ⟨true, _, _, _, hpm5, hpid j q (Nat.le_refl _) hq⟩;obtain ⟨fb, fx, hfind⟩ := p9 hq;co_applyP aB;change wpE ..;co_applyP ae;co_applyP aH;co_applyP ae;co_applyP aa;co_applyP oy rfl aj;co_applyP oy rfl aj;co_applyP oy rfl aj;co_applyP oy rfl (bu Tryz.underlying42 eO);co_applyP oy rfl (av (hf := cN));co_applyP oy rfl (aF (ht := a5) (hv := hida));co_applyP oc rfl rfl rfl (gm K A2 S2 G L9 (q.2.id : Nat) fb fx hN hR5 hfind);rintro _ _ _ ⟨rfl, am, rfl, ham, hamn, hEm⟩;co_applyP ah;change wpE ..;co_applyP aa;co_applyP oy rfl aj;co_applyP oy rfl aj;co_applyP oy rfl (bm (ws := []) yr);co_applyP oy rfl (bu Tryz.underlying42 eO);co_applyP oeN rfl (fun hnd => eM (hs := eO) (vs := phead PS.zero) (hnd := hnd) (hm := hEm.s _ hpm5) (hi := by show j * 15 + 15 ≤ _; omega));rintro _ L11 ⟨rfl, hU11⟩;co_applyP ah;change wpE ..;co_applyP aa;co_applyP oy rfl aj;co_applyP oy rfl ba;co_applyP oy rfl ak;co_applyP ah;change ∃ k', k' < _ ∧ _;refine ⟨c1 - 1, by omega, rfl, j + 1, _, by omega, by omega, (hR5.ext hEm).turnB (hEm.s _ hpm5) (by decide) hpnG hU11.fn (fun t ht hne => hU11.ne t ht hne), ?_, hU11.self, by rw [lr]; exact hps5, fun i' q' h1 h2 => ?_, by rw [← ej]; rfl⟩
     · refine hal5.mono fun bb hbb oo hoo => hU11.ne _ (hEm.s _ hoo) fun e => ?_;have e2 : bb = pg := e;subst e2;exact absurd (hR5.fn _ _ _ _ _ (hal5.mem hbb) hpm5).2 (aE (by decide))
     · rw [nK _ _ _ _ (by show j * 15 + 15 ≤ _; omega)];exact hpid i' q' (by omega) h2
   intro hlt2;co_applyP bJ;change wpE ..;co_applyP aa;co_applyP oy rfl aj;co_applyP oy rfl ba;co_applyP oy rfl ak;co_applyP ah;change ∃ k', k' < _ ∧ _;exact ⟨c0 - 1, by omega, i + 1, N1 :: sl, A2, S2, aal3, tot + n, ws ++ ws2, by omega, by omega, by rw [show m - (i + 1) + 1 = m - i by omega], by omega, hAb2, hws3, by rw [List.length_append]; omega, hR5, hal5, hGn3, by rw [← ei]; rfl⟩
 intro hlt;have him' : m - i + 1 = 0 + 1 := by simp at hlt; omega
 rw [him'];obtain ⟨G2, hM2, hK2, hG2⟩ := uD hR1 hM;have halG : slOk aal (wcs ws) 51 G2 := hal.mono fun bb hbb oo hoo => hG2 _ hoo (hM2.notown (hal.mem hbb) (by decide));have hEG2 : Ers eb G2 := hE.mono fun t h => hK2.fr _ (hX3 t h);have hnowM : (St.fresh (cfgf a b c) (cfgb d) l b1).now = 0 := rfl;co_applyP bJ;change wpE ..;co_applyP ae;co_applyP aa;co_applyP oy rfl aj;co_applyP oy rfl aj;co_applyP oc rfl rfl rfl (gr 0 sl M B0 _ T G2 L' eb tot hM2 hEG2 hAbM (by omega) (by omega));rintro _ _ _ ⟨N2, told, B2, S3, rfl, rfl, hAb3, hM3, hH3⟩;rename_i L8;rw [hws] at hH3;obtain ⟨at3, rfl, hat3⟩ := iY hH3;obtain ⟨tb, tcap, htv, htw⟩ := ml hat3;have hal8 : slOk aal (wcs ws) 51 L8 := halG.mono fun _ _ _ h => hM3.fr _ h;obtain ⟨ab, acap, hav, haw⟩ := ml hal8;rw [htv, hav];have hK8 := hK2.of hM3.fn hM3.fr;have e0 : (((ws.length : Nat) : Int) != ((ws.length : Nat) : Int)) = false := by simp
 co_applyP oy rfl aj;co_applyP oy rfl bz;co_applyP oy rfl bz;co_applyP oy rfl ak;co_applyP oy rfl ak;co_applyP ah;change wpE ..;co_applyP ae;co_applyP ae;co_applyP aa;co_applyP oy rfl aj;co_applyP oy rfl dY;co_applyP oy rfl aj;co_applyP oy rfl (aj);co_applyP oy rfl ((bp (hu := Tryz.underlying38)));co_applyP oy rfl (aj);co_applyP oy rfl ((bp (hu := Tryz.underlying38)));co_applyP oy rfl (dY);co_applyP oy rfl aS;co_applyP ah;change wpE ..;rw [e0];co_applyP aq rfl;co_applyP aB;change wpE ..;co_applyP ae;co_applyP ae;co_applyP aa;co_applyP oy rfl ak;co_applyP ah;change wpE ..;co_applyP aH;co_applyP bB (fun k s' ε' L' => s' = (0, N2 :: sl) ∧ L' = L8 ∧ ∃ j, k + j = 2000 ∧ j ≤ ws.length ∧ kn ε' [(15, ptr K), (16, ptr M), (18, .slice ab ws.length acap), (25, .slice tb ws.length tcap), (27, .int .i64 (j : Nat))]) 2000
 · exact ⟨rfl, rfl, 0, rfl, Nat.zero_le _, rfl⟩
 rintro c1 s' ε' L' ⟨rfl, rfl, j, hcj, hj, hej⟩;co_applyP a0 hej;have ej : IntKind.i64.wrap ((j : Int) + 1) = ((j + 1 : Nat) : Int) := by simp [IntKind.wrap_i64]; omega
 co_applyP ae;co_applyP ae;co_applyP aa;co_applyP oy rfl aj;co_applyP oy rfl aj;co_applyP oy rfl (bp (hu := Tryz.underlying38));co_applyP oy rfl bZ;co_applyP ah;change wpE ..;co_applyP bk rfl;intro hlt3
 · have hj3 : j < ws.length := by simpa using hlt3
   obtain ⟨w, hw⟩ : ∃ w, ws[j]? = some w := ⟨_, List.getElem?_eq_getElem hj3⟩;obtain ⟨g1, k1, rfl, m1, z1, x1⟩ := htw j w hw;obtain ⟨g2, k2, rfl, m2, z2, x2⟩ := haw j w hw;co_applyP aB;change wpE ..;co_applyP ae;co_applyP aH;co_applyP ae;co_applyP bj aY;co_applyP tr (i := 0) rfl aj pI;co_applyP tr (i := 1) rfl aj pI;co_applyP tr (i := 2) rfl (bu Tryz.underlying38 ez) pI;co_applyP tr (i := 3) rfl (aX (ht := po) (hs := ez) (hm := m1) (hi := z1)) pI;co_applyP tr (i := 4) rfl aj pI;co_applyP tr (i := 5) rfl aj pI;co_applyP tr (i := 6) rfl (bu Tryz.underlying38 ez) pI;rw [x1];co_applyP tr (i := 7) rfl (aX (ht := po) (hs := ez) (hm := m2) (hi := z2)) pI;rw [x2];co_applyP tr (i := 8) rfl (xa (ym w) (yp w)) pI;co_applyP td (by kernel_rfl);change wpE ..;co_applyP aq rfl;co_applyP aB;change wpE ..;co_applyP aa;co_applyP oy rfl aj;co_applyP oy rfl ba;co_applyP oy rfl ak;co_applyP ah;change ∃ k', k' < _ ∧ _;exact ⟨c1 - 1, by omega, rfl, rfl, j + 1, by omega, by omega, by rw [← ej]; rfl⟩
 intro hlt3;co_applyP bJ;change wpE ..;co_applyP ae;co_applyP aa;co_applyP oy rfl aj;co_applyP oc rfl rfl rfl (gp K A1 S1 _ _ hN hK8);rintro _ _ _ ⟨rfl, p1, rfl, hp1, hp1n, hEq1⟩;co_applyP oy rfl ak;co_applyP ah;change wpE ..;co_applyP ae;co_applyP aa;co_applyP oy rfl aj;rename_i L9;co_applyP oc rfl rfl rfl (gp M B2 S3 G2 L9 hN (hM3.ext hEq1));rintro _ _ _ ⟨rfl, p2, rfl, hp2, hp2n, hEq2⟩;rename_i L10;have hsx : S1.ps.map (·.2) = S3.ps.map (·.2) := hAb1.snd.trans hAb3.snd.symm;have hlen : S3.ps.length = S1.ps.length := by simpa using (congrArg List.length hsx).symm
 obtain ⟨Nm, hTI, _⟩ := hAb1.ex;have hpos := uL hTI;have h8 := hK8.p8;obtain ⟨u1, hu1, hv1, hq1⟩ := iJ (sz := 15) (n := S1.ps.length) hp1 (by rw [cu]; omega);obtain ⟨u2, hu2, hv2, hq2⟩ := iJ (sz := 15) (n := S3.ps.length) hp2 (by rw [cu]; omega);rw [hv1, hv2, hlen];have e1 : (((S1.ps.length : Nat) : Int) != ((S1.ps.length : Nat) : Int)) = false := by simp
 co_applyP oy rfl ak;co_applyP ah;change wpE ..;co_applyP ae;co_applyP ae;co_applyP aa;co_applyP oy rfl aj;co_applyP oy rfl (bp (hu := Tryz.underlying42));co_applyP oy rfl aj;co_applyP oy rfl (bp (hu := Tryz.underlying42));co_applyP oy rfl dY;co_applyP ah;change wpE ..;rw [e1];co_applyP aq rfl;co_applyP aB;change wpE ..;co_applyP ae;co_applyP ae;co_applyP aa;co_applyP oy rfl ak;co_applyP ah;change wpE ..;co_applyP aH;co_applyP bB (fun k s' ε' L' => s' = (0, N2 :: sl) ∧ Ext L10 L' ∧ ∃ j, k + j = 8 ∧ j ≤ S1.ps.length ∧ kn ε' [(15, ptr K), (16, ptr M), (28, .slice (some ⟨u1, 0, none⟩) S1.ps.length (S1.ps.length + p1.junk.length / 15)), (29, .slice (some ⟨u2, 0, none⟩) S1.ps.length (S1.ps.length + p2.junk.length / 15)), (30, .int .i64 (j : Nat))]) 8
 · exact ⟨rfl, ⟨hEq2.f, fun _ h => h⟩, 0, rfl, Nat.zero_le _, rfl⟩
 rintro c1 s' ε' L11 ⟨rfl, hX, j, hcj, hj, hej⟩;co_applyP a0 hej;have ej : IntKind.i64.wrap ((j : Int) + 1) = ((j + 1 : Nat) : Int) := by simp [IntKind.wrap_i64]; omega
 co_applyP ae;co_applyP ae;co_applyP aa;co_applyP oy rfl aj;co_applyP oy rfl aj;co_applyP oy rfl (bp (hu := Tryz.underlying42));co_applyP oy rfl bZ;co_applyP ah;change wpE ..;co_applyP bk rfl;intro hlt4
 · have hj4 : j < S1.ps.length := by simpa using hlt4
   obtain ⟨q, hq⟩ : ∃ q, S1.ps[j]? = some q := ⟨_, List.getElem?_eq_getElem hj4⟩;obtain ⟨q', hq'⟩ : ∃ q', S3.ps[j]? = some q' := ⟨_, List.getElem?_eq_getElem (by omega)⟩;have hqq : q'.2 = q.2 := by
     have h1 : (S1.ps.map (·.2))[j]? = some q.2 := by simp [hq]
     rw [hsx] at h1;simpa [hq'] using h1
   have hm1 := hX.s _ (hEq2.s _ hq1);have hm2 := hX.s _ hq2;have hida : At L11 u1 (j * 15) (.int .i64 (q.2.id : Nat)) := ⟨true, _, _, _, hm1, by
     rw [List.getElem?_toArray, List.getElem?_append_left (by rw [cu]; omega)];exact iu _ hq 0 (by decide)⟩
   obtain ⟨fb, fx, hfind⟩ := p9 hq;obtain ⟨fb', hfind'⟩ : ∃ fb', S3.find (q.2.id : Nat) = some (fb', fx) := by
     have h1 := uK hsx (q.2.id : Nat);rw [hfind] at h1;cases h2 : S3.find (q.2.id : Nat) with
     | none => rw [h2] at h1; cases h1
     | some r =>
       rw [h2] at h1;obtain rfl : fx = r.2 := by simpa using h1
       exact ⟨r.1, rfl⟩
   have hK11 := ((hK8.ext hEq1).ext hEq2).ext hX;have hM11 := ((hM3.ext hEq1).ext hEq2).ext hX;have hsz1 : j * 15 + 15 ≤ (heads S1.ps ++ p1.junk).toArray.size := by simp [cu]; omega
   have hsz2 : j * 15 + 15 ≤ (heads S3.ps ++ p2.junk).toArray.size := by simp [cu]; omega
   co_applyP aB;change wpE ..;co_applyP ae;co_applyP aH;co_applyP ae;co_applyP aa;co_applyP oy rfl aj;co_applyP oy rfl aj;co_applyP oy rfl aj;co_applyP oy rfl (bu Tryz.underlying42 eO);co_applyP oy rfl (av (hf := cN));co_applyP oy rfl (aF (ht := a5) (hv := hida));co_applyP oc rfl rfl rfl (gm K A1 S1 _ L11 (q.2.id : Nat) fb fx hN hK11 hfind);rintro _ _ _ ⟨rfl, y1, rfl, hy1, hy1n, hEy1⟩;co_applyP oy rfl aj;co_applyP oy rfl bz;co_applyP oy rfl bz;co_applyP oy rfl ak;co_applyP oy rfl ak;co_applyP ah;change wpE ..;co_applyP ae;co_applyP aa;co_applyP oy rfl aj;co_applyP oy rfl aj;co_applyP oy rfl aj;co_applyP oy rfl (bu Tryz.underlying42 eO);co_applyP oy rfl (av (hf := cN));rename_i L12;co_applyP oy rfl (aF (ht := a5) (hv := hEy1.at hida));co_applyP oc rfl rfl rfl (gm M B2 S3 _ L12 (q.2.id : Nat) fb' fx hN (hM11.ext hEy1) hfind');rintro _ _ _ ⟨rfl, y2, rfl, hy2, hy2n, hEy2⟩;rename_i L13;rw [ww] at hy1 hy2;have hy1' := hy1.mono fun _ _ _ h => hEy2.s _ h;co_applyP oy rfl aj;co_applyP oy rfl bz;co_applyP oy rfl bz;co_applyP oy rfl ak;co_applyP oy rfl ak;co_applyP ah;change wpE ..;co_applyP ae;co_applyP bj aY;co_applyP tr (i := 0) rfl aj pI;co_applyP tr (i := 1) rfl aj pI;co_applyP tr (i := 2) rfl (bu Tryz.underlying42 eO) pI;co_applyP tr (i := 3) rfl (aX (ht := sH) (hs := eO) (hm := hEy2.s _ (hEy1.s _ hm1)) (hi := hsz1)) pI;co_applyP tr (i := 4) rfl aj pI;co_applyP tr (i := 5) rfl aj pI;co_applyP tr (i := 6) rfl (bu Tryz.underlying42 eO) pI;rw [lu hq];co_applyP tr (i := 7) rfl (aX (ht := sH) (hs := eO) (hm := hEy2.s _ (hEy1.s _ hm2)) (hi := hsz2)) pI;rw [lu hq', hqq];co_applyP tr (i := 8) rfl (xa (yo q.2) (yq q.2)) pI;co_applyP tr (i := 9) rfl aj pI;co_applyP tr (i := 10) rfl (aj) pI;co_applyP tr (i := 11) rfl (mj (l := (List.range 64).map fx.m) (ha := hy1')) pI;co_applyP tr (i := 12) rfl (aj) pI;co_applyP tr (i := 13) rfl (mj (l := (List.range 64).map fx.m) (ha := hy2)) pI;co_applyP tr (i := 14) rfl (zP) pI;co_applyP tr (i := 15) rfl aS pI;co_applyP td (by kernel_rfl);change wpE ..;co_applyP aq rfl;co_applyP aB;change wpE ..;co_applyP aa;co_applyP oy rfl aj;co_applyP oy rfl ba;co_applyP oy rfl ak;co_applyP ah;change ∃ k', k' < _ ∧ _;exact ⟨c1 - 1, by omega, rfl, ⟨hEy2.f, fun t h => hEy2.s _ (hEy1.s _ (hX.s _ h))⟩, j + 1, by omega, by omega, by rw [← ej]; rfl⟩
 intro hlt4;co_applyP bJ;change wpE ..;co_applyP ae;co_applyP aa;co_applyP oy rfl ak;co_applyP ah;change wpE ..;co_applyP aJ;change ∃ v, resE .. = some v ∧ _;exact ⟨_, rfl, rfl, rfl⟩
end Go.Proofs.YtejkelcaljmnoaaGreatDoor
