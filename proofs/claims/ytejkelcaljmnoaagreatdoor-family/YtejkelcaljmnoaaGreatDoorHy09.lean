/-
  Part 9 of the proof.
  No condition but those that each statement names.
-/
import Derived.Test.YtejkelcaljmnoaaGreatDoorHy08
import Derived.Conc.LeavingOf
import Derived.JoinedOf
import Derived.RowKit
import Derived.RowKitTokens
import Derived.Stop.Joined
import Derived.Carry
import Derived.Deep.Slices
import Derived.Test.YtejkelcaljmnoaaGreatDoorHy07
import Derived.Test.YtejkelcaljmnoaaGreatDoorHy03
set_option maxRecDepth 100000
set_option maxHeartbeats 4000000
set_option linter.unusedVariables false
set_option linter.unusedSimpArgs false
set_option linter.unusedSectionVars false
namespace Go.Proofs.YtejkelcaljmnoaaGreatDoor
open Go.ChangeShapes Go.WideShapes Go.RowKit Go.Conc Go.ConcX Go.Hx Go.Lo
section
variable {H : Type} {enc : TypeId × Value → H}
theorem fA {a : Assume} {C : Checked} {os : Os} {f : FuncId} {fn : Func} {s : ChangeSpec} {conds : List PathCond} {apart fresh handsOn again : Bool} {X : World → Array Value → Prop}
   (hX : ∀ (w w' : World) (args : Array Value), w.heap = w'.heap → X w args → X w' args)
   (own : ownKnob C.prog.godebug = none) (started : os.Started) (hfn : C.prog.funcs[f]? = some fn)
   (witness : ∃ (w : World) (tape : Tape) (i : Input), w.os = os ∧ (w.forCall tape i).Shaped C.prog ∧ i.vars = [] ∧ Input.okWide C.prog (w.forCall tape i) .any w.heap.size f i ∧
     ((s.pre enc C.prog fn conds apart (w.forCall tape i).memory i.args ∧ X (w.forCall tape i).memory i.args) ∧ sizedMet enc C.prog fn (OpenSpec.ofChange s) apart (w.forCall tape i).memory i.args) ∧ a.holds C.prog (lone (Frame.enter C.prog f i.args .normal) [] (w.forCall tape i)))
   (runs : ∀ (W : World) (base : Nat) (args : Array Value) (ds gs : List (DataW H)) (before : List MemPlace), W.ShapedOpen C.prog →
     (∀ (j : Nat) t v, fn.params[j]? = some t → args[j]? = some v → Value.okWide C.prog W .any base t v) →
     DataW.Whole enc C.prog fn.params.toList s.vars apart W args.toList ds gs before → X W args →
     ∃ M last o w' t', runNT C.prog (M + 1) (solo (G (Frame.enter C.prog f args .normal) []) W) #[] = (.ended o w', t') ∧ runN C.prog M (solo (G (Frame.enter C.prog f args .normal) []) W) = .next last ∧
       step C.prog last = .ended o w' ∧ Conc.Good C.prog (fun v W' => s.post enc C.prog fn apart fresh handsOn again W args v W') last o w' t') :
   ReturnsInLeavingWide a C os f .any (fun w args => (s.pre enc C.prog fn conds apart w args ∧ X w args) ∧ sizedMet enc C.prog fn (OpenSpec.ofChange s) apart w args) (s.post enc C.prog fn apart fresh handsOn again) := by
 refine returnsInLeavingWide_of_good own started witness ?_;intro w tape i _ hso _ hok hpre hholds;obtain ⟨_, _, _, fn', hfn', _, _, _, _, hval⟩ := hok;have e : fn' = fn := Option.some.inj (hfn'.symm.trans hfn);subst e;obtain ⟨⟨⟨ds, gs, before, hw, hc⟩, hx⟩, hz⟩ := hpre;have hw' := DataW.Whole.of_heap (w' := w.forCall tape i) (by rfl) hw;obtain ⟨M, last, o, w', t', h1, h2, h3, h4⟩ := runs (w.forCall tape i) w.heap.size i.args ds gs before hso hval hw' (hX _ _ _ (by rfl) hx);exact ⟨M, last, o, w', t', h1, h2, h3, h4.mono fun v hp => ChangeSpec.post_blind hp⟩
end
abbrev tx0 : ByteArray := { data := #[116, 104, 101, 114, 101, 32, 105, 115, 32, 110, 111, 32, 115, 117, 99, 104, 32, 105, 110, 115, 116, 114, 117, 99, 116, 105, 111, 110] }
abbrev tx1 : ByteArray := { data := #[116, 104, 101, 114, 101, 32, 105, 115, 32, 110, 111, 32, 115, 117, 99, 104, 32, 111, 112, 101, 114, 97, 116, 111, 114] }
abbrev tx2 : ByteArray := { data := #[116, 104, 101, 114, 101, 32, 105, 115, 32, 110, 111, 32, 115, 117, 99, 104, 32, 98, 121, 116, 101, 32, 111, 102, 32, 109, 101, 109, 111, 114, 121] }
abbrev tx3 : ByteArray := { data := #[110, 111, 32, 115, 117, 99, 104, 32, 102, 105, 108, 101, 44, 32, 111, 114, 32, 110, 111, 116, 32, 111, 102, 32, 116, 104, 97, 116, 32, 107, 105, 110, 100] }
abbrev tx4 : ByteArray := { data := #[116, 104, 101, 114, 101, 32, 105, 115, 32, 110, 111, 32, 114, 111, 111, 109, 32, 102, 111, 114, 32, 111, 110, 101, 32, 109, 111, 114, 101] }
abbrev tx5 : ByteArray := { data := #[116, 104, 101, 114, 101, 32, 105, 115, 32, 110, 111, 32, 99, 104, 105, 108, 100] }
abbrev tx6 : ByteArray := { data := #[116, 104, 101, 114, 101, 32, 105, 115, 32, 110, 111, 32, 115, 117, 99, 104, 32, 112, 114, 111, 99, 101, 115, 115] }
abbrev tx7 : ByteArray := { data := #[110, 111, 98, 111, 100, 121, 32, 99, 97, 110, 32, 114, 101, 97, 100, 32, 116, 104, 97, 116] }
abbrev tx8 : ByteArray := { data := #[109, 101, 109, 111, 114, 121, 32, 116, 104, 97, 116, 32, 116, 104, 101, 114, 101, 32, 105, 115, 32, 110, 111, 116] }
abbrev tx9 : ByteArray := { data := #[110, 111, 32, 115, 117, 99, 104, 32, 99, 97, 108, 108, 44, 32, 111, 114, 32, 110, 111, 116, 32, 119, 105, 116, 104, 32, 116, 104, 97, 116] }
noncomputable def low : Nat := (World.holding Tryz.prog default ⟨#[], #[], []⟩).heap.size
def lay (h : Array Obj) (g : Nat) (v : Value) : Array Obj := h.modify g fun
 | .cells _ t frozen => .cells #[v] t frozen
 | o => o
noncomputable def laidWorld (os : Os) : World :=
 let w0 := World.holding Tryz.prog os ⟨#[.cells #[.string tx0] 275, .cells #[.string tx1] 275, .cells #[.string tx2] 275, .cells #[.string tx3] 275, .cells #[.string tx4] 275, .cells #[.string tx5] 275, .cells #[.string tx6] 275, .cells #[.string tx7] 275, .cells #[.string tx8] 275, .cells #[.string tx9] 275], #[], []⟩
 { w0 with heap := lay (lay (lay (lay (lay (lay (lay (lay (lay (lay (lay (w0.heap) 0 (.iface 255 (.pointer (some ⟨low + 0, 0, none⟩)))) 1 (.iface 255 (.pointer (some ⟨low + 1, 0, none⟩)))) 10 (.iface 255 (.pointer (some ⟨low + 2, 0, none⟩)))) 3 (.iface 255 (.pointer (some ⟨low + 3, 0, none⟩)))) 4 (.iface 255 (.pointer (some ⟨low + 4, 0, none⟩)))) 5 (.iface 255 (.pointer (some ⟨low + 5, 0, none⟩)))) 6 (.iface 255 (.pointer (some ⟨low + 6, 0, none⟩)))) 7 (.iface 255 (.pointer (some ⟨low + 7, 0, none⟩)))) 8 (.iface 255 (.pointer (some ⟨low + 8, 0, none⟩)))) 9 (.iface 255 (.pointer (some ⟨low + 9, 0, none⟩)))) 2 (rty 168) }
theorem lm (os : Os) (args : Array Value) : laidMetH Tryz.prog Rows.sumsRow.laid ((laidWorld os).forCall (fun _ _ => 0) ⟨#[], args, []⟩).memory :=
 laidMetH_of_parts (laidMet_of_run (ps := [.cell 0 0, .cell (low + 0) 0, .cell 1 0, .cell (low + 1) 0, .cell 10 0, .cell (low + 2) 0, .cell 3 0, .cell (low + 3) 0, .cell 4 0, .cell (low + 4) 0, .cell 5 0, .cell (low + 5) 0, .cell 6 0, .cell (low + 6) 0, .cell 7 0, .cell (low + 7) 0, .cell 8 0, .cell (low + 8) 0, .cell 9 0, .cell (low + 9) 0]) 8 (by kernel_rfl) (by kernel_rfl) (by kernel_rfl)) (by kernel_rfl)
theorem kU {n : Int} (h : (Lit.int .i64 n).wf = true) : I64 n := by
 simp [Lit.wf, IntKind.min, IntKind.max, IntKind.signed, IntKind.bits] at h;unfold I64;omega
end Go.Proofs.YtejkelcaljmnoaaGreatDoor
namespace Go.Proofs.YtejkelcaljmnoaaGreatDoor
open Go.ChangeShapes Go.WideShapes Go.WideElems Go.RowKit Go.Conc Go.ConcX Go.Hx Go.Lo
section
variable {H : Type} {enc : TypeId × Value → H} {P : Program}
theorem lW (hl : laidOutB P = true) {W W' : World} (hb : Below W.heap.size W W') :
   ∀ {ts : List TypeId} {vs : List Value} {ds : List (DataW H)} {ps : List MemPlace}, (∀ t ∈ ts, P.readableRec t = true ∧ t < P.types.size) → DataW.TrodAll enc P W 0 (fun _ => true) true ts vs ds ps → DataW.TrodAll enc P W' 0 (fun b => decide (b < W.heap.size)) true ts vs ds ps
 | [], [], [], _, _, h => h
 | [], [], _ :: _, _, _, h => h.elim
 | [], _ :: _, _, _, _, h => h.elim
 | _ :: _, [], _, _, _, h => h.elim
 | _ :: _, _ :: _, [], _, _, h => h.elim
 | t :: ts, v :: vs, d :: ds, ps, hr, h => by
   have hlt := h.lt;obtain ⟨p, q, ⟨n, h1⟩, h2, e⟩ := h;have ht := hr t List.mem_cons_self;have hp : ∀ x ∈ p, x.block < W.heap.size := fun x hx => hlt x (by rw [e]; simp [hx]);exact ⟨p, q, ⟨n, DataW.trod_stays (kids_book hl ht.1) (book_sized ht.1) (fun h => by cases h) ⟨ht.2, book_self t⟩ h1 (fun x hx => hb.same (hp x hx)) (fun x hx => by simpa using hp x hx)⟩, lW hl hb (fun t ht => hr t (List.mem_cons_of_mem _ ht)) h2, e⟩
theorem lX {w : World} {r : Reach} {b0 base : Nat} {spare : Nat → Bool} {held : Bool} {t e : TypeId} {v : Value} {d : DataW H} {ps : List MemPlace} (ht : P.underlying t = some (.slice e)) (he : P.underlying e = some (.int .i64)) (hc : P.cellsOf e = 1) (hval : Value.okWide P w r b0 t v) (hd : DataW.Trod enc P w base spare held t v d ps) :
   ∃ (b : Option Addr) (cap : Nat) (cs : List Int), v = .slice b cs.length cap ∧ cs.length ≤ maxLen ∧ ∀ i c, cs[i]? = some c → I64 c ∧ ∃ g o, b = some ⟨g, o, none⟩ ∧ At (base0 w) g (o + i) (.int .i64 c) := by
 obtain ⟨a, len, cap, rfl⟩ := okWide_slice ht hval;obtain ⟨n, h⟩ := hd;rcases Go.Deep.open_slice1 ht hc h with ⟨e1, _⟩ | ⟨a', len', cap', m, n', V, D, Pl, e1, _, h2, h3, h4, _, h6⟩
 · obtain ⟨rfl, rfl, rfl⟩ : a = none ∧ len = 0 ∧ cap = 0 := by simpa [Value.cells] using e1
   exact ⟨none, 0, [], rfl, by simp, fun i c hi => by simp at hi⟩
 · obtain ⟨rfl, rfl, rfl⟩ : a = some a' ∧ len = len' ∧ cap = cap' := by simpa [Value.cells] using e1
   have hm : len ≤ m := by rw [h4]; split <;> omega
   have hV : ∀ i, i < len → ∃ c, V i = .int .i64 c ∧ (Lit.int .i64 c).wf = true := fun i hi => by
     obtain ⟨n2, e2, _, h7⟩ := DataW.trod_int he (h6 i (by omega)).2;exact ⟨n2, by simpa using e2, h7⟩
   refine ⟨some a', cap, (List.range len).map fun i => match V i with | .int _ c => c | _ => 0, by simp, by simp; omega, fun i c hi => ?_⟩;have hlt : i < len := by simpa using (List.getElem?_eq_some_iff.1 hi).1
   obtain ⟨c', e2, h7⟩ := hV i hlt;obtain rfl : c' = c := by simpa [hlt, e2] using hi
   have h0 := (h6 0 (by omega)).1;have h8 := (h6 i (by omega)).1;obtain ⟨g, o, sp⟩ := a';obtain rfl : sp = none := by
     unfold World.cell? at h0
     split at h0
     · split at h0
       · cases h0
       · rename_i hsp;simpa [Addr.add] using hsp
     · cases h0
   have ea : (⟨g, o, none⟩ : Addr).add i = ⟨g, o + i, none⟩ := by unfold Addr.add; split <;> simp_all
   rw [ea, e2] at h8;exact ⟨kU h7, g, o, rfl, kT h8⟩
end
end Go.Proofs.YtejkelcaljmnoaaGreatDoor
namespace Go.Proofs.YtejkelcaljmnoaaGreatDoor
open Go.Conc Go.Hx Go.Lo
abbrev Key := Nat × Nat × Bool
def key (q : Nat × PS) : Key := (q.2.id, q.2.par, decide (q.2.st = 6))
def St.sk (S : St) : List Key := S.ps.map key
def mark (id : Nat) (e : Key) : Key := if e.1 = id then (e.1, e.2.1, true) else e
def orph (id : Nat) (e : Key) : Key := if e.2.1 = id then (e.1, 1, e.2.2) else e
section
variable {S S' : St} {b : Nat} {x x' : PS} {k : Nat × Nat} {P : Nat → Prop} {N : Nat → Nat}
theorem qQ (hn : (S.ps.map (·.1)).Nodup) (hb : (b, x) ∈ S.ps) (hid : x'.id = x.id) (hpar : x'.par = x.par) (hs : x'.st = 6 ↔ x.st = 6) : (S.setP b x').sk = S.sk := by
 unfold St.sk St.setP;simp only [List.map_map];apply List.map_congr_left;intro q hq;simp only [Function.comp]
 split
 · rename_i e;obtain ⟨c, y⟩ := q;obtain rfl : c = b := e;obtain rfl := ba hn hq hb;simp [key, hid, hpar, hs]
 · rfl
theorem vy (hn : (S.ps.map (·.1)).Nodup) (hb : (b, x) ∈ S.ps) (h6 : x.st ≠ 6) : (S.wake1 b x).sk = S.sk :=
 qQ (x' := { x with st := 1, used := 0 }) hn hb rfl rfl ⟨fun e => by simp at e, fun e => absurd e h6⟩
def orphP (id : Nat) (bs : List Nat) (q : Nat × PS) : Nat × PS := if q.1 ∈ bs ∧ q.2.par = id then (q.1, { q.2 with par := 1 }) else q
theorem fQ (id : Nat) : ∀ (bs : List Nat) {S : St}, (S.ps.map (·.1)).Nodup → (S.orphs id bs).ps = S.ps.map (orphP id bs)
 | [], S, _ => by
   show S.ps = _;have : ∀ q ∈ S.ps, orphP id [] q = q := fun q _ => by simp [orphP]
   rw [List.map_congr_left this]; simp
 | b :: bs, S, hn => by
   unfold St.orphs;have step : ∀ S1 : St, S1.ps = S.ps.map (orphP id [b]) → (S1.orphs id bs).ps = S.ps.map (orphP id (b :: bs)) := fun S1 h1 => by
     have hf : S1.ps.map (·.1) = S.ps.map (·.1) := by
       rw [h1, List.map_map];apply List.map_congr_left;intro q _;simp only [Function.comp, orphP]
       split <;> rfl
     rw [fQ id bs (by rw [hf]; exact hn), h1, List.map_map];apply List.map_congr_left;intro q _;simp only [Function.comp, orphP];by_cases e1 : q.1 = b <;> by_cases e2 : q.2.par = id <;> by_cases e3 : q.1 ∈ bs <;> simp [e1, e2, e3]
   cases hg : S.get b with
   | none =>
     refine step S ?_;have : ∀ q ∈ S.ps, orphP id [b] q = q := fun q hq => by
       unfold orphP;rw [if_neg];rintro ⟨e, _⟩;have e : q.1 = b := by simpa using e
       have := bk hn (b := q.1) (x := q.2) hq;rw [e, hg] at this;cases this
     rw [List.map_congr_left this]; simp
   | some y =>
     simp only;have hb := bm hg
     split
     · rename_i hp;refine step _ ?_;show S.ps.map _ = _;apply List.map_congr_left;rintro ⟨c, z⟩ hq;unfold orphP;by_cases e : c = b
       · subst e;obtain rfl := ba hn hq hb;simp [hp]
       · simp [e]
     · rename_i hp;refine step S ?_;have : ∀ q ∈ S.ps, orphP id [b] q = q := fun q hq => by
         unfold orphP;rw [if_neg];rintro ⟨e, e2⟩;obtain ⟨c, z⟩ := q;obtain rfl : c = b := by simpa using e
         obtain rfl := ba hn hq hb;exact hp e2
       rw [List.map_congr_left this]; simp
theorem vz (id : Nat) (hn : (S.ps.map (·.1)).Nodup) : (S.orphs id (S.ps.map (·.1))).sk = S.sk.map (orph id) := by
 unfold St.sk;rw [fQ id _ hn, List.map_map, List.map_map];apply List.map_congr_left;intro q hq;have hm : q.1 ∈ S.ps.map (·.1) := List.mem_map.2 ⟨q, hq, rfl⟩;simp only [Function.comp, orphP, orph, key];by_cases e : q.2.par = id <;> simp only [hm, e, true_and, and_true, if_true, if_false, and_false]
theorem xW (h : MI P N S) (hb : (b, x) ∈ S.ps) (hid : x'.id = x.id) (hpar : x'.par = x.par) (hs : x'.st = 6) : (S.setP b x').sk = S.sk.map (mark x.id) := by
 unfold St.sk St.setP;simp only [List.map_map];apply List.map_congr_left;intro q hq;simp only [Function.comp]
 split
 · rename_i e;obtain ⟨c, y⟩ := q;obtain rfl : c = b := e;obtain rfl := ba h.i.g.pn hq hb;simp [key, mark, hid, hpar, hs]
 · rename_i e;unfold mark;rw [if_neg];intro e2;exact e (by rw [h.x.idn q hq _ hb e2])
theorem iR : ∀ (bs : List Nat) {S : St}, (S.ps.map (·.1)).Nodup → (S.wakes bs).sk = S.sk ∧ ((S.wakes bs).ps.map (·.1)) = S.ps.map (·.1)
 | [], _, _ => ⟨rfl, rfl⟩
 | b :: bs, S, hn => by
   unfold St.wakes;cases hg : S.get b with
   | none => exact iR bs hn
   | some x =>
     simp only
     split
     · rename_i h;have hb := bm hg;have e : (S.wake1 b x).ps.map (·.1) = S.ps.map (·.1) := aT S b _;obtain ⟨h1, h2⟩ := iR bs (S := S.wake1 b x) (by rw [e]; exact hn);exact ⟨h1.trans (vy hn hb (by omega)), h2.trans e⟩
     · exact iR bs hn
end
def vw (x : PS) : PS := { x with lv := 0, used := 0 }
def St.vs (S : St) : List PS := S.ps.map fun q => vw q.2
def upd (vs : List PS) (y : PS) : List PS := vs.map fun z => if z.id = y.id then y else z
def wk (now : Nat) (y : PS) : PS := if y.st = 3 ∧ y.til = (now : Int) then { y with st := 1 } else y
section
variable {S S' : St} {b : Nat} {x x' y : PS} {P : Nat → Prop} {N : Nat → Nat} {vs : List PS}
theorem cR {z : PS} (h : z ∈ upd vs y) : z = y ∨ (z ∈ vs ∧ z.id ≠ y.id) := by
 obtain ⟨w, hw, e⟩ := List.mem_map.1 h
 split at e
 · exact .inl e.symm
 · rename_i h1; exact .inr ⟨e ▸ hw, e ▸ h1⟩
theorem upd_self {z : PS} (h : z ∈ vs) (e : z.id = y.id) : y ∈ upd vs y := List.mem_map.2 ⟨z, h, by rw [if_pos e]⟩
theorem eQ {z : PS} (h : z ∈ vs) (e : z.id ≠ y.id) : z ∈ upd vs y := List.mem_map.2 ⟨z, h, by rw [if_neg e]⟩
theorem gE (vs : List PS) (y : PS) : (upd vs y).map PS.id = vs.map PS.id := by
 unfold upd;rw [List.map_map];apply List.map_congr_left;intro z _;simp only [Function.comp]
 split
 · rename_i e; exact e.symm
 · rfl
theorem zM (h : ∀ z ∈ vs, z.id = y.id → z = y) : upd vs y = vs := by
 unfold upd;have : ∀ z ∈ vs, (if z.id = y.id then y else z) = z := fun z hz => by
   split
   · rename_i e; exact (h z hz e).symm
   · rfl
 rw [List.map_congr_left this]; simp
theorem cY {y y' : PS} (e : y'.id = y.id) : upd (upd vs y) y' = upd vs y' := by
 unfold upd;rw [List.map_map];apply List.map_congr_left;intro z _;simp only [Function.comp];by_cases h : z.id = y.id
 · rw [if_pos h, if_pos e.symm, if_pos (by rw [e]; exact h)]
 · rw [if_neg h]
theorem kV (h : (b, x) ∈ S.ps) : vw x ∈ S.vs := List.mem_map.2 ⟨_, h, rfl⟩
theorem kW {v : PS} (h : v ∈ S.vs) : ∃ q ∈ S.ps, vw q.2 = v := List.mem_map.1 h
theorem cS (hX : XI N S) (hn : (S.ps.map (·.1)).Nodup) (hb : (b, x) ∈ S.ps) (hid : x'.id = x.id) : (S.setP b x').vs = upd S.vs (vw x') := by
 unfold St.vs upd St.setP;rw [List.map_map, List.map_map];apply List.map_congr_left;rintro ⟨c, z⟩ hq;simp only [Function.comp];by_cases e : c = b
 · subst e;obtain rfl := ba hn hq hb;rw [if_pos rfl, if_pos (by show (vw z).id = (vw x').id; exact hid.symm)]
 · rw [if_neg e, if_neg];intro e2;have e3 : z.id = x.id := by have : (vw z).id = (vw x').id := e2; exact Eq.trans this hid
   exact e (congrArg Prod.fst (hX.idn _ hq _ hb e3))
theorem oQ (hX : XI N S) (hn : (S.ps.map (·.1)).Nodup) (hb : (b, x) ∈ S.ps) : (S.wake1 b x).vs = upd S.vs (vw { x with st := 1 }) := cS (x' := { x with st := 1, used := 0 }) hX hn hb rfl
theorem kX (hX : XI N S) (hn : (S.ps.map (·.1)).Nodup) (hb : (b, x) ∈ S.ps) (s : Nat) : (S.stop1 b x s).vs = upd S.vs (vw { x with st := s }) := cS (x' := { x with st := s }) hX hn hb rfl
def wkP (now : Nat) (bs : List Nat) (q : Nat × PS) : PS := if q.1 ∈ bs then wk now (vw q.2) else vw q.2
theorem Bj (now : Nat) (y : PS) : wk now (wk now y) = wk now y := by
 unfold wk;by_cases h : y.st = 3 ∧ y.til = (now : Int)
 · rw [if_pos h, if_neg (by rintro ⟨e, _⟩; cases e)]
 · rw [if_neg h, if_neg h]
theorem oR : ∀ (bs : List Nat) {S : St}, (S.ps.map (·.1)).Nodup → (S.wakes bs).vs = S.ps.map (wkP S.now bs)
 | [], S, _ => by
   show S.vs = _;unfold St.vs;apply List.map_congr_left;intro q _;simp [wkP]
 | b :: bs, S, hn => by
   unfold St.wakes;have step : ∀ S1 : St, S1.now = S.now → S1.ps.map (·.1) = S.ps.map (·.1) → (∀ bs', S1.ps.map (wkP S.now bs') = S.ps.map (wkP S.now (b :: bs'))) → (S1.wakes bs).vs = S.ps.map (wkP S.now (b :: bs)) := fun S1 h0 h1 h2 => by
     rw [oR bs (by rw [h1]; exact hn), h0, h2]
   have skip : (∀ q ∈ S.ps, q.1 = b → wk S.now (vw q.2) = vw q.2) → (S.wakes bs).vs = S.ps.map (wkP S.now (b :: bs)) := fun h => step S rfl rfl fun bs' => by
     apply List.map_congr_left;intro q hq;unfold wkP;by_cases e : q.1 = b
     · rw [if_pos (show q.1 ∈ b :: bs' by rw [e]; exact List.mem_cons_self)]
       split
       · rfl
       · exact (h q hq e).symm
     · by_cases e2 : q.1 ∈ bs'
       · rw [if_pos e2, if_pos (List.mem_cons_of_mem _ e2)]
       · rw [if_neg e2, if_neg (by simp [e, e2])]
   cases hg : S.get b with
   | none =>
     refine skip fun q hq e => ?_;have := bk hn (b := q.1) (x := q.2) hq;rw [e, hg] at this;cases this
   | some x =>
     have hb := bm hg;simp only
     split
     · rename_i h;refine step (S.wake1 b x) rfl (aT S b _) fun bs' => ?_;show (S.ps.map fun q => if q.1 = b then (b, { x with st := 1, used := 0 }) else q).map _ = _;rw [List.map_map];apply List.map_congr_left;rintro ⟨c, z⟩ hq;simp only [Function.comp];by_cases e : c = b
       · subst e;obtain rfl := ba hn hq hb;rw [if_pos rfl];have e1 : wk S.now (vw z) = vw { z with st := 1, used := 0 } := by
           unfold wk;rw [if_pos (show (vw z).st = 3 ∧ (vw z).til = (S.now : Int) from h)]; rfl
         unfold wkP;simp only;rw [if_pos (show c ∈ c :: bs' from List.mem_cons_self), ← e1, Bj]
         split <;> rfl
       · rw [if_neg e];unfold wkP;simp only;by_cases e2 : c ∈ bs'
         · rw [if_pos e2, if_pos (List.mem_cons_of_mem _ e2)]
         · rw [if_neg e2, if_neg (by simp [e, e2])]
     · rename_i h;refine skip fun q hq e => ?_;obtain ⟨c, z⟩ := q;obtain rfl : c = b := e;obtain rfl := ba hn hq hb;unfold wk;rw [if_neg (show ¬ ((vw z).st = 3 ∧ (vw z).til = (S.now : Int)) from h)]
theorem xX (hn : (S.ps.map (·.1)).Nodup) : S.lead.vs = S.vs.map (wk S.now) := by
 have h1 : S.wake.vs = S.vs.map (wk S.now) := by
   unfold St.wake;rw [oR _ hn];unfold St.vs;rw [List.map_map];apply List.map_congr_left;intro q hq;unfold wkP;rw [if_pos (List.mem_map.2 ⟨q, hq, rfl⟩)]; rfl
 have hn2 : (S.wake.ps.map (·.1)).Nodup := by unfold St.wake; rw [(iR _ hn).2]; exact hn
 unfold St.lead St.boost
 split
 · rw [← h1, i9 hn2];unfold St.vs;rw [(fi _ 2).1];show (S.wake.ps.map fun q => (q.1, liftP q.2)).map _ = _;rw [List.map_map];apply List.map_congr_left;intro q _;simp only [Function.comp];unfold liftP vw
   split <;> rfl
 · exact h1
theorem vA (hX : XI N S) (hn : (S.ps.map (·.1)).Nodup) (b : Nat) : (S.after b).vs = S.vs := by
 unfold St.after;cases hg : S.get b with
 | none => rfl
 | some z =>
   have hb := bm hg;have same : ∀ z' : PS, vw z' = vw z → upd S.vs (vw z') = S.vs := fun z' e => by
     rw [e];refine zM fun w hw e2 => ?_;obtain ⟨q, hq, rfl⟩ := kW hw;rw [hX.idn q hq _ hb e2]
   have e1 : (S.setP b z.more).vs = S.vs := (cS (x' := z.more) hX hn hb rfl).trans (same z.more rfl);simp only
   split
   · unfold St.turn
     split
     · exact e1
     · simp only;show (((S.setP b z.more).setP b { z.more with lv := min (z.more.lv + 1) 2, used := 0 })).vs = _;have e2 : ((S.setP b z.more).setP b { z.more with lv := min (z.more.lv + 1) 2, used := 0 }).ps = (S.setP b { z.more with lv := min (z.more.lv + 1) 2, used := 0 }).ps := by
         show ((S.ps.map _).map _) = S.ps.map _;rw [List.map_map];apply List.map_congr_left;intro q _;simp only [Function.comp];by_cases e : q.1 = b
         · simp [e]
         · simp [e]
       unfold St.vs;rw [e2];exact (cS (x' := { z.more with lv := min (z.more.lv + 1) 2, used := 0 }) hX hn hb rfl).trans (same { z.more with lv := min (z.more.lv + 1) 2, used := 0 } rfl)
   · exact e1
theorem Bl (hX : XI N S) (hn : (S.ps.map (·.1)).Nodup) (hb : (b, x) ∈ S.ps) (v : Int) : (S.r0 b v).vs = upd S.vs (vw (x.r0 v)) := by
 unfold St.r0;rw [bk hn hb];exact cS hX hn hb rfl
end
def without (vs : List PS) (id : Nat) : List PS := vs.filter fun z => !decide (z.id = id)
def orphV (id : Nat) (z : PS) : PS := if z.par = id then { z with par := 1 } else z
section
variable {S S' : St} {b c : Nat} {x x' y : PS} {P : Nat → Prop} {N : Nat → Nat} {vs : List PS}
theorem ju {z : PS} {id : Nat} : z ∈ without vs id ↔ z ∈ vs ∧ z.id ≠ id := by unfold without; simp
theorem vB (c : Nat) (y : PS) : (S.taken c y).vs = S.vs ++ [vw { y with id := S.last + 1 }] := by
 show (S.ps ++ [(c, { y with id := S.last + 1 })]).map _ = _;rw [List.map_append]; rfl
theorem xY (h : MI P N S) (hb : (b, x) ∈ S.ps) (ho : S.out b) (hc : ∀ q ∈ S.ps, c ≠ q.1) (h8 : S.ps.length < 8) (hN : N c = S.last + 1) :
   (S.forkS b x c).vs = upd S.vs (vw (x.r0 (((S.last + 1 : Nat) : Int) % 65536))) ++ [vw { x.copy.r0 0 with id := S.last + 1, st := 1 }] := by
 have hbc : b ≠ c := fun e => hc _ hb e.symm;have hw := h.i.wf _ hb;have hid := (h.x.idr _ hb).1;have hid2 := (h.x.idr _ hb).2;obtain ⟨h1, ho1⟩ := h.taken (y := x.copy.r0 0) hc h8 rfl (by show 0 < 3; omega) (fu (x := x.copy) (v := 0) ⟨hw.r, hw.m⟩ (by omega)) (h.i.fl (b, x) hb) (by show x.id ≠ 0; simp only at hid; omega) (Nat.zero_le _) hN;have hcm : (c, { x.copy.r0 0 with id := S.last + 1 }) ∈ (S.taken c (x.copy.r0 0)).ps := List.mem_append_right _ List.mem_cons_self;have h2 := h1.wake1 hcm ho1 (by show (0 : Nat) ≠ 1; omega);have hb2 : (b, x) ∈ (S.adopt c (x.copy.r0 0)).ps := bO (List.mem_append_left _ hb) hbc;have e1 : (S.adopt c (x.copy.r0 0)).vs = S.vs ++ [vw { x.copy.r0 0 with id := S.last + 1, st := 1 }] := by
   refine (oQ h1.x h1.i.g.pn hcm).trans ?_;rw [vB];unfold upd;rw [List.map_append];congr 1;have : ∀ z ∈ S.vs, (if z.id = (vw { x.copy.r0 0 with id := S.last + 1, st := 1 }).id then vw { x.copy.r0 0 with id := S.last + 1, st := 1 } else z) = z := fun z hz => by
     obtain ⟨q, hq, rfl⟩ := kW hz;rw [if_neg];intro e;have e1 : q.2.id = S.last + 1 := e;have := (h.x.idr q hq).2;omega
   · exact (List.map_congr_left this).trans (by simp)
   · show [if (S.last + 1 : Nat) = S.last + 1 then _ else _] = _;rw [if_pos rfl]
 refine (cS (x' := x.r0 (((S.last + 1 : Nat) : Int) % 65536)) h2.x h2.i.g.pn hb2 rfl).trans ?_;show upd (S.adopt c (x.copy.r0 0)).vs _ = _;rw [e1];unfold upd;rw [List.map_append];congr 1;show [if (S.last + 1 : Nat) = x.id then _ else _] = _;rw [if_neg (by simp only at hid2; omega)]
theorem vC {l : List (Nat × PS)} (hn : (l.map (·.1)).Nodup) {i j : Nat} {q : Nat × PS} (hi : l[i]? = some q) (hj : l[j]? = some q) : i = j := by
 have e1 : (l.map (·.1))[i]? = some q.1 := by simp [hi]
 have e2 : (l.map (·.1))[j]? = some q.1 := by simp [hj]
 obtain ⟨hl1, he1⟩ := List.getElem?_eq_some_iff.1 e1;obtain ⟨hl2, he2⟩ := List.getElem?_eq_some_iff.1 e2;rcases Nat.lt_trichotomy i j with g | g | g
 · exact absurd (he1.trans he2.symm) (List.pairwise_iff_getElem.1 hn i j hl1 hl2 g)
 · exact g
 · exact absurd (he2.trans he1.symm) (List.pairwise_iff_getElem.1 hn j i hl2 hl1 g)
theorem vD (h : XI N S) (hn : (S.ps.map (·.1)).Nodup) {i : Nat} {q : Nat × PS} (hi : S.ps[i]? = some q) : (S.ps.eraseIdx i).map (fun r => vw r.2) = without S.vs q.2.id := by
 obtain ⟨hl, he⟩ := List.getElem?_eq_some_iff.1 hi;have e : S.ps = S.ps.take i ++ q :: S.ps.drop (i + 1) := by rw [← he, ← List.drop_eq_getElem_cons hl, List.take_append_drop]
 have hlen : (S.ps.take i).length = i := by simp; omega
 have e2 : S.ps.eraseIdx i = S.ps.take i ++ S.ps.drop (i + 1) := by rw [List.eraseIdx_eq_take_drop_succ]
 have uniq : ∀ r ∈ S.ps.take i ++ S.ps.drop (i + 1), r.2.id ≠ q.2.id := fun r hr e3 => by
   have hr2 : r ∈ S.ps.eraseIdx i := by rw [e2]; exact hr
   obtain ⟨j, hji, hj⟩ := List.mem_eraseIdx_iff_getElem?.1 hr2;have : r = q := h.idn r (List.mem_of_getElem? hj) q (List.mem_of_getElem? hi) e3;subst this;exact hji (vC hn hj hi)
 rw [e2];unfold without St.vs
 conv => rhs; rw [e]
 rw [List.map_append, List.map_append, List.map_cons, List.filter_append, List.filter_cons];rw [if_neg (by simp [vw])];congr 1
 · symm
   apply List.filter_eq_self.2;intro z hz;obtain ⟨r, hr, rfl⟩ := List.mem_map.1 hz;simp only [Bool.not_eq_true', decide_eq_false_iff_not];exact uniq r (List.mem_append_left _ hr)
 · symm
   apply List.filter_eq_self.2;intro z hz;obtain ⟨r, hr, rfl⟩ := List.mem_map.1 hz;simp only [Bool.not_eq_true', decide_eq_false_iff_not];exact uniq r (List.mem_append_right _ hr)
theorem qR (h : MI P N S) (hb : (b, x) ∈ S.ps) (ho : S.out b) {i : Nat} (hc : S.childAt x = some i) (h6 : x.st ≠ 6) : ∃ q, S.ps[i]? = some q ∧ q ∈ S.ps ∧ q.2.par = x.id ∧ q.2.st = 6 ∧ (S.take b x i).vs = upd (without S.vs q.2.id) (vw (told x q.2)) := by
 obtain ⟨q, hq, hp, hq6⟩ := cO hc;obtain ⟨hT, hbe⟩ := h.take hb ho hc h6;have e : S.take b x i = ({ S.setPs (S.ps.eraseIdx i) with last := S.last } : St).setP b (told x q.2) := by unfold St.take; rw [hq]
 have hn : ((S.ps.eraseIdx i).map (·.1)).Nodup := List.Nodup.sublist ((List.eraseIdx_sublist S.ps i).map _) h.i.g.pn;have hqm := List.mem_of_getElem? hq;have hq1 : q.2.id ≠ 1 := fun e => by
   have := (h.x.p0 q hqm).2 e;have := (h.x.idr _ hb).1;simp only at this;omega
 refine ⟨q, hq, hqm, hp, hq6, ?_⟩;rw [e, cS (x' := told x q.2) (h.x.erase hq hq1) hn hbe rfl];congr 1;exact vD h.x h.i.g.pn hq
theorem kY (h : S.childAt x = none) : ∀ z ∈ S.vs, ¬ (z.par = x.id ∧ z.st = 6) := fun z hz => by
 obtain ⟨q, hq, rfl⟩ := kW hz;unfold St.childAt at h;have := List.findIdx?_eq_none_iff.1 h q hq;have h2 : ¬ (q.2.par = x.id ∧ q.2.st = 6) := by simpa [isChildEnded] using this
 exact h2
theorem kZ {f : Nat → Nat × Nat} : ∀ (ns : List Nat), (∀ n ∈ ns, f n = (0, 0)) → S.shuts b f ns = S
 | [], _ => rfl
 | n :: ns, h => by
   show (if f n = (0, 0) then S else S.shut b n).shuts b f ns = S;rw [if_pos (h n List.mem_cons_self)];exact kZ ns fun m hm => h m (List.mem_cons_of_mem _ hm)
theorem vE (id : Nat) (hn : (S.ps.map (·.1)).Nodup) : (S.orphs id (S.ps.map (·.1))).vs = S.vs.map (orphV id) := by
 unfold St.vs;rw [fQ id _ hn, List.map_map, List.map_map];apply List.map_congr_left;intro q hq;have hm : q.1 ∈ S.ps.map (·.1) := List.mem_map.2 ⟨q, hq, rfl⟩;simp only [Function.comp, orphP, orphV];by_cases e : q.2.par = id
 · rw [if_pos ⟨hm, e⟩, if_pos (show (vw q.2).par = id from e)]; rfl
 · rw [if_neg (fun h => e h.2), if_neg (show ¬ (vw q.2).par = id from e)]
theorem jv {p : Nat} : ∀ (bs : List Nat) {S : St}, (∀ q ∈ S.ps, q.2.st = 2 → q.1 = p) → bs.Nodup → S.parents bs = if p ∈ bs then S.parent1 p else S
 | [], _, _, _ => rfl
 | c :: bs, S, h, hn => by
   rw [List.nodup_cons] at hn;show (S.parent1 c).parents bs = _;by_cases e : c = p
   · subst e;rw [if_pos List.mem_cons_self];have rest : ∀ (bs : List Nat) (S : St), c ∉ bs → (∀ q ∈ S.ps, q.2.st = 2 → q.1 = c) → S.parents bs = S := fun bs => by
       induction bs with
       | nil => intro S _ _; rfl
       | cons d bs ih =>
         intro S hm hS;have hd : S.parent1 d = S := by
           unfold St.parent1;cases hg : S.get d with
           | none => rfl
           | some x =>
             simp only;rw [if_neg fun e2 => hm (by rw [← hS _ (bm hg) e2]; exact List.mem_cons_self)]
         show (S.parent1 d).parents bs = S;rw [hd];exact ih S (fun h2 => hm (List.mem_cons_of_mem _ h2)) hS
     refine rest bs _ hn.1 fun q hq h2 => ?_;unfold St.parent1 at hq;cases hg : S.get c with
     | none => rw [hg] at hq; exact h q hq h2
     | some x =>
       rw [hg] at hq;simp only at hq
       split at hq
       · cases hc : S.childAt x with
         | none => rw [hc] at hq; exact h q hq h2
         | some i =>
           rw [hc] at hq;simp only at hq;cases hi : S.ps[i]? with
           | none => rw [hi] at hq; exact h q hq h2
           | some r =>
             rw [hi] at hq;simp only at hq;rcases aQ hq with e2 | ⟨m1, n1⟩
             · rw [e2]
             · have e3 : S.take c x i = ({ S.setPs (S.ps.eraseIdx i) with last := S.last } : St).setP c (told x r.2) := by unfold St.take; rw [hi]
               rw [e3] at m1;rcases aQ m1 with e4 | ⟨m2, n2⟩
               · rw [e4]
               · exact h q (List.mem_of_mem_eraseIdx m2) h2
       · exact h q hq h2
   · have hc : S.parent1 c = S := by
       unfold St.parent1;cases hg : S.get c with
       | none => rfl
       | some x =>
         simp only;rw [if_neg fun e2 => e (h _ (bm hg) e2)]
     rw [hc, jv bs h hn.2];by_cases e2 : p ∈ bs
     · rw [if_pos e2, if_pos (List.mem_cons_of_mem _ e2)]
     · rw [if_neg e2, if_neg (by simp [e2]; exact fun e3 => e e3.symm)]
theorem vF (h : MI P N S) (hb : (b, x) ∈ S.ps) (hf : ∀ i, i < 6 → x.f i = (0, 0)) {p : Nat} {xp : PS} (hp : (p, xp) ∈ S.ps) (hp1 : xp.id = 1) (hw : ∀ q ∈ S.ps, q.2.st = 2 → q.1 = p) (status : Int) :
   ∃ vs4, vs4 = (upd S.vs (vw { x with st := 6, stat := status })).map (orphV x.id) ∧
     (((S.fin b x status).vs = vs4 ∧ ∀ z ∈ vs4, z.id = 1 → z.st = 2 → ∀ y ∈ vs4, ¬ (y.par = 1 ∧ y.st = 6)) ∨
     ∃ z ∈ vs4, z.id = 1 ∧ z.st = 2 ∧ ∃ y ∈ vs4, y.par = 1 ∧ y.st = 6 ∧ (S.fin b x status).vs = upd (without vs4 y.id) { told z y with st := 1 }) := by
 have ho := h.i.out_depart hb;have h1 : MI P N (S.depart b (x.file (x.r 0))) := h.depart;have hb1 : (b, x) ∈ (S.depart b (x.file (x.r 0))).ps := hb;have h2 := h1.stop1 hb1 ho (s := 6) (by decide);have hb2 : (b, { x with st := 6 }) ∈ ((S.depart b (x.file (x.r 0))).stop1 b x 6).ps := au hb1;have h3 := h2.like (x' := { x with st := 6, stat := status }) hb2 ho rfl rfl ⟨(h.i.wf _ hb).r, (h.i.wf _ hb).m⟩ (h.i.fl (b, x) hb) rfl rfl (h.x.un (b, x) hb);have e1 : ((S.depart b (x.file (x.r 0))).stop1 b x 6).vs = upd S.vs (vw { x with st := 6 }) := kX (S := S.depart b (x.file (x.r 0))) h1.x h1.i.g.pn hb1 6;have e2 := cS (x' := { x with st := 6, stat := status }) h2.x h2.i.g.pn hb2 rfl;rw [e1, cY (by rfl)] at e2;generalize hS3 : ((S.depart b (x.file (x.r 0))).stop1 b x 6).setP b { x with st := 6, stat := status } = S3 at h3 e2;have hsh : S3.shuts b x.f (List.range' 0 6) = S3 := kZ _ fun n hn => hf n (by simp at hn; omega);have h5 := MI.orphs x.id (h.x.idr _ hb).1 (S3.ps.map (·.1)) h3;have e4 := vE (S := S3) x.id h3.i.g.pn;have hfin : S.fin b x status = (S3.orphs x.id (S3.ps.map (·.1))).parents ((S3.orphs x.id (S3.ps.map (·.1))).ps.map (·.1)) := by
   unfold St.fin;simp only;rw [hS3, hsh]
 generalize hS4 : S3.orphs x.id (S3.ps.map (·.1)) = S4 at hfin h5 e4;rw [e2] at e4;refine ⟨_, rfl, ?_⟩;have hfst : S4.ps.map (·.1) = S.ps.map (·.1) := by
   rw [← hS4, fQ x.id _ h3.i.g.pn, List.map_map, ← hS3];have : ∀ q, ((fun r : Nat × PS => r.1) ∘ orphP x.id ((((S.depart b (x.file (x.r 0))).stop1 b x 6).setP b { x with st := 6, stat := status }).ps.map (·.1))) q = q.1 := fun q => by
     simp only [Function.comp, orphP]; split <;> rfl
   rw [List.map_congr_left fun q _ => this q, aT];exact aT S b _
 have hw4 : ∀ q ∈ S4.ps, q.2.st = 2 → q.1 = p := fun q hq h2' => by
   rw [← hS4, fQ x.id _ h3.i.g.pn] at hq;obtain ⟨r, hr, e⟩ := List.mem_map.1 hq;have e5 : q.1 = r.1 ∧ q.2.st = r.2.st := by rw [← e]; unfold orphP; split <;> exact ⟨rfl, rfl⟩
   rw [e5.1];rw [e5.2] at h2';rw [← hS3] at hr;rcases aQ hr with e6 | ⟨m1, n1⟩
   · rw [e6] at h2'; cases h2'
   · rcases aQ (S := S) m1 with e6 | ⟨m2, n2⟩
     · exact absurd (congrArg Prod.fst e6) n1
     · exact hw r m2 h2'
 have hpm : p ∈ S4.ps.map (·.1) := by rw [hfst]; exact List.mem_map.2 ⟨_, hp, rfl⟩
 have hpar := jv (S4.ps.map (·.1)) hw4 h5.i.g.pn;rw [if_pos hpm] at hpar;rw [hfin, hpar];obtain ⟨⟨p', xq⟩, hq, epp⟩ := List.mem_map.1 hpm;obtain rfl : p' = p := epp;have hid : xq.id = 1 := by
   have hi : (S4.sk.map (·.1)) = S.sk.map (·.1) := by
     have k1 := vz (S := S3) x.id h3.i.g.pn;have : S4.sk = S3.sk.map (orph x.id) := by rw [← hS4]; exact k1
     rw [this, List.map_map];have o1 : ∀ e : Key, ((fun r : Key => r.1) ∘ orph x.id) e = e.1 := fun e => by simp only [Function.comp, orph]; split <;> rfl
     rw [List.map_congr_left fun e _ => o1 e, ← hS3];have m1 := qQ (x' := { x with st := 6, stat := status }) h2.i.g.pn hb2 rfl rfl Iff.rfl;have m2 : ((S.depart b (x.file (x.r 0))).stop1 b x 6).sk = S.sk.map (mark x.id) := xW (S := S) (x' := { x with st := 6 }) h hb rfl rfl rfl;rw [m1, m2, List.map_map];apply List.map_congr_left;intro e _;simp only [Function.comp, mark]; split <;> rfl
   obtain ⟨i, hi1⟩ := List.getElem?_of_mem hq;have f1 : (S4.ps.map (·.1))[i]? = some p' := by simp [hi1]
   rw [hfst] at f1;obtain ⟨i', hi2⟩ := List.getElem?_of_mem hp;have f2 : (S.ps.map (·.1))[i']? = some p' := by simp [hi2]
   obtain ⟨l1, g1⟩ := List.getElem?_eq_some_iff.1 f1;obtain ⟨l2, g2⟩ := List.getElem?_eq_some_iff.1 f2;have hii : i = i' := by
     rcases Nat.lt_trichotomy i i' with g | g | g
     · exact absurd (g1.trans g2.symm) (List.pairwise_iff_getElem.1 h.i.g.pn i i' l1 l2 g)
     · exact g
     · exact absurd (g2.trans g1.symm) (List.pairwise_iff_getElem.1 h.i.g.pn i' i l2 l1 g)
   subst hii;have k1 : (S4.sk.map (·.1))[i]? = some xq.id := by unfold St.sk; simp [hi1, key]
   rw [hi] at k1;have k2 : (S.sk.map (·.1))[i]? = some xp.id := by unfold St.sk; simp [hi2, key]
   rw [k2] at k1;rw [← Option.some.inj k1]; exact hp1
 unfold St.parent1;rw [bk h5.i.g.pn hq];simp only;by_cases hst : xq.st = 2
 · rw [if_pos hst];cases hc : S4.childAt xq with
   | none =>
     refine .inl ⟨e4, fun z hz z1 z2 y hy hh => ?_⟩;rw [← e4] at hy;exact kY hc y hy (by rw [hid]; exact hh)
   | some i =>
     obtain ⟨q, hqi, _, _⟩ := cO hc;have hoq := h5.i.out_st hq (by omega) (by omega) (by omega);obtain ⟨r, hri, hr, r1, r2, r3⟩ := qR h5 hq hoq hc (by omega);obtain ⟨hT, hci⟩ := h5.take hq hoq hc (by omega);have e : S4.take p' xq i = ({ S4.setPs (S4.ps.eraseIdx i) with last := S4.last } : St).setP p' (told xq q.2) := by unfold St.take; rw [hqi]
     simp only [hqi];have hmem : (p', told xq q.2) ∈ (S4.take p' xq i).ps := by rw [e]; exact au hci
     have e6 := oQ (x := told xq q.2) hT.x hT.i.g.pn hmem;obtain rfl : r = q := by rw [hri] at hqi; simpa using hqi
     refine .inr ⟨vw xq, by rw [← e4]; exact kV hq, hid, hst, vw r.2, by rw [← e4]; exact List.mem_map.2 ⟨r, hr, rfl⟩, by rw [← hid]; exact r1, r2, ?_⟩;rw [e6, r3, ← e4, cY (by rfl)];rfl
 · rw [if_neg hst];refine .inl ⟨e4, fun z hz z1 z2 y hy hh => ?_⟩;rw [← e4] at hz;obtain ⟨q, hq2, rfl⟩ := kW hz;have := h5.x.idn q hq2 _ hq (by show q.2.id = xq.id; rw [hid]; exact z1);rw [this] at z2;exact absurd z2 hst
end
theorem yF {T : St} (hT : TI id T) : MI (fun _ => False) id T.lead ∧ T.lead.vs = T.vs.map (wk T.now) ∧ TI id T.next ∧ (∀ q ∈ T.lead.ps, T.last + 1 ≠ q.1) ∧
   ((T.next.vs = T.lead.vs ∧ (∀ z ∈ T.lead.vs, z.st ≠ 1) ∧ T.tickE = [evt T.now 2 0 0] ∧ T.next.last = T.last) ∨
   ∃ b x, (b, x) ∈ T.lead.ps ∧ x.st = 1 ∧ T.tickE = evt T.now 1 x.id x.at_ :: T.lead.runE b x ∧ T.next.vs = (T.lead.runS b x (T.last + 1)).vs ∧ T.next.last = (T.lead.runS b x (T.last + 1)).last) := by
 have hc : ∀ q ∈ T.lead.ps, T.last + 1 ≠ q.1 := fun q hq e => by
   have h2 := hT.m.lead.x.nm q hq;have h3 := (hT.m.lead.x.idr q hq).2;rw [cQ] at h3;have h4 : q.1 = q.2.id := h2;omega
 have hT' : TI id T.next := hT.tick hc rfl
 refine ⟨hT.m.lead, xX hT.m.i.g.pn, hT', hc, ?_⟩;have hnow : T.lead.now = T.now := (bZ T).now;cases hf : T.lead.first with
 | none =>
   left;have hE : T.tickU (T.last + 1) = T.lead := by unfold St.tickU; rw [hf]
   refine ⟨by unfold St.next; rw [hE]; rfl, fun z hz h1 => ?_, by unfold St.tickE; rw [hf, hnow], by unfold St.next; rw [hE]; exact cQ T⟩;obtain ⟨q, hq, rfl⟩ := kW hz;have hr := hT.m.lead.i.g.rr q hq h1;have hv := hT.m.lead.i.g.lv q hq;unfold St.first at hf
   rw [List.head?_eq_none_iff] at hf;simp only [List.append_eq_nil_iff] at hf;rcases Nat.lt_or_ge q.2.lv 1 with h3 | h3
   · rw [show q.2.lv = 0 by omega, hf.1] at hr; cases hr
   · rcases Nat.lt_or_ge q.2.lv 2 with h4 | h4
     · rw [show q.2.lv = 1 by omega, hf.2.1] at hr; cases hr
     · rw [show q.2.lv = 2 by omega, hf.2.2] at hr; cases hr
 | some b =>
   right;obtain ⟨x, hx, hs⟩ := fj hT.m.lead.i.g hf;have hN' : id (T.last + 1) = T.lead.last + 1 := by rw [cQ]; rfl
   have hM := hT.m.lead.runS hT.coded_lead hx hs hc hN';have hE : T.tickU (T.last + 1) = (T.lead.runS b x (T.last + 1)).after b := by unfold St.tickU; rw [hf]; simp only [bk hT.m.lead.i.g.pn hx]
   refine ⟨b, x, hx, hs, ?_, ?_, ?_⟩
   · unfold St.tickE; rw [hf]; simp only [bk hT.m.lead.i.g.pn hx]; rw [hnow]
   · unfold St.next; rw [hE]; exact vA hM.x hM.i.g.pn b
   · unfold St.next; rw [hE]; exact (fO _ b).last
section
variable {n : Nat} {nap stt : Nat → Int}
def cE (n i : Nat) : Nat := 6 * n + 3 + 5 * i
structure Prg (n : Nat) (nap stt : Nat → Int) (pn : Nat) (pg : Nat → Nat → Int) : Prop where
 pn : pn = 11 * n + 3
 n7 : n ≤ 7
 hnap : ∀ i, i < n → 0 ≤ nap i ∧ nap i < 30
 hstt : ∀ i, i < n → 0 ≤ stt i ∧ stt i < 256
 fk : ∀ i, i < n → pg (2 * i) 0 = 9 ∧ pg (2 * i) 1 = 1
 jz : ∀ i, i < n → pg (2 * i + 1) 0 = 5 ∧ pg (2 * i + 1) 1 = 0 ∧ (pg (2 * i + 1) 2 + 256 * pg (2 * i + 1) 3) % 65536 = (cE n i : Nat)
 wt : ∀ k, k ≤ n → pg (2 * n + 4 * k) 0 = 9 ∧ pg (2 * n + 4 * k) 1 = 2
 p1 : ∀ k, k ≤ n → pg (2 * n + 4 * k + 1) 0 = 9 ∧ pg (2 * n + 4 * k + 1) 1 = 11
 mv : ∀ k, k < n → pg (2 * n + 4 * k + 2) 0 = 2 ∧ pg (2 * n + 4 * k + 2) 1 = 0 ∧ pg (2 * n + 4 * k + 2) 2 = 1
 p2 : ∀ k, k < n → pg (2 * n + 4 * k + 3) 0 = 9 ∧ pg (2 * n + 4 * k + 3) 1 = 11
 ex : pg (6 * n + 2) 0 = 9 ∧ pg (6 * n + 2) 1 = 0
 c1 : ∀ i, i < n → pg (cE n i) 0 = 1 ∧ pg (cE n i) 1 = 0 ∧ (pg (cE n i) 2 + 256 * pg (cE n i) 3) % 65536 = nap i
 c2 : ∀ i, i < n → pg (cE n i + 1) 0 = 9 ∧ pg (cE n i + 1) 1 = 4
 c3 : ∀ i, i < n → pg (cE n i + 2) 0 = 1 ∧ pg (cE n i + 2) 1 = 0 ∧ (pg (cE n i + 2) 2 + 256 * pg (cE n i + 2) 3) % 65536 = stt i
 c4 : ∀ i, i < n → pg (cE n i + 3) 0 = 9 ∧ pg (cE n i + 3) 1 = 0
inductive Chd (n : Nat) (nap stt : Nat → Int) (i now : Nat) (z : PS) : Prop
 | c0 : z.st = 1 → z.at_ = 2 * i + 1 → z.r 0 = 0 → Chd n nap stt i now z
 | c1 : z.st = 1 → z.at_ = cE n i → Chd n nap stt i now z
 | c2 : z.st = 1 → z.at_ = cE n i + 1 → z.r 0 = nap i → Chd n nap stt i now z
 | c3 : z.st = 1 → z.at_ = cE n i + 2 → Chd n nap stt i now z
 | cs : z.st = 3 → z.at_ = cE n i + 2 → (now : Int) ≤ z.til → z.til ≤ now + 29 → Chd n nap stt i now z
 | c4 : z.st = 1 → z.at_ = cE n i + 3 → z.r 0 = stt i → Chd n nap stt i now z
 | c5 : z.st = 6 → z.stat = stt i → Chd n nap stt i now z
def full (stt : Nat → Int) (D : List Nat) : List Int := D.flatMap fun (i : Nat) => [((i : Nat) : Int) + 2, stt i]
inductive Par1 (n : Nat) (stt : Nat → Int) (m : Nat) (D : List Nat) (z : PS) (out : List Int) : Prop
 | fk : m < n → D = [] → z.st = 1 → z.at_ = 2 * m → out = [] → Par1 n stt m D z out
 | jz : 0 < m → D = [] → z.st = 1 → z.at_ = 2 * m - 1 → z.r 0 ≠ 0 → out = [] → Par1 n stt m D z out
 | wt : m = n → z.st = 1 → z.at_ = 2 * n + 4 * D.length → out = full stt D → Par1 n stt m D z out
 | bl : m = n → D.length < n → z.st = 2 → z.at_ = 2 * n + 4 * D.length + 1 → out = full stt D → Par1 n stt m D z out
 | gt (i : Nat) (D' : List Nat) : m = n → D = D' ++ [i] → z.st = 1 → z.at_ = 2 * n + 4 * D'.length + 1 → z.r 0 = (i : Int) + 2 → z.r 1 = stt i → out = full stt D' → Par1 n stt m D z out
 | mv (i : Nat) (D' : List Nat) : m = n → D = D' ++ [i] → z.st = 1 → z.at_ = 2 * n + 4 * D'.length + 2 → z.r 1 = stt i → out = full stt D' ++ [(i : Int) + 2] → Par1 n stt m D z out
 | sa (i : Nat) (D' : List Nat) : m = n → D = D' ++ [i] → z.st = 1 → z.at_ = 2 * n + 4 * D'.length + 3 → z.r 0 = stt i → out = full stt D' ++ [(i : Int) + 2] → Par1 n stt m D z out
 | la : m = n → D.length = n → z.st = 1 → z.at_ = 6 * n + 1 → z.r 0 = 65533 → out = full stt D → Par1 n stt m D z out
 | ex : m = n → D.length = n → z.st = 1 → z.at_ = 6 * n + 2 → out = full stt D ++ [253] → Par1 n stt m D z out
def wC (n i now : Nat) (z : PS) : Nat := if z.st = 6 then 0 else if z.at_ = 2 * i + 1 then 35 else if z.at_ = cE n i then 34 else if z.at_ = cE n i + 1 then 33 else if z.at_ = cE n i + 2 then 2 + (if z.st = 3 then (z.til - now).toNat else 0) else 1
def wP (n at_ : Nat) : Nat := if at_ < 2 * n then (if at_ % 2 = 0 then 37 * (n - at_ / 2) else 37 * (n - at_ / 2 - 1) + 1) + 4 * n + 3 else 6 * n + 3 - at_
def wZ (n now : Nat) (z : PS) : Nat := if z.id = 1 then wP n z.at_ else wC n (z.id - 2) now z
def wA (n now : Nat) (vs : List PS) : Nat := (vs.map (wZ n now)).sum
structure Fm (n : Nat) (nap stt : Nat → Int) (vs : List PS) (now m : Nat) (D G : List Nat) (out : List Int) : Prop where
 par : ∃ z ∈ vs, z.id = 1 ∧ Par1 n stt m D z out
 chd : ∀ z ∈ vs, z.id ≠ 1 → ∃ i, z.id = i + 2 ∧ i < m ∧ i ∉ D ∧ z.par = 1 ∧ Chd n nap stt i now z
 fs : ∀ z ∈ vs, ∀ j, j < 6 → z.f j = (0, 0)
 nd : (vs.map PS.id).Nodup
 all : ∀ i, i < m → i ∉ D → ∃ z ∈ vs, z.id = i + 2
 dn : D.Nodup
 dm : ∀ i ∈ D, i < m
 mn : m ≤ n
 blk : ∀ z ∈ vs, z.id = 1 → z.st = 2 → ∀ y ∈ vs, y.id ≠ 1 → y.st ≠ 6
 gn : G.Nodup
 gm : ∀ i ∈ G, i < m
 gd : ∀ i ∈ D, i ∈ G
 gz : ∀ z ∈ vs, ∀ i, z.id = i + 2 → (i ∈ G ↔ z.st = 6)
 p0 : ∀ z ∈ vs, z.id = 1 → z.par = 0
variable {vs : List PS} {now m : Nat} {D G : List Nat} {out : List Int}
theorem ig {vs : List PS} (h : (vs.map PS.id).Nodup) {y z : PS} (hy : y ∈ vs) (hz : z ∈ vs) (e : y.id = z.id) : y = z := by
 obtain ⟨i, hi⟩ := List.getElem?_of_mem hy;obtain ⟨j, hj⟩ := List.getElem?_of_mem hz;have e1 : (vs.map PS.id)[i]? = some y.id := by simp [hi]
 have e2 : (vs.map PS.id)[j]? = some z.id := by simp [hj]
 obtain ⟨l1, g1⟩ := List.getElem?_eq_some_iff.1 e1;obtain ⟨l2, g2⟩ := List.getElem?_eq_some_iff.1 e2;have : i = j := by
   rcases Nat.lt_trichotomy i j with g | g | g
   · exact absurd (g1.trans (e.trans g2.symm)) (List.pairwise_iff_getElem.1 h i j l1 l2 g)
   · exact g
   · exact absurd (g2.trans (e.symm.trans g1.symm)) (List.pairwise_iff_getElem.1 h j i l2 l1 g)
 subst this;rw [hi] at hj;exact Option.some.inj hj
theorem dB (now : Nat) (z : PS) : (wk now z).id = z.id ∧ (wk now z).par = z.par ∧ (wk now z).f = z.f ∧ (wk now z).at_ = z.at_ ∧ (wk now z).r = z.r ∧ ((wk now z).st = 6 ↔ z.st = 6) ∧ (z.st ≠ 3 → wk now z = z) := by
 unfold wk
 split
 · rename_i h;exact ⟨rfl, rfl, rfl, rfl, rfl, ⟨fun e => (by cases e), fun e => (by omega)⟩, fun e => absurd h.1 e⟩
 · exact ⟨rfl, rfl, rfl, rfl, rfl, Iff.rfl, fun _ => rfl⟩
theorem Fm.lead (h : Fm n nap stt vs now m D G out) : Fm n nap stt (vs.map (wk now)) now m D G out ∧ (∀ z ∈ vs.map (wk now), z.st = 3 → z.til ≠ (now : Int)) ∧ wA n now (vs.map (wk now)) = wA n now vs := by
 have ids : (vs.map (wk now)).map PS.id = vs.map PS.id := by
   rw [List.map_map];exact List.map_congr_left fun z _ => (dB now z).1
 have mem : ∀ z ∈ vs.map (wk now), ∃ y ∈ vs, z = wk now y := fun z hz => by
   obtain ⟨y, hy, e⟩ := List.mem_map.1 hz;exact ⟨y, hy, e.symm⟩
 refine ⟨⟨?_, fun z hz h1 => ?_, fun z hz => ?_, by rw [ids]; exact h.nd, fun i hi hd => ?_, h.dn, h.dm, h.mn, fun z hz h1 h2 y hy hy1 => ?_, h.gn, h.gm, h.gd, fun z hz i hi => ?_, fun z hz h1 => ?_⟩, fun z hz h3 => ?_, ?_⟩
 · obtain ⟨z, hz, h1, h2⟩ := h.par;have h3 : z.st ≠ 3 := by cases h2 <;> omega
   refine ⟨z, List.mem_map.2 ⟨z, hz, (dB now z).2.2.2.2.2.2 h3⟩, h1, h2⟩
 · obtain ⟨y, hy, rfl⟩ := mem z hz;rw [(dB now y).1] at h1;obtain ⟨i, e1, e2, e3, e4, e5⟩ := h.chd y hy h1;refine ⟨i, by rw [(dB now y).1]; exact e1, e2, e3, by rw [(dB now y).2.1]; exact e4, ?_⟩;by_cases h3 : y.st = 3
   · by_cases ht : y.til = (now : Int)
     · have hat : y.at_ = cE n i + 2 := by cases e5 <;> first | assumption | omega
       refine .c3 ?_ (by rw [(dB now y).2.2.2.1]; exact hat);unfold wk; rw [if_pos ⟨h3, ht⟩]
     · have : wk now y = y := by unfold wk; rw [if_neg fun e => ht e.2]
       rw [this]; exact e5
   · rw [(dB now y).2.2.2.2.2.2 h3]; exact e5
 · obtain ⟨y, hy, rfl⟩ := mem z hz;rw [(dB now y).2.2.1]; exact h.fs y hy
 · obtain ⟨z, hz, e⟩ := h.all i hi hd;exact ⟨wk now z, List.mem_map.2 ⟨z, hz, rfl⟩, by rw [(dB now z).1]; exact e⟩
 · obtain ⟨z', hz', rfl⟩ := mem z hz;obtain ⟨y', hy', rfl⟩ := mem y hy;rw [(dB now z').1] at h1;rw [(dB now y').1] at hy1;have h4 : z'.st = 2 := by
     unfold wk at h2
     split at h2
     · cases h2
     · exact h2
   intro e;exact h.blk z' hz' h1 h4 y' hy' hy1 ((dB now y').2.2.2.2.2.1.1 e)
 · obtain ⟨y, hy, rfl⟩ := mem z hz;rw [(dB now y).2.2.2.2.2.1];exact h.gz y hy i (by rw [← (dB now y).1]; exact hi)
 · obtain ⟨y, hy, rfl⟩ := mem z hz;rw [(dB now y).2.1];exact h.p0 y hy (by rw [← (dB now y).1]; exact h1)
 · obtain ⟨y, hy, rfl⟩ := mem z hz;unfold wk at h3 ⊢
   split at h3
   · cases h3
   · rename_i hn;rw [if_neg hn];exact fun e => hn ⟨h3, e⟩
 · unfold wA;rw [List.map_map];congr 1;apply List.map_congr_left;intro z hz;simp only [Function.comp];unfold wZ;rw [(dB now z).1, (dB now z).2.2.2.1]
   split
   · rfl
   · unfold wC;rw [(dB now z).2.2.2.1];by_cases h3 : z.st = 3 ∧ z.til = (now : Int)
     · have e : wk now z = { z with st := 1 } := by unfold wk; rw [if_pos h3]
       rw [e];simp only [h3.1, h3.2];simp
     · have e : wk now z = z := by unfold wk; rw [if_neg h3]
       rw [e]
end
section
variable {S : St} {b c : Nat} {x x' : PS} {N : Nat → Nat}
theorem k5 (h : MI (fun _ => False) N S) (hb : (b, x) ∈ S.ps) (hat : x.at_ < S.pn) (hop : S.pg x.at_ 0 ≠ 9) (hd : S.doR x = .ok x') (hid : x'.id = x.id) : (S.runS b x c).vs = upd S.vs (vw x') ∧ S.runE b x = [] ∧ (S.runS b x c).last = S.last := by
 have e : S.runS b x c = S.setP b x' := by
   unfold St.runS;rw [if_neg (by omega), if_neg hop, hd]
 refine ⟨by rw [e]; exact cS h.x h.i.g.pn hb hid, ?_, by rw [e]; rfl⟩;unfold St.runE;rw [if_neg (by omega), if_neg hop, hd]
theorem eq (h : MI (fun _ => False) N S) (hb : (b, x) ∈ S.ps) (hs : x.st = 1) : MI (fun _ => False) N (S.setP b x.next) ∧ (b, x.next) ∈ (S.setP b x.next).ps ∧ (S.setP b x.next).vs = upd S.vs (vw x.next) :=
 ⟨h.like (x' := x.next) hb (h.out hb hs) rfl rfl ⟨(h.i.wf _ hb).r, (h.i.wf _ hb).m⟩ (h.i.fl (b, x) hb) rfl rfl (h.x.un (b, x) hb), au hb, cS (x' := x.next) h.x h.i.g.pn hb rfl⟩
theorem fR (hat : x.at_ < S.pn) (h9 : S.pg x.at_ 0 = 9) : S.runE b x = (S.setP b x.next).grantE b x.next (S.pg x.at_ 1) ∧ ((S.setP b x.next).grantV b x.next (S.pg x.at_ 1) = none → S.runS b x c = (S.setP b x.next).grantS b x.next (S.pg x.at_ 1) c) ∧
   ∀ i, (S.setP b x.next).grantV b x.next (S.pg x.at_ 1) = some i → S.runS b x c = ((S.setP b x.next).grantS b x.next (S.pg x.at_ 1) c).r0 b (ansOf i) := by
 refine ⟨?_, fun hv => ?_, fun i hv => ?_⟩
 · unfold St.runE; rw [if_neg (by omega), if_pos h9]
 · unfold St.runS; rw [if_neg (by omega), if_pos h9, hv]
 · unfold St.runS; rw [if_neg (by omega), if_pos h9, hv]
theorem je (h : MI (fun _ => False) N S) (hb : (b, x) ∈ S.ps) (hs : x.st = 1) (hat : x.at_ < S.pn) (h9 : S.pg x.at_ 0 = 9) (h1 : S.pg x.at_ 1 = 11) : (S.runS b x c).vs = upd S.vs (vw (x.next.r0 0)) ∧ S.runE b x = [evt S.now 3 x.id (x.r 0 % 256)] ∧ (S.runS b x c).last = S.last := by
 obtain ⟨hM, hb1, hv⟩ := eq h hb hs;obtain ⟨e1, e2, _⟩ := fR (b := b) (c := c) hat h9;rw [h1] at e1 e2;have e3 := e2 rfl;have e4 : S.runS b x c = (S.setP b x.next).setP b (x.next.r0 0) := e3;refine ⟨?_, e1, by rw [e4]; rfl⟩;rw [e4, cS (x' := x.next.r0 0) hM.x hM.i.g.pn hb1 rfl, hv, cY (by rfl)]
theorem sO (h : MI (fun _ => False) N S) (hb : (b, x) ∈ S.ps) (hs : x.st = 1) (hat : x.at_ < S.pn) (h9 : S.pg x.at_ 0 = 9) (h1 : S.pg x.at_ 1 = 4) :
   (S.runS b x c).vs = upd S.vs (vw (if x.r 0 = 0 then x.next.r0 0 else { x.next.r0 0 with til := (S.now : Int) + x.r 0, st := 3 })) ∧ S.runE b x = [] ∧ (S.runS b x c).last = S.last := by
 obtain ⟨hM, hb1, hv⟩ := eq h hb hs;obtain ⟨e1, e2, _⟩ := fR (b := b) (c := c) hat h9;rw [h1] at e1 e2;have e4 : S.runS b x c = (S.setP b x.next).sleep1 b x.next := e2 rfl
 refine ⟨?_, e1, by rw [e4]; exact (lO _ _ _).last⟩;rw [e4];unfold St.sleep1;by_cases h0 : x.r 0 = 0
 · rw [if_pos (show x.next.r 0 = 0 from h0), if_pos h0, cS (x' := x.next.r0 0) hM.x hM.i.g.pn hb1 rfl, hv, cY (by rfl)]
 · rw [if_neg (show ¬ x.next.r 0 = 0 from h0), if_neg h0];have ho := hM.out hb1 hs;have h2 := hM.like (x' := { x.next.r0 0 with til := (S.now : Int) + x.r 0 }) hb1 ho rfl rfl ⟨(fu (hM.i.wf _ hb1) (v := 0) (by omega)).r, (hM.i.wf _ hb1).m⟩ (hM.i.fl (b, x.next) hb1) rfl rfl (hM.x.un (b, x.next) hb1);have e5 := kX h2.x h2.i.g.pn (au hb1) 3;have e6 := cS (x' := { x.next.r0 0 with til := (S.now : Int) + x.r 0 }) hM.x hM.i.g.pn hb1 rfl;rw [hv, cY (by rfl)] at e6;refine e5.trans ?_;rw [e6, cY (by rfl)]
theorem vG (h : MI (fun _ => False) N S) (hb : (b, x) ∈ S.ps) (hs : x.st = 1) (hat : x.at_ < S.pn) (h9 : S.pg x.at_ 0 = 9) (h1 : S.pg x.at_ 1 = 1) (h8 : S.ps.length < 8) (hc : ∀ q ∈ S.ps, c ≠ q.1) (hN : N c = S.last + 1) :
   (S.runS b x c).vs = upd S.vs (vw (x.next.r0 (((S.last + 1 : Nat) : Int) % 65536))) ++ [vw { x.next.copy.r0 0 with id := S.last + 1, st := 1 }] ∧ S.runE b x = [] ∧ (S.runS b x c).last = S.last + 1 := by
 obtain ⟨hM, hb1, hv⟩ := eq h hb hs;obtain ⟨e1, e2, _⟩ := fR (b := b) (c := c) hat h9;rw [h1] at e1 e2;have h8' : (S.setP b x.next).ps.length < 8 := by rw [eH]; exact h8
 have e3 := e2 (by show (if 8 ≤ (S.setP b x.next).ps.length then some 4 else none) = none; rw [if_neg (by omega)]);have e4 : S.runS b x c = (S.setP b x.next).forkS b x.next c := by
   rw [e3];show (if 8 ≤ (S.setP b x.next).ps.length then _ else _) = _;rw [if_neg (by omega)]
 have hc1 : ∀ q ∈ (S.setP b x.next).ps, c ≠ q.1 := fun q hq e => by
   have : q.1 ∈ S.ps.map (·.1) := by rw [← aT S b x.next]; exact List.mem_map.2 ⟨q, hq, rfl⟩
   obtain ⟨r, hr, e2⟩ := List.mem_map.1 this;exact hc r hr (by rw [e, ← e2])
 refine ⟨?_, e1, by rw [e4]; rfl⟩;rw [e4, xY hM hb1 (hM.out hb1 hs) hc1 h8' hN, hv, cY (by rfl)];rfl
theorem sP (h : MI (fun _ => False) N S) (hb : (b, x) ∈ S.ps) (hs : x.st = 1) (hat : x.at_ < S.pn) (h9 : S.pg x.at_ 0 = 9) (h1 : S.pg x.at_ 1 = 2) :
   S.runE b x = [] ∧ (S.runS b x c).last = S.last ∧
   (((∀ z ∈ upd S.vs (vw x.next), z.par ≠ x.id) ∧ (S.runS b x c).vs = upd S.vs (vw (x.next.r0 65533))) ∨
    ((∃ z ∈ upd S.vs (vw x.next), z.par = x.id) ∧ (∀ z ∈ upd S.vs (vw x.next), ¬ (z.par = x.id ∧ z.st = 6)) ∧ (S.runS b x c).vs = upd S.vs (vw { x.next with st := 2 })) ∨
    ∃ y ∈ upd S.vs (vw x.next), y.par = x.id ∧ y.st = 6 ∧ (S.runS b x c).vs = upd (without (upd S.vs (vw x.next)) y.id) (vw (told x.next y))) := by
 obtain ⟨hM, hb1, hv⟩ := eq h hb hs;obtain ⟨e1, e2, e3⟩ := fR (b := b) (c := c) hat h9;rw [h1] at e1 e2 e3;have gV : (S.setP b x.next).grantV b x.next 2 = ((S.setP b x.next).waitR b x.next).1 := rfl
 have gS : (S.setP b x.next).grantS b x.next 2 c = ((S.setP b x.next).waitR b x.next).2 := rfl
 rw [gV, gS] at e2;rw [gV, gS] at e3;have hch : (S.setP b x.next).hasChild x.next = true ↔ ∃ z ∈ upd S.vs (vw x.next), z.par = x.id := by
   unfold St.hasChild;rw [List.any_eq_true, ← hv];constructor
   · rintro ⟨q, hq, hp⟩;exact ⟨vw q.2, List.mem_map.2 ⟨q, hq, rfl⟩, of_decide_eq_true hp⟩
   · rintro ⟨z, hz, hp⟩;obtain ⟨q, hq, rfl⟩ := kW hz;exact ⟨q, hq, decide_eq_true (show q.2.par = x.next.id from hp)⟩
 by_cases hh : (S.setP b x.next).hasChild x.next = true
 · have eW : (S.setP b x.next).waitR b x.next = (none, match (S.setP b x.next).childAt x.next with | some i => (S.setP b x.next).take b x.next i | none => (S.setP b x.next).stop1 b x.next 2) := by unfold St.waitR; rw [if_pos hh]; rfl
   rw [eW] at e2;have e4 := e2 rfl;cases hc : (S.setP b x.next).childAt x.next with
   | none =>
     rw [hc] at e4;have e5 : S.runS b x c = (S.setP b x.next).stop1 b x.next 2 := e4
     refine ⟨e1, by rw [e5]; rfl, .inr (.inl ⟨hch.1 hh, fun z hz => ?_, ?_⟩)⟩
     · rw [← hv] at hz;exact kY hc z hz
     · rw [e5, kX hM.x hM.i.g.pn hb1 2, hv, cY (by rfl)]
   | some i =>
     rw [hc] at e4;have e5 : S.runS b x c = (S.setP b x.next).take b x.next i := e4
     obtain ⟨q, _, hq, q1, q2, q3⟩ := qR hM hb1 (hM.out hb1 hs) hc (by show x.st ≠ 6; omega);refine ⟨e1, by rw [e5]; exact (mQ _ _ _ _).last, .inr (.inr ⟨vw q.2, by rw [← hv]; exact List.mem_map.2 ⟨q, hq, rfl⟩, q1, q2, ?_⟩)⟩;rw [e5, q3, hv]; rfl
 · have eW : (S.setP b x.next).waitR b x.next = (some 5, S.setP b x.next) := by unfold St.waitR; rw [if_neg hh]
   rw [eW] at e3;have e5 : S.runS b x c = (S.setP b x.next).r0 b (ansOf 5) := e3 5 rfl;refine ⟨e1, by rw [e5]; exact (qM _ _ _).last, .inl ⟨fun z hz hp => hh (hch.2 ⟨z, hz, hp⟩), ?_⟩⟩;rw [e5, Bl hM.x hM.i.g.pn hb1, hv, cY (by rfl)];rfl
theorem oS (h : MI (fun _ => False) N S) (hb : (b, x) ∈ S.ps) (hs : x.st = 1) (hat : x.at_ < S.pn) (h9 : S.pg x.at_ 0 = 9) (h1 : S.pg x.at_ 1 = 0) : S.runE b x = [evt S.now 4 x.id (x.r 0)] ∧ S.runS b x c = (S.setP b x.next).fin b x.next (x.r 0) ∧ (S.runS b x c).last = S.last := by
 obtain ⟨e1, e2, _⟩ := fR (b := b) (c := c) hat h9;rw [h1] at e1 e2;have e5 : S.runS b x c = (S.setP b x.next).fin b x.next (x.r 0) := e2 rfl
 exact ⟨e1, e5, by rw [e5]; exact (mR _ _ _ _).last⟩
end
section
variable {n : Nat} {nap stt : Nat → Int} {L : List PS} {now m i : Nat} {D G : List Nat} {out out' : List Int} {z z' : PS}
theorem iS (h : Chd n nap stt i now z) (hs : z.st = 3 → z.til ≠ (now : Int)) : Chd n nap stt i (now + 1) z := by
 cases h with
 | c0 a b c => exact .c0 a b c
 | c1 a b => exact .c1 a b
 | c2 a b c => exact .c2 a b c
 | c3 a b => exact .c3 a b
 | cs a b c d => exact .cs a b (by have := hs a; omega) (by omega)
 | c4 a b c => exact .c4 a b c
 | c5 a b => exact .c5 a b
theorem yG (n now : Nat) (z : PS) : wZ n (now + 1) z ≤ wZ n now z := by
 unfold wZ
 split
 · exact Nat.le_refl _
 · unfold wC
   repeat' split
   all_goals omega
theorem p9 {f f' : PS → Nat} : ∀ {L : List PS}, (∀ w ∈ L, f' w ≤ f w) → (∃ w ∈ L, f' w + 1 ≤ f w) → (L.map f').sum + 1 ≤ (L.map f).sum
 | [], _, h => by obtain ⟨w, hw, _⟩ := h; cases hw
 | a :: L, h, h2 => by
   have h1 := h a List.mem_cons_self;have hle : ∀ {L : List PS}, (∀ w ∈ L, f' w ≤ f w) → (L.map f').sum ≤ (L.map f).sum := fun {L} => by
     induction L with
     | nil => intro _; exact Nat.le_refl _
     | cons a L ih =>
       intro h;have h1 := h a List.mem_cons_self;have h2 := ih fun w hw => h w (List.mem_cons_of_mem _ hw);simp only [List.map_cons, List.sum_cons]; omega
   simp only [List.map_cons, List.sum_cons];obtain ⟨w, hw, h3⟩ := h2;rcases List.mem_cons.1 hw with rfl | hw'
   · have := hle fun w hw => h w (List.mem_cons_of_mem _ hw);omega
   · have := p9 (f := f) (f' := f') (L := L) (fun w hw => h w (List.mem_cons_of_mem _ hw)) ⟨w, hw', h3⟩;omega
theorem mY (hn : (L.map PS.id).Nodup) (hz : z ∈ L) (hid : z'.id = z.id) {k : Nat} (hw : wZ n (now + 1) z' + k + 1 ≤ wZ n now z) : wA n (now + 1) (upd L z') + k + 1 ≤ wA n now L := by
 unfold wA upd;rw [List.map_map];have h := p9 (f := wZ n now) (f' := fun w => if w.id = z'.id then wZ n (now + 1) z' + k else wZ n (now + 1) w) (L := L) (fun w hw1 => by
   show (if w.id = z'.id then wZ n (now + 1) z' + k else wZ n (now + 1) w) ≤ wZ n now w
   split
   · rename_i e;rw [ig hn hw1 hz (by rw [e, hid])]; omega
   · exact yG n now w) ⟨z, hz, by show (if z.id = z'.id then _ else _) + 1 ≤ _; rw [if_pos hid.symm]; omega⟩
 have e : ∀ {L : List PS}, (L.map PS.id).Nodup → z ∈ L → (L.map (wZ n (now + 1) ∘ fun w => if w.id = z'.id then z' else w)).sum + k = (L.map fun w => if w.id = z'.id then wZ n (now + 1) z' + k else wZ n (now + 1) w).sum := fun {L} => by
   induction L with
   | nil => intro _ h; cases h
   | cons a L ih =>
     intro hn hz;rw [List.map_cons, List.nodup_cons] at hn;simp only [List.map_cons, List.sum_cons, Function.comp];rcases List.mem_cons.1 hz with e1 | h1
     · subst e1;rw [if_pos hid.symm, if_pos hid.symm];have : (L.map (wZ n (now + 1) ∘ fun w => if w.id = z'.id then z' else w)) = (L.map fun w => if w.id = z'.id then wZ n (now + 1) z' + k else wZ n (now + 1) w) := by
         apply List.map_congr_left;intro w hw;have hne : w.id ≠ z'.id := fun e2 => hn.1 (by rw [← hid, ← e2]; exact List.mem_map.2 ⟨w, hw, rfl⟩);simp only [Function.comp];rw [if_neg hne, if_neg hne]
       rw [this]; omega
     · have hne : a.id ≠ z'.id := fun e2 => hn.1 (by rw [e2, hid]; exact List.mem_map.2 ⟨z, h1, rfl⟩);rw [if_neg hne, if_neg hne];have h3 := ih hn.2 h1;have h4 : (L.map (wZ n (now + 1) ∘ fun w => if w.id = z'.id then z' else w)).sum + k = _ := h3;omega
 have e2 := e hn hz;omega
theorem Fm.step (h : Fm n nap stt L now m D G out) (hs : ∀ z ∈ L, z.st = 3 → z.til ≠ (now : Int)) (hz : z ∈ L) (hid : z'.id = z.id) (hf : z'.f = z.f) (hpar : z'.par = z.par)
   (hP : z.id = 1 → Par1 n stt m D z' out') (hP2 : z.id ≠ 1 → out' = out) (hC : ∀ i, z.id = i + 2 → Chd n nap stt i (now + 1) z' ∧ z'.st ≠ 6 ∧ z.st ≠ 6) (hb : z.id = 1 → z'.st = 2 → ∀ y ∈ L, y.id ≠ 1 → y.st ≠ 6) (hw : wZ n (now + 1) z' + 1 ≤ wZ n now z) :
   Fm n nap stt (upd L z') (now + 1) m D G out' ∧ wA n (now + 1) (upd L z') + 1 ≤ wA n now L := by
 refine ⟨⟨?_, fun w hw1 h1 => ?_, fun w hw1 => ?_, by rw [gE]; exact h.nd, fun i hi hd => ?_, h.dn, h.dm, h.mn, fun w hw1 h1 h2 y hy hy1 => ?_, h.gn, h.gm, h.gd, fun w hw1 i hi => ?_, fun w hw1 h1 => ?_⟩, mY (k := 0) h.nd hz hid hw⟩
 · by_cases e : z.id = 1
   · exact ⟨z', upd_self hz hid.symm, by rw [hid]; exact e, hP e⟩
   · obtain ⟨w, hw1, h1, h2⟩ := h.par;exact ⟨w, eQ hw1 (by rw [hid, h1]; exact fun e2 => e e2.symm), h1, by rw [hP2 e]; exact h2⟩
 · rcases cR hw1 with rfl | ⟨hw2, hne⟩
   · obtain ⟨i, e1, e2, e3, e4, _⟩ := h.chd z hz (by rw [← hid]; exact h1);exact ⟨i, hid.trans e1, e2, e3, hpar.trans e4, (hC i e1).1⟩
   · obtain ⟨i, e1, e2, e3, e4, e5⟩ := h.chd w hw2 h1;exact ⟨i, e1, e2, e3, e4, iS e5 (hs w hw2)⟩
 · rcases cR hw1 with rfl | ⟨hw2, _⟩
   · rw [hf]; exact h.fs z hz
   · exact h.fs w hw2
 · obtain ⟨w, hw1, e⟩ := h.all i hi hd;by_cases e2 : w.id = z'.id
   · exact ⟨z', upd_self hw1 e2, e2.symm.trans e⟩
   · exact ⟨w, eQ hw1 e2, e⟩
 · have hw3 : w = z' ∨ (w ∈ L ∧ w.id ≠ z'.id) := cR hw1;rcases cR hy with rfl | ⟨hy2, hyn⟩
   · have hz1 : z.id ≠ 1 := by rw [← hid]; exact hy1
     obtain ⟨i, e1, _⟩ := h.chd z hz hz1;exact (hC i e1).2.1
   · rcases hw3 with rfl | ⟨hw2, _⟩
     · exact hb (by rw [← hid]; exact h1) h2 y hy2 hy1
     · exact h.blk w hw2 h1 h2 y hy2 hy1
 · rcases cR hw1 with rfl | ⟨hw2, _⟩
   · have e1 : z.id = i + 2 := hid.symm.trans hi;obtain ⟨_, e2, e3⟩ := hC i e1;have := h.gz z hz i e1;exact ⟨fun e => absurd (this.1 e) e3, fun e => absurd e e2⟩
   · exact h.gz w hw2 i hi
 · rcases cR hw1 with rfl | ⟨hw2, _⟩
   · rw [hpar]; exact h.p0 z hz (by rw [← hid]; exact h1)
   · exact h.p0 w hw2 h1
theorem Fm.idle (h : Fm n nap stt L now m D G out) (hs : ∀ z ∈ L, z.st = 3 → z.til ≠ (now : Int)) (hno : ∀ z ∈ L, z.st ≠ 1) : Fm n nap stt L (now + 1) m D G out ∧ wA n (now + 1) L + 1 ≤ wA n now L := by
 refine ⟨⟨h.par, fun w hw1 h1 => ?_, h.fs, h.nd, h.all, h.dn, h.dm, h.mn, h.blk, h.gn, h.gm, h.gd, h.gz, h.p0⟩, ?_⟩
 · obtain ⟨i, e1, e2, e3, e4, e5⟩ := h.chd w hw1 h1;exact ⟨i, e1, e2, e3, e4, iS e5 (hs w hw1)⟩
 obtain ⟨w, hw1, h1, h2⟩ := h.par;have hw2 := hno w hw1;obtain ⟨hm, hD, hst⟩ : m = n ∧ D.length < n ∧ w.st = 2 := by cases h2 <;> first | exact ⟨‹_›, ‹_›, ‹_›⟩ | omega
 obtain ⟨i, hi, hiD⟩ : ∃ i, i < n ∧ i ∉ D := Classical.byContradiction fun hc => by
   have : (List.range n).length ≤ D.length := dg (List.nodup_range) fun j hj => Classical.byContradiction fun h3 => hc ⟨j, by simpa using hj, h3⟩;simp at this;omega
 obtain ⟨y, hy, hyi⟩ := h.all i (by omega) hiD;have hy1 : y.id ≠ 1 := by omega
 have h6 := h.blk w hw1 h1 hst y hy hy1;obtain ⟨j, e1, e2, e3, e4, e5⟩ := h.chd y hy hy1;have hy2 := hno y hy;obtain ⟨s3, hat, hti, _⟩ : y.st = 3 ∧ y.at_ = cE n j + 2 ∧ (now : Int) ≤ y.til ∧ True := by cases e5 <;> first | exact ⟨‹_›, ‹_›, ‹_›, trivial⟩ | omega
 have ht := hs y hy s3;unfold wA;refine p9 (fun w _ => yG n now w) ⟨y, hy, ?_⟩;unfold wZ;rw [if_neg hy1, if_neg hy1];have ej : y.id - 2 = j := by omega
 rw [ej];unfold wC cE at *;rw [if_neg h6, if_neg (by omega), if_neg (by omega), if_neg (by omega), if_pos hat, if_pos s3];rw [if_neg h6, if_neg (by omega), if_neg (by omega), if_neg (by omega), if_pos hat, if_pos s3];omega
end
def setsI (xs : List Int) (i : Nat) : List Int := (List.range i).flatMap fun (j : Nat) => insn 1 (j : Nat) (xs.getD j 0)
def trapI (m : Int) (xs : List Int) : List Int := setsI xs xs.length ++ insn 9 m 0
theorem k6 (xs : List Int) (i : Nat) : setsI xs (i + 1) = setsI xs i ++ insn 1 (i : Nat) (xs.getD i 0) := by
 unfold setsI; rw [List.range_succ, List.flatMap_append]; simp
theorem lY (xs : List Int) : ∀ i, (setsI xs i).length = 4 * i
 | 0 => rfl
 | i + 1 => by rw [k6, List.length_append, lY xs i]; show 4 * i + 4 = _; omega
theorem zN : ∃ n, ∀ {σ} {F : Fam σ} {Δ : DM F} {main s} (L : Frag) (m : Int) (xs : List Int) (base : Option Addr) (cap : Nat), (∀ s o, (Δ s).New o) → Fun L → xs.length ≤ 8 → (∀ i, i < xs.length → ∃ b, base = some ⟨b, 0, none⟩ ∧ At L b i (.int .i64 (xs.getD i 0))) →
   CallsL Δ Tryz.prog main 23 [.int .i64 m, .slice base xs.length cap].toArray n s L (fun s' v L' => s = s' ∧ v = strv (trapI m xs) ∧ Ext L L') := by
 obtain ⟨n1, g1⟩ := vt;apply Exists.intro;intro σ F Δ main s L m xs base cap hN hF h8 hat;co_applyP aB 25 Tryz.func23 Tryz.ntmps23;co_applyP aa;co_applyP oan rfl;co_applyP aa;co_applyP oan rfl;co_applyP ak;co_applyP aa;co_applyP oan rfl;co_applyP aH;co_applyP bF (fun c s' ε' L' => s' = s ∧ Ext L L' ∧ ∃ i, i ≤ xs.length ∧ c + i = 8 ∧ kn ε' [(0, .int .i64 m), (1, .slice base xs.length cap), (5, strv (setsI xs i)), (6, .int .i64 (i : Nat))]) 8
 · exact ⟨rfl, ⟨hF, fun _ h => h⟩, 0, by omega, rfl, rfl⟩
 rintro c s' ε' L' ⟨rfl, hE, i, hi, hc, he⟩;co_applyP aW he;have ei : IntKind.i64.wrap ((i : Int) + 1) = ((i + 1 : Nat) : Int) := by simp [IntKind.wrap_i64]; omega
 have hsl := lY xs i;co_applyP ak;co_applyP aa;co_applyP om rfl rfl rfl ae;co_applyP oy rfl (bz (hu := U54));co_applyP oy rfl b6;co_applyP ah;co_applyP bj rfl;intro hlt
 · have hlt' : i < xs.length := by simpa using hlt
   obtain ⟨b, rfl, hv⟩ := hat i hlt';have hv' := hE.at hv;co_applyP aC;co_applyP ak;co_applyP aH;co_applyP ax;co_applyP om rfl rfl rfl ae;co_applyP om rfl rfl rfl ae;co_applyP oy rfl (bG U54 dh);co_applyP oy rfl (aF (ht := aY));co_applyP oc rfl rfl rfl (g1 L' 1 (i : Nat) (xs.getD i 0) hN hE.f);rintro _ _ _ ⟨rfl, rfl, hE2⟩;have hl2 : (setsI xs i).length + (insn 1 (i : Nat) (xs.getD i 0)).length < 1000000 := by rw [hsl]; show 4 * i + 4 < _; omega
   co_applyP oy rfl cT;co_applyP oan rfl;co_applyP ax;co_applyP om rfl rfl rfl aX;co_applyP oan rfl;change ∃ k', k' < _ ∧ _;exact ⟨c - 1, by omega, rfl, hE.trans hE2, i + 1, by omega, by omega, by rw [← ei, k6]; rfl⟩
 intro hlt;have hi' : i = xs.length := by simp at hlt; omega
 subst hi';co_applyP bJ;co_applyP aa;co_applyP om rfl rfl rfl ae;co_applyP oc rfl rfl rfl (g1 L' 9 m 0 hN hE.f);rintro _ _ _ ⟨rfl, rfl, hE2⟩;have hl2 : (setsI xs xs.length).length + (insn 9 m 0).length < 1000000 := by rw [hsl]; show 4 * _ + 4 < _; omega
 co_applyP oy rfl cT;co_applyP oan rfl;co_applyP aJ;change ∃ v, resE .. = some v ∧ _;exact ⟨_, rfl, rfl, rfl, hE.trans hE2⟩
theorem vH {T : St} (h : T.isOver = true) : ∀ m, St.evs m T = []
 | 0 => rfl
 | m + 1 => by unfold St.evs; rw [if_pos h]
end Go.Proofs.YtejkelcaljmnoaaGreatDoor
namespace Go.Lo
open Go.Conc Go.Hx
def resE3 (g : Func) (ε : Env) : Option Value := match g.results.toList with
 | [.tmp t, .tmp u, .tmp x] => match look ε t, look ε u, look ε x with
   | some v, some w, some y => some (.tuple #[v, w, y])
   | _, _, _ => none
 | _ => none
def bodyE3 {σ : Type} (g : Func) (Post : σ → Value → Frag → Prop) : σ → Exit → Env → Frag → Prop
 | s, .normal, ε, L | s, .ret, ε, L => ∃ v, resE3 g ε = some v ∧ Post s v L
 | _, _, _, _ => False
section
variable {σ : Type} {F : Fam σ} {Δ : ∀ s, Dom (F.R s) (F.D s)} {P : Program} {main : Bool} {fn : FuncId} {N : Nat} {Q : σ → Exit → Env → Frag → Prop} {s : σ} {ε : Env} {L : Frag}
theorem vI {g : Func} {a : Act} {v : Value} (hf : Fits N ε a) (h : resE3 g ε = some v) : wpQ P (results g a.tmps) (· = v) L := by
 unfold resE3 at h
 split at h
 · rename_i t u x e
   split at h
   · rename_i h1 h2 h3;have e' : g.results = #[.tmp t, .tmp u, .tmp x] := Array.ext' e;have r1 := (hf.at_ _ _ h1).2;have r2 := (hf.at_ _ _ h2).2;have r3 := (hf.at_ _ _ h3).2;rw [← Option.some.inj h, ← r1, ← r2, ← r3];have e0 : results g a.tmps = pure (.tuple #[a.tmps.getD t undef, a.tmps.getD u undef, a.tmps.getD x undef]) := by simp [results, e']
     rw [e0]; rfl
   · cases h
 · cases h
theorem xZ (N : Nat) {f : FuncId} {g : Func} {c : Code} {vs : List Value} {n : Nat} {Post : σ → Value → Frag → Prop} (hf : P.funcs[f]? = some g) (hN : g.ntmps = N) (hname : (g.name == "runtime.NumGoroutine") = false := by rfl) (hb : g.body = some c := by rfl) (hl : Nat.ble vs.length N = true := by rfl) (h : wpE Δ P main f N c n s (bodyE3 g Post) (args vs) L) : CallsM Δ P main f vs.toArray n s L Post := by
 have hl := Nat.le_of_ble_eq_true hl;subst hN;refine ⟨g, c, hf, hname, hb, dj (h _ ⟨by simp; omega, rfl, fun t v ht => ?_⟩) fun s' e a' L' ⟨ε', hf, q⟩ => ?_⟩
 · obtain ⟨_, h2⟩ := fZ vs 0 t v ht;have hlt := (List.getElem?_eq_some_iff.1 h2).1;simp only [Nat.sub_zero] at h2 hlt;refine ⟨by omega, ?_⟩;simp only [Array.getD_eq_getD_getElem?, Array.getElem?_append, List.size_toArray, hlt, if_true, List.getElem?_toArray, h2, Option.getD_some]
 · cases e <;> first | exact ⟨hf.df, q.choose, vI hf q.choose_spec.1, q.choose_spec.2⟩ | exact q
end
end Go.Lo
namespace Go.Proofs.YtejkelcaljmnoaaGreatDoor
open Go.Conc Go.Hx Go.Lo
def outB (ws : List Wd) : List Int := (ws.filter fun w => decide (w.2.1 = 3)).map fun w => w.2.2.2 % 256
def goneW (ws : List Wd) : List Wd := ws.filter fun w => decide (w.2.1 = 4)
abbrev u8s (l : List Int) : List Value := l.map (Value.int .u8)
abbrev wcs (ws : List Wd) : List Value := ws.flatMap Wd.c
theorem jI (ws : List Wd) : (wcs ws).length = ws.length * 4 := by
 induction ws with
 | nil => rfl
 | cons w ws ih =>
   have : wcs (w :: ws) = Wd.c w ++ wcs ws := rfl;rw [this, List.length_append, ih];show 4 + _ = _;simp only [List.length_cons]; omega
theorem vJ (ws : List Wd) : ∀ (i : Nat) (w : Wd), ws[i]? = some w → ∀ j, j < 4 → (wcs ws)[4 * i + j]? = (Wd.c w)[j]? := by
 induction ws with
 | nil => intro i w h; simp at h
 | cons v ws ih =>
   intro i w h j hj;have e : wcs (v :: ws) = Wd.c v ++ wcs ws := rfl;have hl : (Wd.c v).length = 4 := rfl;rw [e];cases i with
   | zero =>
     obtain rfl : v = w := by simpa using h
     rw [Nat.mul_zero, Nat.zero_add, List.getElem?_append_left (by rw [hl]; exact hj)]
   | succ i =>
     rw [List.getElem?_append_right (by rw [hl]; omega), hl, show 4 * (i + 1) + j - 4 = 4 * i + j by omega];exact ih i w (by simpa using h) j hj
theorem vK {told : Value} {ws : List Wd} {L : Frag} (h : Heard told (ws.map Wd.v) L) : ∃ base cap, told = .slice base ws.length cap ∧ ∀ i w, ws[i]? = some w → ∃ g cs, base = some ⟨g, 0, none⟩ ∧ (g, true, Obj.cells cs 51) ∈ L ∧ 4 * i + 4 ≤ cs.size ∧ ∀ j, j < 4 → cs[4 * i + j]? = (Wd.c w)[j]? := by
 rcases h with ⟨rfl, h0⟩ | ⟨g, cap, cur, rfl, hg, hn, _, hz, ht⟩
 · have : ws = [] := by simpa using h0
   subst this;exact ⟨none, 0, rfl, fun i w h => by simp at h⟩
 · rw [List.length_map] at hn ht ⊢;refine ⟨_, cap, rfl, fun i w hw => ⟨g, cur, rfl, hg, ?_, fun j hj => ?_⟩⟩
   · have := (List.getElem?_eq_some_iff.1 hw).1;have := Nat.mul_le_mul_right 4 hn;omega
   · have hi := (List.getElem?_eq_some_iff.1 hw).1;rw [← vJ ws i w hw j hj];have e : cur.toList.take (ws.length * 4) = wcs ws := by rw [ht, List.flatMap_map]; rfl
     rw [← e, List.getElem?_take_of_lt (by omega)];simp
theorem sQ (ws : List Wd) {i : Nat} {w : Wd} (h : ws[i]? = some w) : outB (ws.take (i + 1)) = outB (ws.take i) ++ (if w.2.1 = 3 then [w.2.2.2 % 256] else []) := by
 unfold outB;rw [List.take_add_one, h, Option.toList_some, List.filter_append, List.map_append];by_cases e : w.2.1 = 3 <;> simp [e]
theorem qa (ws : List Wd) {i : Nat} {w : Wd} (h : ws[i]? = some w) : goneW (ws.take (i + 1)) = goneW (ws.take i) ++ (if w.2.1 = 4 then [w] else []) := by
 unfold goneW;rw [List.take_add_one, h, Option.toList_some, List.filter_append];by_cases e : w.2.1 = 4 <;> simp [e]
theorem x6 (a b : List Wd) : wcs (a ++ b) = wcs a ++ wcs b := by simp [wcs]
section
variable {N : Nat} {ε : Env} {L : Frag} {d : Option Tmp} {ty : TypeId} {ps : String} {af : Array Edge} {g : Option (Nat × Bool)} {x : Operand}
theorem x7 {a : Sl} {l : List Int} (hx : ev ε x = some (rowv a 1 l.length) := by rfl) (ha : slOk a (u8s l) 5 L) : EY Tryz.prog N ε L ⟨d, .convert 44 9 x, ty, ps, af, g⟩ (strv l) := by
 cases hab : a.b with
 | none =>
   have h := ha;unfold slOk at h;rw [hab] at h;obtain rfl : l = [] := by simpa using h.1
   have e : rowv a 1 ([] : List Int).length = .slice none 0 0 := by unfold rowv; rw [hab]
   rw [e] at hx;exact zK hx U44 U5 U9
 | some b =>
   have e : rowv a 1 l.length = .slice (some ⟨b, 0, none⟩) l.length (l.length + a.junk.length / 1) := by unfold rowv; rw [hab]
   rw [e] at hx;refine vo (l := l) hx U44 U5 U9 (ha.mem hab) (by simp) ?_;apply Array.ext';simp
end
theorem yH : zeroAt Tryz.prog 51 = some (evt 0 0 0 0) := by kernel_rfl
theorem zO : bytesAt Tryz.prog 51 = some 32 := by kernel_rfl
theorem sR : ∃ k, ∀ {Fin : Value → World → Prop} {W : World} {O : Nat} (nn : Nat) (s : List Nat) (K : Nat) (A : Lay) (S T : St) (Fr L : Frag) (eb : Nat → Nat × Nat) (t : Nat), Rep K A S Fr L → Ers eb Fr → Ab S T → 0 < t → t ≤ 2000 → S.now < 1152921504606846976 →
   Lo.CallsM (F := FZ Tryz.prog Fin) (fun s => dom0 (Shs s.2) W O) Tryz.prog true 24 [ptr K, .int .i64 (t : Nat)].toArray k (nn + 1, s) L (fun s' v L' => ∃ N A' S' ws ag, s' = (nn, N :: s) ∧ St.evs t T = ws.map Wd.v ∧ v = .tuple #[strv (outB ws), rowv ag 4 (goneW ws).length, .bool true] ∧ Ab S' (St.runs t T) ∧ Rep K A' S' Fr L' ∧ slOk ag (wcs (goneW ws)) 51 L') := by
 obtain ⟨n1, gr⟩ := A9;apply Exists.intro;intro Fin W O nn s K A S T Fr L eb t hR hEr hAb ht0 ht hnow;have hN : ∀ (s : Nat × List Nat) (o : Obj), (dom0 (Shs s.2) W O).New o := fun _ _ => trivial;obtain ⟨ws, hws, hwl⟩ := kP t T;co_applyP xZ 66 Tryz.func24 Tryz.ntmps24;co_applyP aa;co_applyP oy rfl bL;co_applyP oy rfl bL;co_applyP oan rfl;co_applyP aa;co_applyP oan rfl;co_applyP aa;co_applyP oan rfl;co_applyP ak;co_applyP aH;co_applyP bF (fun k s' ε' L' => (k = 1 ∧ s' = (nn + 1, s) ∧ L' = L ∧ kn ε' [(0, ptr K), (1, .int .i64 (t : Nat)), (7, .slice none 0 0), (8, .slice none 0 0)]) ∨ (k = 0 ∧ ∃ N A' S' ab ag, s' = (nn, N :: s) ∧ Ab S' (St.runs t T) ∧ Rep K A' S' Fr L' ∧ slOk ab (u8s (outB ws)) 5 L' ∧ slOk ag (wcs (goneW ws)) 51 L' ∧ kn ε' [(1, .int .i64 0), (7, rowv ab 1 (outB ws).length), (8, rowv ag 4 (goneW ws).length)])) 1
 · exact .inl ⟨rfl, rfl, rfl, rfl⟩
 rintro k s' ε' L' hk;co_applyP bT (k = 1);intro h1
 · obtain ⟨rfl, rfl, he⟩ : s' = (nn + 1, s) ∧ L' = L ∧ kn ε' [(0, ptr K), (1, .int .i64 (t : Nat)), (7, .slice none 0 0), (8, .slice none 0 0)] := by
     rcases hk with ⟨_, a, b, c⟩ | ⟨a, _⟩
     · exact ⟨a, b, c⟩
     · omega
   co_applyP aW he;have e0 : decide ((0 : Int) < (t : Int)) = true := by simp; omega
   have e1 : decide ((2000 : Int) < (t : Int)) = false := by simp; omega
   co_applyP ak;co_applyP aa;co_applyP om rfl rfl rfl dD;co_applyP ah;change wpE ..;rw [e0];co_applyP aR rfl;co_applyP aC;co_applyP aH;co_applyP aa;co_applyP oy rfl ae;co_applyP oan rfl;co_applyP ak;co_applyP aa;co_applyP om rfl rfl rfl dD;co_applyP ah;change wpE ..;rw [e1];co_applyP ai rfl;co_applyP aC;co_applyP aa;co_applyP om rfl rfl rfl ae;co_applyP oc rfl rfl rfl (gr nn s K A S T Fr L' eb t hR hEr hAb ht hnow);rintro _ _ _ ⟨N, told, A1, S1, rfl, rfl, hAb1, hR1, hH⟩;rename_i L1;rw [hws] at hH;obtain ⟨base, cap, rfl, hat⟩ := vK hH;co_applyP om rfl rfl rfl bV;co_applyP oy rfl bV;co_applyP oy rfl bL;co_applyP oan rfl;co_applyP ak;co_applyP aa;co_applyP om rfl rfl rfl eA;co_applyP ah;co_applyP ai rfl;co_applyP aC;co_applyP ak;co_applyP aa;co_applyP oan rfl;co_applyP aH;co_applyP bF (fun k s' ε' L' => s' = (nn, N :: s) ∧ Ext L1 L' ∧ ∃ i ab ag, i ≤ ws.length ∧ k + i = 4000 ∧ slOk ab (u8s (outB (ws.take i))) 5 L' ∧ (∀ t ∈ L1, ab.b ≠ some t.1) ∧ slOk ag (wcs (goneW (ws.take i))) 51 L' ∧ (∀ t ∈ L1, ag.b ≠ some t.1) ∧ kn ε' [(1, .int .i64 (t : Nat)), (9, .int .i64 (t : Nat)), (10, .slice base ws.length cap), (12, .int .i64 (i : Nat)), (7, rowv ab 1 (outB (ws.take i)).length), (8, rowv ag 4 (goneW (ws.take i)).length)]) 4000
   · exact ⟨rfl, ⟨hR1.fn, fun _ h => h⟩, 0, ⟨none, []⟩, ⟨none, []⟩, by omega, rfl, ⟨rfl, rfl⟩, fun t ht => by simp, ⟨rfl, rfl⟩, fun t ht => by simp, rfl⟩
   rintro c s' ε' L2 ⟨rfl, hE, i, ab, ag, hi, hc, hb, hbn, hg, hgn, he⟩;co_applyP aW he;have ei : IntKind.i64.wrap ((i : Int) + 1) = ((i + 1 : Nat) : Int) := by simp [IntKind.wrap_i64]; omega
   co_applyP ak;co_applyP aa;co_applyP om rfl rfl rfl ae;co_applyP oy rfl (bz (hu := U38));co_applyP oy rfl b6;co_applyP ah;co_applyP bj rfl;intro hlt
   · have hlt' : i < ws.length := by simpa using hlt
     obtain ⟨w, hw⟩ : ∃ w, ws[i]? = some w := ⟨_, List.getElem?_eq_getElem hlt'⟩;obtain ⟨tg, cs, rfl, htg, hsz, hcs⟩ := hat i w hw;have htg2 := hE.s _ htg;have k1 : At L2 tg (i * 4 + 1) (.int .i64 w.2.1) := ⟨true, _, _, _, htg2, by rw [Nat.mul_comm]; exact hcs 1 (by omega)⟩;have k3 : At L2 tg (i * 4 + 3) (.int .i64 w.2.2.2) := ⟨true, _, _, _, htg2, by rw [Nat.mul_comm]; exact hcs 3 (by omega)⟩;have hob := sQ ws hw;have hog := qa ws hw;have hol : (outB (ws.take i)).length ≤ 4000 := by
       unfold outB; rw [List.length_map];have := List.length_filter_le (fun w : Wd => decide (w.2.1 = 3)) (ws.take i);have := List.length_take_le i ws;omega
     have hgl : (goneW (ws.take i)).length ≤ 4000 := by
       unfold goneW;have := List.length_filter_le (fun w : Wd => decide (w.2.1 = 4)) (ws.take i);have := List.length_take_le i ws;omega
     co_applyP aC;co_applyP dV (fun s'' ε'' L'' => s'' = (nn, N :: s) ∧ Ext L1 L'' ∧ ∃ ab ag, slOk ab (u8s (outB (ws.take (i + 1)))) 5 L'' ∧ (∀ t ∈ L1, ab.b ≠ some t.1) ∧ slOk ag (wcs (goneW (ws.take (i + 1)))) 51 L'' ∧ (∀ t ∈ L1, ag.b ≠ some t.1) ∧ kn ε'' [(1, .int .i64 (t : Nat)), (9, .int .i64 (t : Nat)), (10, .slice (some ⟨tg, 0, none⟩) ws.length cap), (12, .int .i64 (i : Nat)), (7, rowv ab 1 (outB (ws.take (i + 1))).length), (8, rowv ag 4 (goneW (ws.take (i + 1))).length)]);co_applyP aH;co_applyP dV (fun s'' ε'' L'' => s'' = (nn, N :: s) ∧ Ext L1 L'' ∧ ∃ ab ag, slOk ab (u8s (outB (ws.take (i + 1)))) 5 L'' ∧ (∀ t ∈ L1, ab.b ≠ some t.1) ∧ slOk ag (wcs (goneW (ws.take i))) 51 L'' ∧ (∀ t ∈ L1, ag.b ≠ some t.1) ∧ kn ε'' [(1, .int .i64 (t : Nat)), (9, .int .i64 (t : Nat)), (10, .slice (some ⟨tg, 0, none⟩) ws.length cap), (12, .int .i64 (i : Nat)), (7, rowv ab 1 (outB (ws.take (i + 1))).length), (8, rowv ag 4 (goneW (ws.take i)).length)]);co_applyP aa;co_applyP om rfl rfl rfl ae;co_applyP oy rfl (bG U38 jm);co_applyP oy rfl (ar (hf := qq));co_applyP oy rfl (aF (ht := aY) (hv := k1));co_applyP oy rfl aA;co_applyP ah;co_applyP bj rfl;intro h3;co_applyP ax;co_applyP om rfl rfl rfl ae;co_applyP om rfl rfl rfl (bG U38 jm);co_applyP oy rfl (ar (hf := wM))
     · have h3' : w.2.1 = 3 := by simpa using h3
       co_applyP oy rfl (aF (ht := aY) (hv := k3));co_applyP oy rfl (b5 (hs := U3) (ht := U5));co_applyP bW rfl (lB (hN _ _) (hu := U44) (hs := eC) (hz := uu));intro nb L3 hA;have hr : Reads Tryz.prog L3 1 1 (.slice (some ⟨nb, 0, none⟩) 1 1) [Value.int .u8 (IntKind.u8.wrap w.2.2.2)].toArray := by
         have := co (P := Tryz.prog) (sz := 1) (n := 1) (len := 1) (cap := 1) (o := 0) hA.self (by simp);simpa using this
       co_applyP oeN rfl (fun hnd => vj (a := ab) (by_ := 0) (xs := u8s (outB (ws.take i))) (n := (outB (ws.take i)).length) (m := 1) (hnd := hnd) (hu := U44) (hs := eC) (hb := yx) (hz := uu) (hzs := rfl) (hN := fun cs => hN _ _) (ha := hb.mono fun c hc o ho => hA.sub _ ho) (hn := by simp) (hr := hr) (hm := rfl) (hpl := rfl) (h0 := by decide) (h8 := by omega));rintro _ L4 ⟨ab', rfl, hp⟩;co_applyP oan rfl;change _ = _ ∧ _ ∧ ∃ ab ag, _ ∧ _ ∧ _ ∧ _ ∧ kn _ _;rw [if_pos h3'] at hob;refine ⟨rfl, ⟨hp.fn, fun t ht => hp.sub _ (hA.sub _ (hE.s _ ht)) (hbn t ht)⟩, ab', ag, ?_, fun t ht e => ?_, ?_, hgn, ?_⟩
       · rw [hob]; have := hp.ok; rw [mB] at this; simpa using this
       · rcases hp.d _ e with h | h
         · exact hbn t ht h
         · exact h _ (hA.sub _ (hE.s _ ht)) rfl
       · refine hg.mono fun q hq o ho => hp.sub _ (hA.sub _ ho) fun e => ?_;have m1 := hb.mem e;have m2 := hg.mem hq;exact absurd (hE.f _ _ _ _ _ m1 m2).2 (aE (by decide))
       · rw [hob, List.length_append]; rfl
     intro h3;co_applyP aC;change _ = _ ∧ _ ∧ ∃ ab ag, _ ∧ _ ∧ _ ∧ _ ∧ kn _ _;have h3' : ¬ w.2.1 = 3 := by simpa using h3
     rw [if_neg h3', List.append_nil] at hob;exact ⟨rfl, hE, ab, ag, by rw [hob]; exact hb, hbn, hg, hgn, by rw [hob]; rfl⟩;rintro s'' ε'' L3 ⟨rfl, hE3, ab3, ag3, hb3, hbn3, hg3, hgn3, he3⟩;co_applyP aW he3;have htg3 := hE3.s _ htg;have k1' : At L3 tg (i * 4 + 1) (.int .i64 w.2.1) := ⟨true, _, _, _, htg3, by rw [Nat.mul_comm]; exact hcs 1 (by omega)⟩;have hcx : cs.extract (i * 4) (i * 4 + 4) = (Wd.c w).toArray := by
       apply Array.ext';apply List.ext_getElem?;intro j;by_cases hj : j < 4
       · rw [← hcs j hj];simp only [Array.toList_extract, List.extract_eq_take_drop];rw [List.getElem?_take_of_lt (by omega), List.getElem?_drop, Nat.mul_comm i 4];simp
       · rw [List.getElem?_eq_none (by simp; omega), List.getElem?_eq_none (by show 4 ≤ j; omega)]
     co_applyP aa;co_applyP om rfl rfl rfl ae;co_applyP oy rfl (bG U38 jm);co_applyP oy rfl (ar (hf := qq));co_applyP oy rfl (aF (ht := aY) (hv := k1'));co_applyP oy rfl aA;co_applyP ah;co_applyP bj rfl;intro h4;co_applyP ax;co_applyP om rfl rfl rfl ae;co_applyP om rfl rfl rfl (bG U38 jm)
     · have h4' : w.2.1 = 4 := by simpa using h4
       co_applyP oy rfl (a8 (ht := An) (hs := jm) (hm := htg3) (hi := by omega));rw [hcx];co_applyP bW rfl (yD (sz := 4) (hN := hN _ _) (hv := rfl) (hu := U38) (hs := jm) (hz := yH) (h0 := by decide) (h24 := by decide));intro nb L4 hA;have hr : Reads Tryz.prog L4 4 1 (.slice (some ⟨nb, 0, none⟩) 1 1) (Wd.c w).toArray := by
         have := co (P := Tryz.prog) (sz := 4) (n := 1) (len := 1) (cap := 1) (o := 0) hA.self (by show 0 + 1 * 4 ≤ 4; decide);exact this
       co_applyP oeN rfl (fun hnd => vj (a := ag3) (by_ := 31) (xs := wcs (goneW (ws.take i))) (n := (goneW (ws.take i)).length) (m := 1) (hnd := hnd) (hu := U38) (hs := jm) (hb := zO) (hz := yH) (hzs := rfl) (hN := fun cs => hN _ _) (ha := hg3.mono fun c hc o ho => hA.sub _ ho) (hn := jI _) (hr := hr) (hm := rfl) (hpl := rfl) (h0 := by decide) (h8 := by omega));rintro _ L5 ⟨ag', rfl, hp⟩;co_applyP oan rfl;change _ = _ ∧ _ ∧ ∃ ab ag, _ ∧ _ ∧ _ ∧ _ ∧ kn _ _;rw [if_pos h4'] at hog;refine ⟨rfl, ⟨hp.fn, fun t ht => hp.sub _ (hA.sub _ (hE3.s _ ht)) (hgn3 t ht)⟩, ab3, ag', ?_, hbn3, ?_, fun t ht e => ?_, ?_⟩
       · refine hb3.mono fun q hq o ho => hp.sub _ (hA.sub _ ho) fun e => ?_;have m1 := hg3.mem e;have m2 := hb3.mem hq;exact absurd (hE3.f _ _ _ _ _ m1 m2).2 (aE (by decide))
       · rw [hog, x6]; exact hp.ok
       · rcases hp.d _ e with h | h
         · exact hgn3 t ht h
         · exact h _ (hA.sub _ (hE3.s _ ht)) rfl
       · rw [hog, List.length_append]; rfl
     intro h4;co_applyP aC;change _ = _ ∧ _ ∧ ∃ ab ag, _ ∧ _ ∧ _ ∧ _ ∧ kn _ _;have h4' : ¬ w.2.1 = 4 := by simpa using h4
     rw [if_neg h4', List.append_nil] at hog;exact ⟨rfl, hE3, ab3, ag3, hb3, hbn3, by rw [hog]; exact hg3, hgn3, by rw [hog]; rfl⟩;rintro s'' ε'' L4 ⟨rfl, hE4, ab4, ag4, hb4, hbn4, hg4, hgn4, he4⟩;co_applyP aW he4;co_applyP ax;co_applyP om rfl rfl rfl aX;co_applyP oan rfl;change ∃ k', k' < _ ∧ _;exact ⟨c - 1, by omega, rfl, hE4, i + 1, ab4, ag4, by omega, by omega, hb4, hbn4, hg4, hgn4, by rw [← ei]; rfl⟩
   intro hlt;have hi' : i = ws.length := by simp at hlt; omega
   subst hi';rw [List.take_length] at hb hg he;co_applyP bJ;co_applyP ax;co_applyP om rfl rfl rfl ae;co_applyP oy rfl tK;co_applyP oan rfl;change ∃ k', k' < _ ∧ _;have e2 : IntKind.i64.wrap ((t : Int) - (t : Int)) = 0 := by simp [IntKind.wrap_i64]
   exact ⟨0, by omega, .inr ⟨rfl, N, A1, S1, ab, ag, rfl, hAb1, hR1.ext hE, hb, hg, by rw [List.take_length, e2]; rfl⟩⟩
 intro h1;obtain ⟨N, A', S', ab, ag, rfl, hAb', hR', hb, hg, he⟩ : ∃ N A' S' ab ag, s' = (nn, N :: s) ∧ Ab S' (St.runs t T) ∧ Rep K A' S' Fr L' ∧ slOk ab (u8s (outB ws)) 5 L' ∧ slOk ag (wcs (goneW ws)) 51 L' ∧ kn ε' [(1, .int .i64 0), (7, rowv ab 1 (outB ws).length), (8, rowv ag 4 (goneW ws).length)] := by
   rcases hk with ⟨a, _⟩ | ⟨_, a⟩
   · exact absurd a h1
   · exact a
 co_applyP aW he;co_applyP ak (n₂ := 0);co_applyP aa;co_applyP om rfl rfl rfl dD;co_applyP ah;co_applyP ai rfl;co_applyP bJ;co_applyP aa;co_applyP om rfl rfl rfl (x7 (ha := hb));co_applyP om rfl rfl rfl bL;co_applyP oy rfl bL;co_applyP oan rfl;co_applyP aJ;change ∃ v, resE3 _ _ = some v ∧ _;refine ⟨.tuple #[strv (outB ws), rowv ag 4 (goneW ws).length, .bool true], ?_, N, A', S', ws, ag, rfl, hws, rfl, hAb', hR', hg⟩;generalize rowv ag 4 (goneW ws).length = v5;generalize strv (outB ws) = v4;rfl
section
variable {n : Nat} {nap stt : Nat → Int} {T : St} {m i b : Nat} {D G : List Nat} {out : List Int} {x : PS}
def Nxt (n : Nat) (nap stt : Nat → Int) (T : St) (G : List Nat) (out : List Int) (ws : List Wd) : Prop := ∃ m' D' g, Fm n nap stt T.next.vs (T.now + 1) m' D' (G ++ g) (out ++ outB ws) ∧ T.next.last = m' + 1 ∧ wA n (T.now + 1) T.next.vs + 1 ≤ wA n T.now T.vs ∧ (goneW ws).map (fun w => w.2.2.1) = g.map fun (i : Nat) => (i : Int) + 2
structure Led2 (n : Nat) (nap stt : Nat → Int) (T : St) (m : Nat) (D G : List Nat) (out : List Int) : Prop where
 hM : MI (fun _ => False) id T.lead
 hL : Fm n nap stt T.lead.vs T.now m D G out
 hs : ∀ z ∈ T.lead.vs, z.st = 3 → z.til ≠ (T.now : Int)
 hw : wA n T.now T.lead.vs = wA n T.now T.vs
 hc : ∀ q ∈ T.lead.ps, T.last + 1 ≠ q.1
 pn : T.lead.pn = T.pn
 pg : T.lead.pg = T.pg
 now : T.lead.now = T.now
 last : T.lead.last = T.last
 ml : T.last = m + 1
theorem quiet (h : Led2 n nap stt T m D G out) (hx : (b, x) ∈ T.lead.ps) {z' : PS} {ws : List Wd} {out' : List Int} (hvs : T.next.vs = upd T.lead.vs z') (hlast : T.next.last = T.last) (hid : z'.id = x.id) (hf : z'.f = x.f) (hpar : z'.par = x.par)
   (hP : x.id = 1 → Par1 n stt m D z' out') (hP2 : x.id ≠ 1 → out' = out) (hC : ∀ i, x.id = i + 2 → Chd n nap stt i (T.now + 1) z' ∧ z'.st ≠ 6 ∧ x.st ≠ 6) (hb : x.id = 1 → z'.st = 2 → ∀ y ∈ T.lead.vs, y.id ≠ 1 → y.st ≠ 6) (hw : wZ n (T.now + 1) z' + 1 ≤ wZ n T.now (vw x)) (ho : out' = out ++ outB ws) (hg : goneW ws = []) : Nxt n nap stt T G out ws := by
 obtain ⟨h1, h2⟩ := h.hL.step h.hs (kV hx) (z' := z') hid hf hpar hP hP2 hC hb hw;refine ⟨m, D, [], ?_, by rw [hlast, h.ml], ?_, by rw [hg]; rfl⟩
 · rw [hvs, List.append_nil, ← ho]; exact h1
 · rw [hvs, ← h.hw]; exact h2
theorem qS {k : Int} {pg : Nat → Nat → Int} (S : St) (h0 : S.pg x.at_ 0 = 1) (h1 : S.pg x.at_ 1 = 0) (h2 : (S.pg x.at_ 2 + 256 * S.pg x.at_ 3) % 65536 = k) : S.doR x = .ok { x with at_ := x.at_ + 1, r := put x.r 0 k } := by
 unfold St.doR PS.do
 simp only [h0, h1, h2, if_true];rfl
theorem sT (hP : Prg n nap stt T.pn T.pg) (h : Led2 n nap stt T m D G out) (hx : (b, x) ∈ T.lead.ps) (hs : x.st = 1) (hid : x.id = i + 2) (him : i < m) (hch : Chd n nap stt i T.now (vw x)) (hn4 : x.at_ ≠ cE n i + 3) (hvs : T.next.vs = (T.lead.runS b x (T.last + 1)).vs) (hlast : T.next.last = (T.lead.runS b x (T.last + 1)).last) :
   T.lead.runE b x = [] ∧ Nxt n nap stt T G out [((T.now : Int), 1, (x.id : Int), (x.at_ : Int))] := by
 have hin : i < n := Nat.lt_of_lt_of_le him h.hL.mn;have ho : out = out ++ outB [((T.now : Int), 1, (x.id : Int), (x.at_ : Int))] := by simp [outB]
 have hg : goneW [((T.now : Int), 1, (x.id : Int), (x.at_ : Int))] = [] := by simp [goneW]
 have hx1 : x.id ≠ 1 := by omega
 have pn := hP.pn;have hpn : T.lead.pn = 11 * n + 3 := by rw [h.pn, pn]
 have z6 : x.st ≠ 6 := by omega
 have hwz : ∀ z' : PS, z'.id = x.id → wZ n (T.now + 1) z' = wC n i (T.now + 1) z' ∧ wZ n T.now (vw x) = wC n i T.now (vw x) := fun z' e => by
   unfold wZ;rw [if_neg (by omega), if_neg (show ¬ (vw x).id = 1 from hx1), show z'.id - 2 = i by omega, show (vw x).id - 2 = i from (by show x.id - 2 = i; omega)];exact ⟨rfl, rfl⟩
 have fin : ∀ z' : PS, T.next.vs = upd T.lead.vs z' → T.next.last = T.last → z'.id = x.id → z'.f = x.f → z'.par = x.par → Chd n nap stt i (T.now + 1) z' → z'.st ≠ 6 → wC n i (T.now + 1) z' + 1 ≤ wC n i T.now (vw x) → Nxt n nap stt T G out [((T.now : Int), 1, (x.id : Int), (x.at_ : Int))] := fun z' e1 e2 e3 e4 e5 e6 e7 e8 =>
   quiet h hx e1 e2 e3 e4 e5 (fun e => absurd e hx1) (fun _ => rfl) (fun j hj => by
     obtain rfl : j = i := by omega
     exact ⟨e6, e7, z6⟩) (fun e => absurd e hx1) (by rw [(hwz z' e3).1, (hwz z' e3).2]; exact e8) ho hg
 have hll := h.last;cases hch with
 | c0 a1 a2 a3 =>
   have a2' : x.at_ = 2 * i + 1 := a2;have a3' : x.r 0 = 0 := a3;obtain ⟨j0, j1, j2⟩ := hP.jz i hin;rw [← a2', ← h.pg] at j0 j1 j2;have hd : T.lead.doR x = .ok { x with at_ := cE n i } := by
     unfold St.doR PS.do
     simp only [j0, j1, j2];simp [a3']
   obtain ⟨r1, r2, r3⟩ := k5 (c := T.last + 1) h.hM hx (by rw [hpn, a2']; omega) (by rw [j0]; decide) hd rfl;refine ⟨r2, fin (vw { x with at_ := cE n i }) (by rw [hvs, r1]) (by rw [hlast, r3, hll]) rfl rfl rfl (.c1 hs rfl) z6 ?_⟩;unfold wC;rw [if_neg (show ¬ (vw { x with at_ := cE n i }).st = 6 from z6), if_neg (show ¬ (vw x).st = 6 from z6), if_pos a2, if_neg (by show ¬ cE n i = 2 * i + 1; unfold cE; omega), if_pos (show (vw { x with at_ := cE n i }).at_ = cE n i from rfl)];decide
 | c1 a1 a2 =>
   have a2' : x.at_ = cE n i := a2;obtain ⟨j0, j1, j2⟩ := hP.c1 i hin;rw [← a2', ← h.pg] at j0 j1 j2;have hd := qS (pg := T.pg) T.lead j0 j1 j2;obtain ⟨r1, r2, r3⟩ := k5 (c := T.last + 1) h.hM hx (by rw [hpn, a2']; unfold cE; omega) (by rw [j0]; decide) hd rfl;refine ⟨r2, fin (vw { x with at_ := x.at_ + 1, r := put x.r 0 (nap i) }) (by rw [hvs, r1]) (by rw [hlast, r3, hll]) rfl rfl rfl (.c2 hs (by show x.at_ + 1 = _; rw [a2']) (by show put x.r 0 (nap i) 0 = _; simp [put])) z6 ?_⟩;unfold wC;rw [if_neg (show ¬ (vw { x with at_ := x.at_ + 1, r := put x.r 0 (nap i) }).st = 6 from z6), if_neg (show ¬ (vw x).st = 6 from z6), if_neg (by show ¬ x.at_ + 1 = 2 * i + 1; rw [a2']; unfold cE; omega), if_neg (by show ¬ x.at_ + 1 = cE n i; omega), if_pos (show (vw { x with at_ := x.at_ + 1, r := put x.r 0 (nap i) }).at_ = cE n i + 1 from (by show x.at_ + 1 = _; rw [a2'])), if_neg (by show ¬ x.at_ = 2 * i + 1; rw [a2']; unfold cE; omega), if_pos a2];decide
 | c2 a1 a2 a3 =>
   have a2' : x.at_ = cE n i + 1 := a2;have a3' : x.r 0 = nap i := a3;obtain ⟨j0, j1⟩ := hP.c2 i hin;rw [← a2', ← h.pg] at j0 j1;have hnap := hP.hnap i hin;obtain ⟨r1, r2, r3⟩ := sO (c := T.last + 1) h.hM hx hs (by rw [hpn, a2']; unfold cE; omega) j0 j1;rw [h.now] at r1;have w33 : wC n i T.now (vw x) = 33 := by
     unfold wC;rw [if_neg (show ¬ (vw x).st = 6 from z6), if_neg (by show ¬ x.at_ = 2 * i + 1; rw [a2']; unfold cE; omega), if_neg (by show ¬ x.at_ = cE n i; omega), if_pos a2]
   by_cases h0 : x.r 0 = 0
   · rw [if_pos h0] at r1;refine ⟨r2, fin (vw (x.next.r0 0)) (by rw [hvs, r1]) (by rw [hlast, r3, hll]) rfl rfl rfl (.c3 hs (by show x.at_ + 1 = _; rw [a2'])) z6 ?_⟩;rw [w33];unfold wC;rw [if_neg (show ¬ (vw (x.next.r0 0)).st = 6 from z6), if_neg (by show ¬ x.at_ + 1 = 2 * i + 1; rw [a2']; unfold cE; omega), if_neg (by show ¬ x.at_ + 1 = cE n i; omega), if_neg (by show ¬ x.at_ + 1 = cE n i + 1; omega), if_pos (show (vw (x.next.r0 0)).at_ = cE n i + 2 from (by show x.at_ + 1 = _; rw [a2'])), if_neg (show ¬ (vw (x.next.r0 0)).st = 3 from (by show ¬ x.st = 3; omega))];decide
   · rw [if_neg h0] at r1;refine ⟨r2, fin (vw { x.next.r0 0 with til := (T.now : Int) + x.r 0, st := 3 }) (by rw [hvs, r1]) (by rw [hlast, r3, hll]) rfl rfl rfl (.cs rfl (by show x.at_ + 1 = _; rw [a2']) (by show ((T.now + 1 : Nat) : Int) ≤ (T.now : Int) + x.r 0; omega) (by show (T.now : Int) + x.r 0 ≤ ((T.now + 1 : Nat) : Int) + 29; omega)) (by show (3 : Nat) ≠ 6; decide) ?_⟩;rw [w33];unfold wC;rw [if_neg (by show ¬ (3 : Nat) = 6; decide), if_neg (by show ¬ x.at_ + 1 = 2 * i + 1; rw [a2']; unfold cE; omega), if_neg (by show ¬ x.at_ + 1 = cE n i; omega), if_neg (by show ¬ x.at_ + 1 = cE n i + 1; omega), if_pos (by show x.at_ + 1 = cE n i + 2; rw [a2']), if_pos (by rfl)];show 2 + ((T.now : Int) + x.r 0 - ((T.now + 1 : Nat) : Int)).toNat + 1 ≤ 33;omega
 | c3 a1 a2 =>
   have a2' : x.at_ = cE n i + 2 := a2;obtain ⟨j0, j1, j2⟩ := hP.c3 i hin;rw [← a2', ← h.pg] at j0 j1 j2;have hd := qS (pg := T.pg) T.lead j0 j1 j2;obtain ⟨r1, r2, r3⟩ := k5 (c := T.last + 1) h.hM hx (by rw [hpn, a2']; unfold cE; omega) (by rw [j0]; decide) hd rfl;refine ⟨r2, fin (vw { x with at_ := x.at_ + 1, r := put x.r 0 (stt i) }) (by rw [hvs, r1]) (by rw [hlast, r3, hll]) rfl rfl rfl (.c4 hs (by show x.at_ + 1 = _; rw [a2']) (by show put x.r 0 (stt i) 0 = _; simp [put])) z6 ?_⟩;unfold wC;rw [if_neg (show ¬ (vw { x with at_ := x.at_ + 1, r := put x.r 0 (stt i) }).st = 6 from z6), if_neg (show ¬ (vw x).st = 6 from z6), if_neg (by show ¬ x.at_ + 1 = 2 * i + 1; rw [a2']; unfold cE; omega), if_neg (by show ¬ x.at_ + 1 = cE n i; omega), if_neg (by show ¬ x.at_ + 1 = cE n i + 1; omega), if_neg (by show ¬ x.at_ + 1 = cE n i + 2; omega), if_neg (by show ¬ x.at_ = 2 * i + 1; rw [a2']; unfold cE; omega), if_neg (by show ¬ x.at_ = cE n i; omega), if_neg (by show ¬ x.at_ = cE n i + 1; omega), if_pos a2, if_neg (show ¬ (vw x).st = 3 from (by show ¬ x.st = 3; omega))];decide
 | cs a1 _ _ _ =>
   have : x.st = 3 := a1;omega
 | c4 a1 a2 _ => exact absurd a2 hn4
 | c5 a1 _ =>
   have : x.st = 6 := a1;omega
end
section
variable {n : Nat} {nap stt : Nat → Int} {T : St} {m i b now : Nat} {D G : List Nat} {out : List Int} {x : PS} {L : List PS}
theorem x8 {id : Nat} {vs : List PS} (h : ∀ w ∈ vs, w.par ≠ id) : vs.map (orphV id) = vs := by
 have : ∀ w ∈ vs, orphV id w = w := fun w hw => by unfold orphV; rw [if_neg (h w hw)]
 rw [List.map_congr_left this]; simp
theorem k7 (n now k : Nat) (vs : List PS) : wA n now (without vs k) ≤ wA n now vs := by
 unfold wA without
 induction vs with
 | nil => exact Nat.le_refl _
 | cons a vs ih =>
   rw [List.filter_cons]
   split
   · simp only [List.map_cons, List.sum_cons]; omega
   · simp only [List.map_cons, List.sum_cons]; omega
theorem qb {X : List PS} {z z' : PS} (hn : (X.map PS.id).Nodup) (hz : z ∈ X) (hid : z'.id = z.id) (hw : wZ n now z' = wZ n now z) : wA n now (upd X z') = wA n now X := by
 unfold wA upd;rw [List.map_map];congr 1;apply List.map_congr_left;intro w hw1;simp only [Function.comp]
 split
 · rename_i e;rw [ig hn hw1 hz (by rw [e, hid])]; exact hw
 · rfl
theorem Fm.told (h : Fm n nap stt L now m D G out) (hs : ∀ z ∈ L, z.st = 3 → z.til ≠ (now : Int)) {X : List PS} {z zp zp' : PS} (hz : z ∈ L) (hzi : z.id = i + 2) (hX : ∀ w, w ∈ X ↔ w ∈ L ∧ w.id ≠ i + 2) (hXn : (X.map PS.id).Nodup) (hzp : zp ∈ L) (hp1 : zp.id = 1) (hid : zp'.id = 1) (hf : zp'.f = zp.f) (hpar : zp'.par = zp.par) (hmn : m = n)
   (hst : zp'.st = 1) (hat : zp'.at_ = 2 * n + 4 * D.length + 1) (hr0 : zp'.r 0 = (i : Int) + 2) (hr1 : zp'.r 1 = stt i) (ho : out = full stt D) {G' : List Nat} (hgn : G'.Nodup) (hgm : ∀ j ∈ G', j < m) (hgi : i ∈ G') (hgg : ∀ j, j ≠ i → (j ∈ G' ↔ j ∈ G)) : Fm n nap stt (upd X zp') (now + 1) m (D ++ [i]) G' out := by
 obtain ⟨i', e1, e2, e3, e4, e5⟩ := h.chd z hz (by omega);obtain rfl : i' = i := by omega
 have hzpX : zp ∈ X := (hX zp).2 ⟨hzp, by omega⟩;have old : ∀ w ∈ upd X zp', w.id ≠ 1 → w ∈ L ∧ w.id ≠ i' + 2 := fun w hw h1 => by
   rcases cR hw with rfl | ⟨h2, _⟩
   · exact absurd hid h1
   · exact (hX w).1 h2
 have par : ∀ w ∈ upd X zp', w.id = 1 → w = zp' := fun w hw h1 => by
   rcases cR hw with rfl | ⟨_, h2⟩
   · rfl
   · exact absurd (h1.trans hid.symm) h2
 refine ⟨⟨zp', upd_self hzpX (hp1.trans hid.symm), hid, .gt i' D hmn rfl hst hat hr0 hr1 ho⟩, fun w hw h1 => ?_, fun w hw => ?_, by rw [gE]; exact hXn, fun j hj hd => ?_, ?_, fun j hj => ?_, h.mn, fun w hw h1 h2 => ?_, hgn, hgm, fun j hj => ?_, fun w hw j hj => ?_, fun w hw h1 => ?_⟩
 · obtain ⟨h2, h3⟩ := old w hw h1;obtain ⟨j, f1, f2, f3, f4, f5⟩ := h.chd w h2 h1;refine ⟨j, f1, f2, fun hm => ?_, f4, iS f5 (hs w h2)⟩;rcases List.mem_append.1 hm with h4 | h4
   · exact f3 h4
   · simp at h4; omega
 · rcases cR hw with rfl | ⟨h2, _⟩
   · rw [hf]; exact h.fs zp hzp
   · exact h.fs w ((hX w).1 h2).1
 · have hji : j ≠ i' := fun e => hd (by rw [e]; simp);obtain ⟨w, hw, e⟩ := h.all j hj fun h2 => hd (List.mem_append_left _ h2);exact ⟨w, eQ ((hX w).2 ⟨hw, by omega⟩) (by rw [hid]; omega), e⟩
 · refine List.nodup_append.2 ⟨h.dn, by simp, fun a ha c hc => ?_⟩;simp at hc;subst hc;exact fun e => e3 (e ▸ ha)
 · rcases List.mem_append.1 hj with h2 | h2
   · exact h.dm j h2
   · simp at h2; subst h2; exact e2
 · rw [par w hw h1, hst] at h2; cases h2
 · rcases List.mem_append.1 hj with h2 | h2
   · by_cases e : j = i'
     · rw [e]; exact hgi
     · exact (hgg j e).2 (h.gd j h2)
   · simp at h2; subst h2; exact hgi
 · obtain ⟨h2, h3⟩ := old w hw (by omega);rw [hgg j (by omega)];exact h.gz w h2 j hj
 · rw [par w hw h1, hpar]; exact h.p0 zp hzp hp1
theorem vL (hP : Prg n nap stt T.pn T.pg) (h : Led2 n nap stt T m D G out) (hx : (b, x) ∈ T.lead.ps) (hs : x.st = 1) (hid : x.id = i + 2) (hat : x.at_ = cE n i + 3) (hr : x.r 0 = stt i) (hvs : T.next.vs = (T.lead.runS b x (T.last + 1)).vs) (hlast : T.next.last = (T.lead.runS b x (T.last + 1)).last) :
   T.lead.runE b x = [evt T.now 4 x.id (stt i)] ∧ Nxt n nap stt T G out [((T.now : Int), 1, (x.id : Int), (x.at_ : Int)), ((T.now : Int), 4, (x.id : Int), stt i)] := by
 have hL := h.hL;have hzL : vw x ∈ T.lead.vs := kV hx;obtain ⟨i', e1, him, hiD, hpar, _⟩ := hL.chd _ hzL (by show x.id ≠ 1; omega);have e1' : x.id = i' + 2 := e1;obtain rfl : i' = i := by omega
 have hin : i' < n := Nat.lt_of_lt_of_le him hL.mn;have hpn : T.lead.pn = 11 * n + 3 := by rw [h.pn, hP.pn]
 have hst := hP.hstt i' hin;obtain ⟨j0, j1⟩ := hP.c4 i' hin;rw [← hat, ← h.pg] at j0 j1;obtain ⟨r1, r2, r3⟩ := oS (c := T.last + 1) h.hM hx hs (by rw [hpn, hat]; unfold cE; omega) j0 j1;rw [h.now, hr] at r1;refine ⟨r1, ?_⟩;obtain ⟨hM1, hb1, hv1⟩ := eq h.hM hx hs;obtain ⟨zp, hzp, hp1, hPar⟩ := hL.par;obtain ⟨qp, hqp, rfl⟩ := kW hzp;have hqp1 : qp.1 = 1 := by have : qp.1 = qp.2.id := h.hM.x.nm qp hqp; rw [this]; exact hp1
 have hqb : qp.1 ≠ b := fun e => by
   have hb : b = x.id := h.hM.x.nm _ hx;omega
 have hqm : (qp.1, qp.2) ∈ (T.lead.setP b x.next).ps := bO hqp hqb;have hwt : ∀ q ∈ (T.lead.setP b x.next).ps, q.2.st = 2 → q.1 = qp.1 := fun q hq h2 => by
   rcases aQ hq with e | ⟨hq2, _⟩
   · rw [e] at h2;have : x.st = 2 := h2;omega
   · by_cases e : q.2.id = 1
     · have h3 : q.1 = q.2.id := h.hM.x.nm q hq2;rw [h3, hqp1]; exact e
     · obtain ⟨j, _, _, _, _, f5⟩ := hL.chd _ (List.mem_map.2 ⟨q, hq2, rfl⟩) e;have h3 : (vw q.2).st = 2 := h2;cases f5 <;> omega
 obtain ⟨vs4, hv4, hcase⟩ := vF hM1 hb1 (fun j hj => hL.fs _ hzL j hj) hqm hp1 hwt (x.r 0);rw [hv1, cY (by rfl)] at hv4;generalize hz6 : vw { x.next with st := 6, stat := x.r 0 } = z6 at hv4;have z6id : z6.id = i' + 2 := by rw [← hz6]; exact hid
 have z6st : z6.st = 6 := by rw [← hz6]; rfl
 have z6par : z6.par = 1 := by rw [← hz6]; exact hpar
 have z6stat : z6.stat = stt i' := by rw [← hz6]; exact hr
 have z6f : z6.f = (vw x).f := by rw [← hz6]; rfl
 have zid : (vw x).id = i' + 2 := hid;have hmem : ∀ w ∈ upd T.lead.vs z6, w = z6 ∨ (w ∈ T.lead.vs ∧ w.id ≠ i' + 2) := fun w hw => by
   rcases cR hw with e | ⟨h2, h3⟩
   · exact .inl e
   · exact .inr ⟨h2, by rw [← z6id]; exact h3⟩
 have hno : ∀ w ∈ upd T.lead.vs z6, w.par ≠ x.next.id := fun w hw e => by
   have e' : w.par = i' + 2 := e.trans hid;rcases hmem w hw with rfl | ⟨h2, _⟩
   · omega
   · by_cases h3 : w.id = 1
     · have := hL.p0 w h2 h3; omega
     · obtain ⟨_, _, _, _, f4, _⟩ := hL.chd w h2 h3;omega
 rw [x8 hno] at hv4;subst hv4;have hw6 : wZ n (T.now + 1) z6 + 1 ≤ wZ n T.now (vw x) := by
   unfold wZ;rw [if_neg (by omega), if_neg (show ¬ (vw x).id = 1 from (by omega)), show z6.id - 2 = i' by omega, show (vw x).id - 2 = i' by omega];unfold wC;rw [if_pos z6st, if_neg (show ¬ (vw x).st = 6 from (by show ¬ x.st = 6; omega)), if_neg (by show ¬ x.at_ = 2 * i' + 1; rw [hat]; unfold cE; omega), if_neg (by show ¬ x.at_ = cE n i'; omega), if_neg (by show ¬ x.at_ = cE n i' + 1; omega), if_neg (by show ¬ x.at_ = cE n i' + 2; omega)];exact Nat.le_refl _
 have hwa := mY (k := 0) (z := vw x) (z' := z6) hL.nd hzL (z6id.trans zid.symm) hw6;have hiG : i' ∉ G := fun e => by
   have := (hL.gz _ hzL i' zid).1 e;have h2 : x.st = 6 := this;omega
 have hGn : (G ++ [i']).Nodup := List.nodup_append.2 ⟨hL.gn, by simp, fun a ha c hc => by
   simp at hc;subst hc;exact fun e => hiG (e ▸ ha)⟩
 have hGm : ∀ j ∈ G ++ [i'], j < m := fun j hj => by
   rcases List.mem_append.1 hj with h2 | h2
   · exact hL.gm j h2
   · simp at h2; subst h2; exact him
 have hGi : i' ∈ G ++ [i'] := by simp
 have hGg : ∀ j, j ≠ i' → (j ∈ G ++ [i'] ↔ j ∈ G) := fun j hj => by simp [hj]
 have ho : out = out ++ outB [((T.now : Int), 1, (x.id : Int), (x.at_ : Int)), ((T.now : Int), 4, (x.id : Int), stt i')] := by simp [outB]
 have hg : (goneW [((T.now : Int), 1, (x.id : Int), (x.at_ : Int)), ((T.now : Int), 4, (x.id : Int), stt i')]).map (fun w => w.2.2.1) = [i'].map fun (i : Nat) => (i : Int) + 2 := by
   simp [goneW]; omega
 have hnl : T.next.last = m + 1 := by rw [hlast, r3, h.last, h.ml]
 rcases hcase with ⟨hv, hcl⟩ | ⟨z2, hz2, z21, z22, y, hy, y1, y6, hv⟩
 · refine ⟨m, D, [i'], ?_, hnl, ?_, hg⟩
   · rw [hvs, r2, hv, ← ho];refine ⟨⟨vw qp.2, eQ hzp (by rw [hp1]; omega), hp1, hPar⟩, fun w hw h1 => ?_, fun w hw => ?_, by rw [gE]; exact hL.nd, fun j hj hd => ?_, hL.dn, hL.dm, hL.mn, fun w hw h1 h2 => ?_, hGn, hGm, fun j hj => List.mem_append_left _ (hL.gd j hj), fun w hw j hj => ?_, fun w hw h1 => ?_⟩
     · rcases hmem w hw with rfl | ⟨h2, _⟩
       · exact ⟨i', z6id, him, hiD, z6par, .c5 z6st z6stat⟩
       · obtain ⟨j, f1, f2, f3, f4, f5⟩ := hL.chd w h2 h1;exact ⟨j, f1, f2, f3, f4, iS f5 (h.hs w h2)⟩
     · rcases hmem w hw with rfl | ⟨h2, _⟩
       · rw [z6f]; exact hL.fs _ hzL
       · exact hL.fs w h2
     · obtain ⟨w, hw, e⟩ := hL.all j hj hd;by_cases e2 : w.id = z6.id
       · exact ⟨z6, upd_self hw e2, e2.symm.trans e⟩
       · exact ⟨w, eQ hw e2, e⟩
     · exact absurd ⟨z6par, z6st⟩ (hcl w hw h1 h2 z6 (upd_self hzL (zid.trans z6id.symm)))
     · rcases hmem w hw with rfl | ⟨h2, h3⟩
       · obtain rfl : j = i' := by omega
         exact ⟨fun _ => z6st, fun _ => hGi⟩
       · rw [hGg j (by omega)]; exact hL.gz w h2 j hj
     · rcases hmem w hw with rfl | ⟨h2, _⟩
       · omega
       · exact hL.p0 w h2 h1
   · rw [hvs, r2, hv, ← h.hw]; exact hwa
 · have hz2L : z2 ∈ T.lead.vs := by
     rcases hmem z2 hz2 with rfl | ⟨h2, _⟩
     · omega
     · exact h2
   have hyz : y = z6 := by
     rcases hmem y hy with e | ⟨h2, _⟩
     · exact e
     · have hy1 : y.id ≠ 1 := fun e => by have := hL.p0 y h2 e; omega
       exact absurd y6 (hL.blk z2 hz2L z21 z22 y h2 hy1)
   subst hyz;have hzz : vw qp.2 = z2 := ig hL.nd hzp hz2L (hp1.trans z21.symm);subst hzz;obtain ⟨hmn, hDl, hat2, hout⟩ : m = n ∧ D.length < n ∧ (vw qp.2).at_ = 2 * n + 4 * D.length + 1 ∧ out = full stt D := by
     cases hPar <;> first | exact ⟨‹_›, ‹_›, ‹_›, ‹_›⟩ | omega
   rw [z6id] at hv;have n7 := hP.n7;have hXX : ∀ w, w ∈ without (upd T.lead.vs y) (i' + 2) ↔ w ∈ T.lead.vs ∧ w.id ≠ i' + 2 := fun w => by
     rw [ju];constructor
     · rintro ⟨h2, h3⟩;rcases hmem w h2 with rfl | h4
       · exact absurd z6id h3
       · exact h4
     · rintro ⟨h2, h3⟩;exact ⟨eQ h2 (by rw [z6id]; exact h3), h3⟩
   have hXn : ((without (upd T.lead.vs y) (i' + 2)).map PS.id).Nodup := by
     unfold without;refine List.Nodup.sublist (List.Sublist.map _ List.filter_sublist) ?_;rw [gE]; exact hL.nd
   refine ⟨m, D ++ [i'], [i'], ?_, hnl, ?_, hg⟩
   · rw [hvs, r2, hv, ← ho];refine hL.told (zp' := { told (vw qp.2) y with st := 1 }) h.hs hzL zid hXX hXn hzp hp1 hp1 rfl rfl hmn rfl hat2 ?_ ?_ hout hGn hGm hGi hGg
     · show put (put (vw qp.2).r 0 ((y.id : Int) % 65536)) 1 (y.stat % 65536) 0 = _;simp [put, z6id]; omega
     · show put (put (vw qp.2).r 0 ((y.id : Int) % 65536)) 1 (y.stat % 65536) 1 = _;simp [put, z6stat]; omega
   · rw [hvs, r2, hv, ← h.hw];have hzpX : vw qp.2 ∈ without (upd T.lead.vs y) (i' + 2) := (hXX _).2 ⟨hzp, by rw [hp1]; omega⟩;rw [qb (z := vw qp.2) hXn hzpX (by rfl) (by unfold wZ; rw [if_pos hp1, if_pos (show ({ told (vw qp.2) y with st := 1 } : PS).id = 1 from hp1)]; rfl)];have := k7 n (T.now + 1) (i' + 2) (upd T.lead.vs y);omega
end
section
variable {n : Nat} {nap stt : Nat → Int} {T : St} {m b now : Nat} {D G : List Nat} {out : List Int} {x : PS} {L : List PS}
theorem oT {p : PS} {k : Nat} (hp : p.id ≠ k) (vs : List PS) : without (upd vs p) k = upd (without vs k) p := by
 unfold without upd
 induction vs with
 | nil => rfl
 | cons a vs ih =>
   rw [List.map_cons, List.filter_cons, List.filter_cons];by_cases e : a.id = p.id
   · rw [if_pos e];have : ¬ a.id = k := by rw [e]; exact hp
     rw [if_pos (by simp [hp]), if_pos (by simp [this]), List.map_cons, if_pos e, ih]
   · rw [if_neg e];by_cases e2 : a.id = k
     · rw [if_neg (by simp [e2]), if_neg (by simp [e2]), ih]
     · rw [if_pos (by simp [e2]), if_pos (by simp [e2]), List.map_cons, if_neg e, ih]
theorem qd (h : D.Nodup) (hm : ∀ i ∈ D, i < n) : D.length ≤ n ∧ (D.length < n ↔ ∃ i, i < n ∧ i ∉ D) := by
 have h1 : D.length ≤ (List.range n).length := dg h fun i hi => by simpa using hm i hi
 rw [List.length_range] at h1;refine ⟨h1, fun hl => Classical.byContradiction fun hc => ?_, fun ⟨i, hi, hn⟩ => ?_⟩
 · have : (List.range n).length ≤ D.length := dg (List.nodup_range) fun j hj => Classical.byContradiction fun h3 => hc ⟨j, by simpa using hj, h3⟩;simp at this;omega
 · have : (i :: D).length ≤ (List.range n).length := dg (List.nodup_cons.2 ⟨hn, h⟩) fun j hj => by
     rcases List.mem_cons.1 hj with rfl | h2
     · simpa using hi
     · simpa using hm j h2
   simp at this;omega
theorem vM (stt : Nat → Int) (D : List Nat) (i : Nat) : full stt (D ++ [i]) = full stt D ++ [(i : Int) + 2, stt i] := by simp [full]
theorem Fm.fork (h : Fm n nap stt L now m D G out) (hs : ∀ z ∈ L, z.st = 3 → z.til ≠ (now : Int)) {z p ch : PS} (hz : z ∈ L) (hz1 : z.id = 1) (hmn : m < n) (hD : D = []) (ho : out = []) (hp : p.id = 1 ∧ p.st = 1 ∧ p.at_ = 2 * m + 1 ∧ p.r 0 ≠ 0 ∧ p.f = z.f ∧ p.par = z.par) (hc : ch.id = m + 2 ∧ ch.st = 1 ∧ ch.at_ = 2 * m + 1 ∧ ch.r 0 = 0 ∧ ch.f = z.f ∧ ch.par = 1) (hza : z.at_ = 2 * m) : Fm n nap stt (upd L p ++ [ch]) (now + 1) (m + 1) D G out ∧ wA n (now + 1) (upd L p ++ [ch]) + 1 ≤ wA n now L := by
 obtain ⟨p1, p2, p3, p4, p5, p6⟩ := hp;obtain ⟨c1, c2, c3, c4, c5, c6⟩ := hc;subst hD;have ids : ∀ w ∈ L, w.id = 1 ∨ ∃ i, w.id = i + 2 ∧ i < m := fun w hw => by
   by_cases e : w.id = 1
   · exact .inl e
   · obtain ⟨i, f1, f2, _⟩ := h.chd w hw e;exact .inr ⟨i, f1, f2⟩
 have hmem : ∀ w ∈ upd L p ++ [ch], w = p ∨ w = ch ∨ (w ∈ L ∧ w.id ≠ 1) := fun w hw => by
   rcases List.mem_append.1 hw with h1 | h1
   · rcases cR h1 with e | ⟨h2, h3⟩
     · exact .inl e
     · exact .inr (.inr ⟨h2, by rw [← p1]; exact h3⟩)
   · exact .inr (.inl (List.mem_singleton.1 h1))
 refine ⟨⟨⟨p, List.mem_append_left _ (upd_self hz (hz1.trans p1.symm)), p1, .jz (by omega) rfl p2 (by omega) p4 ho⟩, fun w hw h1 => ?_, fun w hw => ?_, ?_, fun i hi _ => ?_, h.dn, fun i hi => (by cases hi), by omega, fun w hw h1 h2 => ?_, h.gn, fun i hi => (by have := h.gm i hi; omega), fun i hi => (by cases hi), fun w hw i hi => ?_, fun w hw h1 => ?_⟩, ?_⟩
 · rcases hmem w hw with rfl | rfl | ⟨h2, h3⟩
   · exact absurd p1 h1
   · exact ⟨m, c1, by omega, by simp, c6, .c0 c2 c3 c4⟩
   · obtain ⟨i, f1, f2, f3, f4, f5⟩ := h.chd w h2 h1;exact ⟨i, f1, by omega, f3, f4, iS f5 (hs w h2)⟩
 · rcases hmem w hw with rfl | rfl | ⟨h2, _⟩
   · rw [p5]; exact h.fs z hz
   · rw [c5]; exact h.fs z hz
   · exact h.fs w h2
 · rw [List.map_append, gE];refine List.nodup_append.2 ⟨h.nd, by simp, fun a ha c hc => ?_⟩;simp at hc;obtain ⟨w, hw, rfl⟩ := List.mem_map.1 ha;rcases ids w hw with e | ⟨i, e, hi⟩ <;> omega
 · by_cases e : i = m
   · exact ⟨ch, by simp, by omega⟩
   · obtain ⟨w, hw, e2⟩ := h.all i (by omega) (by simp);exact ⟨w, List.mem_append_left _ (eQ hw (by omega)), e2⟩
 · rcases hmem w hw with rfl | rfl | ⟨h3, h4⟩
   · omega
   · omega
   · exact absurd h1 h4
 · rcases hmem w hw with rfl | rfl | ⟨h2, _⟩
   · omega
   · obtain rfl : i = m := by omega
     exact ⟨fun e => absurd (h.gm _ e) (by omega), fun e => by omega⟩
   · exact h.gz w h2 i hi
 · rcases hmem w hw with rfl | rfl | ⟨h2, h3⟩
   · rw [p6]; exact h.p0 z hz hz1
   · omega
   · exact absurd h1 h3
 · have h1 := mY (n := n) (now := now) (k := 35) (z := z) (z' := p) h.nd hz (p1.trans hz1.symm) (by
     unfold wZ;rw [if_pos p1, if_pos hz1, p3, hza];unfold wP;rw [if_pos (by omega), if_neg (by omega), if_pos (by omega), if_pos (by omega)];omega)
   have h2 : wA n (now + 1) (upd L p ++ [ch]) = wA n (now + 1) (upd L p) + 35 := by
     unfold wA;rw [List.map_append, List.sum_append];congr 1;simp only [List.map_cons, List.map_nil, List.sum_cons, List.sum_nil, Nat.add_zero];unfold wZ;rw [if_neg (by omega), show ch.id - 2 = m by omega];unfold wC;rw [if_neg (by omega), if_pos c3]
   omega
def Done (n : Nat) (stt : Nat → Int) (T : St) (G : List Nat) (out : List Int) (ws : List Wd) : Prop := T.next.isOver = true ∧ G.length = n ∧ outB ws = [] ∧ (goneW ws).map (fun w => w.2.2.1) = [1] ∧ ∃ D : List Nat, D.Nodup ∧ D.length = n ∧ (∀ i ∈ D, i < n) ∧ out = full stt D ++ [253]
theorem x9 (hP : Prg n nap stt T.pn T.pg) (hT' : TI id T.next) (h : Led2 n nap stt T m D G out) (hx : (b, x) ∈ T.lead.ps) (hs : x.st = 1) (hid : x.id = 1) (hvs : T.next.vs = (T.lead.runS b x (T.last + 1)).vs) (hlast : T.next.last = (T.lead.runS b x (T.last + 1)).last) :
   ∃ ws, T.lead.runE b x = ws.map Wd.v ∧ (Nxt n nap stt T G out (((T.now : Int), 1, (x.id : Int), (x.at_ : Int)) :: ws) ∨ Done n stt T G out (((T.now : Int), 1, (x.id : Int), (x.at_ : Int)) :: ws)) := by
 have hL := h.hL;have hzL : vw x ∈ T.lead.vs := kV hx;obtain ⟨zp, hzp, hp1, hPar⟩ := hL.par;obtain rfl : zp = vw x := ig hL.nd hzp hzL (hp1.trans (show (1 : Nat) = (vw x).id from hid.symm));have hpn : T.lead.pn = 11 * n + 3 := by rw [h.pn, hP.pn]
 have n7 := hP.n7;have hll := h.last;have hml := h.ml;have noC : ∀ (z' : PS) (i : Nat), x.id = i + 2 → Chd n nap stt i (T.now + 1) z' ∧ z'.st ≠ 6 ∧ x.st ≠ 6 := fun z' i e => by omega
 have hwz : ∀ z' : PS, z'.id = 1 → wP n z'.at_ + 1 ≤ wP n x.at_ → wZ n (T.now + 1) z' + 1 ≤ wZ n T.now (vw x) := fun z' e1 e2 => by
   unfold wZ;rw [if_pos e1, if_pos (show (vw x).id = 1 from hid)];exact e2
 have wlate : ∀ a : Nat, 2 * n ≤ a → a < 6 * n + 3 → wP n (a + 1) + 1 ≤ wP n a := fun a h1 h2 => by
   unfold wP;rw [if_neg (by omega), if_neg (by omega)];omega
 have oB : ∀ ws : List Wd, outB (((T.now : Int), 1, (x.id : Int), (x.at_ : Int)) :: ws) = outB ws := fun ws => by simp [outB]
 have gB : ∀ ws : List Wd, goneW (((T.now : Int), 1, (x.id : Int), (x.at_ : Int)) :: ws) = goneW ws := fun ws => by simp [goneW]
 have hpx : x.par = 0 := hL.p0 (vw x) hzL hid;cases hPar with
 | fk a1 a2 a3 a4 a5 =>
   have a4' : x.at_ = 2 * m := a4;obtain ⟨j0, j1⟩ := hP.fk m a1;rw [← a4', ← h.pg] at j0 j1;have h8 : T.lead.ps.length < 8 := by
     have h1 : (T.lead.vs.map PS.id).length ≤ ((List.range (m + 1)).map (· + 1)).length := dg hL.nd fun k hk => by
       obtain ⟨w, hw, rfl⟩ := List.mem_map.1 hk;by_cases e : w.id = 1
       · exact List.mem_map.2 ⟨0, by simp, by omega⟩
       · obtain ⟨i, f1, f2, _⟩ := hL.chd w hw e;exact List.mem_map.2 ⟨i + 1, by simp; omega, by omega⟩
     have h2 : (T.lead.vs.map PS.id).length = T.lead.ps.length := by simp [St.vs]
     simp at h1;simp at h2;have h3 : T.lead.vs.length = T.lead.ps.length := by simp [St.vs]
     omega
   obtain ⟨r1, r2, r3⟩ := vG (c := T.last + 1) h.hM hx hs (by rw [hpn, a4']; omega) j0 j1 h8 h.hc (by rw [hll]; rfl);have r1' : (T.lead.runS b x (T.last + 1)).vs = upd T.lead.vs (vw (x.next.r0 (((m + 1 + 1 : Nat) : Int) % 65536))) ++ [vw { x.next.copy.r0 0 with id := m + 1 + 1, st := 1 }] := by rw [r1, hll, hml]
   have em : (((m + 1 + 1 : Nat) : Int) % 65536) = (m : Int) + 2 := by omega
   obtain ⟨f1, f2⟩ := hL.fork h.hs (z := vw x) (p := vw (x.next.r0 (((m + 1 + 1 : Nat) : Int) % 65536))) (ch := vw { x.next.copy.r0 0 with id := m + 1 + 1, st := 1 }) hzL hid a1 a2 a5 ⟨hid, hs, by show x.at_ + 1 = _; rw [a4'], by show put x.r 0 (((m + 1 + 1 : Nat) : Int) % 65536) 0 ≠ 0; rw [em]; simp [put]; omega, rfl, rfl⟩ ⟨rfl, rfl, by show x.at_ + 1 = _; rw [a4'], by show put x.r 0 0 0 = 0; simp [put], rfl, hid⟩ a4';refine ⟨[], r2, .inl ⟨m + 1, D, [], ?_, by rw [hlast, r3, hll, hml], ?_, by rw [gB]; rfl⟩⟩
   · rw [hvs, r1', oB, show outB [] = [] from rfl, List.append_nil, List.append_nil]; exact f1
   · rw [hvs, r1', ← h.hw]; exact f2
 | jz a1 a2 a3 a4 a5 a6 =>
   have a4' : x.at_ = 2 * m - 1 := a4;have a5' : x.r 0 ≠ 0 := a5;have hmn := hL.mn;obtain ⟨j0, j1, j2⟩ := hP.jz (m - 1) (by omega);rw [show 2 * (m - 1) + 1 = x.at_ by omega, ← h.pg] at j0 j1 j2;have hd : T.lead.doR x = .ok { x with at_ := x.at_ + 1 } := by
     unfold St.doR PS.do
     simp only [j0, j1, j2];simp [a5']
   obtain ⟨r1, r2, r3⟩ := k5 (c := T.last + 1) h.hM hx (by rw [hpn, a4']; omega) (by rw [j0]; decide) hd rfl;refine ⟨[], r2, .inl (quiet (z' := vw { x with at_ := x.at_ + 1 }) (out' := out) h hx (by rw [hvs, r1]) (by rw [hlast, r3, hll]) rfl rfl rfl (fun _ => ?_) (fun _ => rfl) (noC _) (fun _ e => absurd (show x.st = 2 from e) (by omega)) (hwz _ hid ?_) (by rw [oB]; simp [outB]) (by rw [gB]; rfl))⟩
   · by_cases e : m < n
     · exact .fk e a2 hs (by show x.at_ + 1 = _; omega) a6
     · exact .wt (by omega) hs (by show x.at_ + 1 = _; rw [a2]; simp; omega) (by rw [a6, a2]; rfl)
   · show wP n (x.at_ + 1) + 1 ≤ wP n x.at_;unfold wP;rw [a4'];by_cases e : m < n
     · rw [if_pos (by omega), if_pos (by omega), if_pos (by omega), if_neg (by omega)]; omega
     · rw [if_neg (by omega), if_pos (by omega), if_neg (by omega)]; omega
 | wt a1 a3 a4 a5 =>
   have a4' : x.at_ = 2 * n + 4 * D.length := a4;obtain ⟨hDn, hDh⟩ := qd (n := n) hL.dn fun i hi => by have := hL.dm i hi; omega
   obtain ⟨j0, j1⟩ := hP.wt D.length hDn;rw [← a4', ← h.pg] at j0 j1;obtain ⟨r2, r3, hc⟩ := sP (c := T.last + 1) h.hM hx hs (by rw [hpn, a4']; omega) j0 j1;have hup : ∀ w ∈ T.lead.vs, w.id ≠ 1 → w ∈ upd T.lead.vs (vw x.next) := fun w hw e => eQ hw (by show w.id ≠ x.id; rw [hid]; exact e);refine ⟨[], r2, .inl ?_⟩;rcases hc with ⟨c1, c2⟩ | ⟨⟨w, hw, c0⟩, c1, c2⟩ | ⟨y, hy, y1, y6, c2⟩
   · have hDe : D.length = n := by
       rcases Nat.lt_or_ge D.length n with hlt | hge
       · obtain ⟨i, hi, hiD⟩ := hDh.1 hlt;obtain ⟨w, hw, e⟩ := hL.all i (by omega) hiD;obtain ⟨_, _, _, _, f4, _⟩ := hL.chd w hw (by omega);exact absurd (f4.trans hid.symm) (c1 w (hup w hw (by omega)))
       · omega
     refine quiet (z' := vw (x.next.r0 65533)) (out' := out) h hx (by rw [hvs, c2]) (by rw [hlast, r3, hll]) rfl rfl rfl (fun _ => .la a1 hDe hs (by show x.at_ + 1 = _; omega) (by show put x.r 0 65533 0 = _; simp [put]) a5) (fun _ => rfl) (noC _) (fun _ e => absurd (show x.st = 2 from e) (by omega)) (hwz _ hid (wlate _ (by omega) (by omega))) (by rw [oB]; simp [outB]) (by rw [gB]; rfl)
   · have hwL : w ∈ T.lead.vs ∧ w.id ≠ 1 := by
       rcases cR hw with rfl | ⟨h2, h3⟩
       · have e : x.par = x.id := c0;omega
       · exact ⟨h2, by rw [← hid]; exact h3⟩
     obtain ⟨i, f1, f2, f3, _, _⟩ := hL.chd w hwL.1 hwL.2;refine quiet (z' := vw { x.next with st := 2 }) (out' := out) h hx (by rw [hvs, c2]) (by rw [hlast, r3, hll]) rfl rfl rfl (fun _ => .bl a1 (hDh.2 ⟨i, by omega, f3⟩) rfl (by show x.at_ + 1 = _; omega) a5) (fun _ => rfl) (noC _) (fun _ _ y hy hy1 e6 => ?_) (hwz _ hid (wlate _ (by omega) (by omega))) (by rw [oB]; simp [outB]) (by rw [gB]; rfl);obtain ⟨_, _, _, _, f4, _⟩ := hL.chd y hy hy1;exact c1 y (hup y hy hy1) ⟨f4.trans hid.symm, e6⟩
   · have hyL : y ∈ T.lead.vs ∧ y.id ≠ 1 := by
       rcases cR hy with rfl | ⟨h2, h3⟩
       · have e : x.par = x.id := y1;omega
       · exact ⟨h2, by rw [← hid]; exact h3⟩
     obtain ⟨j, f1, f2, f3, f4, f5⟩ := hL.chd y hyL.1 hyL.2;have hstat : y.stat = stt j := by cases f5 <;> first | assumption | omega
     have hst := hP.hstt j (by omega);have hjG := (hL.gz y hyL.1 j f1).2 y6;rw [oT (by show x.id ≠ y.id; omega), cY (by rfl)] at c2;have hXX : ∀ w, w ∈ without T.lead.vs (j + 2) ↔ w ∈ T.lead.vs ∧ w.id ≠ j + 2 := fun w => ju;have hXn : ((without T.lead.vs (j + 2)).map PS.id).Nodup := by
       unfold without;exact List.Nodup.sublist (List.Sublist.map _ List.filter_sublist) hL.nd
     rw [f1] at c2;have hzX : vw x ∈ without T.lead.vs (j + 2) := (hXX _).2 ⟨hzL, by show x.id ≠ j + 2; omega⟩;refine ⟨m, D ++ [j], [], ?_, by rw [hlast, r3, hll, hml], ?_, by rw [gB]; rfl⟩
     · rw [hvs, c2, oB, show outB [] = [] from rfl, List.append_nil, List.append_nil];refine hL.told (zp := vw x) (zp' := vw (told x.next y)) h.hs hyL.1 f1 hXX hXn hzL hid hid rfl rfl a1 hs (by show x.at_ + 1 = _; omega) ?_ ?_ a5 hL.gn hL.gm hjG (fun _ _ => Iff.rfl)
       · show put (put x.r 0 ((y.id : Int) % 65536)) 1 (y.stat % 65536) 0 = _;simp [put, f1]; omega
       · show put (put x.r 0 ((y.id : Int) % 65536)) 1 (y.stat % 65536) 1 = _;simp [put, hstat]; omega
     · rw [hvs, c2, ← h.hw];have h1 := mY (n := n) (now := T.now) (k := 0) (z := vw x) (z' := vw (told x.next y)) hXn hzX rfl (hwz _ hid (wlate _ (by omega) (by omega)));have h2 := k7 n T.now (j + 2) T.lead.vs;omega
 | bl a1 a2 a3 _ _ =>
   have : x.st = 2 := a3;omega
 | gt i D' a1 a2 a3 a4 a5 a6 a7 =>
   have a4' : x.at_ = 2 * n + 4 * D'.length + 1 := a4;have a5' : x.r 0 = (i : Int) + 2 := a5;have hDl : D'.length < n := by
     have := (qd (n := n) hL.dn fun i hi => by have := hL.dm i hi; omega).1;rw [a2] at this;simp at this;omega
   have hi : i < m := hL.dm i (by rw [a2]; simp);obtain ⟨j0, j1⟩ := hP.p1 D'.length (by omega);rw [← a4', ← h.pg] at j0 j1;obtain ⟨r1, r2, r3⟩ := je (c := T.last + 1) h.hM hx hs (by rw [hpn, a4']; omega) j0 j1;rw [h.now] at r2;refine ⟨[((T.now : Int), 3, (x.id : Int), x.r 0 % 256)], r2, .inl (quiet (z' := vw (x.next.r0 0)) (out' := full stt D' ++ [(i : Int) + 2]) h hx (by rw [hvs, r1]) (by rw [hlast, r3, hll]) rfl rfl rfl (fun _ => .mv i D' a1 a2 hs (by show x.at_ + 1 = _; omega) (by show put x.r 0 0 1 = _; simp [put]; exact a6) rfl) (fun e => absurd hid e) (noC _) (fun _ e => absurd (show x.st = 2 from e) (by omega)) (hwz _ hid (wlate _ (by omega) (by omega))) ?_ (by rw [gB]; simp [goneW]))⟩;rw [oB, a7];simp [outB, a5'];omega
 | mv i D' a1 a2 a3 a4 a5 a6 =>
   have a4' : x.at_ = 2 * n + 4 * D'.length + 2 := a4;have a5' : x.r 1 = stt i := a5;have hDl : D'.length < n := by
     have := (qd (n := n) hL.dn fun i hi => by have := hL.dm i hi; omega).1;rw [a2] at this;simp at this;omega
   obtain ⟨j0, j1, j2⟩ := hP.mv D'.length hDl;rw [← a4', ← h.pg] at j0 j1 j2;have hd : T.lead.doR x = .ok { x with at_ := x.at_ + 1, r := put x.r 0 (x.r 1) } := by
     unfold St.doR PS.do
     simp only [j0, j1, j2];simp
   obtain ⟨r1, r2, r3⟩ := k5 (c := T.last + 1) h.hM hx (by rw [hpn, a4']; omega) (by rw [j0]; decide) hd rfl;refine ⟨[], r2, .inl (quiet (z' := vw { x with at_ := x.at_ + 1, r := put x.r 0 (x.r 1) }) (out' := out) h hx (by rw [hvs, r1]) (by rw [hlast, r3, hll]) rfl rfl rfl (fun _ => .sa i D' a1 a2 hs (by show x.at_ + 1 = _; omega) (by show put x.r 0 (x.r 1) 0 = _; simp [put]; exact a5) a6) (fun _ => rfl) (noC _) (fun _ e => absurd (show x.st = 2 from e) (by omega)) (hwz _ hid (wlate _ (by omega) (by omega))) (by rw [oB]; simp [outB]) (by rw [gB]; rfl))⟩
 | sa i D' a1 a2 a3 a4 a5 a6 =>
   have a4' : x.at_ = 2 * n + 4 * D'.length + 3 := a4;have a5' : x.r 0 = stt i := a5;have hDl : D'.length < n := by
     have := (qd (n := n) hL.dn fun i hi => by have := hL.dm i hi; omega).1;rw [a2] at this;simp at this;omega
   have hi : i < m := hL.dm i (by rw [a2]; simp);have hst := hP.hstt i (by omega);obtain ⟨j0, j1⟩ := hP.p2 D'.length hDl;rw [← a4', ← h.pg] at j0 j1;obtain ⟨r1, r2, r3⟩ := je (c := T.last + 1) h.hM hx hs (by rw [hpn, a4']; omega) j0 j1;rw [h.now] at r2;refine ⟨[((T.now : Int), 3, (x.id : Int), x.r 0 % 256)], r2, .inl (quiet (z' := vw (x.next.r0 0)) (out' := full stt D) h hx (by rw [hvs, r1]) (by rw [hlast, r3, hll]) rfl rfl rfl (fun _ => .wt a1 hs (by show x.at_ + 1 = _; rw [a2]; simp; omega) rfl) (fun e => absurd hid e) (noC _) (fun _ e => absurd (show x.st = 2 from e) (by omega)) (hwz _ hid (wlate _ (by omega) (by omega))) ?_ (by rw [gB]; simp [goneW]))⟩;rw [oB, a6, a2, vM];simp [outB, a5'];omega
 | la a1 a2 a3 a4 a5 a6 =>
   have a4' : x.at_ = 6 * n + 1 := a4;have a5' : x.r 0 = 65533 := a5;obtain ⟨j0, j1⟩ := hP.p1 n (Nat.le_refl _);rw [show 2 * n + 4 * n + 1 = x.at_ by omega, ← h.pg] at j0 j1;obtain ⟨r1, r2, r3⟩ := je (c := T.last + 1) h.hM hx hs (by rw [hpn, a4']; omega) j0 j1;rw [h.now] at r2;refine ⟨[((T.now : Int), 3, (x.id : Int), x.r 0 % 256)], r2, .inl (quiet (z' := vw (x.next.r0 0)) (out' := full stt D ++ [253]) h hx (by rw [hvs, r1]) (by rw [hlast, r3, hll]) rfl rfl rfl (fun _ => .ex a1 a2 hs (by show x.at_ + 1 = _; omega) rfl) (fun e => absurd hid e) (noC _) (fun _ e => absurd (show x.st = 2 from e) (by omega)) (hwz _ hid (wlate _ (by omega) (by omega))) ?_ (by rw [gB]; simp [goneW]))⟩;rw [oB, a6];simp [outB, a5']
 | ex a1 a2 a3 a4 a5 =>
   have a4' : x.at_ = 6 * n + 2 := a4;obtain ⟨j0, j1⟩ := hP.ex;rw [← a4', ← h.pg] at j0 j1;obtain ⟨r1, r2, r3⟩ := oS (c := T.last + 1) h.hM hx hs (by rw [hpn, a4']; omega) j0 j1;rw [h.now] at r1;refine ⟨[((T.now : Int), 4, (x.id : Int), x.r 0)], r1, .inr ?_⟩;obtain ⟨hM1, hb1, hv1⟩ := eq h.hM hx hs;have hwt : ∀ q ∈ (T.lead.setP b x.next).ps, q.2.st = 2 → q.1 = b := fun q hq h2 => by
     rcases aQ hq with e | ⟨hq2, hne⟩
     · rw [e]
     · exfalso;have e : q.2.id ≠ 1 := fun e => by
         have h3 : q.1 = q.2.id := h.hM.x.nm q hq2;have h4 : b = x.id := h.hM.x.nm _ hx;omega
       obtain ⟨j, _, _, _, _, f5⟩ := hL.chd _ (List.mem_map.2 ⟨q, hq2, rfl⟩) e;have h3 : (vw q.2).st = 2 := h2;cases f5 <;> omega
   obtain ⟨vs4, hv4, hcase⟩ := vF hM1 hb1 (fun j hj => hL.fs _ hzL j hj) hb1 (show x.next.id = 1 from hid) hwt (x.r 0);rw [hv1, cY (by rfl)] at hv4;have hz6 : ∃ w ∈ vs4, w.id = 1 ∧ w.st = 6 := by
     rw [hv4];refine ⟨orphV x.next.id (vw { x.next with st := 6, stat := x.r 0 }), List.mem_map.2 ⟨_, upd_self hzL rfl, rfl⟩, ?_, ?_⟩
     · unfold orphV; split <;> exact hid
     · unfold orphV; split <;> rfl
   have hn4 : (vs4.map PS.id).Nodup := by
     rw [hv4, List.map_map];have : ∀ w : PS, (PS.id ∘ orphV x.next.id) w = w.id := fun w => by simp only [Function.comp]; unfold orphV; split <;> rfl
     rw [List.map_congr_left fun w _ => this w, gE]; exact hL.nd
   obtain ⟨w6, hw6, w61, w6s⟩ := hz6;have hv : T.next.vs = vs4 := by
     rcases hcase with ⟨hv, _⟩ | ⟨z2, hz2, z21, z22, _⟩
     · rw [hvs, r2, hv]
     · rw [ig hn4 hz2 hw6 (z21.trans w61.symm)] at z22;omega
   refine ⟨?_, ?_, by rw [oB]; simp [outB], by rw [gB]; simp [goneW, hid], D, hL.dn, a2, fun i hi => by have := hL.dm i hi; omega, a5⟩
   · unfold St.isOver;cases hf : T.next.find 1 with
     | none => rfl
     | some q =>
       obtain ⟨hq, hq1⟩ := fL hf;have h2 : vw q.2 ∈ vs4 := by rw [← hv]; exact List.mem_map.2 ⟨q, hq, rfl⟩
       have h3 := ig hn4 h2 hw6 (by rw [w61]; show q.2.id = 1; omega);have h4 : q.2.st = 6 := by rw [← w6s, ← h3]; rfl
       simp [h4]
   · have h1 : ∀ i, i < n → i ∈ G := fun i hi => hL.gd i (Classical.byContradiction fun hc => by
       have := (qd (n := n) hL.dn fun i hi => by have := hL.dm i hi; omega).2.2 ⟨i, hi, hc⟩;omega)
     have h2 := (qd (n := n) hL.gn fun i hi => by have := hL.gm i hi; omega);rcases Nat.lt_or_ge G.length n with h3 | h3
     · obtain ⟨i, hi, hn⟩ := h2.2.1 h3;exact absurd (h1 i hi) hn
     · omega
end
section
variable {n : Nat} {nap stt : Nat → Int} {T : St} {m b now : Nat} {D G : List Nat} {out : List Int} {x : PS} {L : List PS}
theorem vN (T : St) : T.next.pn = T.pn ∧ T.next.pg = T.pg ∧ T.next.now = T.now + 1 := by
 have hf := bZ T;have hnow : T.next.now = T.now + 1 := by show (T.tickU (T.last + 1)).now + 1 = _; rw [sK]
 unfold St.next St.tickU at *
 cases h1 : T.lead.first with
 | none => rw [h1] at hnow; exact ⟨hf.pn, hf.pg, hnow⟩
 | some b =>
   rw [h1] at hnow;simp only at hnow ⊢;cases h2 : T.lead.get b with
   | none => rw [h2] at hnow; exact ⟨hf.pn, hf.pg, hnow⟩
   | some x =>
     rw [h2] at hnow;have h3 := (iN T.lead b x (T.last + 1)).1;have h4 := fO (T.lead.runS b x (T.last + 1)) b;exact ⟨h4.pn.trans (h3.pn.trans hf.pn), h4.pg.trans (h3.pg.trans hf.pg), hnow⟩
theorem vO (hT : TI id T) (hP : Prg n nap stt T.pn T.pg) (h : Fm n nap stt T.vs T.now m D G out) (hl : T.last = m + 1) : ∃ ws, T.tickE = ws.map Wd.v ∧ (Nxt n nap stt T G out ws ∨ Done n stt T G out ws) := by
 obtain ⟨hM, hv, hT', hc, hcase⟩ := yF hT;obtain ⟨hL, hs, hw⟩ := h.lead;rw [← hv] at hL hs hw;have hf := bZ T;have h2 : Led2 n nap stt T m D G out := ⟨hM, hL, hs, hw, hc, hf.pn, hf.pg, hf.now, cQ T, hl⟩;rcases hcase with ⟨e1, e2, e3, e4⟩ | ⟨b, x, hx, hst, e1, e2, e3⟩
 · obtain ⟨f1, f2⟩ := hL.idle hs e2;refine ⟨[((T.now : Int), 2, 0, 0)], e3, .inl ⟨m, D, [], ?_, by rw [e4, hl], ?_, by simp [goneW]⟩⟩
   · rw [e1]; simpa [outB] using f1
   · rw [e1, ← hw]; exact f2
 · by_cases hid : x.id = 1
   · obtain ⟨ws, r1, r2⟩ := x9 hP hT' h2 hx hst hid e2 e3;exact ⟨((T.now : Int), 1, (x.id : Int), (x.at_ : Int)) :: ws, by rw [e1, r1]; rfl, r2⟩
   · obtain ⟨i, f1, f2, f3, f4, f5⟩ := hL.chd _ (kV hx) hid;by_cases hat : x.at_ = cE n i + 3
     · have hr : x.r 0 = stt i := by
         have hst' : (vw x).st = 1 := hst;have hat' : (vw x).at_ = cE n i + 3 := hat;cases f5 with
         | c0 _ a _ => unfold cE at hat'; omega
         | c1 _ a => omega
         | c2 _ a _ => omega
         | c3 _ a => omega
         | cs a _ _ _ => omega
         | c4 _ _ a => exact a
         | c5 a _ => omega
       obtain ⟨r1, r2⟩ := vL hP h2 hx hst f1 hat hr e2 e3;exact ⟨_, by rw [e1, r1]; rfl, .inl r2⟩
     · obtain ⟨r1, r2⟩ := sT hP h2 hx hst f1 f2 f5 hat e2 e3;exact ⟨_, by rw [e1, r1]; rfl, .inl r2⟩
theorem vP {f : PS → Nat} : ∀ {L : List PS} {z : PS}, z ∈ L → f z ≤ (L.map f).sum
 | a :: L, z, h => by
   simp only [List.map_cons, List.sum_cons];rcases List.mem_cons.1 h with rfl | h1
   · omega
   · have := vP (f := f) h1; omega
theorem Fm.live (h : Fm n nap stt T.vs T.now m D G out) (hT : TI id T) : T.isOver = false ∧ 1 ≤ wA n T.now T.vs := by
 obtain ⟨z, hz, h1, h2⟩ := h.par;have hst : z.st ≠ 6 := by cases h2 <;> omega
 have hat : z.at_ ≤ 6 * n + 2 := by
   have hmn := h.mn;have hd := (qd (n := n) h.dn fun i hi => by have := h.dm i hi; omega).1;cases h2 with
   | gt i D' _ a _ b _ _ _ => rw [a] at hd; simp at hd; omega
   | mv i D' _ a _ b _ _ => rw [a] at hd; simp at hd; omega
   | sa i D' _ a _ b _ _ => rw [a] at hd; simp at hd; omega
   | _ => omega
 constructor
 · unfold St.isOver;cases hf : T.find 1 with
   | none =>
     obtain ⟨q, hq, hq1⟩ := hT.m.x.p1;unfold St.find at hf;have := List.find?_eq_none.1 hf q hq;simp at this;omega
   | some q =>
     obtain ⟨hq, hq1⟩ := fL hf;have h3 := ig h.nd (List.mem_map.2 ⟨q, hq, rfl⟩) hz (by rw [h1]; show q.2.id = 1; omega);have h4 : q.2.st = z.st := by rw [← h3]; rfl
     simp [h4, hst]
 · have h3 := vP (f := wZ n T.now) hz;unfold wA;have h4 : 1 ≤ wZ n T.now z := by
     unfold wZ;rw [if_pos h1];unfold wP
     split <;> omega
   omega
theorem vQ (a b : List Wd) : outB (a ++ b) = outB a ++ outB b := by simp [outB]
theorem sU (a b : List Wd) : goneW (a ++ b) = goneW a ++ goneW b := by simp [goneW]
theorem qT : ∀ (N : Nat) (T : St) (m : Nat) (D G : List Nat) (out : List Int), TI id T → Prg n nap stt T.pn T.pg → Fm n nap stt T.vs T.now m D G out → T.last = m + 1 → wA n T.now T.vs ≤ N →
   ∃ ws, St.evs N T = ws.map Wd.v ∧ (∃ D' : List Nat, D'.Nodup ∧ D'.length = n ∧ (∀ i ∈ D', i < n) ∧ out ++ outB ws = full stt D' ++ [253]) ∧ ∃ g : List Nat, (goneW ws).map (fun w => w.2.2.1) = (g.map fun (i : Nat) => (i : Int) + 2) ++ [1] ∧ G.length + g.length = n
 | 0, T, m, D, G, out, hT, hP, h, hl, hw => by
   have := (h.live hT).2;omega
 | N + 1, T, m, D, G, out, hT, hP, h, hl, hw => by
   obtain ⟨ho, _⟩ := h.live hT;obtain ⟨ws, e1, hn⟩ := vO hT hP h hl;have hev : St.evs (N + 1) T = T.tickE ++ St.evs N T.next := by
     show (if T.isOver then [] else T.tickE ++ St.evs N T.next) = _;rw [ho]; rfl
   rcases hn with ⟨m', D', g, f1, f2, f3, f4⟩ | ⟨f1, f2, f3, f4, D', f5⟩
   · obtain ⟨p1, p2, p3⟩ := vN T;have hT' : TI id T.next := (yF hT).2.2.1
     obtain ⟨ws2, q1, ⟨D2, q2, q3, q4, q5⟩, g2, q6, q7⟩ := qT N T.next m' D' (G ++ g) (out ++ outB ws) hT' (by rw [p1, p2]; exact hP) (by rw [p3]; exact f1) f2 (by rw [p3]; omega)
     refine ⟨ws ++ ws2, by rw [hev, e1, q1, List.map_append], ⟨D2, q2, q3, q4, by rw [vQ, ← List.append_assoc]; exact q5⟩, g ++ g2, ?_, ?_⟩
     · rw [sU, List.map_append, f4, q6, List.map_append, List.append_assoc]
     · rw [List.length_append] at q7;rw [List.length_append]; omega
   · refine ⟨ws, by rw [hev, vH f1, List.append_nil, e1], ⟨D', f5.1, f5.2.1, f5.2.2.1, by rw [f3, List.append_nil]; exact f5.2.2.2⟩, [], by rw [f4]; rfl, by simpa using f2⟩
def famI (n : Nat) (nap stt : Nat → Int) : List Int :=
 (((List.range n).flatMap fun i => insn 9 1 0 ++ insn 5 0 (cE n i : Nat)) ++ ((List.range n).flatMap fun _ => insn 9 2 0 ++ insn 9 11 0 ++ insn 2 0 1 ++ insn 9 11 0)) ++ (insn 9 2 0 ++ insn 9 11 0 ++ insn 9 0 0) ++
 ((List.range n).flatMap fun i => insn 1 0 (nap i) ++ insn 9 4 0 ++ insn 1 0 (stt i) ++ insn 9 0 0 ++ insn 6 0 0)
theorem bt {f : Nat → List Int} {k : Nat} (hf : ∀ i, (f i).length = k) : ∀ n, ((List.range n).flatMap f).length = k * n
 | 0 => rfl
 | n + 1 => by rw [List.range_succ, List.flatMap_append, List.length_append, bt hf n]; simp [hf, Nat.mul_succ]
theorem jJ {f : Nat → List Int} {k : Nat} (hf : ∀ i, (f i).length = k) : ∀ (n i j : Nat), i < n → j < k → ((List.range n).flatMap f)[k * i + j]? = (f i)[j]?
 | n + 1, i, j, hi, hj => by
   rw [List.range_succ, List.flatMap_append];by_cases e : i = n
   · subst e;rw [List.getElem?_append_right (by rw [bt hf]; omega), bt hf];simp
   · have h1 : k * i + k ≤ k * n := by rw [← Nat.mul_succ]; exact Nat.mul_le_mul_left k (by omega)
     rw [List.getElem?_append_left (by rw [bt hf]; omega)];exact jJ hf n i j (by omega) hj
theorem oU (n : Nat) (nap stt : Nat → Int) : (famI n nap stt).length = 44 * n + 12 := by
 unfold famI;rw [List.length_append, List.length_append, List.length_append, bt (k := 8) (fun i => rfl), bt (k := 16) (fun i => rfl), bt (k := 20) (fun i => rfl)];show 8 * n + 16 * n + 12 + 20 * n = _;omega
theorem jK {l : List Int} {p : Nat} {v : Int} (h : l[p]? = some v) : l.getD p 0 = v := by simp [List.getD, h]
theorem gG {i j : Nat} {v : Int} (hi : i < n) (hj : j < 8) (hv : (insn 9 1 0 ++ insn 5 0 (cE n i : Nat))[j]? = some v) : (famI n nap stt).getD (8 * i + j) 0 = v := by
 refine jK ?_;unfold famI;have hl : 8 * i + j < 8 * n := by omega
 rw [List.getElem?_append_left (by rw [List.length_append, List.length_append, bt (k := 8) (fun i => rfl)]; omega), List.getElem?_append_left (by rw [List.length_append, bt (k := 8) (fun i => rfl)]; omega), List.getElem?_append_left (by rw [bt (k := 8) (fun i => rfl)]; omega), jJ (k := 8) (fun i => rfl) n i j hi hj];exact hv
theorem fx {i j : Nat} {v : Int} (hi : i < n) (hj : j < 16) (hv : (insn 9 2 0 ++ insn 9 11 0 ++ insn 2 0 1 ++ insn 9 11 0)[j]? = some v) : (famI n nap stt).getD (8 * n + (16 * i + j)) 0 = v := by
 refine jK ?_;unfold famI;have hl : 16 * i + j < 16 * n := by omega
 rw [List.getElem?_append_left (by rw [List.length_append, List.length_append, bt (k := 8) (fun i => rfl), bt (k := 16) (fun i => rfl)]; omega), List.getElem?_append_left (by rw [List.length_append, bt (k := 8) (fun i => rfl), bt (k := 16) (fun i => rfl)]; omega), List.getElem?_append_right (by rw [bt (k := 8) (fun i => rfl)]; omega), bt (k := 8) (fun i => rfl), Nat.add_sub_cancel_left, jJ (k := 16) (fun i => rfl) n i j hi hj];exact hv
theorem gH {j : Nat} {v : Int} (hj : j < 12) (hv : (insn 9 2 0 ++ insn 9 11 0 ++ insn 9 0 0)[j]? = some v) : (famI n nap stt).getD (24 * n + j) 0 = v := by
 refine jK ?_;unfold famI;have e : ((((List.range n).flatMap fun i => insn 9 1 0 ++ insn 5 0 (cE n i : Nat)) ++ ((List.range n).flatMap fun _ => insn 9 2 0 ++ insn 9 11 0 ++ insn 2 0 1 ++ insn 9 11 0))).length = 24 * n := by
   rw [List.length_append, bt (k := 8) (fun i => rfl), bt (k := 16) (fun i => rfl)]; omega
 rw [List.getElem?_append_left (by rw [List.length_append, e]; show 24 * n + j < 24 * n + 12; omega), List.getElem?_append_right (by rw [e]; omega), e, Nat.add_sub_cancel_left];exact hv
theorem dY {i j : Nat} {v : Int} (hi : i < n) (hj : j < 20) (hv : (insn 1 0 (nap i) ++ insn 9 4 0 ++ insn 1 0 (stt i) ++ insn 9 0 0 ++ insn 6 0 0)[j]? = some v) : (famI n nap stt).getD (24 * n + 12 + (20 * i + j)) 0 = v := by
 refine jK ?_;unfold famI;have e : (((((List.range n).flatMap fun i => insn 9 1 0 ++ insn 5 0 (cE n i : Nat)) ++ ((List.range n).flatMap fun _ => insn 9 2 0 ++ insn 9 11 0 ++ insn 2 0 1 ++ insn 9 11 0))) ++ (insn 9 2 0 ++ insn 9 11 0 ++ insn 9 0 0)).length = 24 * n + 12 := by
   rw [List.length_append, List.length_append, bt (k := 8) (fun i => rfl), bt (k := 16) (fun i => rfl)];show 8 * n + 16 * n + 12 = _;omega
 rw [List.getElem?_append_right (by rw [e]; omega), e, Nat.add_sub_cancel_left, jJ (k := 20) (fun i => rfl) n i j hi hj];exact hv
theorem yd (hn : n ≤ 7) (hnap : ∀ i, i < n → 0 ≤ nap i ∧ nap i < 30) (hstt : ∀ i, i < n → 0 ≤ stt i ∧ stt i < 256) : Prg n nap stt ((famI n nap stt).length / 4) (fun i j => (famI n nap stt).getD (4 * i + j) 0) where
 pn := by rw [oU]; omega
 n7 := hn
 hnap := hnap
 hstt := hstt
 fk i hi := ⟨by show (famI n nap stt).getD _ 0 = _; rw [show 4 * (2 * i) + 0 = 8 * i + 0 by omega]; exact gG hi (by decide) rfl, by show (famI n nap stt).getD _ 0 = _; rw [show 4 * (2 * i) + 1 = 8 * i + 1 by omega]; exact gG hi (by decide) rfl⟩
 jz i hi := by
   have hE : cE n i < 256 := by unfold cE; omega
   refine ⟨?_, ?_, ?_⟩
   · show (famI n nap stt).getD _ 0 = _;rw [show 4 * (2 * i + 1) + 0 = 8 * i + 4 by omega]; exact gG hi (by decide) rfl
   · show (famI n nap stt).getD _ 0 = _;rw [show 4 * (2 * i + 1) + 1 = 8 * i + 5 by omega]; exact gG hi (by decide) rfl
   · show ((famI n nap stt).getD _ 0 + 256 * (famI n nap stt).getD _ 0) % 65536 = _;rw [show 4 * (2 * i + 1) + 2 = 8 * i + 6 by omega, show 4 * (2 * i + 1) + 3 = 8 * i + 7 by omega, gG hi (j := 6) (by decide) rfl, gG hi (j := 7) (by decide) rfl];omega
 wt k hk := by
   by_cases e : k = n
   · subst e;refine ⟨?_, ?_⟩
     · show (famI k nap stt).getD _ 0 = _;rw [show 4 * (2 * k + 4 * k) + 0 = 24 * k + 0 by omega]; exact gH (by decide) rfl
     · show (famI k nap stt).getD _ 0 = _;rw [show 4 * (2 * k + 4 * k) + 1 = 24 * k + 1 by omega]; exact gH (by decide) rfl
   · refine ⟨?_, ?_⟩
     · show (famI n nap stt).getD _ 0 = _;rw [show 4 * (2 * n + 4 * k) + 0 = 8 * n + (16 * k + 0) by omega]; exact fx (by omega) (by decide) rfl
     · show (famI n nap stt).getD _ 0 = _;rw [show 4 * (2 * n + 4 * k) + 1 = 8 * n + (16 * k + 1) by omega]; exact fx (by omega) (by decide) rfl
 p1 k hk := by
   by_cases e : k = n
   · subst e;refine ⟨?_, ?_⟩
     · show (famI k nap stt).getD _ 0 = _;rw [show 4 * (2 * k + 4 * k + 1) + 0 = 24 * k + 4 by omega]; exact gH (by decide) rfl
     · show (famI k nap stt).getD _ 0 = _;rw [show 4 * (2 * k + 4 * k + 1) + 1 = 24 * k + 5 by omega]; exact gH (by decide) rfl
   · refine ⟨?_, ?_⟩
     · show (famI n nap stt).getD _ 0 = _;rw [show 4 * (2 * n + 4 * k + 1) + 0 = 8 * n + (16 * k + 4) by omega]; exact fx (by omega) (by decide) rfl
     · show (famI n nap stt).getD _ 0 = _;rw [show 4 * (2 * n + 4 * k + 1) + 1 = 8 * n + (16 * k + 5) by omega]; exact fx (by omega) (by decide) rfl
 mv k hk := by
   refine ⟨?_, ?_, ?_⟩
   · show (famI n nap stt).getD _ 0 = _;rw [show 4 * (2 * n + 4 * k + 2) + 0 = 8 * n + (16 * k + 8) by omega]; exact fx hk (by decide) rfl
   · show (famI n nap stt).getD _ 0 = _;rw [show 4 * (2 * n + 4 * k + 2) + 1 = 8 * n + (16 * k + 9) by omega]; exact fx hk (by decide) rfl
   · show (famI n nap stt).getD _ 0 = _;rw [show 4 * (2 * n + 4 * k + 2) + 2 = 8 * n + (16 * k + 10) by omega]; exact fx hk (by decide) rfl
 p2 k hk := by
   refine ⟨?_, ?_⟩
   · show (famI n nap stt).getD _ 0 = _;rw [show 4 * (2 * n + 4 * k + 3) + 0 = 8 * n + (16 * k + 12) by omega]; exact fx hk (by decide) rfl
   · show (famI n nap stt).getD _ 0 = _;rw [show 4 * (2 * n + 4 * k + 3) + 1 = 8 * n + (16 * k + 13) by omega]; exact fx hk (by decide) rfl
 ex := by
   refine ⟨?_, ?_⟩
   · show (famI n nap stt).getD _ 0 = _;rw [show 4 * (6 * n + 2) + 0 = 24 * n + 8 by omega]; exact gH (by decide) rfl
   · show (famI n nap stt).getD _ 0 = _;rw [show 4 * (6 * n + 2) + 1 = 24 * n + 9 by omega]; exact gH (by decide) rfl
 c1 i hi := by
   have h1 := hnap i hi;unfold cE;refine ⟨?_, ?_, ?_⟩
   · show (famI n nap stt).getD _ 0 = _;rw [show 4 * (6 * n + 3 + 5 * i) + 0 = 24 * n + 12 + (20 * i + 0) by omega]; exact dY hi (by decide) rfl
   · show (famI n nap stt).getD _ 0 = _;rw [show 4 * (6 * n + 3 + 5 * i) + 1 = 24 * n + 12 + (20 * i + 1) by omega]; exact dY hi (by decide) rfl
   · show ((famI n nap stt).getD _ 0 + 256 * (famI n nap stt).getD _ 0) % 65536 = _;rw [show 4 * (6 * n + 3 + 5 * i) + 2 = 24 * n + 12 + (20 * i + 2) by omega, show 4 * (6 * n + 3 + 5 * i) + 3 = 24 * n + 12 + (20 * i + 3) by omega, dY hi (j := 2) (by decide) rfl, dY hi (j := 3) (by decide) rfl];omega
 c2 i hi := by
   unfold cE;refine ⟨?_, ?_⟩
   · show (famI n nap stt).getD _ 0 = _;rw [show 4 * (6 * n + 3 + 5 * i + 1) + 0 = 24 * n + 12 + (20 * i + 4) by omega]; exact dY hi (by decide) rfl
   · show (famI n nap stt).getD _ 0 = _;rw [show 4 * (6 * n + 3 + 5 * i + 1) + 1 = 24 * n + 12 + (20 * i + 5) by omega]; exact dY hi (by decide) rfl
 c3 i hi := by
   have h1 := hstt i hi;unfold cE;refine ⟨?_, ?_, ?_⟩
   · show (famI n nap stt).getD _ 0 = _;rw [show 4 * (6 * n + 3 + 5 * i + 2) + 0 = 24 * n + 12 + (20 * i + 8) by omega]; exact dY hi (by decide) rfl
   · show (famI n nap stt).getD _ 0 = _;rw [show 4 * (6 * n + 3 + 5 * i + 2) + 1 = 24 * n + 12 + (20 * i + 9) by omega]; exact dY hi (by decide) rfl
   · show ((famI n nap stt).getD _ 0 + 256 * (famI n nap stt).getD _ 0) % 65536 = _;rw [show 4 * (6 * n + 3 + 5 * i + 2) + 2 = 24 * n + 12 + (20 * i + 10) by omega, show 4 * (6 * n + 3 + 5 * i + 2) + 3 = 24 * n + 12 + (20 * i + 11) by omega, dY hi (j := 10) (by decide) rfl, dY hi (j := 11) (by decide) rfl];omega
 c4 i hi := by
   unfold cE;refine ⟨?_, ?_⟩
   · show (famI n nap stt).getD _ 0 = _;rw [show 4 * (6 * n + 3 + 5 * i + 3) + 0 = 24 * n + 12 + (20 * i + 12) by omega]; exact dY hi (by decide) rfl
   · show (famI n nap stt).getD _ 0 = _;rw [show 4 * (6 * n + 3 + 5 * i + 3) + 1 = 24 * n + 12 + (20 * i + 13) by omega]; exact dY hi (by decide) rfl
end
section
variable {K M : Nat} {A B : Lay} {S T : St} {F L L' L2 : Frag}
def Own (K : Nat) (A : Lay) (S : St) (b : Nat) : Prop := b = K ∨ (∃ q ∈ S.ps, b = q.1) ∨ (∃ i, (A.a i).b = some b) ∨ (∃ i, (A.y i).b = some b) ∨ b = A.wt
end
theorem vR : ∀ {a b : List Wd}, a.map Wd.v = b.map Wd.v → a = b
 | [], [], _ => rfl
 | [], _ :: _, h => by simp at h
 | _ :: _, [], h => by simp at h
 | (x1, x2, x3, x4) :: a, (y1, y2, y3, y4) :: b, h => by
   simp only [List.map_cons, List.cons.injEq] at h;have h1 : (Value.agg #[.int .i64 x1, .int .i64 x2, .int .i64 x3, .int .i64 x4]) = .agg #[.int .i64 y1, .int .i64 y2, .int .i64 y3, .int .i64 y4] := h.1;simp only [Value.agg.injEq, Array.mk.injEq, List.cons.injEq, Value.int.injEq, true_and, and_true] at h1;obtain ⟨e1, e2, e3, e4⟩ := h1;rw [e1, e2, e3, e4, vR h.2]
end Go.Proofs.YtejkelcaljmnoaaGreatDoor
namespace Go.Lo
open Go.Conc Go.Hx
end Go.Lo
namespace Go.Proofs.YtejkelcaljmnoaaGreatDoor
open Go.Conc Go.Hx Go.Lo
def WL (L : Frag) (base : Option Addr) (ws : List Wd) : Prop := ∀ i w, ws[i]? = some w → ∃ g cs, base = some ⟨g, 0, none⟩ ∧ (g, true, Obj.cells cs 51) ∈ L ∧ i * 4 + 4 ≤ cs.size ∧ cs.extract (i * 4) (i * 4 + 4) = (Wd.c w).toArray
theorem ye {ws : List Wd} {i : Nat} {w : Wd} (h : ws[i]? = some w) (l : List Value) : ((wcs ws ++ l).toArray.extract (i * 4) (i * 4 + 4)) = (Wd.c w).toArray := by
 have hi := (List.getElem?_eq_some_iff.1 h).1;apply Array.ext';apply List.ext_getElem?;intro j;by_cases hj : j < 4
 · simp only [Array.toList_extract, List.extract_eq_take_drop];rw [List.getElem?_take_of_lt (by omega), List.getElem?_drop, List.getElem?_append_left (by rw [jI]; omega), Nat.mul_comm i 4, vJ ws i w h j hj]
 · rw [List.getElem?_eq_none (by simp; omega), List.getElem?_eq_none (by show 4 ≤ j; omega)]
theorem yf {L : Frag} {a : Sl} {ws : List Wd} (ha : slOk a (wcs ws) 51 L) : ∃ base cap, rowv a 4 ws.length = .slice base ws.length cap ∧ WL L base ws := by
 cases hab : a.b with
 | none =>
   unfold slOk at ha;rw [hab] at ha;have h0 := ha.1;have : ws = [] := by
     have h1 := congrArg List.length h0;rw [jI] at h1;exact List.length_eq_zero_iff.1 (by simp at h1; omega)
   subst this;exact ⟨none, 0, by unfold rowv; rw [hab]; rfl, fun i w hw => by simp at hw⟩
 | some b =>
   refine ⟨some ⟨b, 0, none⟩, _, by unfold rowv; rw [hab], fun i w hw => ⟨b, _, rfl, ha.mem hab, ?_, ye hw _⟩⟩;have hi := (List.getElem?_eq_some_iff.1 hw).1;simp only [List.size_toArray, List.length_append, jI];omega
structure KI (l : List Key) (n : Nat) : Prop where
 asc : (l.map (·.1)).Pairwise (· < ·)
 rng : ∀ e ∈ l, 1 ≤ e.1 ∧ e.1 ≤ n
 one : ∃ e ∈ l, e.1 = 1 ∧ e.2.1 = 0
 par : ∀ e ∈ l, e.1 ≠ 1 → e.2.1 ≠ 0 ∧ ∃ f ∈ l, f.1 = e.2.1 ∧ (f.2.2 = false ∨ f.1 = 1)
structure Gone (l : List Key) (n : Nat) (G : Nat → Bool) : Prop where
 e : ∀ e ∈ l, G e.1 = e.2.2
 hi : ∀ j, n < j → G j = false
 z : G 0 = false
theorem qe {c : Nat → Int} {bo : Int} {l : List Int} (hc : okc c bo = true) (hl : oki l.length = true) (hB : Byt l) : TI id (St.fresh c bo l 1) ∧ KI (St.fresh c bo l 1).sk (St.fresh c bo l 1).last ∧ Gone (St.fresh c bo l 1).sk (St.fresh c bo l 1).last (fun _ => false) := by
 have hps : (St.fresh c bo l 1).ps = [(1, PS.one)] := kR;have hsk : (St.fresh c bo l 1).sk = [(1, 0, false)] := by unfold St.sk; rw [hps]; rfl
 have hlast : (St.fresh c bo l 1).last = 1 := rfl;refine ⟨(oO hc hl hB).rename fun q hq => ?_, ?_, ?_⟩
 · rw [hps] at hq;rw [List.mem_singleton.1 hq]; rfl
 · rw [hsk, hlast];exact ⟨by simp, by simp, ⟨_, List.mem_cons_self, rfl, rfl⟩, by simp⟩
 · rw [hsk, hlast];exact ⟨by simp, fun _ _ => rfl, rfl⟩
section
variable {P : Program} {N : Nat} {ε : Env} {L : Frag} {d : Option Tmp} {ty : TypeId} {ps : String} {af : Array Edge} {g : Option (Nat × Bool)} {x y : Operand} {t u : TypeId}
theorem zP {l : List Int} {ats : Array TypeId} (hx : ev ε x = some (strv l) := by rfl) (hu : P.underlying t = some .string := by kernel_rfl) (ha' : ats[0]? = some t := by rfl) : EY P N ε L ⟨d, .call ⟨.builtin .len, #[x], ats⟩, ty, ps, af, g⟩ (.int .i64 (l.length : Nat)) := by
 have h := yV (P := P) (N := N) (L := L) (d := d) (ty := ty) (ps := ps) (af := af) (g := g) (s' := ⟨(l.map fun n => UInt8.ofNat n.toNat).toArray⟩) hx hu ha';have e : (⟨(l.map fun n => UInt8.ofNat n.toNat).toArray⟩ : ByteArray).size = l.length := by simp [ByteArray.size]
 rw [e] at h;exact h
end
def napf (na : List Int) (i : Nat) : Int := if i < na.length then ((pickN (na.getD i 0) 30 : Nat) : Int) else 0
def sttf (st : List Int) (i : Nat) : Int := ((pickN (st.getD i 0) 256 : Nat) : Int)
def hdF (n i : Nat) : List Int := insn 9 1 0 ++ insn 5 0 (cE n i : Nat)
def mdF (_ : Nat) : List Int := insn 9 2 0 ++ insn 9 11 0 ++ insn 2 0 1 ++ insn 9 11 0
def kdF (nap stt : Nat → Int) (i : Nat) : List Int := insn 1 0 (nap i) ++ insn 9 4 0 ++ insn 1 0 (stt i) ++ insn 9 0 0 ++ insn 6 0 0
def flt (f : Nat → List Int) (i : Nat) : List Int := (List.range i).flatMap f
theorem k8 (f : Nat → List Int) (i : Nat) : flt f (i + 1) = flt f i ++ f i := by unfold flt; rw [List.range_succ, List.flatMap_append]; simp
abbrev SlA (L : Frag) (b : Option Addr) (cs : List Int) : Prop := ∀ i x, cs[i]? = some x → I64 x ∧ ∃ g o, b = some ⟨g, o, none⟩ ∧ At L g (o + i) (.int .i64 x)
theorem zQ (op a k : Int) : (insn op a k).length = 4 := rfl
theorem vS (n : Nat) : ∀ i, (flt (hdF n) i).length = 8 * i := bt (k := 8) (fun i => rfl)
theorem vT : ∀ i, (flt mdF i).length = 16 * i := bt (k := 16) (fun i => rfl)
theorem zR (nap stt : Nat → Int) : ∀ i, (flt (kdF nap stt) i).length = 20 * i := bt (k := 20) (fun i => rfl)
theorem mZ {f : Nat → List Int} (h : ∀ i, Byt (f i)) (n : Nat) : Byt (flt f n) := fun v hv => by
 obtain ⟨i, _, h2⟩ := List.mem_flatMap.1 hv;exact h i v h2
theorem dC {l m : List Int} (h : Byt l) (k : Byt m) : Byt (l ++ m) := fun n hn => by
 rcases List.mem_append.1 hn with h1 | h1
 · exact h n h1
 · exact k n h1
theorem vU (n : Nat) (nap stt : Nat → Int) : Byt (famI n nap stt) := by
 unfold famI;exact dC (dC (dC (mZ (fun i => dC (cf _ _ _) (cf _ _ _)) n) (mZ (fun i => dC (dC (dC (cf _ _ _) (cf _ _ _)) (cf _ _ _)) (cf _ _ _)) n)) (dC (dC (cf _ _ _) (cf _ _ _)) (cf _ _ _))) (mZ (fun i => dC (dC (dC (dC (cf _ _ _) (cf _ _ _)) (cf _ _ _)) (cf _ _ _)) (cf _ _ _)) n)
theorem sV {n : Nat} {nap stt : Nat → Int} {c : Nat → Int} {bo : Int} (hn : n ≤ 7) : Fm n nap stt (St.fresh c bo (famI n nap stt) 1).vs 0 0 [] [] [] ∧ wA n 0 (St.fresh c bo (famI n nap stt) 1).vs ≤ 1500 := by
 have hv : (St.fresh c bo (famI n nap stt) 1).vs = [vw PS.one] := by unfold St.vs; rw [kR]; rfl
 rw [hv];refine ⟨⟨⟨_, List.mem_cons_self, rfl, ?_⟩, fun z hz h1 => ?_, fun z hz j hj => ?_, by simp, fun i hi => by omega, by simp, by simp, by omega, fun z hz _ h2 => ?_, by simp, by simp, by simp, fun z hz i hi => ?_, fun z hz _ => ?_⟩, ?_⟩
 · by_cases e : 0 < n
   · exact .fk e rfl rfl rfl rfl
   · exact .wt (by omega) rfl (by show 0 = 2 * n + 4 * 0; omega) rfl
 · rw [List.mem_singleton.1 hz] at h1; exact absurd rfl h1
 · rw [List.mem_singleton.1 hz]; rfl
 · rw [List.mem_singleton.1 hz] at h2; cases h2
 · rw [List.mem_singleton.1 hz] at hi;have : (1 : Nat) = i + 2 := hi;omega
 · rw [List.mem_singleton.1 hz]; rfl
 · show wP n 0 + 0 ≤ 1500;unfold wP;by_cases e : 0 < 2 * n
   · rw [if_pos e, if_pos (by decide)]; omega
   · rw [if_neg e]; omega
section
variable {N : Nat} {ε : Env} {L : Frag} {d : Option Tmp} {ty : TypeId} {ps : String} {af : Array Edge} {g : Option (Nat × Bool)} {x y : Operand}
theorem vV {l : List Int} {i : Nat} {v : Int} (hl : Byt l) (hv : l[i]? = some v) (hx : ev ε x = some (strv l) := by rfl) (hy : ev ε y = some (.int .i64 (i : Nat)) := by rfl) : EY Tryz.prog N ε L ⟨d, .index 9 x y, ty, ps, af, g⟩ (.int .u8 v) := by
 refine qH (w := strv l) (j := .int .i64 (i : Nat)) ?_ hx hy;have hb := hl v (List.mem_of_getElem? hv);have hi := (List.getElem?_eq_some_iff.1 hv).1;have h1 : (⟨(l.map fun n => UInt8.ofNat n.toNat).toArray⟩ : ByteArray)[(i : Nat)]? = some (UInt8.ofNat v.toNat) := by
   show (if h : i < (⟨(l.map fun n => UInt8.ofNat n.toNat).toArray⟩ : ByteArray).size then some _ else none) = _;rw [dif_pos (by simpa [ByteArray.size] using hi)];congr 1;have := (List.getElem?_eq_some_iff.1 hv).2;show ((l.map fun n => UInt8.ofNat n.toNat).toArray)[i]'(by simpa using hi) = _;simp [this]
 have h2 : evR Tryz.prog (Instr.index 9 (strv l) (.int .i64 (i : Nat))) [] = evR Tryz.prog (match (if 0 ≤ (i : Int) then (⟨(l.map fun n => UInt8.ofNat n.toNat).toArray⟩ : ByteArray)[(i : Int).toNat]? else none) with | some b => pure (.int .u8 b.toNat) | none => boundsPanic .i64 (i : Int) (⟨(l.map fun n => UInt8.ofNat n.toNat).toArray⟩ : ByteArray).size .index) [] := by kernel_rfl
 rw [h2, if_pos (by omega), Int.toNat_natCast, h1];show some ((Value.int .u8 ((UInt8.ofNat v.toNat).toNat : Nat)), []) = _;have : ((UInt8.ofNat v.toNat).toNat : Int) = v := by simp; omega
 rw [this]
end
def bcs (G : Nat → Bool) : Array Value := ((List.range 10).map fun i => Value.bool (G i)).toArray
theorem iT (G : Nat → Bool) : (bcs G).size = 10 := by simp [bcs]
theorem qf {G : Nat → Bool} {i : Nat} (h : i < 10) : (bcs G)[i]? = some (.bool (G i)) := by
 unfold bcs;rw [List.getElem?_toArray, List.getElem?_map, List.getElem?_range h]; rfl
theorem yg {G : Nat → Bool} {i : Nat} (h : i < 10) : (bcs G).setIfInBounds i (.bool true) = bcs (put G i true) := by
 apply Array.ext_getElem?;intro j;rw [Array.getElem?_setIfInBounds, iT];by_cases hj : j < 10
 · rw [qf hj, qf hj];unfold put;by_cases e : i = j
   · subst e; simp [h]
   · rw [if_neg e, if_neg fun e2 => e e2.symm]
 · rw [Array.getElem?_eq_none (by rw [iT]; omega), Array.getElem?_eq_none (by rw [iT]; omega)];rw [if_neg (by omega)]
theorem Bm : zeroAt Tryz.prog 58 = some (.agg (bcs fun _ => false)) := by kernel_rfl
theorem fS (stt : Nat → Int) (D : List Nat) : (full stt D).length = 2 * D.length := by
 unfold full
 induction D with
 | nil => rfl
 | cons a D ih => rw [List.flatMap_cons, List.length_append, ih]; simp only [List.length_cons, List.length_nil]; omega
theorem qU (stt : Nat → Int) : ∀ (D : List Nat) {k i : Nat}, D[k]? = some i → (full stt D)[2 * k]? = some ((i : Int) + 2) ∧ (full stt D)[2 * k + 1]? = some (stt i)
 | a :: D, 0, i, h => by
   obtain rfl : a = i := by simpa using h
   exact ⟨rfl, rfl⟩
 | a :: D, k + 1, i, h => by
   obtain ⟨h1, h2⟩ := qU stt D (k := k) (i := i) (by simpa using h);exact ⟨h1, h2⟩
theorem vW {stt : Nat → Int} {D : List Nat} {n : Nat} (hn : n ≤ 7) (hD : ∀ i ∈ D, i < n) (hs : ∀ i, i < n → 0 ≤ stt i ∧ stt i < 256) : Byt (full stt D ++ [253]) := dC (fun v hv => by
 obtain ⟨i, hi, h2⟩ := List.mem_flatMap.1 hv;have h3 := hD i hi;have h4 := hs i h3;simp only [List.mem_cons, List.not_mem_nil, or_false] at h2;rcases h2 with rfl | rfl <;> omega) (fun v hv => by simp at hv; omega)
def seenF (D : List Nat) (k id : Nat) : Bool := decide (∃ i ∈ D.take k, id = i + 2)
theorem vX {D : List Nat} {k i : Nat} (h : D[k]? = some i) : put (seenF D k) (i + 2) true = seenF D (k + 1) := by
 funext id
 unfold put seenF;rw [List.take_add_one, h, Option.toList_some];by_cases e : id = i + 2
 · rw [if_pos e]; symm; rw [decide_eq_true_iff]; exact ⟨i, by simp, e⟩
 · rw [if_neg e];apply decide_eq_decide.2;constructor
   · rintro ⟨j, hj, e2⟩; exact ⟨j, List.mem_append_left _ hj, e2⟩
   · rintro ⟨j, hj, e2⟩;rcases List.mem_append.1 hj with h1 | h1
     · exact ⟨j, h1, e2⟩
     · simp at h1; subst h1; exact absurd e2 e
theorem vY {D : List Nat} (hn : D.Nodup) {k i : Nat} (h : D[k]? = some i) : seenF D k (i + 2) = false := by
 unfold seenF;rw [decide_eq_false_iff_not];rintro ⟨j, hj, e⟩;obtain rfl : j = i := by omega
 obtain ⟨p, hp⟩ := List.getElem?_of_mem hj;have hlt : p < k := by
   have := (List.getElem?_eq_some_iff.1 hp).1;rw [List.length_take] at this;omega
 rw [List.getElem?_take_of_lt hlt] at hp;obtain ⟨l1, g1⟩ := List.getElem?_eq_some_iff.1 hp;obtain ⟨l2, g2⟩ := List.getElem?_eq_some_iff.1 h;exact absurd (g1.trans g2.symm) (List.pairwise_iff_getElem.1 hn p k l1 l2 hlt)
theorem vZ : ∃ k, ∀ {Fin : Value → World → Prop} {W : World} {O : Nat} (a b c d : Int) (sb : Option Addr) (sc : Nat) (st : List Int) (nb : Option Addr) (nc : Nat) (na : List Int) (L : Frag) (eb : Nat → Nat × Nat), I64 a → I64 b → I64 c → I64 d → SlA L sb st → SlA L nb na → Fun L → Ers eb L →
   CallsL (F := FZ Tryz.prog Fin) (fun s => dom0 (Shs s.2) W O) Tryz.prog true 6 [.int .i64 a, .int .i64 b, .int .i64 c, .int .i64 d, .slice sb st.length sc, .slice nb na.length nc].toArray k (0 + 1, []) L (fun s' v L' => s'.1 = 0 ∧ v = .bool true) := by
 obtain ⟨n1, gc⟩ := vu;obtain ⟨n2, gt⟩ := zN;obtain ⟨n3, gk⟩ := vv;obtain ⟨n4, gpr⟩ := sR;obtain ⟨n5, gi⟩ := vt;obtain ⟨n6, gpick⟩ := vr;apply Exists.intro;intro Fin W O a b c d sb sc st nb nc na L eb ha hb hc hd hst hna hF hE;have hN : ∀ (s : Nat × List Nat) (o : Obj), (dom0 (Shs s.2) W O).New o := fun _ _ => trivial;generalize hnn : min st.length 7 = nn;have hn7 : nn ≤ 7 := by omega
 have ni : ∀ (s : Nat × List Nat) (L : Frag) (op a k : Int), Fun L → CallsL (F := FZ Tryz.prog Fin) (fun s => dom0 (Shs s.2) W O) Tryz.prog true 16 [.int .i64 op, .int .i64 a, .int .i64 k].toArray (n5 + n6) s L (fun s' v L' => s = s' ∧ v = strv (insn op a k) ∧ Ext L L') := fun s L op a k hF => eN (gi L op a k hN hF) (by omega);have np : ∀ (s : Nat × List Nat) (L : Frag) (c : Int) (k : Nat), I64 c → 0 < k → CallsL (F := FZ Tryz.prog Fin) (fun s => dom0 (Shs s.2) W O) Tryz.prog true 15 [.int .i64 c, .int .i64 (k : Nat)].toArray (n5 + n6) s L (fun s' v L' => s = s' ∧ v = .int .i64 (pickN c k : Nat) ∧ L = L') := fun s L c k hc hk => eN (gpick L c k hc hk) (by omega);co_applyP aB 193 Tryz.func6 Tryz.ntmps6;co_applyP aa;co_applyP oan rfl;co_applyP aa;co_applyP om rfl rfl rfl (bz (hu := U54));co_applyP oan rfl;co_applyP dV (fun s'' ε'' L'' => s'' = (0 + 1, []) ∧ L'' = L ∧ kn ε'' [(0, .int .i64 a), (1, .int .i64 b), (2, .int .i64 c), (3, .int .i64 d), (4, .slice sb st.length sc), (5, .slice nb na.length nc), (13, .int .i64 (nn : Nat))]);co_applyP aa;co_applyP om rfl rfl rfl dD;co_applyP ah;co_applyP bj rfl;intro hg;co_applyP ax;co_applyP oan rfl;change _ = _ ∧ _ = _ ∧ kn _ _
 · have e : nn = 7 := by simp at hg; omega
   rw [e];exact ⟨rfl, rfl, rfl⟩
 intro hg;co_applyP aC;change _ = _ ∧ _ = _ ∧ kn _ _
 · have e : nn = st.length := by simp at hg; omega
   rw [e];exact ⟨rfl, rfl, rfl⟩
 rintro s'' ε'' L'' ⟨rfl, rfl, he⟩;co_applyP aW he;have w1 : IntKind.i64.wrap ((nn : Int) * 2) = ((2 * nn : Nat) : Int) := by simp [IntKind.wrap_i64]; omega
 have w2 : IntKind.i64.wrap ((nn : Int) * 4) = ((4 * nn : Nat) : Int) := by simp [IntKind.wrap_i64]; omega
 have w3 : IntKind.i64.wrap (((2 * nn : Nat) : Int) + ((4 * nn : Nat) : Int)) = ((6 * nn : Nat) : Int) := by simp [IntKind.wrap_i64]; omega
 have w4 : IntKind.i64.wrap (((6 * nn : Nat) : Int) + 3) = ((6 * nn + 3 : Nat) : Int) := by simp [IntKind.wrap_i64]; omega
 co_applyP aa;co_applyP oan rfl;co_applyP aa;co_applyP om rfl rfl rfl jh;co_applyP oan rfl;co_applyP aa;co_applyP oan rfl;co_applyP aa;co_applyP om rfl rfl rfl ae;co_applyP oy rfl jh;co_applyP oy rfl aX;co_applyP oy rfl aX;co_applyP oan rfl;co_applyP ak;co_applyP aa;co_applyP oan rfl;co_applyP aH;rw [w1, w2, w3, w4];co_applyP bF (fun k s' ε' L' => s' = (0 + 1, []) ∧ Ext L'' L' ∧ ∃ i, k + i = 7 ∧ i ≤ nn ∧ kn ε' [(0, .int .i64 a), (1, .int .i64 b), (2, .int .i64 c), (3, .int .i64 d), (4, .slice sb st.length sc), (5, .slice nb na.length nc), (13, .int .i64 (nn : Nat)), (14, strv (flt (hdF nn) i)), (16, .int .i64 5), (17, .int .i64 ((6 * nn + 3 : Nat) : Int)), (18, .int .i64 (i : Nat))]) 7
 · exact ⟨rfl, ⟨hF, fun _ h => h⟩, 0, rfl, Nat.zero_le _, rfl⟩
 rintro c0 s' ε' L1 ⟨rfl, hX, i, hci, hi, he⟩;co_applyP aW he;have ei : IntKind.i64.wrap ((i : Int) + 1) = ((i + 1 : Nat) : Int) := by simp [IntKind.wrap_i64]; omega
 co_applyP ak;co_applyP aa;co_applyP om rfl rfl rfl ae;co_applyP oy rfl b6;co_applyP ah;co_applyP bj rfl;intro hlt
 · have hlt' : i < nn := by simpa using hlt
   have hl := vS nn i;have q1 : (flt (hdF nn) i).length + (trapI 1 []).length < 1000000 := by show _ + 4 < _; omega
   have q2 : (flt (hdF nn) i ++ trapI 1 []).length + (insn 5 0 (cE nn i : Nat)).length < 1000000 := by rw [List.length_append]; show _ + 4 + 4 < _; omega
   have m1 : IntKind.i64.wrap ((i : Int) * 5) = ((5 * i : Nat) : Int) := by simp [IntKind.wrap_i64]; omega
   have m2 : IntKind.i64.wrap (((6 * nn + 3 : Nat) : Int) + ((5 * i : Nat) : Int)) = ((cE nn i : Nat) : Int) := by unfold cE; simp [IntKind.wrap_i64]; omega
   co_applyP aC;co_applyP ak;co_applyP aH;co_applyP ax;co_applyP oy rfl ae;co_applyP oc rfl rfl rfl (gt L1 1 [] none 0 hN hX.f (by decide) (fun i hi => by simp at hi));rintro _ _ _ ⟨rfl, rfl, hE1⟩;co_applyP oy rfl cT;co_applyP om rfl rfl rfl ae;co_applyP om rfl rfl rfl jh;co_applyP oy rfl aX;rw [m1, m2];co_applyP oc rfl rfl rfl (gi _ 5 0 (cE nn i : Nat) hN hE1.f);rintro _ _ _ ⟨rfl, rfl, hE2⟩;co_applyP oy rfl cT;co_applyP oan rfl;co_applyP ax;co_applyP om rfl rfl rfl aX;co_applyP oan rfl;change ∃ k', k' < _ ∧ _;have e5 : flt (hdF nn) (i + 1) = flt (hdF nn) i ++ trapI 1 [] ++ insn 5 0 (cE nn i : Nat) := by rw [k8, List.append_assoc]; rfl
   exact ⟨c0 - 1, by omega, rfl, (hX.trans hE1).trans hE2, i + 1, by omega, by omega, by rw [← ei, e5]; rfl⟩
 intro hlt;have hieq : i = nn := by simp at hlt; omega
 subst hieq;have hl0 := vS i i;co_applyP bJ;co_applyP ak;co_applyP aa;co_applyP oan rfl;co_applyP aH;co_applyP bF (fun k s' ε' L' => s' = (0 + 1, []) ∧ Ext L'' L' ∧ ∃ j, k + j = 7 ∧ j ≤ i ∧ kn ε' [(0, .int .i64 a), (1, .int .i64 b), (2, .int .i64 c), (3, .int .i64 d), (4, .slice sb st.length sc), (5, .slice nb na.length nc), (13, .int .i64 (i : Nat)), (14, strv (flt (hdF i) i ++ flt mdF j)), (19, .int .i64 (j : Nat))]) 7
 · exact ⟨rfl, hX, 0, rfl, Nat.zero_le _, by rw [show flt mdF 0 = [] from rfl, List.append_nil]; rfl⟩
 rintro c0 s' ε' L2 ⟨rfl, hX2, j, hcj, hj, he⟩;co_applyP aW he;have ej : IntKind.i64.wrap ((j : Int) + 1) = ((j + 1 : Nat) : Int) := by simp [IntKind.wrap_i64]; omega
 co_applyP ak;co_applyP aa;co_applyP om rfl rfl rfl ae;co_applyP oy rfl b6;co_applyP ah;co_applyP bj rfl;intro hlt2
 · have hlt2' : j < i := by simpa using hlt2
   have hl := vT j;have q1 : (flt (hdF i) i ++ flt mdF j).length + (insn 9 2 0).length < 1000000 := by rw [List.length_append]; show _ + 4 < _; omega
   have q2 : (flt (hdF i) i ++ flt mdF j ++ insn 9 2 0).length + (insn 9 11 0).length < 1000000 := by rw [List.length_append, List.length_append]; show _ + 4 + 4 < _; omega
   have q3 : (flt (hdF i) i ++ flt mdF j ++ insn 9 2 0 ++ insn 9 11 0).length + (insn 2 0 1).length < 1000000 := by rw [List.length_append, List.length_append, List.length_append]; show _ + 4 + 4 + 4 < _; omega
   have q4 : (flt (hdF i) i ++ flt mdF j ++ insn 9 2 0 ++ insn 9 11 0 ++ insn 2 0 1).length + (insn 9 11 0).length < 1000000 := by rw [List.length_append, List.length_append, List.length_append, List.length_append]; show _ + 4 + 4 + 4 + 4 < _; omega
   co_applyP aC;co_applyP ak;co_applyP aH;co_applyP ax;co_applyP oy rfl ae;co_applyP oc rfl rfl rfl (gi L2 9 2 0 hN hX2.f);rintro _ _ _ ⟨rfl, rfl, hE1⟩;co_applyP oy rfl cT;co_applyP oc rfl rfl rfl (gi _ 9 11 0 hN hE1.f);rintro _ _ _ ⟨rfl, rfl, hE2⟩;co_applyP oy rfl cT;co_applyP oc rfl rfl rfl (gi _ 2 0 1 hN hE2.f);rintro _ _ _ ⟨rfl, rfl, hE3⟩;co_applyP oy rfl cT;co_applyP oc rfl rfl rfl (gi _ 9 11 0 hN hE3.f);rintro _ _ _ ⟨rfl, rfl, hE4⟩;co_applyP oy rfl cT;co_applyP oan rfl;co_applyP ax;co_applyP om rfl rfl rfl aX;co_applyP oan rfl;change ∃ k', k' < _ ∧ _;have e5 : flt (hdF i) i ++ flt mdF (j + 1) = flt (hdF i) i ++ flt mdF j ++ insn 9 2 0 ++ insn 9 11 0 ++ insn 2 0 1 ++ insn 9 11 0 := by rw [k8]; simp [mdF]
   exact ⟨c0 - 1, by omega, rfl, (((hX2.trans hE1).trans hE2).trans hE3).trans hE4, j + 1, by omega, by omega, by rw [← ej, e5]; rfl⟩
 intro hlt2;have hjeq : j = i := by simp at hlt2; omega
 subst hjeq;have hl1 := vT j;have q1 : (flt (hdF j) j ++ flt mdF j).length + (insn 9 2 0).length < 1000000 := by rw [List.length_append]; show _ + 4 < _; omega
 have q2 : (flt (hdF j) j ++ flt mdF j ++ insn 9 2 0).length + (insn 9 11 0).length < 1000000 := by rw [List.length_append, List.length_append]; show _ + 4 + 4 < _; omega
 have q3 : (flt (hdF j) j ++ flt mdF j ++ insn 9 2 0 ++ insn 9 11 0).length + (insn 9 0 0).length < 1000000 := by rw [List.length_append, List.length_append, List.length_append]; show _ + 4 + 4 + 4 < _; omega
 co_applyP bJ;co_applyP aa;co_applyP oy rfl ae;co_applyP oc rfl rfl rfl (gi L2 9 2 0 hN hX2.f);rintro _ _ _ ⟨rfl, rfl, hE1⟩;co_applyP oy rfl cT;co_applyP oc rfl rfl rfl (gi _ 9 11 0 hN hE1.f);rintro _ _ _ ⟨rfl, rfl, hE2⟩;co_applyP oy rfl cT;co_applyP oc rfl rfl rfl (gi _ 9 0 0 hN hE2.f);rintro _ _ _ ⟨rfl, rfl, hE3⟩;rename_i L3;have hX3 : Ext L'' L3 := ((hX2.trans hE1).trans hE2).trans hE3;have hHl : (flt (hdF j) j ++ flt mdF j ++ insn 9 2 0 ++ insn 9 11 0 ++ insn 9 0 0).length = 24 * j + 12 := by
   rw [List.length_append, List.length_append, List.length_append, List.length_append, hl0, hl1, zQ, zQ, zQ]; omega
 have hH : famI j (napf na) (sttf st) = flt (hdF j) j ++ flt mdF j ++ insn 9 2 0 ++ insn 9 11 0 ++ insn 9 0 0 ++ flt (kdF (napf na) (sttf st)) j := by
   unfold famI flt;simp only [List.append_assoc];rfl
 clear q1 q2 hl0 hl1;co_applyP oy rfl cT;co_applyP oan rfl;co_applyP ak;co_applyP aa;co_applyP oan rfl;co_applyP aH;generalize flt (hdF j) j ++ flt mdF j ++ insn 9 2 0 ++ insn 9 11 0 ++ insn 9 0 0 = H at hHl hH ⊢;co_applyP bF (fun k s' ε' L' => s' = (0 + 1, []) ∧ Ext L'' L' ∧ ∃ i, k + i = 7 ∧ i ≤ j ∧ kn ε' [(0, .int .i64 a), (1, .int .i64 b), (2, .int .i64 c), (3, .int .i64 d), (4, .slice sb st.length sc), (5, .slice nb na.length nc), (13, .int .i64 (j : Nat)), (14, strv (H ++ flt (kdF (napf na) (sttf st)) i)), (20, .int .i64 (i : Nat))]) 7
 · exact ⟨rfl, hX3, 0, rfl, Nat.zero_le _, by rw [show flt (kdF (napf na) (sttf st)) 0 = [] from rfl, List.append_nil]; rfl⟩
 rintro c0 s' ε' L4 ⟨rfl, hX4, i, hci, hi, he⟩;co_applyP aW he;have ei : IntKind.i64.wrap ((i : Int) + 1) = ((i + 1 : Nat) : Int) := by simp [IntKind.wrap_i64]; omega
 co_applyP ak;co_applyP aa;co_applyP om rfl rfl rfl ae;co_applyP oy rfl b6;co_applyP ah;co_applyP bj rfl;intro hlt3
 · have hlt3' : i < j := by simpa using hlt3
   co_applyP aC;co_applyP ak;co_applyP aH;co_applyP aa;co_applyP oan rfl;co_applyP dV (fun s'' ε'' L' => s'' = (0 + 1, []) ∧ L' = L4 ∧ kn ε'' [(0, .int .i64 a), (1, .int .i64 b), (2, .int .i64 c), (3, .int .i64 d), (4, .slice sb st.length sc), (5, .slice nb na.length nc), (13, .int .i64 (j : Nat)), (14, strv (H ++ flt (kdF (napf na) (sttf st)) i)), (20, .int .i64 (i : Nat)), (21, .int .i64 (napf na i))]);co_applyP aa;co_applyP om rfl rfl rfl ae;co_applyP oy rfl (bz (hu := U54));co_applyP oy rfl b6;co_applyP ah;co_applyP bj rfl;intro hq
   · have hq' : i < na.length := by simpa using hq
     obtain ⟨x, hx⟩ : ∃ x, na[i]? = some x := ⟨_, List.getElem?_eq_getElem hq'⟩;obtain ⟨hx64, g, o, hnb, hxat⟩ := hna i x hx;have en : napf na i = ((pickN x 30 : Nat) : Int) := by unfold napf; rw [if_pos hq']; simp [List.getD, hx]
     have hxL := hX4.at hxat;rw [hnb];co_applyP ax;co_applyP om rfl rfl rfl ae;co_applyP oy rfl (bG U54 dh);co_applyP oy rfl (aF (ht := aY) (hv := hxL));co_applyP oc rfl rfl rfl (gpick L4 x 30 hx64 (by decide));rintro _ _ _ ⟨rfl, rfl, rfl⟩;co_applyP oan rfl;change _ = _ ∧ _ = _ ∧ kn _ _;rw [en];exact ⟨rfl, rfl, rfl⟩
   intro hq
   · have hq' : ¬ i < na.length := by simpa using hq
     have en : napf na i = 0 := by unfold napf; rw [if_neg hq']
     rw [en];co_applyP aC;change _ = _ ∧ _ = _ ∧ kn _ _;exact ⟨rfl, rfl, rfl⟩
   rintro s'' ε'' L' ⟨rfl, rfl, he4⟩;co_applyP aW he4;obtain ⟨x, hx⟩ : ∃ x, st[i]? = some x := ⟨_, List.getElem?_eq_getElem (by omega)⟩;obtain ⟨hx64, g, o, hsb, hxat⟩ := hst i x hx;have hxL := hX4.at hxat;have es : sttf st i = ((pickN x 256 : Nat) : Int) := by unfold sttf; simp [List.getD, hx]
   have hl := zR (napf na) (sttf st) i;have q1 : (H ++ flt (kdF (napf na) (sttf st)) i).length + (insn 1 0 (napf na i)).length < 1000000 := by rw [List.length_append]; show _ + 4 < _; omega
   have q2 : (H ++ flt (kdF (napf na) (sttf st)) i ++ insn 1 0 (napf na i)).length + (insn 9 4 0).length < 1000000 := by rw [List.length_append, List.length_append]; show _ + 4 + 4 < _; omega
   have q3 : (H ++ flt (kdF (napf na) (sttf st)) i ++ insn 1 0 (napf na i) ++ insn 9 4 0).length + (insn 1 0 ((pickN x 256 : Nat) : Int)).length < 1000000 := by rw [List.length_append, List.length_append, List.length_append]; show _ + 4 + 4 + 4 < _; omega
   have q4 : (H ++ flt (kdF (napf na) (sttf st)) i ++ insn 1 0 (napf na i) ++ insn 9 4 0 ++ insn 1 0 ((pickN x 256 : Nat) : Int)).length + (insn 9 0 0).length < 1000000 := by rw [List.length_append, List.length_append, List.length_append, List.length_append]; show _ + 4 + 4 + 4 + 4 < _; omega
   have q5 : (H ++ flt (kdF (napf na) (sttf st)) i ++ insn 1 0 (napf na i) ++ insn 9 4 0 ++ insn 1 0 ((pickN x 256 : Nat) : Int) ++ insn 9 0 0).length + (insn 6 0 0).length < 1000000 := by rw [List.length_append, List.length_append, List.length_append, List.length_append, List.length_append]; show _ + 4 + 4 + 4 + 4 + 4 < _; omega
   rw [hsb];co_applyP bh L' 15 aU;co_applyP tr 0 rfl (ae) pI;co_applyP tr 1 rfl (ae) pI;co_applyP tr 6 rfl (ae) pI;co_applyP tr 7 rfl (ae) pI;co_applyP tr 8 rfl ((bG U54 dh)) pI;co_applyP tr 9 rfl (aF (ht := aY) (hv := hxL)) pI;co_applyP tc 2 rfl rfl rfl (ni _ L' 1 0 (napf na i) hX4.f);rintro _ _ _ ⟨rfl, rfl, hE1⟩;refine ⟨bK (fun t h => hE1.s t h) (fun t h => hE1.s t h), ?_⟩;co_applyP tr 3 rfl (cT) (bK (fun t h => hE1.s t h) (fun t h => hE1.s t h));co_applyP tc 4 rfl rfl rfl (ni _ _ 9 4 0 hE1.f);rintro _ _ _ ⟨rfl, rfl, hE2⟩;refine ⟨bK (fun t h => hE2.s t (hE1.s t h)) (fun t h => hE2.s t (hE1.s t h)), ?_⟩;co_applyP tr 5 rfl (cT) (bK (fun t h => hE2.s t (hE1.s t h)) (fun t h => hE2.s t (hE1.s t h)));co_applyP tc 10 rfl rfl rfl (np _ _ x 256 hx64 (by decide));rintro _ _ _ ⟨rfl, rfl, rfl⟩;refine ⟨bK (fun t h => hE2.s t (hE1.s t h)) (fun t h => hE2.s t (hE1.s t h)), ?_⟩;co_applyP tc 11 rfl rfl rfl (ni _ _ 1 0 (pickN x 256 : Nat) hE2.f);rintro _ _ _ ⟨rfl, rfl, hE3⟩;refine ⟨bK (fun t h => hE3.s t (hE2.s t (hE1.s t h))) (fun t h => hE3.s t (hE2.s t (hE1.s t h))), ?_⟩;co_applyP tr 12 rfl (cT) (bK (fun t h => hE3.s t (hE2.s t (hE1.s t h))) (fun t h => hE3.s t (hE2.s t (hE1.s t h))));co_applyP tc 13 rfl rfl rfl (ni _ _ 9 0 0 hE3.f);rintro _ _ _ ⟨rfl, rfl, hE5⟩;refine ⟨bK (fun t h => hE5.s t (hE3.s t (hE2.s t (hE1.s t h)))) (fun t h => hE5.s t (hE3.s t (hE2.s t (hE1.s t h)))), ?_⟩;co_applyP tr 14 rfl (cT) (bK (fun t h => hE5.s t (hE3.s t (hE2.s t (hE1.s t h)))) (fun t h => hE5.s t (hE3.s t (hE2.s t (hE1.s t h)))));co_applyP tc 15 rfl rfl rfl (ni _ _ 6 0 0 hE5.f);rintro _ _ _ ⟨rfl, rfl, hE6⟩;refine ⟨ay (fun t h => hE6.s t (hE5.s t (hE3.s t (hE2.s t (hE1.s t h))))), ?_⟩;co_applyP to 16 rfl (cT) (ay (fun t h => hE6.s t (hE5.s t (hE3.s t (hE2.s t (hE1.s t h))))));co_applyP to 17 rfl (bL) (ay (fun t h => hE6.s t (hE5.s t (hE3.s t (hE2.s t (hE1.s t h))))));co_applyP td (by kernel_rfl);co_applyP ax;co_applyP om rfl rfl rfl aX;co_applyP oan rfl;change ∃ k', k' < _ ∧ _;have e5 : H ++ flt (kdF (napf na) (sttf st)) (i + 1) = H ++ flt (kdF (napf na) (sttf st)) i ++ insn 1 0 (napf na i) ++ insn 9 4 0 ++ insn 1 0 ((pickN x 256 : Nat) : Int) ++ insn 9 0 0 ++ insn 6 0 0 := by rw [k8, ← es]; simp [kdF]
   exact ⟨c0 - 1, by omega, rfl, ((((hX4.trans hE1).trans hE2).trans hE3).trans hE5).trans hE6, i + 1, by omega, by omega, by rw [← ei, e5]; rfl⟩
 intro hlt3;have hieq2 : i = j := by simp at hlt3; omega
 subst hieq2;rw [← hH];have hok := xV a b c d;have hoi : oki (famI i (napf na) (sttf st)).length = true := by rw [oU]; unfold oki; simp; omega
 have hby := vU i (napf na) (sttf st);co_applyP bJ;co_applyP aa;co_applyP om rfl rfl rfl ae;co_applyP om rfl rfl rfl ae;co_applyP ocm rfl rfl rfl (gc L4 a b c d hN hX4.f ha hb hc hd);rintro _ _ _ ⟨rfl, rfl, hE7⟩;co_applyP oy rfl ae;rename_i L7;co_applyP oc rfl rfl rfl (gk L7 (cfgf a b c) (cfgb d) (famI i (napf na) (sttf st)) hN hE7.f hby hok hoi);rintro _ _ _ ⟨rfl, K, A0, b0, rfl, hR0⟩;co_applyP oan rfl;co_applyP ak;co_applyP aa;co_applyP om rfl rfl rfl (jj (hu := Tryz.underlying35));co_applyP ah;co_applyP ai rfl;co_applyP aC;co_applyP aa;co_applyP oy rfl ae;have hAb0 := vx (b := b0) hok hoi hby;have hnap : ∀ k, k < i → 0 ≤ napf na k ∧ napf na k < 30 := fun k _ => by
   unfold napf
   split
   · have := cW (na.getD k 0) (n := 30) (by decide); omega
   · omega
 have hstt : ∀ k, k < i → 0 ≤ sttf st k ∧ sttf st k < 256 := fun k _ => by
   unfold sttf;have := cW (st.getD k 0) (n := 256) (by decide); omega
 obtain ⟨hfm, hwm⟩ := sV (n := i) (nap := napf na) (stt := sttf st) (c := cfgf a b c) (bo := cfgb d) hn7;obtain ⟨wsF, f1, ⟨D, dn, dl, dm, eo⟩, gl, eg, egl⟩ := qT (n := i) (nap := napf na) (stt := sttf st) 1500 (St.fresh (cfgf a b c) (cfgb d) (famI i (napf na) (sttf st)) 1) 0 [] [] [] (qe hok hoi hby).1 (yd hn7 hnap hstt) hfm rfl hwm;co_applyP ocm rfl rfl rfl (gpr 0 [] K A0 _ _ L7 _ eb 1500 hR0 (hE.mono fun t h => hE7.s _ (hX4.s _ h)) hAb0 (by decide) (by decide) (by show (0 : Nat) < _; decide));rintro _ _ _ ⟨N1, A1, S1, ws, ag, rfl, hws, rfl, hAb1, hR1, hg⟩;rename_i L8;obtain rfl : ws = wsF := vR (hws.symm.trans f1);rw [List.nil_append] at eo;rw [eo];have hgl : (goneW ws).length = i + 1 := by
   have := congrArg List.length eg;simp at this egl;omega
 obtain ⟨gb, gcap, hgv, hgw⟩ := yf hg;rw [hgv, hgl];obtain ⟨w, hw⟩ : ∃ w, (goneW ws)[i]? = some w := ⟨_, List.getElem?_eq_getElem (by omega)⟩;have hw1 : w.2.2.1 = 1 := by
   have h1 : ((goneW ws).map fun w => w.2.2.1)[i]? = some w.2.2.1 := by simp [hw]
   rw [eg, List.getElem?_append_right (by simp at egl ⊢; omega)] at h1;simp at egl;simp [egl] at h1;exact h1.symm
 obtain ⟨g1, k1, rfl, m1, z1, x1⟩ := hgw i w hw;have y2 : At L8 g1 (i * 4 + 2) (.int .i64 1) := ⟨true, _, _, _, m1, by
   have h1 := congrArg (fun a : Array Value => a[2]?) x1;simp only [List.getElem?_toArray] at h1;rw [Array.getElem?_extract, if_pos (by omega)] at h1;rw [h1, ← hw1]; rfl⟩
 have hfl : (full (sttf st) D ++ [253]).length = 2 * i + 1 := by rw [List.length_append, fS, dl]; rfl
 have hfb := vW hn7 dm hstt;have v1 : IntKind.i64.wrap (2 * (i : Int)) = ((2 * i : Nat) : Int) := by simp [IntKind.wrap_i64]; omega
 have v2 : IntKind.i64.wrap (((2 * i : Nat) : Int) + 1) = ((2 * i + 1 : Nat) : Int) := by simp [IntKind.wrap_i64]; omega
 have v3 : (((2 * i + 1 : Nat) : Int) != ((2 * i + 1 : Nat) : Int)) = false := by simp
 have v4 : (((i + 1 : Nat) : Int) != ((i + 1 : Nat) : Int)) = false := by simp
 have v5 : (full (sttf st) D ++ [253])[2 * i]? = some 253 := by rw [List.getElem?_append_right (by rw [fS, dl]; omega), fS, dl]; simp
 co_applyP om rfl rfl rfl bV;co_applyP oy rfl bV;co_applyP oy rfl bV;co_applyP oy rfl bL;co_applyP oy rfl bL;co_applyP oan rfl;co_applyP ak;co_applyP aa;co_applyP om rfl rfl rfl cr;co_applyP om rfl rfl rfl (ae);co_applyP oy rfl (zP);rw [hfl];co_applyP om rfl rfl rfl (jh);rw [v1];co_applyP oy rfl (aX);rw [v2];co_applyP oy rfl (eA);co_applyP oy rfl aP;co_applyP oy rfl ae;rw [v3];co_applyP om rfl rfl rfl ((bz (hu := U38)));co_applyP om rfl rfl rfl (aX);rw [ei];co_applyP oy rfl (eA);co_applyP oy rfl aP;co_applyP oy rfl ae;rw [v4];co_applyP om rfl rfl rfl (ae);co_applyP oy rfl ((bG U38 jm));co_applyP oy rfl ((ar (hf := wL)));co_applyP oy rfl (aF (ht := aY) (hv := y2));co_applyP oy rfl (eA);co_applyP oy rfl aP;co_applyP ah;co_applyP ai rfl;co_applyP aC;co_applyP ak;co_applyP aa;co_applyP om rfl rfl rfl ae;co_applyP oy rfl jh;rw [v1];co_applyP oy rfl (vV hfb v5);co_applyP oy rfl (b5 (hs := U5) (ht := U3));co_applyP oy rfl eA;co_applyP ah;change wpE ..;rw [show IntKind.i64.wrap 253 = 253 from rfl];co_applyP ai rfl;co_applyP aC;co_applyP aa;co_applyP bW rfl (eB (z := .agg (bcs fun _ => false)) (hN _ _) Bm);intro bb L9 hAb9;co_applyP ah;co_applyP ak;co_applyP aa;co_applyP oan rfl;co_applyP aH;have hX8 : Ext L'' L8 := ⟨hR1.fn, fun t h => hR1.fr _ (hE7.s _ (hX4.s _ h))⟩;co_applyP bF (fun k s' ε' L' => s' = (0, [N1]) ∧ (∀ t ∈ L8, t ∈ L') ∧ Fun L' ∧ ∃ p, k + p = 7 ∧ p ≤ i ∧ (bb, true, Obj.cells (bcs (seenF D p)) 58) ∈ L' ∧ kn ε' [(4, .slice sb st.length sc), (13, .int .i64 (i : Nat)), (23, strv (full (sttf st) D ++ [253])), (26, ptr bb), (27, .int .i64 (p : Nat))]) 7
 · refine ⟨rfl, hAb9.sub, hAb9.fn, 0, rfl, Nat.zero_le _, ?_, rfl⟩;have : seenF D 0 = fun _ => false := by funext id; simp [seenF]
   rw [this]; exact hAb9.self
 rintro c1 s' ε' L10 ⟨rfl, hs10, hF10, p, hcp, hp, hb10, hep⟩;co_applyP aW hep;have ep : IntKind.i64.wrap ((p : Int) + 1) = ((p + 1 : Nat) : Int) := by simp [IntKind.wrap_i64]; omega
 co_applyP ak;co_applyP aa;co_applyP om rfl rfl rfl ae;co_applyP oy rfl b6;co_applyP ah;co_applyP bj rfl;intro hlt5
 · have hlt5' : p < i := by simpa using hlt5
   obtain ⟨q, hq⟩ : ∃ q, D[p]? = some q := ⟨_, List.getElem?_eq_getElem (by omega)⟩;have hqi := dm q (List.mem_of_getElem? hq);obtain ⟨fa1, fa2⟩ := qU (sttf st) D hq;have fl1 : (full (sttf st) D ++ [253])[2 * p]? = some ((q : Int) + 2) := by rw [List.getElem?_append_left (by rw [fS, dl]; omega)]; exact fa1
   have fl2 : (full (sttf st) D ++ [253])[2 * p + 1]? = some (sttf st q) := by rw [List.getElem?_append_left (by rw [fS, dl]; omega)]; exact fa2
   have u1 : IntKind.i64.wrap (2 * (p : Int)) = ((2 * p : Nat) : Int) := by simp [IntKind.wrap_i64]; omega
   have u2 : IntKind.i64.wrap (((2 * p : Nat) : Int) + 1) = ((2 * p + 1 : Nat) : Int) := by simp [IntKind.wrap_i64]; omega
   have u3 : IntKind.i64.wrap ((q : Int) + 2) = ((q + 2 : Nat) : Int) := by simp [IntKind.wrap_i64]; omega
   have u4 : decide (((q + 2 : Nat) : Int) < 2) = false := by simp; omega
   have u5 : decide (((i + 1 : Nat) : Int) < ((q + 2 : Nat) : Int)) = false := by simp; omega
   have u6 : IntKind.i64.wrap (((q + 2 : Nat) : Int) - 2) = (q : Int) := by simp [IntKind.wrap_i64]; omega
   have hsq := hstt q hqi;have u7 : IntKind.i64.wrap (sttf st q) = sttf st q := by simp [IntKind.wrap_i64]; omega
   obtain ⟨x, hx⟩ : ∃ x, st[q]? = some x := ⟨_, List.getElem?_eq_getElem (by omega)⟩;obtain ⟨hx64, g, o, hsb, hxat⟩ := hst q x hx;have hxL : At L10 g (o + q) (.int .i64 x) := by
     obtain ⟨fl, cs, ty, fr, h1, h2⟩ := hxat;exact ⟨fl, cs, ty, fr, hs10 _ (hX8.s _ h1), h2⟩
   have es : sttf st q = ((pickN x 256 : Nat) : Int) := by unfold sttf; simp [List.getD, hx]
   have u8 : (((pickN x 256 : Nat) : Int) != ((pickN x 256 : Nat) : Int)) = false := by simp
   have hsn : At L10 bb (q + 2) (.bool false) := ⟨true, _, _, _, hb10, by rw [qf (by omega), vY dn hq]⟩;rw [hsb];co_applyP aC;co_applyP ak;co_applyP aH;co_applyP aa;co_applyP om rfl rfl rfl ae;co_applyP oy rfl jh;rw [u1];co_applyP oy rfl (vV hfb fl1);co_applyP oy rfl (b5 (hs := U5) (ht := U3));co_applyP oan rfl;co_applyP ak;co_applyP ak;rw [u3];co_applyP bh L10 25 aU;co_applyP tr 0 rfl (ae) pI;co_applyP tr 1 rfl (b6) pI;rw [u4];co_applyP tr 2 rfl (ae) pI;co_applyP tr 3 rfl (ae) pI;co_applyP tr 4 rfl (ae) pI;co_applyP tr 5 rfl (aX) pI;rw [ei];co_applyP tr 6 rfl (dD) pI;rw [u5];co_applyP tr 7 rfl (aP) pI;co_applyP tr 8 rfl (ae) pI;co_applyP tr 9 rfl (ae) pI;co_applyP tr 10 rfl ((aV Tryz.underlying58 yW)) pI;co_applyP tr 11 rfl (aF (ht := Bu) (hv := hsn)) pI;co_applyP tr 12 rfl (aP) pI;co_applyP tr 13 rfl (ae) pI;co_applyP tr 14 rfl (ae) pI;co_applyP tr 15 rfl (ae) pI;co_applyP tr 16 rfl (jh) pI;rw [u1];co_applyP tr 17 rfl (aX) pI;rw [u2];co_applyP tr 18 rfl (vV hfb fl2) pI;co_applyP tr 19 rfl ((b5 (hs := U5) (ht := U3))) pI;rw [u7];co_applyP tr 20 rfl (ae) pI;co_applyP tr 21 rfl (ae) pI;co_applyP tr 22 rfl (tK) pI;rw [u6];co_applyP tr 23 rfl ((bG U54 dh)) pI;co_applyP tr 24 rfl (aF (ht := aY) (hv := hxL)) pI;co_applyP tc 25 rfl rfl rfl (gpick L10 x 256 hx64 (by decide));rintro _ _ _ ⟨rfl, rfl, rfl⟩;refine ⟨ay (fun t h => h), ?_⟩;rw [es];co_applyP to 26 rfl (eA) (ay (fun t h => h));rw [u8];co_applyP to 27 rfl (aP) (ay (fun t h => h));co_applyP td (by kernel_rfl);co_applyP ai rfl;co_applyP aC;co_applyP ax;co_applyP om rfl rfl rfl (aV Tryz.underlying58 yW);co_applyP osm rfl (hs := yW) (hm := hb10) (hi := by rw [iT]; omega);intro L11 hU11;rw [yg (by omega), vX hq] at hU11;co_applyP ah;co_applyP ax;co_applyP om rfl rfl rfl aX;co_applyP oan rfl;change ∃ k', k' < _ ∧ _;exact ⟨c1 - 1, by omega, rfl, fun t h => hU11.ne _ (hs10 t h) (hAb9.new _ h), hU11.fn, p + 1, by omega, by omega, hU11.self, by rw [← ep]; rfl⟩
 intro hlt5;co_applyP bJ;co_applyP aa;co_applyP oan rfl;co_applyP aJ;change ∃ v, resE .. = some v ∧ _;exact ⟨_, rfl, rfl, rfl⟩
end Go.Proofs.YtejkelcaljmnoaaGreatDoor
