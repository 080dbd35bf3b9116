/-
  Part 9 of the proof.
  No condition but those that each statement names.
-/
import Derived.Test.YtejkelcaljmnoaaGreatDoorHy08
import Derived.Conc.LeavingOf
import Derived.JoinedOf
import Derived.RowKit
import Derived.RowKitTokens
import Derived.Stop.Joined
import Derived.Carry
import Derived.Deep.Slices
import Derived.Test.YtejkelcaljmnoaaGreatDoorHy07
import Derived.Test.YtejkelcaljmnoaaGreatDoorHy03
set_option maxRecDepth 100000
set_option maxHeartbeats 4000000
set_option linter.unusedVariables false
set_option linter.unusedSimpArgs false
set_option linter.unusedSectionVars false
namespace Go.Proofs.YtejkelcaljmnoaaGreatDoor
open Go.ChangeShapes Go.WideShapes Go.RowKit Go.Conc Go.ConcX Go.Hx Go.Lo
section
variable {H : Type} {enc : TypeId × Value → H}
theorem fB {a : Assume} {C : Checked} {os : Os} {f : FuncId} {fn : Func} {s : ChangeSpec} {conds : List PathCond} {apart fresh handsOn again : Bool} {X : World → Array Value → Prop}
   (hX : ∀ (w w' : World) (args : Array Value), w.heap = w'.heap → X w args → X w' args)
   (own : ownKnob C.prog.godebug = none) (started : os.Started) (hfn : C.prog.funcs[f]? = some fn)
   (witness : ∃ (w : World) (tape : Tape) (i : Input), w.os = os ∧ (w.forCall tape i).Shaped C.prog ∧ i.vars = [] ∧ Input.okWide C.prog (w.forCall tape i) .any w.heap.size f i ∧
     ((s.pre enc C.prog fn conds apart (w.forCall tape i).memory i.args ∧ X (w.forCall tape i).memory i.args) ∧ sizedMet enc C.prog fn (OpenSpec.ofChange s) apart (w.forCall tape i).memory i.args) ∧ a.holds C.prog (lone (Frame.enter C.prog f i.args .normal) [] (w.forCall tape i)))
   (runs : ∀ (W : World) (base : Nat) (args : Array Value) (ds gs : List (DataW H)) (before : List MemPlace), W.ShapedOpen C.prog →
     (∀ (j : Nat) t v, fn.params[j]? = some t → args[j]? = some v → Value.okWide C.prog W .any base t v) →
     DataW.Whole enc C.prog fn.params.toList s.vars apart W args.toList ds gs before → X W args →
     ∃ M last o w' t', runNT C.prog (M + 1) (solo (G (Frame.enter C.prog f args .normal) []) W) #[] = (.ended o w', t') ∧ runN C.prog M (solo (G (Frame.enter C.prog f args .normal) []) W) = .next last ∧
       step C.prog last = .ended o w' ∧ Conc.Good C.prog (fun v W' => s.post enc C.prog fn apart fresh handsOn again W args v W') last o w' t') :
   ReturnsInLeavingWide a C os f .any (fun w args => (s.pre enc C.prog fn conds apart w args ∧ X w args) ∧ sizedMet enc C.prog fn (OpenSpec.ofChange s) apart w args) (s.post enc C.prog fn apart fresh handsOn again) := by
 refine returnsInLeavingWide_of_good own started witness ?_;intro w tape i _ hso _ hok hpre hholds;obtain ⟨_, _, _, fn', hfn', _, _, _, _, hval⟩ := hok;have e : fn' = fn := Option.some.inj (hfn'.symm.trans hfn);subst e;obtain ⟨⟨⟨ds, gs, before, hw, hc⟩, hx⟩, hz⟩ := hpre;have hw' := DataW.Whole.of_heap (w' := w.forCall tape i) (by rfl) hw;obtain ⟨M, last, o, w', t', h1, h2, h3, h4⟩ := runs (w.forCall tape i) w.heap.size i.args ds gs before hso hval hw' (hX _ _ _ (by rfl) hx);exact ⟨M, last, o, w', t', h1, h2, h3, h4.mono fun v hp => ChangeSpec.post_blind hp⟩
end
abbrev tx0 : ByteArray := { data := #[116, 104, 101, 114, 101, 32, 105, 115, 32, 110, 111, 32, 115, 117, 99, 104, 32, 105, 110, 115, 116, 114, 117, 99, 116, 105, 111, 110] }
abbrev tx1 : ByteArray := { data := #[116, 104, 101, 114, 101, 32, 105, 115, 32, 110, 111, 32, 115, 117, 99, 104, 32, 111, 112, 101, 114, 97, 116, 111, 114] }
abbrev tx2 : ByteArray := { data := #[116, 104, 101, 114, 101, 32, 105, 115, 32, 110, 111, 32, 115, 117, 99, 104, 32, 98, 121, 116, 101, 32, 111, 102, 32, 109, 101, 109, 111, 114, 121] }
abbrev tx3 : ByteArray := { data := #[110, 111, 32, 115, 117, 99, 104, 32, 102, 105, 108, 101, 44, 32, 111, 114, 32, 110, 111, 116, 32, 111, 102, 32, 116, 104, 97, 116, 32, 107, 105, 110, 100] }
abbrev tx4 : ByteArray := { data := #[116, 104, 101, 114, 101, 32, 105, 115, 32, 110, 111, 32, 114, 111, 111, 109, 32, 102, 111, 114, 32, 111, 110, 101, 32, 109, 111, 114, 101] }
abbrev tx5 : ByteArray := { data := #[116, 104, 101, 114, 101, 32, 105, 115, 32, 110, 111, 32, 99, 104, 105, 108, 100] }
abbrev tx6 : ByteArray := { data := #[116, 104, 101, 114, 101, 32, 105, 115, 32, 110, 111, 32, 115, 117, 99, 104, 32, 112, 114, 111, 99, 101, 115, 115] }
abbrev tx7 : ByteArray := { data := #[110, 111, 98, 111, 100, 121, 32, 99, 97, 110, 32, 114, 101, 97, 100, 32, 116, 104, 97, 116] }
abbrev tx8 : ByteArray := { data := #[109, 101, 109, 111, 114, 121, 32, 116, 104, 97, 116, 32, 116, 104, 101, 114, 101, 32, 105, 115, 32, 110, 111, 116] }
abbrev tx9 : ByteArray := { data := #[110, 111, 32, 115, 117, 99, 104, 32, 99, 97, 108, 108, 44, 32, 111, 114, 32, 110, 111, 116, 32, 119, 105, 116, 104, 32, 116, 104, 97, 116] }
noncomputable def low : Nat := (World.holding Tryz.prog default ⟨#[], #[], []⟩).heap.size
def lay (h : Array Obj) (g : Nat) (v : Value) : Array Obj := h.modify g fun
 | .cells _ t frozen => .cells #[v] t frozen
 | o => o
noncomputable def laidWorld (os : Os) : World :=
 let w0 := World.holding Tryz.prog os ⟨#[.cells #[.string tx0] 275, .cells #[.string tx1] 275, .cells #[.string tx2] 275, .cells #[.string tx3] 275, .cells #[.string tx4] 275, .cells #[.string tx5] 275, .cells #[.string tx6] 275, .cells #[.string tx7] 275, .cells #[.string tx8] 275, .cells #[.string tx9] 275], #[], []⟩
 { w0 with heap := lay (lay (lay (lay (lay (lay (lay (lay (lay (lay (lay (w0.heap) 0 (.iface 255 (.pointer (some ⟨low + 0, 0, none⟩)))) 1 (.iface 255 (.pointer (some ⟨low + 1, 0, none⟩)))) 10 (.iface 255 (.pointer (some ⟨low + 2, 0, none⟩)))) 3 (.iface 255 (.pointer (some ⟨low + 3, 0, none⟩)))) 4 (.iface 255 (.pointer (some ⟨low + 4, 0, none⟩)))) 5 (.iface 255 (.pointer (some ⟨low + 5, 0, none⟩)))) 6 (.iface 255 (.pointer (some ⟨low + 6, 0, none⟩)))) 7 (.iface 255 (.pointer (some ⟨low + 7, 0, none⟩)))) 8 (.iface 255 (.pointer (some ⟨low + 8, 0, none⟩)))) 9 (.iface 255 (.pointer (some ⟨low + 9, 0, none⟩)))) 2 (rty 168) }
theorem lb (os : Os) (args : Array Value) : laidMetH Tryz.prog Rows.sumsRow.laid ((laidWorld os).forCall (fun _ _ => 0) ⟨#[], args, []⟩).memory :=
 laidMetH_of_parts (laidMet_of_run (ps := [.cell 0 0, .cell (low + 0) 0, .cell 1 0, .cell (low + 1) 0, .cell 10 0, .cell (low + 2) 0, .cell 3 0, .cell (low + 3) 0, .cell 4 0, .cell (low + 4) 0, .cell 5 0, .cell (low + 5) 0, .cell 6 0, .cell (low + 6) 0, .cell 7 0, .cell (low + 7) 0, .cell 8 0, .cell (low + 8) 0, .cell 9 0, .cell (low + 9) 0]) 8 (by kernel_rfl) (by kernel_rfl) (by kernel_rfl)) (by kernel_rfl)
theorem je {n : Int} (h : (Lit.int .i64 n).wf = true) : I64 n := by
 simp [Lit.wf, IntKind.min, IntKind.max, IntKind.signed, IntKind.bits] at h;unfold I64;omega
end Go.Proofs.YtejkelcaljmnoaaGreatDoor
namespace Go.Proofs.YtejkelcaljmnoaaGreatDoor
open Go.ChangeShapes Go.WideShapes Go.WideElems Go.RowKit Go.Conc Go.ConcX Go.Hx Go.Lo
section
variable {H : Type} {enc : TypeId × Value → H} {P : Program}
theorem lN (hl : laidOutB P = true) {W W' : World} (hb : Below W.heap.size W W') :
   ∀ {ts : List TypeId} {vs : List Value} {ds : List (DataW H)} {ps : List MemPlace}, (∀ t ∈ ts, P.readableRec t = true ∧ t < P.types.size) → DataW.TrodAll enc P W 0 (fun _ => true) true ts vs ds ps → DataW.TrodAll enc P W' 0 (fun b => decide (b < W.heap.size)) true ts vs ds ps
 | [], [], [], _, _, h => h
 | [], [], _ :: _, _, _, h => h.elim
 | [], _ :: _, _, _, _, h => h.elim
 | _ :: _, [], _, _, _, h => h.elim
 | _ :: _, _ :: _, [], _, _, h => h.elim
 | t :: ts, v :: vs, d :: ds, ps, hr, h => by
   have hlt := h.lt;obtain ⟨p, q, ⟨n, h1⟩, h2, e⟩ := h;have ht := hr t List.mem_cons_self;have hp : ∀ x ∈ p, x.block < W.heap.size := fun x hx => hlt x (by rw [e]; simp [hx]);exact ⟨p, q, ⟨n, DataW.trod_stays (kids_book hl ht.1) (book_sized ht.1) (fun h => by cases h) ⟨ht.2, book_self t⟩ h1 (fun x hx => hb.same (hp x hx)) (fun x hx => by simpa using hp x hx)⟩, lN hl hb (fun t ht => hr t (List.mem_cons_of_mem _ ht)) h2, e⟩
theorem vu {w : World} {r : Reach} {b0 base : Nat} {spare : Nat → Bool} {held : Bool} {t : TypeId} {v : Value} {d : DataW H} {ps : List MemPlace} (ht : P.underlying t = some .string) (hval : Value.okWide P w r b0 t v) (hd : DataW.Trod enc P w base spare held t v d ps) : ∃ l : List Int, v = strv l ∧ Byt l ∧ l.length ≤ maxLen := by
 obtain ⟨s, rfl⟩ := okWide_string ht hval;obtain ⟨n, h⟩ := hd;obtain ⟨s', e, _, hs⟩ := DataW.trod_string ht h;obtain rfl : s = s' := by simpa [Value.cells] using e
 refine ⟨s.data.toList.map fun u => (u.toNat : Int), ?_, fun n hn => ?_, ?_⟩
 · unfold strv;congr 1;obtain ⟨⟨a⟩⟩ := s;congr 2;simp [Function.comp_def]
 · obtain ⟨u, _, rfl⟩ := List.mem_map.1 hn;have := u.toNat_lt;omega
 · simpa using hs
end
end Go.Proofs.YtejkelcaljmnoaaGreatDoor
namespace Go.Proofs.YtejkelcaljmnoaaGreatDoor
open Go.Conc Go.Hx Go.Lo
abbrev Key := Nat × Nat × Bool
def key (q : Nat × PS) : Key := (q.2.id, q.2.par, decide (q.2.st = 6))
def St.sk (S : St) : List Key := S.ps.map key
def mark (id : Nat) (e : Key) : Key := if e.1 = id then (e.1, e.2.1, true) else e
section
variable {S S' : St} {b : Nat} {x x' : PS} {k : Nat × Nat} {P : Nat → Prop} {N : Nat → Nat}
theorem xN (hn : (S.ps.map (·.1)).Nodup) (hb : (b, x) ∈ S.ps) (hid : x'.id = x.id) (hpar : x'.par = x.par) (hs : x'.st = 6 ↔ x.st = 6) : (S.setP b x').sk = S.sk := by
 unfold St.sk St.setP;simp only [List.map_map];apply List.map_congr_left;intro q hq;simp only [Function.comp]
 split
 · rename_i e;obtain ⟨c, y⟩ := q;obtain rfl : c = b := e;obtain rfl := bp hn hq hb;simp [key, hid, hpar, hs]
 · rfl
theorem vv (hn : (S.ps.map (·.1)).Nodup) (hb : (b, x) ∈ S.ps) (h6 : x.st ≠ 6) : (S.wake1 b x).sk = S.sk :=
 xN (x' := { x with st := 1, used := 0 }) hn hb rfl rfl ⟨fun e => by simp at e, fun e => absurd e h6⟩
theorem iO : ∀ (bs : List Nat) {S : St}, (S.ps.map (·.1)).Nodup → (S.wakes bs).sk = S.sk ∧ ((S.wakes bs).ps.map (·.1)) = S.ps.map (·.1)
 | [], _, _ => ⟨rfl, rfl⟩
 | b :: bs, S, hn => by
   unfold St.wakes;cases hg : S.get b with
   | none => exact iO bs hn
   | some x =>
     simp only
     split
     · rename_i h;have hb := bz hg;have e : (S.wake1 b x).ps.map (·.1) = S.ps.map (·.1) := aW S b _;obtain ⟨h1, h2⟩ := iO bs (S := S.wake1 b x) (by rw [e]; exact hn);exact ⟨h1.trans (vv hn hb (by omega)), h2.trans e⟩
     · exact iO bs hn
end
def vw (x : PS) : PS := { x with lv := 0, used := 0 }
def St.vs (S : St) : List PS := S.ps.map fun q => vw q.2
def upd (vs : List PS) (y : PS) : List PS := vs.map fun z => if z.id = y.id then y else z
def wk (now : Nat) (y : PS) : PS := if y.st = 3 ∧ y.til = (now : Int) then { y with st := 1 } else y
section
variable {S S' : St} {b : Nat} {x x' y : PS} {P : Nat → Prop} {N : Nat → Nat} {vs : List PS}
theorem zK (h : ∀ z ∈ vs, z.id = y.id → z = y) : upd vs y = vs := by
 unfold upd;have : ∀ z ∈ vs, (if z.id = y.id then y else z) = z := fun z hz => by
   split
   · rename_i e; exact (h z hz e).symm
   · rfl
 rw [List.map_congr_left this]; simp
theorem xO {y y' : PS} (e : y'.id = y.id) : upd (upd vs y) y' = upd vs y' := by
 unfold upd;rw [List.map_map];apply List.map_congr_left;intro z _;simp only [Function.comp];by_cases h : z.id = y.id
 · rw [if_pos h, if_pos e.symm, if_pos (by rw [e]; exact h)]
 · rw [if_neg h]
theorem qO {v : PS} (h : v ∈ S.vs) : ∃ q ∈ S.ps, vw q.2 = v := List.mem_map.1 h
theorem iP (hX : XI N S) (hn : (S.ps.map (·.1)).Nodup) (hb : (b, x) ∈ S.ps) (hid : x'.id = x.id) : (S.setP b x').vs = upd S.vs (vw x') := by
 unfold St.vs upd St.setP;rw [List.map_map, List.map_map];apply List.map_congr_left;rintro ⟨c, z⟩ hq;simp only [Function.comp];by_cases e : c = b
 · subst e;obtain rfl := bp hn hq hb;rw [if_pos rfl, if_pos (by show (vw z).id = (vw x').id; exact hid.symm)]
 · rw [if_neg e, if_neg];intro e2;have e3 : z.id = x.id := by have : (vw z).id = (vw x').id := e2; exact Eq.trans this hid
   exact e (congrArg Prod.fst (hX.idn _ hq _ hb e3))
theorem vx (hX : XI N S) (hn : (S.ps.map (·.1)).Nodup) (hb : (b, x) ∈ S.ps) : (S.wake1 b x).vs = upd S.vs (vw { x with st := 1 }) := iP (x' := { x with st := 1, used := 0 }) hX hn hb rfl
def wkP (now : Nat) (bs : List Nat) (q : Nat × PS) : PS := if q.1 ∈ bs then wk now (vw q.2) else vw q.2
theorem Bo (now : Nat) (y : PS) : wk now (wk now y) = wk now y := by
 unfold wk;by_cases h : y.st = 3 ∧ y.til = (now : Int)
 · rw [if_pos h, if_neg (by rintro ⟨e, _⟩; cases e)]
 · rw [if_neg h, if_neg h]
theorem oD : ∀ (bs : List Nat) {S : St}, (S.ps.map (·.1)).Nodup → (S.wakes bs).vs = S.ps.map (wkP S.now bs)
 | [], S, _ => by
   show S.vs = _;unfold St.vs;apply List.map_congr_left;intro q _;simp [wkP]
 | b :: bs, S, hn => by
   unfold St.wakes;have step : ∀ S1 : St, S1.now = S.now → S1.ps.map (·.1) = S.ps.map (·.1) → (∀ bs', S1.ps.map (wkP S.now bs') = S.ps.map (wkP S.now (b :: bs'))) → (S1.wakes bs).vs = S.ps.map (wkP S.now (b :: bs)) := fun S1 h0 h1 h2 => by
     rw [oD bs (by rw [h1]; exact hn), h0, h2]
   have skip : (∀ q ∈ S.ps, q.1 = b → wk S.now (vw q.2) = vw q.2) → (S.wakes bs).vs = S.ps.map (wkP S.now (b :: bs)) := fun h => step S rfl rfl fun bs' => by
     apply List.map_congr_left;intro q hq;unfold wkP;by_cases e : q.1 = b
     · rw [if_pos (show q.1 ∈ b :: bs' by rw [e]; exact List.mem_cons_self)]
       split
       · rfl
       · exact (h q hq e).symm
     · by_cases e2 : q.1 ∈ bs'
       · rw [if_pos e2, if_pos (List.mem_cons_of_mem _ e2)]
       · rw [if_neg e2, if_neg (by simp [e, e2])]
   cases hg : S.get b with
   | none =>
     refine skip fun q hq e => ?_;have := bl hn (b := q.1) (x := q.2) hq;rw [e, hg] at this;cases this
   | some x =>
     have hb := bz hg;simp only
     split
     · rename_i h;refine step (S.wake1 b x) rfl (aW S b _) fun bs' => ?_;show (S.ps.map fun q => if q.1 = b then (b, { x with st := 1, used := 0 }) else q).map _ = _;rw [List.map_map];apply List.map_congr_left;rintro ⟨c, z⟩ hq;simp only [Function.comp];by_cases e : c = b
       · subst e;obtain rfl := bp hn hq hb;rw [if_pos rfl];have e1 : wk S.now (vw z) = vw { z with st := 1, used := 0 } := by
           unfold wk;rw [if_pos (show (vw z).st = 3 ∧ (vw z).til = (S.now : Int) from h)]; rfl
         unfold wkP;simp only;rw [if_pos (show c ∈ c :: bs' from List.mem_cons_self), ← e1, Bo]
         split <;> rfl
       · rw [if_neg e];unfold wkP;simp only;by_cases e2 : c ∈ bs'
         · rw [if_pos e2, if_pos (List.mem_cons_of_mem _ e2)]
         · rw [if_neg e2, if_neg (by simp [e, e2])]
     · rename_i h;refine skip fun q hq e => ?_;obtain ⟨c, z⟩ := q;obtain rfl : c = b := e;obtain rfl := bp hn hq hb;unfold wk;rw [if_neg (show ¬ ((vw z).st = 3 ∧ (vw z).til = (S.now : Int)) from h)]
theorem xP (hn : (S.ps.map (·.1)).Nodup) : S.lead.vs = S.vs.map (wk S.now) := by
 have h1 : S.wake.vs = S.vs.map (wk S.now) := by
   unfold St.wake;rw [oD _ hn];unfold St.vs;rw [List.map_map];apply List.map_congr_left;intro q hq;unfold wkP;rw [if_pos (List.mem_map.2 ⟨q, hq, rfl⟩)]; rfl
 have hn2 : (S.wake.ps.map (·.1)).Nodup := by unfold St.wake; rw [(iO _ hn).2]; exact hn
 unfold St.lead St.boost
 split
 · rw [← h1, i9 hn2];unfold St.vs;rw [(eF _ 2).1];show (S.wake.ps.map fun q => (q.1, liftP q.2)).map _ = _;rw [List.map_map];apply List.map_congr_left;intro q _;simp only [Function.comp];unfold liftP vw
   split <;> rfl
 · exact h1
theorem vy (hX : XI N S) (hn : (S.ps.map (·.1)).Nodup) (b : Nat) : (S.after b).vs = S.vs := by
 unfold St.after;cases hg : S.get b with
 | none => rfl
 | some z =>
   have hb := bz hg;have same : ∀ z' : PS, vw z' = vw z → upd S.vs (vw z') = S.vs := fun z' e => by
     rw [e];refine zK fun w hw e2 => ?_;obtain ⟨q, hq, rfl⟩ := qO hw;rw [hX.idn q hq _ hb e2]
   have e1 : (S.setP b z.more).vs = S.vs := (iP (x' := z.more) hX hn hb rfl).trans (same z.more rfl);simp only
   split
   · unfold St.turn
     split
     · exact e1
     · simp only;show (((S.setP b z.more).setP b { z.more with lv := min (z.more.lv + 1) 2, used := 0 })).vs = _;have e2 : ((S.setP b z.more).setP b { z.more with lv := min (z.more.lv + 1) 2, used := 0 }).ps = (S.setP b { z.more with lv := min (z.more.lv + 1) 2, used := 0 }).ps := by
         show ((S.ps.map _).map _) = S.ps.map _;rw [List.map_map];apply List.map_congr_left;intro q _;simp only [Function.comp];by_cases e : q.1 = b
         · simp [e]
         · simp [e]
       unfold St.vs;rw [e2];exact (iP (x' := { z.more with lv := min (z.more.lv + 1) 2, used := 0 }) hX hn hb rfl).trans (same { z.more with lv := min (z.more.lv + 1) 2, used := 0 } rfl)
   · exact e1
end
section
variable {S S' : St} {b c : Nat} {x x' y : PS} {P : Nat → Prop} {N : Nat → Nat} {vs : List PS}
theorem vz (c : Nat) (y : PS) : (S.taken c y).vs = S.vs ++ [vw { y with id := S.last + 1 }] := by
 show (S.ps ++ [(c, { y with id := S.last + 1 })]).map _ = _;rw [List.map_append]; rfl
theorem xQ (h : MI P N S) (hb : (b, x) ∈ S.ps) (ho : S.out b) (hc : ∀ q ∈ S.ps, c ≠ q.1) (h8 : S.ps.length < 8) (hN : N c = S.last + 1) :
   (S.forkS b x c).vs = upd S.vs (vw (x.r0 (((S.last + 1 : Nat) : Int) % 65536))) ++ [vw { x.copy.r0 0 with id := S.last + 1, st := 1 }] := by
 have hbc : b ≠ c := fun e => hc _ hb e.symm;have hw := h.i.wf _ hb;have hid := (h.x.idr _ hb).1;have hid2 := (h.x.idr _ hb).2;obtain ⟨h1, ho1⟩ := h.taken (y := x.copy.r0 0) hc h8 rfl (by show 0 < 3; omega) (fN (x := x.copy) (v := 0) ⟨hw.r, hw.m⟩ (by omega)) (h.i.fl (b, x) hb) (by show x.id ≠ 0; simp only at hid; omega) (Nat.zero_le _) hN;have hcm : (c, { x.copy.r0 0 with id := S.last + 1 }) ∈ (S.taken c (x.copy.r0 0)).ps := List.mem_append_right _ List.mem_cons_self;have h2 := h1.wake1 hcm ho1 (by show (0 : Nat) ≠ 1; omega);have hb2 : (b, x) ∈ (S.adopt c (x.copy.r0 0)).ps := bX (List.mem_append_left _ hb) hbc;have e1 : (S.adopt c (x.copy.r0 0)).vs = S.vs ++ [vw { x.copy.r0 0 with id := S.last + 1, st := 1 }] := by
   refine (vx h1.x h1.i.g.pn hcm).trans ?_;rw [vz];unfold upd;rw [List.map_append];congr 1;have : ∀ z ∈ S.vs, (if z.id = (vw { x.copy.r0 0 with id := S.last + 1, st := 1 }).id then vw { x.copy.r0 0 with id := S.last + 1, st := 1 } else z) = z := fun z hz => by
     obtain ⟨q, hq, rfl⟩ := qO hz;rw [if_neg];intro e;have e1 : q.2.id = S.last + 1 := e;have := (h.x.idr q hq).2;omega
   · exact (List.map_congr_left this).trans (by simp)
   · show [if (S.last + 1 : Nat) = S.last + 1 then _ else _] = _;rw [if_pos rfl]
 refine (iP (x' := x.r0 (((S.last + 1 : Nat) : Int) % 65536)) h2.x h2.i.g.pn hb2 rfl).trans ?_;show upd (S.adopt c (x.copy.r0 0)).vs _ = _;rw [e1];unfold upd;rw [List.map_append];congr 1;show [if (S.last + 1 : Nat) = x.id then _ else _] = _;rw [if_neg (by simp only at hid2; omega)]
theorem gZ {f : Nat → Nat × Nat} : ∀ (ns : List Nat), (∀ n ∈ ns, f n = (0, 0)) → S.shuts b f ns = S
 | [], _ => rfl
 | n :: ns, h => by
   show (if f n = (0, 0) then S else S.shut b n).shuts b f ns = S;rw [if_pos (h n List.mem_cons_self)];exact gZ ns fun m hm => h m (List.mem_cons_of_mem _ hm)
end
theorem ju {T : St} (hT : TI id T) : MI (fun _ => False) id T.lead ∧ T.lead.vs = T.vs.map (wk T.now) ∧ TI id T.next ∧ (∀ q ∈ T.lead.ps, T.last + 1 ≠ q.1) ∧
   ((T.next.vs = T.lead.vs ∧ (∀ z ∈ T.lead.vs, z.st ≠ 1) ∧ T.tickE = [evt T.now 2 0 0] ∧ T.next.last = T.last) ∨
   ∃ b x, (b, x) ∈ T.lead.ps ∧ x.st = 1 ∧ T.tickE = evt T.now 1 x.id x.at_ :: T.lead.runE b x ∧ T.next.vs = (T.lead.runS b x (T.last + 1)).vs ∧ T.next.last = (T.lead.runS b x (T.last + 1)).last) := by
 have hc : ∀ q ∈ T.lead.ps, T.last + 1 ≠ q.1 := fun q hq e => by
   have h2 := hT.m.lead.x.nm q hq;have h3 := (hT.m.lead.x.idr q hq).2;rw [cL] at h3;have h4 : q.1 = q.2.id := h2;omega
 have hT' : TI id T.next := hT.tick hc rfl
 refine ⟨hT.m.lead, xP hT.m.i.g.pn, hT', hc, ?_⟩;have hnow : T.lead.now = T.now := (bP T).now;cases hf : T.lead.first with
 | none =>
   left;have hE : T.tickU (T.last + 1) = T.lead := by unfold St.tickU; rw [hf]
   refine ⟨by unfold St.next; rw [hE]; rfl, fun z hz h1 => ?_, by unfold St.tickE; rw [hf, hnow], by unfold St.next; rw [hE]; exact cL T⟩;obtain ⟨q, hq, rfl⟩ := qO hz;have hr := hT.m.lead.i.g.rr q hq h1;have hv := hT.m.lead.i.g.lv q hq;unfold St.first at hf
   rw [List.head?_eq_none_iff] at hf;simp only [List.append_eq_nil_iff] at hf;rcases Nat.lt_or_ge q.2.lv 1 with h3 | h3
   · rw [show q.2.lv = 0 by omega, hf.1] at hr; cases hr
   · rcases Nat.lt_or_ge q.2.lv 2 with h4 | h4
     · rw [show q.2.lv = 1 by omega, hf.2.1] at hr; cases hr
     · rw [show q.2.lv = 2 by omega, hf.2.2] at hr; cases hr
 | some b =>
   right;obtain ⟨x, hx, hs⟩ := eG hT.m.lead.i.g hf;have hN' : id (T.last + 1) = T.lead.last + 1 := by rw [cL]; rfl
   have hM := hT.m.lead.runS hT.coded_lead hx hs hc hN';have hE : T.tickU (T.last + 1) = (T.lead.runS b x (T.last + 1)).after b := by unfold St.tickU; rw [hf]; simp only [bl hT.m.lead.i.g.pn hx]
   refine ⟨b, x, hx, hs, ?_, ?_, ?_⟩
   · unfold St.tickE; rw [hf]; simp only [bl hT.m.lead.i.g.pn hx]; rw [hnow]
   · unfold St.next; rw [hE]; exact vy hM.x hM.i.g.pn b
   · unfold St.next; rw [hE]; exact (fU _ b).last
section
variable {n : Nat} {nap stt : Nat → Int}
def cE (n i : Nat) : Nat := 6 * n + 3 + 5 * i
def wC (n i now : Nat) (z : PS) : Nat := if z.st = 6 then 0 else if z.at_ = 2 * i + 1 then 35 else if z.at_ = cE n i then 34 else if z.at_ = cE n i + 1 then 33 else if z.at_ = cE n i + 2 then 2 + (if z.st = 3 then (z.til - now).toNat else 0) else 1
def wP (n at_ : Nat) : Nat := if at_ < 2 * n then (if at_ % 2 = 0 then 37 * (n - at_ / 2) else 37 * (n - at_ / 2 - 1) + 1) + 4 * n + 3 else 6 * n + 3 - at_
def wZ (n now : Nat) (z : PS) : Nat := if z.id = 1 then wP n z.at_ else wC n (z.id - 2) now z
def wA (n now : Nat) (vs : List PS) : Nat := (vs.map (wZ n now)).sum
variable {vs : List PS} {now m : Nat} {D G : List Nat} {out : List Int}
theorem vA (now : Nat) (z : PS) : (wk now z).id = z.id ∧ (wk now z).par = z.par ∧ (wk now z).f = z.f ∧ (wk now z).at_ = z.at_ ∧ (wk now z).r = z.r ∧ ((wk now z).st = 6 ↔ z.st = 6) ∧ (z.st ≠ 3 → wk now z = z) := by
 unfold wk
 split
 · rename_i h;exact ⟨rfl, rfl, rfl, rfl, rfl, ⟨fun e => (by cases e), fun e => (by omega)⟩, fun e => absurd h.1 e⟩
 · exact ⟨rfl, rfl, rfl, rfl, rfl, Iff.rfl, fun _ => rfl⟩
end
section
variable {S : St} {b c : Nat} {x x' : PS} {N : Nat → Nat}
theorem sM (h : MI (fun _ => False) N S) (hb : (b, x) ∈ S.ps) (hs : x.st = 1) : MI (fun _ => False) N (S.setP b x.next) ∧ (b, x.next) ∈ (S.setP b x.next).ps ∧ (S.setP b x.next).vs = upd S.vs (vw x.next) :=
 ⟨h.like (x' := x.next) hb (h.out hb hs) rfl rfl ⟨(h.i.wf _ hb).r, (h.i.wf _ hb).m⟩ (h.i.fl (b, x) hb) rfl rfl (h.x.un (b, x) hb), av hb, iP (x' := x.next) h.x h.i.g.pn hb rfl⟩
theorem oE (hat : x.at_ < S.pn) (h9 : S.pg x.at_ 0 = 9) : S.runE b x = (S.setP b x.next).grantE b x.next (S.pg x.at_ 1) ∧ ((S.setP b x.next).grantV b x.next (S.pg x.at_ 1) = none → S.runS b x c = (S.setP b x.next).grantS b x.next (S.pg x.at_ 1) c) ∧
   ∀ i, (S.setP b x.next).grantV b x.next (S.pg x.at_ 1) = some i → S.runS b x c = ((S.setP b x.next).grantS b x.next (S.pg x.at_ 1) c).r0 b (ansOf i) := by
 refine ⟨?_, fun hv => ?_, fun i hv => ?_⟩
 · unfold St.runE; rw [if_neg (by omega), if_pos h9]
 · unfold St.runS; rw [if_neg (by omega), if_pos h9, hv]
 · unfold St.runS; rw [if_neg (by omega), if_pos h9, hv]
theorem vB (h : MI (fun _ => False) N S) (hb : (b, x) ∈ S.ps) (hs : x.st = 1) (hat : x.at_ < S.pn) (h9 : S.pg x.at_ 0 = 9) (h1 : S.pg x.at_ 1 = 1) (h8 : S.ps.length < 8) (hc : ∀ q ∈ S.ps, c ≠ q.1) (hN : N c = S.last + 1) :
   (S.runS b x c).vs = upd S.vs (vw (x.next.r0 (((S.last + 1 : Nat) : Int) % 65536))) ++ [vw { x.next.copy.r0 0 with id := S.last + 1, st := 1 }] ∧ S.runE b x = [] ∧ (S.runS b x c).last = S.last + 1 := by
 obtain ⟨hM, hb1, hv⟩ := sM h hb hs;obtain ⟨e1, e2, _⟩ := oE (b := b) (c := c) hat h9;rw [h1] at e1 e2;have h8' : (S.setP b x.next).ps.length < 8 := by rw [d7]; exact h8
 have e3 := e2 (by show (if 8 ≤ (S.setP b x.next).ps.length then some 4 else none) = none; rw [if_neg (by omega)]);have e4 : S.runS b x c = (S.setP b x.next).forkS b x.next c := by
   rw [e3];show (if 8 ≤ (S.setP b x.next).ps.length then _ else _) = _;rw [if_neg (by omega)]
 have hc1 : ∀ q ∈ (S.setP b x.next).ps, c ≠ q.1 := fun q hq e => by
   have : q.1 ∈ S.ps.map (·.1) := by rw [← aW S b x.next]; exact List.mem_map.2 ⟨q, hq, rfl⟩
   obtain ⟨r, hr, e2⟩ := List.mem_map.1 this;exact hc r hr (by rw [e, ← e2])
 refine ⟨?_, e1, by rw [e4]; rfl⟩;rw [e4, xQ hM hb1 (hM.out hb1 hs) hc1 h8' hN, hv, xO (by rfl)];rfl
end
structure Is (S : St) (p c : PS) (q : List Int) (W : Wt) : Prop where
 ps : S.ps = [(1, p), (2, c)]
 y : S.by_ 1 = q
 w : S.wt = W
section
variable {S S' : St} {p c p' c' x : PS} {q q' : List Int} {W : Wt} {k : Nat × Nat}
theorem Is.get1 (h : Is S p c q W) : S.get 1 = some p := by unfold St.get; rw [h.ps]; rfl
theorem Is.get2 (h : Is S p c q W) : S.get 2 = some c := by unfold St.get; rw [h.ps]; rfl
theorem Is.set1 (h : Is S p c q W) : Is (S.setP 1 p') p' c q W := ⟨by show S.ps.map _ = _; rw [h.ps]; rfl, h.y, h.w⟩
theorem Is.set2 (h : Is S p c q W) : Is (S.setP 2 c') p c' q W := ⟨by show S.ps.map _ = _; rw [h.ps]; rfl, h.y, h.w⟩
theorem Is.row (h : Is S p c q W) (l : Nat) (xs : List Nat) : Is (S.setRow l xs) p c q W := ⟨h.ps, h.y, h.w⟩
theorem Is.setY (h : Is S p c q W) : Is (S.setY 1 q') p c q' W := ⟨h.ps, rfl, h.w⟩
theorem Is.setW (h : Is S p c q W) {W' : Wt} : Is (S.setW W') p c q W' := ⟨h.ps, h.y, rfl⟩
theorem Is.r1 (h : Is S p c q W) (v : Int) : Is (S.r0 1 v) (p.r0 v) c q W := by unfold St.r0; rw [h.get1]; exact h.set1
theorem Is.open_ (h : Is S p c q W) (k : Nat × Nat) : S.isOpen k = (p.has k || c.has k) := by unfold St.isOpen; rw [h.ps]; simp
theorem Is.rowAt (h : Is S p c q W) (k : Nat × Nat) : S.rowAt k = ((W.find? fun e => decide (e.1 = k)).map (·.2)).getD [] := by unfold St.rowAt; rw [h.w]
theorem eR (h : S.rowAt k = []) : S.serve k = none := by unfold St.serve; rw [h]
theorem jf {b : Nat} {bs : List Nat} (h : S.rowAt k = b :: bs) (hg : S.get b = some x) (hc : S.canBeDone x k = false) : S.serve k = none := by unfold St.serve; rw [h]; simp [hg, hc]
theorem lO {b : Nat} {bs : List Nat} (h : S.rowAt k = b :: bs) (hg : S.get b = some x) (hc : S.canBeDone x k = true) : S.serve k = some (if x.st = 1 then (S.depart b k).carry b x k else ((S.depart b k).carry b x k).wake1 b (S.carried x k)) := by unfold St.serve; rw [h]; simp [hg, hc]
theorem kT {n P : Nat} (h5 : S.serve (P, 5) = none) (h4 : S.serve (P, 4) = none) : St.looks n S P = S := by
 cases n with
 | zero => rfl
 | succ n => unfold St.looks; rw [h5, h4]
theorem mM {n P : Nat} (h5 : S.serve (P, 5) = some S') : St.looks (n + 1) S P = St.looks n S' P := by
 conv => lhs; unfold St.looks
 rw [h5]
theorem jG {n P : Nat} (h5 : S.serve (P, 5) = none) (h4 : S.serve (P, 4) = some S') : St.looks (n + 1) S P = St.looks n S' P := by
 conv => lhs; unfold St.looks
 rw [h5, h4]
theorem Is.can4 (h : Is S p c q W) (x : PS) : S.canBeDone x (1, 4) = if p.has (1, 5) || c.has (1, 5) then decide (0 < q.length) else true := by
 unfold St.canBeDone;rw [show otherE (1, 4) = (1, 5) from rfl, h.open_, h.y]; rfl
theorem Is.can5 (h : Is S p c q W) (x : PS) : S.canBeDone x (1, 5) = if p.has (1, 4) || c.has (1, 4) then decide ((q.length : Int) + x.r 2 ≤ 8) else true := by
 unfold St.canBeDone;rw [show otherE (1, 5) = (1, 4) from rfl, h.open_, h.y]; rfl
theorem Is.give1 (h : Is S p c q W) (hr : S.rowAt (1, 4) = [1]) (hc : (p.has (1, 5) || c.has (1, 5)) = true → 0 < q.length) : ∃ S', S.serve (1, 4) = some S' ∧ Is S' (if p.st = 1 then p.got q else { p.got q with st := 1, used := 0 }) c (q.drop (Nat.min q.length (p.r 2).toNat)) (departW 1 (1, 4) W) := by
 have hcan : S.canBeDone p (1, 4) = true := by
   rw [h.can4]
   split
   · rename_i e; simpa using hc e
   · rfl
 have h1 : Is (S.depart 1 (1, 4)) p c q (departW 1 (1, 4) W) := by unfold St.depart; rw [h.w]; exact h.setW
 have h2 : Is ((S.depart 1 (1, 4)).carry 1 p (1, 4)) (p.got q) c (q.drop (Nat.min q.length (p.r 2).toNat)) (departW 1 (1, 4) W) := by
   unfold St.carry;rw [if_pos rfl];unfold St.readP;rw [show (1, 4).1 = 1 from rfl, h1.y];exact h1.set1.setY
 refine ⟨_, lO hr h.get1 hcan, ?_⟩
 split
 · exact h2
 · have e : S.carried p (1, 4) = p.got q := by unfold St.carried; rw [if_pos rfl]; show p.got (S.by_ 1) = _; rw [h.y]
   rw [e];exact h2.set1.row _ _
theorem Is.give2 (h : Is S p c q W) (hr : S.rowAt (1, 5) = [2]) (ho : (p.has (1, 4) || c.has (1, 4)) = true) (hc : (q.length : Int) + c.r 2 ≤ 8) : ∃ S', S.serve (1, 5) = some S' ∧ Is S' p (if c.st = 1 then c.gave else { c.gave with st := 1, used := 0 }) (q ++ c.peek (c.r 1).toNat (c.r 2).toNat) (departW 2 (1, 5) W) := by
 have hcan : S.canBeDone c (1, 5) = true := by rw [h.can5, if_pos ho]; simpa using hc
 have h1 : Is (S.depart 2 (1, 5)) p c q (departW 2 (1, 5) W) := by unfold St.depart; rw [h.w]; exact h.setW
 have h2 : Is ((S.depart 2 (1, 5)).carry 2 c (1, 5)) p c.gave (q ++ c.peek (c.r 1).toNat (c.r 2).toNat) (departW 2 (1, 5) W) := by
   unfold St.carry;rw [if_neg (by decide), show otherE (1, 5) = (1, 4) from rfl, h1.open_, if_pos ho];unfold St.writeP;rw [show (1, 5).1 = 1 from rfl, h1.y];exact h1.setY.set2
 refine ⟨_, lO hr h.get2 hcan, ?_⟩
 split
 · exact h2
 · have e : S.carried c (1, 5) = c.gave := by
     unfold St.carried;rw [if_neg (by decide), show otherE (1, 5) = (1, 4) from rfl, h.open_, if_pos ho]
   rw [e];exact h2.set2.row _ _
def Still (p c : PS) (q : List Int) (W : Wt) : Prop := W = [] ∨ (W = [((1, 4), [1])] ∧ q = [] ∧ (p.has (1, 5) || c.has (1, 5)) = true) ∨ (W = [((1, 5), [2])] ∧ (p.has (1, 4) || c.has (1, 4)) = true ∧ 8 < (q.length : Int) + c.r 2)
theorem Is.still (h : Is S p c q W) (hs : Still p c q W) (n : Nat) : St.looks n S 1 = S := by
 rcases hs with rfl | ⟨rfl, rfl, ho⟩ | ⟨rfl, ho, hl⟩
 · exact kT (eR (by rw [h.rowAt]; rfl)) (eR (by rw [h.rowAt]; rfl))
 · exact kT (eR (by rw [h.rowAt]; rfl)) (jf (by rw [h.rowAt]; rfl) h.get1 (by rw [h.can4, if_pos ho]; rfl))
 · refine kT (jf (by rw [h.rowAt]; rfl) h.get2 (by rw [h.can5, if_pos ho]; exact decide_eq_false (by omega))) (eR (by rw [h.rowAt]; rfl))
theorem Is.shut1 (h : Is S p c q W) {n : Nat} (hf : (p.f n).1 = 1) (hs : Still { p with f := put p.f n (0, 0) } c q W) : Is (S.shut 1 n) { p with f := put p.f n (0, 0) } c q W := by
 unfold St.shut;rw [h.get1];have h1 := h.set1 (p' := { p with f := put p.f n (0, 0) });simp only [hf];unfold St.look;rw [h1.still hs];exact h1
theorem Is.shut2 (h : Is S p c q W) {n : Nat} (hf : (c.f n).1 = 1) (hs : Still p { c with f := put c.f n (0, 0) } q W) : Is (S.shut 2 n) p { c with f := put c.f n (0, 0) } q W := by
 unfold St.shut;rw [h.get2];have h1 := h.set2 (c' := { c with f := put c.f n (0, 0) });simp only [hf];unfold St.look;rw [h1.still hs];exact h1
theorem Is.shut2w (h : Is S p c [] [((1, 4), [1])]) {n : Nat} (hf : (c.f n).1 = 1) (hn : (p.has (1, 5) || ({ c with f := put c.f n (0, 0) } : PS).has (1, 5)) = false) (hst : p.st = 4) : Is (S.shut 2 n) { p.got [] with st := 1, used := 0 } { c with f := put c.f n (0, 0) } [] [] := by
 unfold St.shut;rw [h.get2];have h1 := h.set2 (c' := { c with f := put c.f n (0, 0) });simp only [hf];unfold St.look;obtain ⟨S', e, h2⟩ := h1.give1 (by rw [h1.rowAt]; rfl) (by rw [hn]; intro e; cases e);rw [jG (eR (by rw [h1.rowAt]; rfl)) e];rw [if_neg (by omega)] at h2;have e2 : departW 1 (1, 4) [((1, 4), [1])] = [] := by decide
 rw [e2] at h2;have e3 : ([] : List Int).drop (Nat.min ([] : List Int).length (p.r 2).toNat) = [] := by simp
 rw [e3] at h2;rw [h2.still (.inl rfl)];exact h2
end
section
variable {S S' : St} {p c p' c' x : PS} {q q' : List Int} {W : Wt} {k : Nat × Nat}
theorem Is.ask1 (h : Is S p c q W) (hk : p.checkUse 4 64 = none) (hf : p.file (p.r 0) = (1, 4)) {S2 : St} (e : St.looks 16 (S.joinW 1 (1, 4)) 1 = S2) : (S.askR 1 p 4 64).1 = none ∧ (1 ∉ S2.rowAt (1, 4) → (S.askR 1 p 4 64).2 = S2) ∧ ∀ z, 1 ∈ S2.rowAt (1, 4) → S2.get 1 = some z → (S.askR 1 p 4 64).2 = S2.stop1 1 z 4 := by
 unfold St.askR;rw [hk, hf];unfold St.look;simp only [e];refine ⟨trivial, fun h1 => by rw [if_neg h1], fun z h1 h2 => by rw [if_pos h1, h2]⟩
theorem Is.ask2 (h : Is S p c q W) (hk : c.checkUse 5 8 = none) (hf : c.file (c.r 0) = (1, 5)) {S2 : St} (e : St.looks 16 (S.joinW 2 (1, 5)) 1 = S2) : (S.askR 2 c 5 8).1 = none ∧ (2 ∉ S2.rowAt (1, 5) → (S.askR 2 c 5 8).2 = S2) ∧ ∀ z, 2 ∈ S2.rowAt (1, 5) → S2.get 2 = some z → (S.askR 2 c 5 8).2 = S2.stop1 2 z 5 := by
 unfold St.askR;rw [hk, hf];unfold St.look;simp only [e];refine ⟨trivial, fun h1 => by rw [if_neg h1], fun z h1 h2 => by rw [if_pos h1, h2]⟩
theorem Is.join (h : Is S p c q W) (b : Nat) (k : Nat × Nat) : Is (S.joinW b k) p c q (rowJoin b k W) := by unfold St.joinW; rw [h.w]; exact h.setW
theorem Is.read_wait (h : Is S p c [] []) (hk : p.checkUse 4 64 = none) (hf : p.file (p.r 0) = (1, 4)) (ho : (p.has (1, 5) || c.has (1, 5)) = true) : (S.askR 1 p 4 64).1 = none ∧ Is (S.askR 1 p 4 64).2 { p with st := 4 } c [] [((1, 4), [1])] := by
 have h1 : Is (S.joinW 1 (1, 4)) p c [] [((1, 4), [1])] := h.join 1 (1, 4);obtain ⟨a1, _, a3⟩ := h.ask1 hk hf (h1.still (.inr (.inl ⟨rfl, rfl, ho⟩)) 16);refine ⟨a1, ?_⟩;rw [a3 p (by rw [h1.rowAt]; decide) h1.get1];exact h1.set1.row _ _
theorem Is.read_some (h : Is S p c q []) (hs : p.st = 1) (hk : p.checkUse 4 64 = none) (hf : p.file (p.r 0) = (1, 4)) (ho : (p.has (1, 5) || c.has (1, 5)) = true → 0 < q.length) : (S.askR 1 p 4 64).1 = none ∧ Is (S.askR 1 p 4 64).2 (p.got q) c (q.drop (Nat.min q.length (p.r 2).toNat)) [] := by
 have h1 : Is (S.joinW 1 (1, 4)) p c q [((1, 4), [1])] := h.join 1 (1, 4);obtain ⟨S', e, h2⟩ := h1.give1 (by rw [h1.rowAt]; rfl) ho;rw [if_pos hs, show departW 1 (1, 4) [((1, 4), [1])] = [] by decide] at h2;obtain ⟨a1, a2, _⟩ := h.ask1 hk hf ((jG (n := 15) (eR (by rw [h1.rowAt]; rfl)) e).trans (h2.still (.inl rfl) 15));refine ⟨a1, ?_⟩;rw [a2 (by rw [h2.rowAt]; decide)];exact h2
theorem oF (x : PS) (l : List Int) : (x.got l).f = x.f ∧ (x.got l).id = x.id ∧ (x.got l).par = x.par ∧ (x.got l).st = x.st ∧ (x.got l).at_ = x.at_ ∧ (x.got l).r = put x.r 0 (Nat.min l.length (x.r 2).toNat : Nat) := by
 have : ∀ (vs : List Int) (x : PS) (i : Nat), (x.poke i vs).f = x.f ∧ (x.poke i vs).id = x.id ∧ (x.poke i vs).par = x.par ∧ (x.poke i vs).st = x.st ∧ (x.poke i vs).at_ = x.at_ ∧ (x.poke i vs).r = x.r := fun vs => by
   induction vs with
   | nil => intro x i; exact ⟨rfl, rfl, rfl, rfl, rfl, rfl⟩
   | cons v vs ih => intro x i; exact ih _ _
 obtain ⟨a, b, c, d, e, f⟩ := this (l.take (Nat.min l.length (x.r 2).toNat)) x (x.r 1).toNat;exact ⟨a, b, c, d, e, by show put (x.poke _ _).r 0 _ = _; rw [f]⟩
theorem yz {x y : PS} (h : x.f = y.f) (k : Nat × Nat) : x.has k = y.has k := by unfold PS.has; rw [h]
theorem Is.read_both (h : Is S p c q [((1, 5), [2])]) (hs : p.st = 1) (hc5 : c.st = 5) (hk : p.checkUse 4 64 = none) (hf : p.file (p.r 0) = (1, 4)) (hq : 0 < q.length) (h4 : p.has (1, 4) = true) (hl : 8 < (q.length : Int) + c.r 2) : (S.askR 1 p 4 64).1 = none ∧
   (((q.drop (Nat.min q.length (p.r 2).toNat)).length + c.r 2 ≤ 8 ∧ Is (S.askR 1 p 4 64).2 (p.got q) { c.gave with st := 1, used := 0 } (q.drop (Nat.min q.length (p.r 2).toNat) ++ c.peek (c.r 1).toNat (c.r 2).toNat) []) ∨
    (8 < (q.drop (Nat.min q.length (p.r 2).toNat)).length + c.r 2 ∧ Is (S.askR 1 p 4 64).2 (p.got q) c (q.drop (Nat.min q.length (p.r 2).toNat)) [((1, 5), [2])])) := by
 have h1 : Is (S.joinW 1 (1, 4)) p c q [((1, 5), [2]), ((1, 4), [1])] := h.join 1 (1, 4);obtain ⟨S', e, h2⟩ := h1.give1 (by rw [h1.rowAt]; rfl) (fun _ => hq);rw [if_pos hs, show departW 1 (1, 4) [((1, 5), [2]), ((1, 4), [1])] = [((1, 5), [2])] by decide] at h2;have ho : (p.has (1, 4) || c.has (1, 4)) = true := by rw [h4]; rfl
 have ho2 : ((p.got q).has (1, 4) || c.has (1, 4)) = true := by rw [yz (oF p q).1, h4]; rfl
 have e1 : St.looks 16 (S.joinW 1 (1, 4)) 1 = St.looks 15 S' 1 := jG (n := 15) (jf (by rw [h1.rowAt]; rfl) h1.get2 (by rw [h1.can5, if_pos ho]; exact decide_eq_false (by omega))) e;by_cases hd : ((q.drop (Nat.min q.length (p.r 2).toNat)).length : Int) + c.r 2 ≤ 8
 · obtain ⟨S3, e3, h3⟩ := h2.give2 (by rw [h2.rowAt]; rfl) ho2 hd;rw [if_neg (by omega), show departW 2 (1, 5) [((1, 5), [2])] = [] by decide] at h3;obtain ⟨a1, a2, _⟩ := h.ask1 hk hf (e1.trans ((mM (n := 14) e3).trans (h3.still (.inl rfl) 14)));refine ⟨a1, .inl ⟨hd, ?_⟩⟩;rw [a2 (by rw [h3.rowAt]; decide)];exact h3
 · obtain ⟨a1, a2, _⟩ := h.ask1 hk hf (e1.trans (h2.still (.inr (.inr ⟨rfl, ho2, by omega⟩)) 15));refine ⟨a1, .inr ⟨by omega, ?_⟩⟩;rw [a2 (by rw [h2.rowAt]; decide)];exact h2
theorem Is.write_ok (h : Is S p c q []) (hs : c.st = 1) (hk : c.checkUse 5 8 = none) (hf : c.file (c.r 0) = (1, 5)) (ho : (p.has (1, 4) || c.has (1, 4)) = true) (hl : (q.length : Int) + c.r 2 ≤ 8) : (S.askR 2 c 5 8).1 = none ∧ Is (S.askR 2 c 5 8).2 p c.gave (q ++ c.peek (c.r 1).toNat (c.r 2).toNat) [] := by
 have h1 : Is (S.joinW 2 (1, 5)) p c q [((1, 5), [2])] := h.join 2 (1, 5);obtain ⟨S', e, h2⟩ := h1.give2 (by rw [h1.rowAt]; rfl) ho hl;rw [if_pos hs, show departW 2 (1, 5) [((1, 5), [2])] = [] by decide] at h2;obtain ⟨a1, a2, _⟩ := h.ask2 hk hf ((mM (n := 15) e).trans (h2.still (.inl rfl) 15));refine ⟨a1, ?_⟩;rw [a2 (by rw [h2.rowAt]; decide)];exact h2
theorem Is.write_wait (h : Is S p c q []) (hk : c.checkUse 5 8 = none) (hf : c.file (c.r 0) = (1, 5)) (ho : (p.has (1, 4) || c.has (1, 4)) = true) (hl : 8 < (q.length : Int) + c.r 2) : (S.askR 2 c 5 8).1 = none ∧ Is (S.askR 2 c 5 8).2 p { c with st := 5 } q [((1, 5), [2])] := by
 have h1 : Is (S.joinW 2 (1, 5)) p c q [((1, 5), [2])] := h.join 2 (1, 5);obtain ⟨a1, _, a3⟩ := h.ask2 hk hf (h1.still (.inr (.inr ⟨rfl, ho, hl⟩)) 16);refine ⟨a1, ?_⟩;rw [a3 c (by rw [h1.rowAt]; decide) h1.get2];exact h1.set2.row _ _
theorem Is.write_both (h : Is S p c [] [((1, 4), [1])]) (hs : c.st = 1) (hp4 : p.st = 4) (hk : c.checkUse 5 8 = none) (hf : c.file (c.r 0) = (1, 5)) (ho : (p.has (1, 4) || c.has (1, 4)) = true) (hl : c.r 2 ≤ 8) (hn : 0 < (c.peek (c.r 1).toNat (c.r 2).toNat).length) : (S.askR 2 c 5 8).1 = none ∧
   Is (S.askR 2 c 5 8).2 { p.got (c.peek (c.r 1).toNat (c.r 2).toNat) with st := 1, used := 0 } c.gave ((c.peek (c.r 1).toNat (c.r 2).toNat).drop (Nat.min (c.peek (c.r 1).toNat (c.r 2).toNat).length (p.r 2).toNat)) [] := by
 have h1 : Is (S.joinW 2 (1, 5)) p c [] [((1, 4), [1]), ((1, 5), [2])] := h.join 2 (1, 5);obtain ⟨S', e, h2⟩ := h1.give2 (by rw [h1.rowAt]; rfl) ho (by simpa using hl);rw [if_pos hs, show departW 2 (1, 5) [((1, 4), [1]), ((1, 5), [2])] = [((1, 4), [1])] by decide, List.nil_append] at h2;obtain ⟨S3, e3, h3⟩ := h2.give1 (by rw [h2.rowAt]; rfl) (fun _ => hn);rw [if_neg (by omega), show departW 1 (1, 4) [((1, 4), [1])] = [] by decide] at h3;obtain ⟨a1, a2, _⟩ := h.ask2 hk hf ((mM (n := 15) e).trans ((jG (n := 14) (eR (by rw [h2.rowAt]; rfl)) e3).trans (h3.still (.inl rfl) 14)));refine ⟨a1, ?_⟩;rw [a2 (by rw [h3.rowAt]; decide)];exact h3
theorem Is.close (h : Is S p c q W) (hr : p.r 0 = 1) (hf : p.f 1 = (1, 5)) (hs : Still { p with f := put p.f 1 (0, 0) } c q W) : (S.closeR 1 p).1 = none ∧ Is (S.closeR 1 p).2 (({ p with f := put p.f 1 (0, 0) } : PS).r0 0) c q W := by
 have e : p.file (p.r 0) = (1, 5) := by unfold PS.file; rw [hr, if_pos (by decide)]; exact hf
 unfold St.closeR;rw [e, if_neg (by decide), hr];exact ⟨rfl, (h.shut1 (n := 1) (by rw [hf]) hs).r1 0⟩
theorem Is.orph (h : Is S p c q W) (id : Nat) : Is (S.orphs id (S.ps.map (·.1))) (if p.par = id then { p with par := 1 } else p) (if c.par = id then { c with par := 1 } else c) q W := by
 rw [h.ps];show Is (St.orphs (match S.get 1 with | some y => if y.par = id then S.setP 1 { y with par := 1 } else S | none => S) id [2]) _ _ _ _;rw [h.get1];have h1 : Is (if p.par = id then S.setP 1 { p with par := 1 } else S) (if p.par = id then { p with par := 1 } else p) c q W := by
   split
   · exact h.set1
   · exact h
 show Is (St.orphs (if p.par = id then S.setP 1 { p with par := 1 } else S) id [2]) _ _ _ _;generalize (if p.par = id then S.setP 1 { p with par := 1 } else S) = S1 at *;show Is (match S1.get 2 with | some y => if y.par = id then S1.setP 2 { y with par := 1 } else S1 | none => S1) _ _ _ _;rw [h1.get2];show Is (if c.par = id then S1.setP 2 { c with par := 1 } else S1) _ _ _ _
 split
 · exact h1.set2
 · exact h1
theorem Is.par_ (h : Is S p c q W) (h1 : p.st ≠ 2) (h2 : c.st ≠ 2) : S.parents (S.ps.map (·.1)) = S := by
 rw [h.ps];show (S.parent1 1).parent1 2 = S;have e1 : S.parent1 1 = S := by unfold St.parent1; rw [h.get1]; simp only; rw [if_neg h1]
 rw [e1];unfold St.parent1; rw [h.get2]; simp only; rw [if_neg h2]
theorem mN (b n : Nat) (f : Nat → Nat × Nat) (ns : List Nat) (S : St) (h : f n ≠ (0, 0)) : S.shuts b f (n :: ns) = (S.shut b n).shuts b f ns := by
 show (if f n = (0, 0) then S else S.shut b n).shuts b f ns = _;rw [if_neg h]
theorem Is.fin2 (h : Is S p c q W) (hW : (W = [] ∧ p.st ≠ 2) ∨ (W = [((1, 4), [1])] ∧ q = [] ∧ p.st = 4 ∧ p.has (1, 5) = false)) (hid : c.id = 2) (hpar : p.par ≠ 2 ∧ c.par ≠ 2) (hf : c.file (c.r 0) = (0, 0)) (hf0 : c.f = put (put (fun _ => (0, 0)) 0 (1, 4)) 1 (1, 5)) (s : Int) :
   Is (S.fin 2 c s) (if W = [] then p else { p.got [] with st := 1, used := 0 }) { c with st := 6, stat := s, f := put (put c.f 0 (0, 0)) 1 (0, 0) } q [] := by
 have hd : departW 2 (0, 0) W = W := by rcases hW with ⟨rfl, _⟩ | ⟨rfl, _⟩ <;> decide
 have h1 : Is (((S.depart 2 (c.file (c.r 0))).stop1 2 c 6).setP 2 { c with st := 6, stat := s }) p { c with st := 6, stat := s } q W := by
   have h0 : Is (S.depart 2 (c.file (c.r 0))) p c q W := by
     rw [hf]; unfold St.depart; rw [h.w, hd]; exact h.setW
   exact (h0.set2.row _ _).set2
 have f0 : c.f 0 = (1, 4) := by rw [hf0]; rfl
 have f1 : c.f 1 = (1, 5) := by rw [hf0]; rfl
 have g5 : ({ c with st := 6, stat := s, f := put c.f 0 (0, 0) } : PS).has (1, 5) = true := by rw [hf0]; rfl
 have g6 : ({ c with st := 6, stat := s, f := put (put c.f 0 (0, 0)) 1 (0, 0) } : PS).has (1, 5) = false := by rw [hf0]; rfl
 unfold St.fin;simp only;generalize hS2 : ((S.depart 2 (c.file (c.r 0))).stop1 2 c 6).setP 2 { c with st := 6, stat := s } = S2 at h1;have h2 := h1.shut2 (n := 0) (by show (c.f 0).1 = 1; rw [f0]) (by
   rcases hW with ⟨e, _⟩ | ⟨e, e2, _, _⟩
   · exact .inl e
   · refine .inr (.inl ⟨e, e2, ?_⟩);rw [Bool.or_eq_true]; exact .inr g5)
 have h3 : Is ((S2.shut 2 0).shut 2 1) (if W = [] then p else { p.got [] with st := 1, used := 0 }) { c with st := 6, stat := s, f := put (put c.f 0 (0, 0)) 1 (0, 0) } q [] := by
   rcases hW with ⟨e, _⟩ | ⟨e, e2, e3, e4⟩
   · subst e;rw [if_pos rfl];exact h2.shut2 (n := 1) (by show (put c.f 0 (0, 0) 1).1 = 1; show (c.f 1).1 = 1; rw [f1]) (.inl rfl)
   · subst e e2;rw [if_neg (by simp)];exact h2.shut2w (n := 1) (by show (put c.f 0 (0, 0) 1).1 = 1; show (c.f 1).1 = 1; rw [f1]) (by
       rw [Bool.or_eq_false_iff]; exact ⟨e4, g6⟩) e3
 have e4 : S2.shuts 2 c.f (List.range' 0 6) = (S2.shut 2 0).shut 2 1 := by
   show St.shuts _ 2 c.f [0, 1, 2, 3, 4, 5] = _;rw [mN _ _ _ _ _ (by rw [f0]; decide), mN _ _ _ _ _ (by rw [f1]; decide)];exact gZ _ fun n hn => by
     rw [hf0];simp at hn;rcases hn with rfl | rfl | rfl | rfl <;> rfl
 rw [e4];have h5 := h3.orph c.id;rw [hid] at h5 ⊢;have hp' : (if W = [] then p else { p.got [] with st := 1, used := 0 }).par = p.par := by
   split
   · rfl
   · exact (oF p []).2.2.1
 rw [if_neg (by rw [hp']; exact hpar.1), if_neg (show ¬ c.par = 2 from hpar.2)] at h5;rw [h5.par_ (by
   rcases hW with ⟨e, e2⟩ | ⟨e, _⟩
   · rw [if_pos e]; exact e2
   · rw [if_neg (by rw [e]; simp)]; show (1 : Nat) ≠ 2; decide) (by show (6 : Nat) ≠ 2; decide)]
 exact h5
theorem Is.fin1 (h : Is S p c q []) (hid : p.id = 1) (hpar : p.par ≠ 1) (hf0 : p.f = put (fun _ => (0, 0)) 0 (1, 4)) (hc : c.st ≠ 2) (s : Int) : ∃ c', Is (S.fin 1 p s) { p with st := 6, stat := s, f := put p.f 0 (0, 0) } c' q [] := by
 have h1 : Is (((S.depart 1 (p.file (p.r 0))).stop1 1 p 6).setP 1 { p with st := 6, stat := s }) { p with st := 6, stat := s } c q [] := by
   have h0 : Is (S.depart 1 (p.file (p.r 0))) p c q [] := by unfold St.depart; rw [h.w]; exact h.setW
   exact (h0.set1.row _ _).set1
 have f0 : p.f 0 = (1, 4) := by rw [hf0]; rfl
 have h2 := h1.shut1 (n := 0) (by show (p.f 0).1 = 1; rw [f0]) (.inl rfl);have e4 : (((S.depart 1 (p.file (p.r 0))).stop1 1 p 6).setP 1 { p with st := 6, stat := s }).shuts 1 p.f (List.range' 0 6) = (((S.depart 1 (p.file (p.r 0))).stop1 1 p 6).setP 1 { p with st := 6, stat := s }).shut 1 0 := by
   show St.shuts _ 1 p.f [0, 1, 2, 3, 4, 5] = _;rw [mN _ _ _ _ _ (by rw [f0]; decide)];exact gZ _ fun n hn => by
     rw [hf0];simp at hn;rcases hn with rfl | rfl | rfl | rfl | rfl <;> rfl
 unfold St.fin;simp only;rw [e4];have h5 := h2.orph p.id;rw [hid] at h5 ⊢;rw [if_neg (show ¬ p.par = 1 from hpar)] at h5;rw [h5.par_ (by show (6 : Nat) ≠ 2; decide) (by split <;> exact hc)];exact ⟨_, h5⟩
end
def setsI (xs : List Int) (i : Nat) : List Int := (List.range i).flatMap fun (j : Nat) => insn 1 (j : Nat) (xs.getD j 0)
def trapI (m : Int) (xs : List Int) : List Int := setsI xs xs.length ++ insn 9 m 0
theorem kU (xs : List Int) (i : Nat) : setsI xs (i + 1) = setsI xs i ++ insn 1 (i : Nat) (xs.getD i 0) := by
 unfold setsI; rw [List.range_succ, List.flatMap_append]; simp
theorem lP (xs : List Int) : ∀ i, (setsI xs i).length = 4 * i
 | 0 => rfl
 | i + 1 => by rw [kU, List.length_append, lP xs i]; show 4 * i + 4 = _; omega
theorem zL : ∃ n, ∀ {σ} {F : Fam σ} {Δ : DM F} {main s} (L : Frag) (m : Int) (xs : List Int) (base : Option Addr) (cap : Nat), (∀ s o, (Δ s).New o) → Fun L → xs.length ≤ 8 → (∀ i, i < xs.length → ∃ b, base = some ⟨b, 0, none⟩ ∧ At L b i (.int .i64 (xs.getD i 0))) →
   CallsL Δ Tryz.prog main 23 [.int .i64 m, .slice base xs.length cap].toArray n s L (fun s' v L' => s = s' ∧ v = strv (trapI m xs) ∧ Ext L L') := by
 obtain ⟨n1, g1⟩ := pU;apply Exists.intro;intro σ F Δ main s L m xs base cap hN hF h8 hat;co_applyP aB 25 Tryz.func23 Tryz.ntmps23;co_applyP aa;co_applyP oan rfl;co_applyP aa;co_applyP oan rfl;co_applyP aq;co_applyP aa;co_applyP oan rfl;co_applyP aI;co_applyP bK (fun c s' ε' L' => s' = s ∧ Ext L L' ∧ ∃ i, i ≤ xs.length ∧ c + i = 8 ∧ kn ε' [(0, .int .i64 m), (1, .slice base xs.length cap), (5, strv (setsI xs i)), (6, .int .i64 (i : Nat))]) 8
 · exact ⟨rfl, ⟨hF, fun _ h => h⟩, 0, by omega, rfl, rfl⟩
 rintro c s' ε' L' ⟨rfl, hE, i, hi, hc, he⟩;co_applyP aV he;have ei : IntKind.i64.wrap ((i : Int) + 1) = ((i + 1 : Nat) : Int) := by simp [IntKind.wrap_i64]; omega
 have hsl := lP xs i;co_applyP aq;co_applyP aa;co_applyP om rfl rfl rfl ae;co_applyP oy rfl (bB (hu := U54));co_applyP oy rfl cF;co_applyP ah;co_applyP bk rfl;intro hlt
 · have hlt' : i < xs.length := by simpa using hlt
   obtain ⟨b, rfl, hv⟩ := hat i hlt';have hv' := hE.at hv;co_applyP aD;co_applyP aq;co_applyP aI;co_applyP ax;co_applyP om rfl rfl rfl ae;co_applyP om rfl rfl rfl ae;co_applyP oy rfl (bH U54 de);co_applyP oy rfl (aF (ht := aY));co_applyP oc rfl rfl rfl (g1 L' 1 (i : Nat) (xs.getD i 0) hN hE.f);rintro _ _ _ ⟨rfl, rfl, hE2⟩;have hl2 : (setsI xs i).length + (insn 1 (i : Nat) (xs.getD i 0)).length < 1000000 := by rw [hsl]; show 4 * i + 4 < _; omega
   co_applyP oy rfl bQ;co_applyP oan rfl;co_applyP ax;co_applyP om rfl rfl rfl aR;co_applyP oan rfl;change ∃ k', k' < _ ∧ _;exact ⟨c - 1, by omega, rfl, hE.trans hE2, i + 1, by omega, by omega, by rw [← ei, kU]; rfl⟩
 intro hlt;have hi' : i = xs.length := by simp at hlt; omega
 subst hi';co_applyP bS;co_applyP aa;co_applyP om rfl rfl rfl ae;co_applyP oc rfl rfl rfl (g1 L' 9 m 0 hN hE.f);rintro _ _ _ ⟨rfl, rfl, hE2⟩;have hl2 : (setsI xs xs.length).length + (insn 9 m 0).length < 1000000 := by rw [hsl]; show 4 * _ + 4 < _; omega
 co_applyP oy rfl bQ;co_applyP oan rfl;co_applyP aK;change ∃ v, resE .. = some v ∧ _;exact ⟨_, rfl, rfl, rfl, hE.trans hE2⟩
theorem oG {T : St} (h : T.isOver = true) : ∀ m, St.evs m T = []
 | 0 => rfl
 | m + 1 => by unfold St.evs; rw [if_pos h]
theorem sN {T : St} (h : T.isOver = true) : ∀ m, St.runs m T = T
 | 0 => rfl
 | m + 1 => by unfold St.runs; rw [if_pos h]
end Go.Proofs.YtejkelcaljmnoaaGreatDoor
namespace Go.Lo
open Go.Conc Go.Hx
def resE3 (g : Func) (ε : Env) : Option Value := match g.results.toList with
 | [.tmp t, .tmp u, .tmp x] => match look ε t, look ε u, look ε x with
   | some v, some w, some y => some (.tuple #[v, w, y])
   | _, _, _ => none
 | _ => none
def bodyE3 {σ : Type} (g : Func) (Post : σ → Value → Frag → Prop) : σ → Exit → Env → Frag → Prop
 | s, .normal, ε, L | s, .ret, ε, L => ∃ v, resE3 g ε = some v ∧ Post s v L
 | _, _, _, _ => False
section
variable {σ : Type} {F : Fam σ} {Δ : ∀ s, Dom (F.R s) (F.D s)} {P : Program} {main : Bool} {fn : FuncId} {N : Nat} {Q : σ → Exit → Env → Frag → Prop} {s : σ} {ε : Env} {L : Frag}
theorem vC {g : Func} {a : Act} {v : Value} (hf : Fits N ε a) (h : resE3 g ε = some v) : wpQ P (results g a.tmps) (· = v) L := by
 unfold resE3 at h
 split at h
 · rename_i t u x e
   split at h
   · rename_i h1 h2 h3;have e' : g.results = #[.tmp t, .tmp u, .tmp x] := Array.ext' e;have r1 := (hf.at_ _ _ h1).2;have r2 := (hf.at_ _ _ h2).2;have r3 := (hf.at_ _ _ h3).2;rw [← Option.some.inj h, ← r1, ← r2, ← r3];have e0 : results g a.tmps = pure (.tuple #[a.tmps.getD t undef, a.tmps.getD u undef, a.tmps.getD x undef]) := by simp [results, e']
     rw [e0]; rfl
   · cases h
 · cases h
theorem xR (N : Nat) {f : FuncId} {g : Func} {c : Code} {vs : List Value} {n : Nat} {Post : σ → Value → Frag → Prop} (hf : P.funcs[f]? = some g) (hN : g.ntmps = N) (hname : (g.name == "runtime.NumGoroutine") = false := by rfl) (hb : g.body = some c := by rfl) (hl : Nat.ble vs.length N = true := by rfl) (h : wpE Δ P main f N c n s (bodyE3 g Post) (args vs) L) : CallsM Δ P main f vs.toArray n s L Post := by
 have hl := Nat.le_of_ble_eq_true hl;subst hN;refine ⟨g, c, hf, hname, hb, dt (h _ ⟨by simp; omega, rfl, fun t v ht => ?_⟩) fun s' e a' L' ⟨ε', hf, q⟩ => ?_⟩
 · obtain ⟨_, h2⟩ := ge vs 0 t v ht;have hlt := (List.getElem?_eq_some_iff.1 h2).1;simp only [Nat.sub_zero] at h2 hlt;refine ⟨by omega, ?_⟩;simp only [Array.getD_eq_getD_getElem?, Array.getElem?_append, List.size_toArray, hlt, if_true, List.getElem?_toArray, h2, Option.getD_some]
 · cases e <;> first | exact ⟨hf.df, q.choose, vC hf q.choose_spec.1, q.choose_spec.2⟩ | exact q
end
end Go.Lo
namespace Go.Proofs.YtejkelcaljmnoaaGreatDoor
open Go.Conc Go.Hx Go.Lo
def outB (ws : List Wd) : List Int := (ws.filter fun w => decide (w.2.1 = 3)).map fun w => w.2.2.2 % 256
def goneW (ws : List Wd) : List Wd := ws.filter fun w => decide (w.2.1 = 4)
abbrev u8s (l : List Int) : List Value := l.map (Value.int .u8)
abbrev wcs (ws : List Wd) : List Value := ws.flatMap Wd.c
theorem qP (ws : List Wd) : (wcs ws).length = ws.length * 4 := by
 induction ws with
 | nil => rfl
 | cons w ws ih =>
   have : wcs (w :: ws) = Wd.c w ++ wcs ws := rfl;rw [this, List.length_append, ih];show 4 + _ = _;simp only [List.length_cons]; omega
theorem zM (ws : List Wd) : ∀ (i : Nat) (w : Wd), ws[i]? = some w → ∀ j, j < 4 → (wcs ws)[4 * i + j]? = (Wd.c w)[j]? := by
 induction ws with
 | nil => intro i w h; simp at h
 | cons v ws ih =>
   intro i w h j hj;have e : wcs (v :: ws) = Wd.c v ++ wcs ws := rfl;have hl : (Wd.c v).length = 4 := rfl;rw [e];cases i with
   | zero =>
     obtain rfl : v = w := by simpa using h
     rw [Nat.mul_zero, Nat.zero_add, List.getElem?_append_left (by rw [hl]; exact hj)]
   | succ i =>
     rw [List.getElem?_append_right (by rw [hl]; omega), hl, show 4 * (i + 1) + j - 4 = 4 * i + j by omega];exact ih i w (by simpa using h) j hj
theorem oH {told : Value} {ws : List Wd} {L : Frag} (h : Heard told (ws.map Wd.v) L) : ∃ base cap, told = .slice base ws.length cap ∧ ∀ i w, ws[i]? = some w → ∃ g cs, base = some ⟨g, 0, none⟩ ∧ (g, true, Obj.cells cs 51) ∈ L ∧ 4 * i + 4 ≤ cs.size ∧ ∀ j, j < 4 → cs[4 * i + j]? = (Wd.c w)[j]? := by
 rcases h with ⟨rfl, h0⟩ | ⟨g, cap, cur, rfl, hg, hn, _, hz, ht⟩
 · have : ws = [] := by simpa using h0
   subst this;exact ⟨none, 0, rfl, fun i w h => by simp at h⟩
 · rw [List.length_map] at hn ht ⊢;refine ⟨_, cap, rfl, fun i w hw => ⟨g, cur, rfl, hg, ?_, fun j hj => ?_⟩⟩
   · have := (List.getElem?_eq_some_iff.1 hw).1;have := Nat.mul_le_mul_right 4 hn;omega
   · have hi := (List.getElem?_eq_some_iff.1 hw).1;rw [← zM ws i w hw j hj];have e : cur.toList.take (ws.length * 4) = wcs ws := by rw [ht, List.flatMap_map]; rfl
     rw [← e, List.getElem?_take_of_lt (by omega)];simp
theorem sO (ws : List Wd) {i : Nat} {w : Wd} (h : ws[i]? = some w) : outB (ws.take (i + 1)) = outB (ws.take i) ++ (if w.2.1 = 3 then [w.2.2.2 % 256] else []) := by
 unfold outB;rw [List.take_add_one, h, Option.toList_some, List.filter_append, List.map_append];by_cases e : w.2.1 = 3 <;> simp [e]
theorem pV (ws : List Wd) {i : Nat} {w : Wd} (h : ws[i]? = some w) : goneW (ws.take (i + 1)) = goneW (ws.take i) ++ (if w.2.1 = 4 then [w] else []) := by
 unfold goneW;rw [List.take_add_one, h, Option.toList_some, List.filter_append];by_cases e : w.2.1 = 4 <;> simp [e]
theorem xS (a b : List Wd) : wcs (a ++ b) = wcs a ++ wcs b := by simp [wcs]
section
variable {N : Nat} {ε : Env} {L : Frag} {d : Option Tmp} {ty : TypeId} {ps : String} {af : Array Edge} {g : Option (Nat × Bool)} {x : Operand}
theorem xT {a : Sl} {l : List Int} (hx : ev ε x = some (rowv a 1 l.length) := by rfl) (ha : slOk a (u8s l) 5 L) : EY Tryz.prog N ε L ⟨d, .convert 44 9 x, ty, ps, af, g⟩ (strv l) := by
 cases hab : a.b with
 | none =>
   have h := ha;unfold slOk at h;rw [hab] at h;obtain rfl : l = [] := by simpa using h.1
   have e : rowv a 1 ([] : List Int).length = .slice none 0 0 := by unfold rowv; rw [hab]
   rw [e] at hx;exact zI hx U44 U5 U9
 | some b =>
   have e : rowv a 1 l.length = .slice (some ⟨b, 0, none⟩) l.length (l.length + a.junk.length / 1) := by unfold rowv; rw [hab]
   rw [e] at hx;refine vl (l := l) hx U44 U5 U9 (ha.mem hab) (by simp) ?_;apply Array.ext';simp
end
theorem yA : zeroAt Tryz.prog 51 = some (evt 0 0 0 0) := by kernel_rfl
theorem zN : bytesAt Tryz.prog 51 = some 32 := by kernel_rfl
def tb (r : Int) : Nat → Int × Int × Int × Int
 | 0 => (9, 7, 0, 0) | 1 => (9, 1, 0, 0) | 2 => (5, 0, 21, 0) | 3 => (1, 0, 1, 0) | 4 => (9, 8, 0, 0) | 5 => (1, 0, 0, 0) | 6 => (1, 1, 10, 0) | 7 => (1, 2, r, 0) | 8 => (9, 9, 0, 0) | 9 => (5, 0, 19, 0)
 | 10 => (2, 3, 0, 0) | 11 => (1, 4, 10, 0) | 12 => (1, 5, 1, 0) | 13 => (7, 0, 4, 0) | 14 => (9, 11, 0, 0) | 15 => (3, 4, 5, 0) | 16 => (4, 3, 5, 0) | 17 => (5, 3, 5, 0) | 18 => (6, 0, 13, 0) | 19 => (1, 0, 9, 0) | _ => (9, 0, 0, 0)
def I4 (pg : Nat → Nat → Int) (i : Nat) (t : Int × Int × Int × Int) : Prop := pg i 0 = t.1 ∧ pg i 1 = t.2.1 ∧ pg i 2 = t.2.2.1 ∧ pg i 3 = t.2.2.2
structure Ck (pg : Nat → Nat → Int) (l : List Int) (a n : Nat) : Prop where
 n0 : 0 < n
 n8 : n ≤ 8
 nl : n ≤ l.length
 s : ∀ j v, j < n → l[j]? = some v → I4 pg (a + 3 * j) (1, 0, v, 0) ∧ I4 pg (a + 3 * j + 1) (1, 1, (j : Int), 0) ∧ I4 pg (a + 3 * j + 2) (8, 0, 1, 0)
 w0 : I4 pg (a + 3 * n) (1, 0, 1, 0)
 w1 : I4 pg (a + 3 * n + 1) (1, 1, 0, 0)
 w2 : I4 pg (a + 3 * n + 2) (1, 2, (n : Int), 0)
 w3 : I4 pg (a + 3 * n + 3) (9, 10, 0, 0)
def Wr (pn : Nat) (pg : Nat → Nat → Int) : Nat → List Int → Nat → Prop
 | 0, l, a => l = [] ∧ I4 pg a (1, 0, 3, 0) ∧ I4 pg (a + 1) (9, 0, 0, 0) ∧ a + 2 = pn
 | K + 1, l, a => ∃ n, Ck pg l a n ∧ Wr pn pg K (l.drop n) (a + 3 * n + 4)
structure Pg (r pn : Nat) (pg : Nat → Nat → Int) (l : List Int) : Prop where
 h : ∀ i, i < 21 → I4 pg i (tb r i)
 k : ∃ K, Wr pn pg K l 21
 r1 : 0 < r
 r20 : r ≤ 20
 b : Byt l
def Q4 (a b c d a' b' c' d' : Nat) : Prop := a = a' ∧ b = b' ∧ c = c' ∧ d = d'
def Mem (m : Nat → Int) (a : Nat) (B : List Int) : Prop := ∀ j v, B[j]? = some v → m (a + j) = v
inductive PA (r st at_ : Nat) (g m : Nat → Int) (B : List Int) (w ph : Nat) : Prop
 | a2 : Q4 st at_ w ph 1 2 10 0 → B = [] → g 0 = 2 → PA r st at_ g m B w ph
 | a3 : Q4 st at_ w ph 1 3 9 0 → B = [] → PA r st at_ g m B w ph
 | a4 : Q4 st at_ w ph 1 4 8 0 → B = [] → g 0 = 1 → PA r st at_ g m B w ph
 | a5 : Q4 st at_ w ph 1 5 7 1 → B = [] → PA r st at_ g m B w ph
 | a6 : Q4 st at_ w ph 1 6 6 1 → B = [] → g 0 = 0 → PA r st at_ g m B w ph
 | a7 : Q4 st at_ w ph 1 7 5 1 → B = [] → g 0 = 0 → g 1 = 10 → PA r st at_ g m B w ph
 | a8 : Q4 st at_ w ph 1 8 4 1 → B = [] → g 0 = 0 → g 1 = 10 → g 2 = (r : Int) → PA r st at_ g m B w ph
 | aw : Q4 st at_ w ph 4 9 3 2 → B = [] → g 0 = 0 → g 1 = 10 → g 2 = (r : Int) → PA r st at_ g m B w ph
 | a9 : Q4 st at_ w ph 1 9 (6 * B.length + 11) 1 → B ≠ [] → B.length ≤ 8 → Mem m 10 B → g 0 = (B.length : Nat) → PA r st at_ g m B w ph
 | e9 : Q4 st at_ w ph 1 9 3 3 → B = [] → g 0 = 0 → PA r st at_ g m B w ph
 | b0 : Q4 st at_ w ph 1 10 (6 * B.length + 10) 1 → B ≠ [] → B.length ≤ 8 → Mem m 10 B → g 0 = (B.length : Nat) → PA r st at_ g m B w ph
 | b1 : Q4 st at_ w ph 1 11 (6 * B.length + 9) 1 → B ≠ [] → B.length ≤ 8 → Mem m 10 B → g 3 = (B.length : Nat) → PA r st at_ g m B w ph
 | b2 : Q4 st at_ w ph 1 12 (6 * B.length + 8) 1 → B ≠ [] → B.length ≤ 8 → Mem m 10 B → g 3 = (B.length : Nat) → g 4 = 10 → PA r st at_ g m B w ph
 | b3 (o : Nat) : Q4 st at_ w ph 1 13 (6 * B.length + 7) 1 → B ≠ [] → o + B.length ≤ 8 → Mem m (10 + o) B → g 3 = (B.length : Nat) → g 4 = (10 + o : Nat) → g 5 = 1 → PA r st at_ g m B w ph
 | b4 (o : Nat) : Q4 st at_ w ph 1 14 (6 * B.length + 6) 1 → B ≠ [] → o + B.length ≤ 8 → Mem m (10 + o) B → g 3 = (B.length : Nat) → g 4 = (10 + o : Nat) → g 5 = 1 → B.head? = some (g 0) → PA r st at_ g m B w ph
 | b5 (o : Nat) : Q4 st at_ w ph 1 15 (6 * B.length + 11) 1 → o + 1 + B.length ≤ 8 → Mem m (10 + o + 1) B → g 3 = (B.length + 1 : Nat) → g 4 = (10 + o : Nat) → g 5 = 1 → PA r st at_ g m B w ph
 | b6 (o : Nat) : Q4 st at_ w ph 1 16 (6 * B.length + 10) 1 → o + B.length ≤ 8 → Mem m (10 + o) B → g 3 = (B.length + 1 : Nat) → g 4 = (10 + o : Nat) → g 5 = 1 → PA r st at_ g m B w ph
 | b7 (o : Nat) : Q4 st at_ w ph 1 17 (6 * B.length + 9) 1 → o + B.length ≤ 8 → Mem m (10 + o) B → g 3 = (B.length : Nat) → g 4 = (10 + o : Nat) → g 5 = 1 → PA r st at_ g m B w ph
 | b8 (o : Nat) : Q4 st at_ w ph 1 18 (6 * B.length + 8) 1 → B ≠ [] → o + B.length ≤ 8 → Mem m (10 + o) B → g 3 = (B.length : Nat) → g 4 = (10 + o : Nat) → g 5 = 1 → PA r st at_ g m B w ph
 | b9 : Q4 st at_ w ph 1 19 2 3 → B = [] → PA r st at_ g m B w ph
 | e0 : Q4 st at_ w ph 1 20 1 3 → B = [] → g 0 = 9 → PA r st at_ g m B w ph
def MemL (m : Nat → Int) (R : List Int) (j : Nat) : Prop := ∀ i v, i < j → R[i]? = some v → m i = v
inductive CA (pn : Nat) (pg : Nat → Nat → Int) (st at_ : Nat) (g m : Nat → Int) (R : List Int) (w ch : Nat) : Prop
 | c2 (K : Nat) : Q4 st at_ w ch 1 2 (pn - 20) 0 → g 0 = 0 → Wr pn pg K R 21 → CA pn pg st at_ g m R w ch
 | c0 (K : Nat) : Q4 st at_ w ch 1 at_ (pn - at_) 0 → Wr pn pg K R at_ → CA pn pg st at_ g m R w ch
 | cs (K a n j : Nat) : Q4 st at_ w ch 1 (a + 3 * j) (pn - at_) 0 → Ck pg R a n → Wr pn pg K (R.drop n) (a + 3 * n + 4) → j < n → MemL m R j → CA pn pg st at_ g m R w ch
 | c1 (K a n j : Nat) : Q4 st at_ w ch 1 (a + 3 * j + 1) (pn - at_) 0 → Ck pg R a n → Wr pn pg K (R.drop n) (a + 3 * n + 4) → j < n → MemL m R j → R[j]? = some (g 0) → CA pn pg st at_ g m R w ch
 | ct (K a n j : Nat) : Q4 st at_ w ch 1 (a + 3 * j + 2) (pn - at_) 0 → Ck pg R a n → Wr pn pg K (R.drop n) (a + 3 * n + 4) → j < n → MemL m R j → R[j]? = some (g 0) → g 1 = (j : Int) → CA pn pg st at_ g m R w ch
 | w0 (K a n : Nat) : Q4 st at_ w ch 1 (a + 3 * n) (pn - at_) 0 → Ck pg R a n → Wr pn pg K (R.drop n) (a + 3 * n + 4) → MemL m R n → CA pn pg st at_ g m R w ch
 | w1 (K a n : Nat) : Q4 st at_ w ch 1 (a + 3 * n + 1) (pn - at_) 0 → Ck pg R a n → Wr pn pg K (R.drop n) (a + 3 * n + 4) → MemL m R n → g 0 = 1 → CA pn pg st at_ g m R w ch
 | w2 (K a n : Nat) : Q4 st at_ w ch 1 (a + 3 * n + 2) (pn - at_) 0 → Ck pg R a n → Wr pn pg K (R.drop n) (a + 3 * n + 4) → MemL m R n → g 0 = 1 → g 1 = 0 → CA pn pg st at_ g m R w ch
 | w3 (K a n : Nat) : Q4 st at_ w ch 1 (a + 3 * n + 3) (pn - at_) 0 → Ck pg R a n → Wr pn pg K (R.drop n) (a + 3 * n + 4) → MemL m R n → g 0 = 1 → g 1 = 0 → g 2 = (n : Int) → CA pn pg st at_ g m R w ch
 | ww (K a n : Nat) : Q4 st at_ w ch 5 (a + 3 * n + 4) (pn - at_) 1 → Ck pg R a n → Wr pn pg K (R.drop n) (a + 3 * n + 4) → MemL m R n → g 1 = 0 → g 2 = (n : Int) → CA pn pg st at_ g m R w ch
 | e1 (a : Nat) : Q4 st at_ w ch 1 (a + 1) (pn - at_) 0 → Wr pn pg 0 R a → g 0 = 3 → CA pn pg st at_ g m R w ch
 | en : Q4 st at_ w ch 6 at_ 0 2 → R = [] → CA pn pg st at_ g m R w ch
def fP : Nat → Nat × Nat := put (put (fun _ => (0, 0)) 0 (1, 4)) 1 (1, 5)
def fR : Nat → Nat × Nat := put (fun _ => (0, 0)) 0 (1, 4)
structure J (l : List Int) (r pn : Nat) (pg : Nat → Nat → Int) (p c : PS) (q : List Int) (W : Wt) (out B R : List Int) (w1 w2 ph ch : Nat) : Prop where
 pa : PA r p.st p.at_ p.r p.m B w1 ph
 ca : CA pn pg c.st c.at_ c.r c.m R w2 ch
 sum : out ++ (B ++ (q ++ R)) = l
 q8 : q.length ≤ 8
 pid : p.id = 1
 cid : c.id = 2
 ppar : p.par = 0
 cpar : c.par = 1
 pf : p.f = if ph = 0 then fP else fR
 cf : ch ≠ 2 → c.f = fP
 cf2 : ch = 2 → c.has (1, 5) = false
 w : W = if ph = 2 then [((1, 4), [1])] else if ch = 1 then [((1, 5), [2])] else []
 l2 : ph = 2 → ch = 0 ∧ q = []
 l1 : ch = 1 → 8 < (q.length : Int) + c.r 2
 l3 : ph = 3 → ch = 2 ∧ q = [] ∧ R = []
def gs (ch : Nat) : List (Int × Int) := if ch = 2 then [(2, 3)] else []
def g2 (w : Wd) : Int × Int := (w.2.2.1, w.2.2.2)
def Stp (l : List Int) (r pn : Nat) (pg : Nat → Nat → Int) (S : St) (b : Nat) (x : PS) (k : Nat) (out : List Int) (ch wt : Nat) : Prop := ∃ ws : List Wd, S.runE b x = ws.map Wd.v ∧
 ((∃ p' c' q' W' B' R' w1' w2' ph' ch', Is (S.runS b x k) p' c' q' W' ∧ J l r pn pg p' c' q' W' (out ++ outB ws) B' R' w1' w2' ph' ch' ∧ 14 * (q'.length + R'.length) + w1' + w2' < wt ∧ gs ch' = gs ch ++ (goneW ws).map g2) ∨
  ∃ p' c' q' W', Is (S.runS b x k) p' c' q' W' ∧ (p'.st = 6 ∧ p'.id = 1) ∧ out ++ outB ws = l ∧ gs ch ++ (goneW ws).map g2 = [(2, 3), (1, 9)])
section
variable {l : List Int} {r pn : Nat} {pg : Nat → Nat → Int} {S : St} {p c p' c' x x' : PS} {q : List Int} {W : Wt} {out B R : List Int} {w1 w2 ph ch k b : Nat}
theorem Wr.le : ∀ (K : Nat) {l : List Int} {a : Nat}, Wr pn pg K l a → a + 2 ≤ pn
 | 0, _, _, h => Nat.le_of_eq h.2.2.2
 | K + 1, _, _, ⟨n, _, h⟩ => by have := Wr.le K h; omega
theorem qQ (hat : x.at_ < S.pn) (hop : S.pg x.at_ 0 ≠ 9) (hd : S.doR x = .ok x') : S.runS b x k = S.setP b x' ∧ S.runE b x = [] := by
 unfold St.runS St.runE;rw [if_neg (by omega), if_neg hop, hd, if_neg (by omega), if_neg hop];exact ⟨rfl, rfl⟩
theorem yB {t : Int × Int × Int × Int} (h : I4 S.pg x.at_ t) : S.doR x = x.do t.1 t.2.1 t.2.2.1 t.2.2.2 := by
 unfold St.doR;rw [h.1, h.2.1, h.2.2.1, h.2.2.2]
theorem J.st (h : J l r pn pg p c q W out B R w1 w2 ph ch) : (p.st = 1 ∨ (p.st = 4 ∧ ph = 2)) ∧ (c.st = 1 ∧ ch = 0 ∨ c.st = 5 ∧ ch = 1 ∨ c.st = 6 ∧ ch = 2) := by
 constructor
 · cases h.pa with
   | aw a => exact .inr ⟨a.1, a.2.2.2⟩
   | a2 a | a3 a | a4 a | a5 a | a6 a | a7 a | a8 a | a9 a | e9 a | b0 a | b1 a | b2 a | b3 _ a | b4 _ a | b5 _ a | b6 _ a | b7 _ a | b8 _ a | b9 a | e0 a => exact .inl a.1
 · cases h.ca with
   | ww _ _ _ a => exact .inr (.inl ⟨a.1, a.2.2.2⟩)
   | en a => exact .inr (.inr ⟨a.1, a.2.2.2⟩)
   | c2 _ a | c0 _ a | cs _ _ _ _ a | c1 _ _ _ _ a | ct _ _ _ _ a | w0 _ _ _ a | w1 _ _ _ a | w2 _ _ _ a | w3 _ _ _ a | e1 _ a => exact .inl ⟨a.1, a.2.2.2⟩
theorem J.par (h : J l r pn pg p c q W out B R w1 w2 ph ch) {B' out' : List Int} {w1' : Nat} (pa : PA r p'.st p'.at_ p'.r p'.m B' w1' ph) (hB : out' ++ (B' ++ (q ++ R)) = out ++ (B ++ (q ++ R))) (e : p'.id = p.id ∧ p'.par = p.par ∧ p'.f = p.f) : J l r pn pg p' c q W out' B' R w1' w2 ph ch :=
 { h with pa := pa, sum := hB.trans h.sum, pid := e.1.trans h.pid, ppar := e.2.1.trans h.ppar, pf := e.2.2.trans h.pf }
theorem cY (h : Is S p c q W) (hJ : J l r pn pg p c q W out B R w1 w2 ph ch) {t : Int × Int × Int × Int} (hi : I4 S.pg p.at_ t) (hat : p.at_ < S.pn) (hop : t.1 ≠ 9) (hd : p.do t.1 t.2.1 t.2.2.1 t.2.2.2 = .ok p') {w1' : Nat} (pa : PA r p'.st p'.at_ p'.r p'.m B w1' ph) (hw : w1' < w1) (e : p'.id = p.id ∧ p'.par = p.par ∧ p'.f = p.f) : Stp l r pn pg S 1 p k out ch (14 * (q.length + R.length) + w1 + w2) := by
 obtain ⟨e1, e2⟩ := qQ (k := k) (b := 1) hat (by rw [hi.1]; exact hop) ((yB hi).trans hd);refine ⟨[], e2, .inl ⟨p', c, q, W, B, R, w1', w2, ph, ch, by rw [e1]; exact h.set1, ?_, by omega, by simp [goneW]⟩⟩;have := hJ.par (out' := out) pa rfl e;simpa [outB] using this
theorem pW (h : Is S p c q W) (hJ : J l r pn pg p c q W out B R w1 w2 ph 0) {t : Int × Int × Int × Int} (hi : I4 S.pg c.at_ t) (hat : c.at_ < S.pn) (hop : t.1 ≠ 9) (hd : c.do t.1 t.2.1 t.2.2.1 t.2.2.2 = .ok c') {w2' : Nat} (ca : CA pn pg c'.st c'.at_ c'.r c'.m R w2' 0) (hw : w2' < w2) (e : c'.id = c.id ∧ c'.par = c.par ∧ c'.f = c.f) : Stp l r pn pg S 2 c k out 0 (14 * (q.length + R.length) + w1 + w2) := by
 obtain ⟨e1, e2⟩ := qQ (k := k) (b := 2) hat (by rw [hi.1]; exact hop) ((yB hi).trans hd);refine ⟨[], e2, .inl ⟨p, c', q, W, B, R, w1, w2', ph, 0, by rw [e1]; exact h.set2, ?_, by omega, by simp [goneW]⟩⟩;have h2 : J l r pn pg p c' q W out B R w1 w2' ph 0 := { hJ with ca := ca, cid := e.1.trans hJ.cid, cpar := e.2.1.trans hJ.cpar, cf := fun h => e.2.2.trans (hJ.cf h), cf2 := fun h => absurd h (by decide), l1 := fun h => absurd h (by decide) };simpa [outB] using h2
end
section
variable {l : List Int} {r pn : Nat} {pg : Nat → Nat → Int} {S : St} {p c p' c' x x' : PS} {q : List Int} {W : Wt} {out B R : List Int} {w1 w2 ph ch k b : Nat}
theorem vD : ∀ (vs : List Int) (x : PS) (i j : Nat) (v : Int), vs[j]? = some v → (x.poke i vs).m (i + j) = v
 | u :: vs, x, i, 0, v, h => by
   obtain rfl : u = v := by simpa using h
   have : ∀ (vs : List Int) (x : PS) (i j : Nat), j < i → (x.poke i vs).m j = x.m j := fun vs => by
     induction vs with
     | nil => intro x i j _; rfl
     | cons a vs ih =>
       intro x i j hj;refine (ih _ (i + 1) j (by omega)).trans ?_;show put x.m i a j = _;unfold put; rw [if_neg (by omega)]
   refine (this vs { x with m := put x.m i u } (i + 1) (i + 0) (by omega)).trans ?_;show put x.m i u (i + 0) = u;simp [put]
 | u :: vs, x, i, j + 1, v, h => by
   have := vD vs { x with m := put x.m i u } (i + 1) j v (by simpa using h);rw [show i + (j + 1) = i + 1 + j by omega];exact this
theorem yC (x : PS) (l : List Int) (h : x.r 1 = 10) : Mem (x.got l).m 10 (l.take (Nat.min l.length (x.r 2).toNat)) := fun j v hv => by
 show (x.poke (x.r 1).toNat _).m (10 + j) = v;rw [h];exact vD _ x 10 j v hv
theorem vE {m : Nat → Int} {a : Nat} {v : Int} {B : List Int} (h : Mem m a (v :: B)) : Mem m (a + 1) B := fun j u hu => by
 rw [show a + 1 + j = a + (j + 1) by omega];exact h (j + 1) u (by simpa using hu)
theorem tkd (q R : List Int) (k : Nat) : q.take k ++ (q.drop k ++ R) = q ++ R := by rw [← List.append_assoc, List.take_append_drop]
theorem BQ : put fP 1 (0, 0) = fR := by
 funext i
 unfold fP fR put;by_cases h : i = 1
 · subst h; rfl
 · simp [h]
theorem J.p4 (h : J l r pn pg p c q W out B R w1 w2 ph ch) : p.has (1, 4) = true ∧ (ph ≠ 0 → p.has (1, 5) = false) := by
 have e := h.pf;unfold PS.has;rw [e];by_cases h0 : ph = 0
 · rw [if_pos h0]; exact ⟨by decide, fun e => absurd h0 e⟩
 · rw [if_neg h0]; exact ⟨by decide, fun _ => by decide⟩
theorem J.c5 (h : J l r pn pg p c q W out B R w1 w2 ph ch) (hc : ch ≠ 2) : c.has (1, 5) = true := by
 unfold PS.has;rw [h.cf hc]; decide
theorem J.byt (h : J l r pn pg p c q W out B R w1 w2 ph ch) (hl : Byt l) : Byt B ∧ Byt R := by
 constructor
 · intro v hv; exact hl v (by rw [← h.sum]; simp [hv])
 · intro v hv; exact hl v (by rw [← h.sum]; simp [hv])
theorem dq (n : Int) {t : Int × Int × Int × Int} (hi : I4 S.pg x.at_ t) (hat : x.at_ < S.pn) (h9 : t.1 = 9) (hn : t.2.1 = n) : S.runE b x = (S.setP b x.next).grantE b x.next n ∧ ((S.setP b x.next).grantV b x.next n = none → S.runS b x k = (S.setP b x.next).grantS b x.next n k) := by
 obtain ⟨e1, e2, _⟩ := oE (S := S) (b := b) (c := k) hat (hi.1.trans h9);rw [hi.2.1, hn] at e1 e2;exact ⟨e1, e2⟩
theorem vF (hP : Pg r pn pg l) (hpg : S.pg = pg) (hpn : S.pn = pn) (h : Is S p c q W) (hJ : J l r pn pg p c q W out B R w1 w2 ph ch) (hs : p.st = 1) : Stp l r pn pg S 1 p k out ch (14 * (q.length + R.length) + w1 + w2) := by
 obtain ⟨K, hK⟩ := hP.k;have h23 : 23 ≤ S.pn := by rw [hpn]; exact hK.le
 have hi : ∀ i, p.at_ = i → i < 21 → I4 S.pg p.at_ (tb r i) ∧ p.at_ < S.pn := fun i e hi => ⟨by rw [hpg, e]; exact hP.h i hi, by omega⟩;have hr1 := hP.r1;have hr20 := hP.r20;obtain ⟨hbB, hbR⟩ := hJ.byt hP.b;obtain ⟨h4, h5⟩ := hJ.p4;cases hJ.pa with
 | a2 a hB h0 =>
   obtain ⟨i1, i2⟩ := hi 2 a.2.1 (by decide);exact cY (p' := { p with at_ := p.at_ + 1 }) h hJ i1 i2 (by simp [tb]) (by simp [tb, PS.do, h0]) (w1' := 9) (.a3 ⟨hs, by show p.at_ + 1 = 3; rw [a.2.1], rfl, a.2.2.2⟩ hB) (by rw [a.2.2.1]; decide) ⟨rfl, rfl, rfl⟩
 | a3 a hB =>
   obtain ⟨i1, i2⟩ := hi 3 a.2.1 (by decide);exact cY (p' := { p with at_ := p.at_ + 1, r := put p.r 0 1 }) h hJ i1 i2 (by simp [tb]) (by simp [tb, PS.do]) (w1' := 8) (.a4 ⟨hs, by show p.at_ + 1 = 4; rw [a.2.1], rfl, a.2.2.2⟩ hB rfl) (by rw [a.2.2.1]; decide) ⟨rfl, rfl, rfl⟩
 | a4 a hB h0 =>
   obtain ⟨i1, i2⟩ := hi 4 a.2.1 (by decide);obtain ⟨e1, e2⟩ := dq (b := 1) (k := k) 8 i1 i2 rfl rfl;have hI := h.set1 (p' := p.next);have hph : ph = 0 := a.2.2.2;have hf : p.f = fP := by rw [hJ.pf, if_pos hph]
   obtain ⟨z1, z2⟩ := hI.close (show p.next.r 0 = 1 from h0) (by show p.f 1 = _; rw [hf]; rfl) (by
     rw [hJ.w, if_neg (by omega)]
     split
     · rename_i e;refine .inr (.inr ⟨rfl, ?_, hJ.l1 e⟩);rw [Bool.or_eq_true];left;unfold PS.has;show ((List.range 6).any fun i => decide ((1, 4) = put p.f 1 (0, 0) i)) = true;rw [hf]; decide
     · exact .inl rfl)
   refine ⟨[], e1, .inl ⟨_, c, q, W, B, R, 7, w2, 1, ch, by rw [e2 z1]; exact z2, ?_, by rw [a.2.2.1]; omega, by simp [goneW]⟩⟩
   have := { hJ with
     pa := (.a5 ⟨hs, by show p.at_ + 1 = 5; rw [a.2.1], rfl, rfl⟩ hB : PA r ((({ p.next with f := put p.next.f 1 (0, 0) } : PS).r0 0)).st (({ p.next with f := put p.next.f 1 (0, 0) } : PS).r0 0).at_ (({ p.next with f := put p.next.f 1 (0, 0) } : PS).r0 0).r (({ p.next with f := put p.next.f 1 (0, 0) } : PS).r0 0).m B 7 1)
     pid := hJ.pid, ppar := hJ.ppar
     pf := (by show put p.f 1 (0, 0) = _; rw [hf, BQ]; rfl)
     w := (by rw [hJ.w, hph]; rfl)
     l2 := fun e => absurd e (by decide)
     l3 := fun e => absurd e (by decide) : J l r pn pg (({ p.next with f := put p.next.f 1 (0, 0) } : PS).r0 0) c q W out B R 7 w2 1 ch }
   simpa [outB] using this
 | a5 a hB =>
   obtain ⟨i1, i2⟩ := hi 5 a.2.1 (by decide);exact cY (p' := { p with at_ := p.at_ + 1, r := put p.r 0 0 }) h hJ i1 i2 (by simp [tb]) (by simp [tb, PS.do]) (w1' := 6) (.a6 ⟨hs, by show p.at_ + 1 = 6; rw [a.2.1], rfl, a.2.2.2⟩ hB rfl) (by rw [a.2.2.1]; decide) ⟨rfl, rfl, rfl⟩
 | a6 a hB h0 =>
   obtain ⟨i1, i2⟩ := hi 6 a.2.1 (by decide);exact cY (p' := { p with at_ := p.at_ + 1, r := put p.r 1 10 }) h hJ i1 i2 (by simp [tb]) (by simp [tb, PS.do]) (w1' := 5) (.a7 ⟨hs, by show p.at_ + 1 = 7; rw [a.2.1], rfl, a.2.2.2⟩ hB h0 rfl) (by rw [a.2.2.1]; decide) ⟨rfl, rfl, rfl⟩
 | a7 a hB h0 h1 =>
   obtain ⟨i1, i2⟩ := hi 7 a.2.1 (by decide);exact cY (p' := { p with at_ := p.at_ + 1, r := put p.r 2 r }) h hJ i1 i2 (by simp [tb]) (by
     have : (r : Int) % 65536 = r := by omega
     simp [tb, PS.do, this]) (w1' := 4) (.a8 ⟨hs, by show p.at_ + 1 = 8; rw [a.2.1], rfl, a.2.2.2⟩ hB h0 h1 rfl) (by rw [a.2.2.1]; decide) ⟨rfl, rfl, rfl⟩
 | a8 a hB h0 h1 h2 =>
   subst hB;obtain ⟨i1, i2⟩ := hi 8 a.2.1 (by decide);obtain ⟨e1, e2⟩ := dq (b := 1) (k := k) 9 i1 i2 rfl rfl;have hI := h.set1 (p' := p.next);have hph : ph = 1 := a.2.2.2;have hf : p.f = fR := by rw [hJ.pf, if_neg (by omega)]
   have hfl : p.next.file (p.next.r 0) = (1, 4) := by
     unfold PS.file;rw [show p.next.r 0 = 0 from h0, if_pos (by decide)];show p.f 0 = _;rw [hf]; rfl
   have h2' : p.next.r 2 = (r : Int) := h2
   have h1' : p.next.r 1 = 10 := h1
   have hck : p.next.checkUse 4 64 = none := by
     unfold PS.checkUse;rw [hfl, h1', h2', if_neg (by decide), if_neg (by omega), if_neg (by omega)]
   have hW := hJ.w;rw [if_neg (by omega)] at hW;obtain ⟨g1, g2', g3, g4, g5, g6⟩ := oF p.next q
   have gm := yC p.next q h1'
   rw [h2', Int.toNat_natCast] at g6 gm;generalize hkk : Nat.min q.length r = kk at g6 gm;have hkq : kk ≤ q.length := by rw [← hkk]; exact Nat.min_le_left _ _
   have hk0 : 0 < q.length → 0 < kk := fun e => by rw [← hkk]; exact Nat.lt_min.2 ⟨e, hr1⟩
   have htl : (q.take kk).length = kk := by rw [List.length_take]; omega
   have hdl : (q.drop kk).length = q.length - kk := List.length_drop;have hq8 := hJ.q8;have pgot : 0 < q.length → PA r (p.next.got q).st (p.next.got q).at_ (p.next.got q).r (p.next.got q).m (q.take kk) (6 * kk + 11) 1 := fun hq => by
     refine .a9 ⟨by rw [g4]; exact hs, by rw [g5]; show p.at_ + 1 = 9; rw [a.2.1], by rw [htl], rfl⟩ (fun e => ?_) (by rw [htl]; omega) gm (by rw [g6, htl]; rfl);rw [e] at htl;have := hk0 hq;simp at htl;omega
   have he1 : S.runE 1 p = ([] : List Wd).map Wd.v := e1;have hgf : (p.next.got q).f = if (1 : Nat) = 0 then fP else fR := by rw [g1]; exact hf
   by_cases hch : ch = 1
   · rw [if_pos hch] at hW;subst hW;have hcs : c.st = 5 := by rcases hJ.st.2 with e | e | e <;> omega
     have hl1 := hJ.l1 hch;cases hJ.ca with
     | ww K a' n cq ck cw cm c1 c2 =>
       have hn8 := ck.n8;have hn0 := ck.n0;have hnl := ck.nl;have hq0 : 0 < q.length := by omega
       have hk := hk0 hq0;obtain ⟨z1, z2⟩ := hI.read_both hs hcs hck hfl hq0 h4 hl1;rw [h2', Int.toNat_natCast, hkk] at z2;have hpk : c.peek (c.r 1).toNat (c.r 2).toNat = R.take n := by
         rw [c1, c2];show c.peek 0 n = _;unfold PS.peek;apply List.ext_getElem?;intro i;by_cases hin : i < n
         · obtain ⟨v, hv⟩ : ∃ v, R[i]? = some v := ⟨_, List.getElem?_eq_getElem (by omega)⟩;rw [List.getElem?_take_of_lt hin, List.getElem?_map, List.getElem?_range hin, hv];show some (c.m (0 + i)) = _;rw [Nat.zero_add, cm i v hin hv]
         · rw [List.getElem?_eq_none (by simp; omega), List.getElem?_eq_none (by rw [List.length_take]; omega)]
       have hRl : (R.take n).length = n := by rw [List.length_take]; omega
       have hRd : (R.drop n).length = R.length - n := List.length_drop;rcases z2 with ⟨y1, y2⟩ | ⟨y1, y2⟩
       · rw [hpk] at y2;refine ⟨[], he1, .inl ⟨_, _, _, _, q.take kk, R.drop n, 6 * kk + 11, w2, 1, 0, by rw [e2 z1]; exact y2, ?_, ?_, by rw [hch]; rfl⟩⟩
         · refine ⟨pgot hq0, .c0 K ⟨rfl, rfl, cq.2.2.1, rfl⟩ (by show Wr pn pg K (R.drop n) c.at_; rw [cq.2.1]; exact cw), ?_, by rw [List.length_append, hRl]; omega, by rw [g2']; exact hJ.pid, hJ.cid, by rw [g3]; exact hJ.ppar, hJ.cpar, hgf, fun _ => hJ.cf (by omega), fun e => absurd e (by decide), rfl, fun e => absurd e (by decide), fun e => absurd e (by decide), fun e => absurd e (by decide)⟩;have := hJ.sum;simp only [List.nil_append] at this;rw [← this];simp [outB, tkd]
         · rw [List.length_append, hRl, hRd, hdl, a.2.2.1]; omega
       · refine ⟨[], he1, .inl ⟨_, _, _, _, q.take kk, R, 6 * kk + 11, w2, 1, ch, by rw [e2 z1]; exact y2, ?_, ?_, by simp [goneW]⟩⟩
         · refine ⟨pgot hq0, hJ.ca, ?_, by omega, by rw [g2']; exact hJ.pid, hJ.cid, by rw [g3]; exact hJ.ppar, hJ.cpar, hgf, hJ.cf, hJ.cf2, by rw [if_neg (by decide), if_pos hch], fun e => absurd e (by decide), fun _ => y1, fun e => absurd e (by decide)⟩;have := hJ.sum;simp only [List.nil_append] at this;rw [← this];simp [outB, tkd]
         · rw [hdl, a.2.2.1]; omega
     | en a => have := a.2.2.2; omega
     | c2 _ a | c0 _ a | cs _ _ _ _ a | c1 _ _ _ _ a | ct _ _ _ _ a | w0 _ _ _ a | w1 _ _ _ a | w2 _ _ _ a | w3 _ _ _ a | e1 _ a => have := a.2.2.2; omega
   · rw [if_neg hch] at hW;subst hW;have hp5 : p.next.has (1, 5) = false := h5 (by omega)
     by_cases hq0 : 0 < q.length
     · have hk := hk0 hq0;obtain ⟨z1, z2⟩ := hI.read_some hs hck hfl (fun _ => hq0);rw [h2', Int.toNat_natCast, hkk] at z2;refine ⟨[], he1, .inl ⟨_, _, _, _, q.take kk, R, 6 * kk + 11, w2, 1, ch, by rw [e2 z1]; exact z2, ?_, ?_, by simp [goneW]⟩⟩
       · refine ⟨pgot hq0, hJ.ca, ?_, by omega, by rw [g2']; exact hJ.pid, hJ.cid, by rw [g3]; exact hJ.ppar, hJ.cpar, hgf, hJ.cf, hJ.cf2, by rw [if_neg (by decide), if_neg hch], fun e => absurd e (by decide), fun e => absurd e hch, fun e => absurd e (by decide)⟩;have := hJ.sum;simp only [List.nil_append] at this;rw [← this];simp [outB, tkd]
       · rw [hdl, a.2.2.1]; omega
     · obtain rfl : q = [] := List.length_eq_zero_iff.1 (by omega);rcases hJ.st.2 with ⟨e, e0⟩ | ⟨e, e0⟩ | ⟨e, e0⟩
       · subst e0;obtain ⟨z1, z2⟩ := hI.read_wait hck hfl (by rw [Bool.or_eq_true]; exact .inr (hJ.c5 (by decide)));refine ⟨[], he1, .inl ⟨_, _, _, _, [], R, 3, w2, 2, 0, by rw [e2 z1]; exact z2, ?_, by rw [a.2.2.1]; omega, by simp [goneW]⟩⟩;exact ⟨.aw ⟨rfl, by show p.at_ + 1 = 9; rw [a.2.1], rfl, rfl⟩ rfl h0 h1 h2, hJ.ca, by simpa [outB] using hJ.sum, by decide, hJ.pid, hJ.cid, hJ.ppar, hJ.cpar, hf, hJ.cf, hJ.cf2, rfl, fun _ => ⟨rfl, rfl⟩, fun e => absurd e (by decide), fun e => absurd e (by decide)⟩
       · exact absurd e0 hch
       · subst e0;have hR : R = [] := by
           cases hJ.ca with
           | en _ b => exact b
           | ww _ _ _ a => have := a.2.2.2; omega
           | c2 _ a | c0 _ a | cs _ _ _ _ a | c1 _ _ _ _ a | ct _ _ _ _ a | w0 _ _ _ a | w1 _ _ _ a | w2 _ _ _ a | w3 _ _ _ a | e1 _ a => have := a.2.2.2; omega
         obtain ⟨z1, z2⟩ := hI.read_some hs hck hfl (fun e => by
           rw [hp5, hJ.cf2 rfl] at e;cases e)
         rw [List.drop_nil] at z2;refine ⟨[], he1, .inl ⟨_, _, _, _, [], R, 3, w2, 3, 2, by rw [e2 z1]; exact z2, ?_, by rw [a.2.2.1]; omega, by simp [goneW]⟩⟩;refine ⟨.e9 ⟨by rw [g4]; exact hs, by rw [g5]; show p.at_ + 1 = 9; rw [a.2.1], rfl, rfl⟩ rfl ?_, hJ.ca, by simpa [outB] using hJ.sum, by decide, by rw [g2']; exact hJ.pid, hJ.cid, by rw [g3]; exact hJ.ppar, hJ.cpar, by rw [g1]; exact hf, hJ.cf, hJ.cf2, rfl, fun e => absurd e (by decide), fun e => absurd e (by decide), fun _ => ⟨rfl, rfl, hR⟩⟩;rw [g6];show ((kk : Nat) : Int) = 0;have : kk = 0 := by simp at hkq; omega
         rw [this]; rfl
 | aw a => have := a.1; omega
 | a9 a hB h8 hm h0 =>
   obtain ⟨i1, i2⟩ := hi 9 a.2.1 (by decide);have hne : p.r 0 ≠ 0 := by
     rw [h0];have := List.length_pos_iff.2 hB;omega
   exact cY (p' := { p with at_ := p.at_ + 1 }) h hJ i1 i2 (by simp [tb]) (by simp [tb, PS.do, hne]) (w1' := 6 * B.length + 10) (.b0 ⟨hs, by show p.at_ + 1 = 10; rw [a.2.1], rfl, a.2.2.2⟩ hB h8 hm h0) (by rw [a.2.2.1]; omega) ⟨rfl, rfl, rfl⟩
 | e9 a hB h0 =>
   obtain ⟨i1, i2⟩ := hi 9 a.2.1 (by decide);exact cY (p' := { p with at_ := 19 }) h hJ i1 i2 (by simp [tb]) (by simp [tb, PS.do, h0]) (w1' := 2) (.b9 ⟨hs, rfl, rfl, a.2.2.2⟩ hB) (by rw [a.2.2.1]; decide) ⟨rfl, rfl, rfl⟩
 | b0 a hB h8 hm h0 =>
   obtain ⟨i1, i2⟩ := hi 10 a.2.1 (by decide);exact cY (p' := { p with at_ := p.at_ + 1, r := put p.r 3 (p.r 0) }) h hJ i1 i2 (by simp [tb]) (by simp [tb, PS.do]) (w1' := 6 * B.length + 9) (.b1 ⟨hs, by show p.at_ + 1 = 11; rw [a.2.1], rfl, a.2.2.2⟩ hB h8 hm h0) (by rw [a.2.2.1]; omega) ⟨rfl, rfl, rfl⟩
 | b1 a hB h8 hm h3 =>
   obtain ⟨i1, i2⟩ := hi 11 a.2.1 (by decide);exact cY (p' := { p with at_ := p.at_ + 1, r := put p.r 4 10 }) h hJ i1 i2 (by simp [tb]) (by simp [tb, PS.do]) (w1' := 6 * B.length + 8) (.b2 ⟨hs, by show p.at_ + 1 = 12; rw [a.2.1], rfl, a.2.2.2⟩ hB h8 hm h3 rfl) (by rw [a.2.2.1]; omega) ⟨rfl, rfl, rfl⟩
 | b2 a hB h8 hm h3 h4' =>
   obtain ⟨i1, i2⟩ := hi 12 a.2.1 (by decide);exact cY (p' := { p with at_ := p.at_ + 1, r := put p.r 5 1 }) h hJ i1 i2 (by simp [tb]) (by simp [tb, PS.do]) (w1' := 6 * B.length + 7) (.b3 0 ⟨hs, by show p.at_ + 1 = 13; rw [a.2.1], rfl, a.2.2.2⟩ hB (by omega) hm h3 h4' rfl) (by rw [a.2.2.1]; omega) ⟨rfl, rfl, rfl⟩
 | b3 o a hB h8 hm h3 h4' h5' =>
   obtain ⟨i1, i2⟩ := hi 13 a.2.1 (by decide);have h1 : p.r 4 < 64 := by rw [h4']; omega
   exact cY (p' := { p with at_ := p.at_ + 1, r := put p.r 0 (p.m (p.r 4).toNat) }) h hJ i1 i2 (by simp [tb]) (by simp [tb, PS.do, h1]) (w1' := 6 * B.length + 6) (.b4 o ⟨hs, by show p.at_ + 1 = 14; rw [a.2.1], rfl, a.2.2.2⟩ hB h8 hm h3 h4' h5' (by
     show B.head? = some (p.m (p.r 4).toNat);rw [h4', Int.toNat_natCast];cases B with
     | nil => exact absurd rfl hB
     | cons v B => exact congrArg some (hm 0 v rfl).symm)) (by rw [a.2.2.1]; omega) ⟨rfl, rfl, rfl⟩
 | b4 o a hB h8 hm h3 h4' h5' hh =>
   obtain ⟨i1, i2⟩ := hi 14 a.2.1 (by decide);obtain ⟨e1, e2⟩ := dq (b := 1) (k := k) 11 i1 i2 rfl rfl;cases B with
   | nil => exact absurd rfl hB
   | cons v B =>
     have hv : v = p.r 0 := by simpa using hh
     have hvb := hbB v List.mem_cons_self;refine ⟨[((S.now : Int), 3, (p.id : Int), p.r 0 % 256)], e1, .inl ⟨p.next.r0 0, c, q, W, B, R, 6 * B.length + 11, w2, ph, ch, by rw [e2 rfl]; exact (h.set1.set1), ?_, by rw [a.2.2.1, List.length_cons]; omega, by simp [goneW]⟩⟩;refine hJ.par (.b5 o ⟨hs, by show p.at_ + 1 = 15; rw [a.2.1], rfl, a.2.2.2⟩ (by simp at h8; omega) (vE hm) (by show p.r 3 = _; rw [h3]; rfl) h4' h5') ?_ ⟨rfl, rfl, rfl⟩;have : p.r 0 % 256 = v := by rw [← hv]; omega
     simp [outB, this];omega
 | b5 o a h8 hm h3 h4' h5' =>
   obtain ⟨i1, i2⟩ := hi 15 a.2.1 (by decide);have e : (p.r 4 + p.r 5) % 65536 = ((10 + (o + 1) : Nat) : Int) := by rw [h4', h5']; omega
   exact cY (p' := { p with at_ := p.at_ + 1, r := put p.r 4 ((10 + (o + 1) : Nat) : Int) }) h hJ i1 i2 (by simp [tb]) (by simp [tb, PS.do, e]) (w1' := 6 * B.length + 10) (.b6 (o + 1) ⟨hs, by show p.at_ + 1 = 16; rw [a.2.1], rfl, a.2.2.2⟩ h8 hm h3 rfl h5') (by rw [a.2.2.1]; omega) ⟨rfl, rfl, rfl⟩
 | b6 o a h8 hm h3 h4' h5' =>
   obtain ⟨i1, i2⟩ := hi 16 a.2.1 (by decide);have e : (p.r 3 - p.r 5) % 65536 = (B.length : Nat) := by rw [h3, h5']; omega
   exact cY (p' := { p with at_ := p.at_ + 1, r := put p.r 3 ((B.length : Nat) : Int) }) h hJ i1 i2 (by simp [tb]) (by simp [tb, PS.do, e]) (w1' := 6 * B.length + 9) (.b7 o ⟨hs, by show p.at_ + 1 = 17; rw [a.2.1], rfl, a.2.2.2⟩ h8 hm rfl h4' h5') (by rw [a.2.2.1]; omega) ⟨rfl, rfl, rfl⟩
 | b7 o a h8 hm h3 h4' h5' =>
   obtain ⟨i1, i2⟩ := hi 17 a.2.1 (by decide);by_cases hB : B = []
   · have h0 : p.r 3 = 0 := by rw [h3, hB]; rfl
     exact cY (p' := { p with at_ := 5 }) h hJ i1 i2 (by simp [tb]) (by simp [tb, PS.do, h0]) (w1' := 7) (.a5 ⟨hs, rfl, rfl, a.2.2.2⟩ hB) (by rw [a.2.2.1]; omega) ⟨rfl, rfl, rfl⟩
   · have hne : p.r 3 ≠ 0 := by
       rw [h3];have := List.length_pos_iff.2 hB;omega
     exact cY (p' := { p with at_ := p.at_ + 1 }) h hJ i1 i2 (by simp [tb]) (by simp [tb, PS.do, hne]) (w1' := 6 * B.length + 8) (.b8 o ⟨hs, by show p.at_ + 1 = 18; rw [a.2.1], rfl, a.2.2.2⟩ hB h8 hm h3 h4' h5') (by rw [a.2.2.1]; omega) ⟨rfl, rfl, rfl⟩
 | b8 o a hB h8 hm h3 h4' h5' =>
   obtain ⟨i1, i2⟩ := hi 18 a.2.1 (by decide);exact cY (p' := { p with at_ := 13 }) h hJ i1 i2 (by simp [tb]) (by simp [tb, PS.do]) (w1' := 6 * B.length + 7) (.b3 o ⟨hs, rfl, rfl, a.2.2.2⟩ hB h8 hm h3 h4' h5') (by rw [a.2.2.1]; omega) ⟨rfl, rfl, rfl⟩
 | b9 a hB =>
   obtain ⟨i1, i2⟩ := hi 19 a.2.1 (by decide);exact cY (p' := { p with at_ := p.at_ + 1, r := put p.r 0 9 }) h hJ i1 i2 (by simp [tb]) (by simp [tb, PS.do]) (w1' := 1) (.e0 ⟨hs, by show p.at_ + 1 = 20; rw [a.2.1], rfl, a.2.2.2⟩ hB rfl) (by rw [a.2.2.1]; decide) ⟨rfl, rfl, rfl⟩
 | e0 a hB h0 =>
   obtain ⟨i1, i2⟩ := hi 20 a.2.1 (by decide);obtain ⟨e1, e2⟩ := dq (b := 1) (k := k) 0 i1 i2 rfl rfl;obtain ⟨hc2, hq, hR⟩ := hJ.l3 a.2.2.2;have hW := hJ.w;rw [if_neg (by have := a.2.2.2; omega), if_neg (by omega)] at hW;subst hW;have hcs : c.st = 6 := by rcases hJ.st.2 with e | e | e <;> omega
   obtain ⟨c', z⟩ := (h.set1 (p' := p.next)).fin1 hJ.pid (by show p.par ≠ 1; rw [hJ.ppar]; decide) (by show p.f = _; rw [hJ.pf, if_neg (by have := a.2.2.2; omega)]; rfl) (by omega) (p.next.r 0);refine ⟨[((S.now : Int), 4, (p.id : Int), p.r 0)], e1, .inr ⟨_, c', q, [], by rw [e2 rfl]; exact z, ⟨by rfl, by exact hJ.pid⟩, ?_, ?_⟩⟩
   · rw [← hJ.sum, hB, hq, hR]; simp [outB]
   · rw [hc2]; simp [gs, goneW, g2, h0, hJ.pid]
end
section
variable {l : List Int} {r pn : Nat} {pg : Nat → Nat → Int} {S : St} {p c p' c' x x' : PS} {q : List Int} {W : Wt} {out B R : List Int} {w1 w2 ph ch k b : Nat}
theorem sP {n : Nat} (cm : MemL c.m R n) (hnl : n ≤ R.length) : c.peek 0 n = R.take n := by
 unfold PS.peek;apply List.ext_getElem?;intro i;by_cases hin : i < n
 · obtain ⟨v, hv⟩ : ∃ v, R[i]? = some v := ⟨_, List.getElem?_eq_getElem (by omega)⟩;rw [List.getElem?_take_of_lt hin, List.getElem?_map, List.getElem?_range hin, hv];show some (c.m (0 + i)) = _;rw [Nat.zero_add, cm i v hin hv]
 · rw [List.getElem?_eq_none (by simp; omega), List.getElem?_eq_none (by rw [List.length_take]; omega)]
theorem vG (hP : Pg r pn pg l) (hpg : S.pg = pg) (hpn : S.pn = pn) (h : Is S p c q W) (hJ : J l r pn pg p c q W out B R w1 w2 ph ch) (hs : c.st = 1) : Stp l r pn pg S 2 c k out ch (14 * (q.length + R.length) + w1 + w2) := by
 obtain rfl : ch = 0 := by rcases hJ.st.2 with e | e | e <;> omega
 have hr1 := hP.r1;obtain ⟨hbB, hbR⟩ := hJ.byt hP.b;obtain ⟨h4, h5⟩ := hJ.p4;have hq8 := hJ.q8;have hin : ∀ {K : Nat} {i : Nat} {L : List Int} {a : Nat} {t : Int × Int × Int × Int}, Wr pn pg K L a → c.at_ = i → i + 1 ≤ a + 1 → I4 pg i t → I4 S.pg c.at_ t ∧ c.at_ < S.pn := fun {K i L a t} hw e ha hi => ⟨by rw [hpg, e]; exact hi, by have := hw.le; omega⟩;have sets : ∀ {i : Nat} {a v : Int} {w2' : Nat}, I4 S.pg c.at_ (1, a, v, 0) → c.at_ < S.pn → 0 ≤ v → v < 256 → CA pn pg c.st (c.at_ + 1) (put c.r (a % 8).toNat v) c.m R w2' 0 → w2' < w2 → Stp l r pn pg S 2 c k out 0 (14 * (q.length + R.length) + w1 + w2) := fun {i a v w2'} i1 i2 v0 v1 ca hw => by
   have e : v % 65536 = v := by omega
   exact pW (c' := { c with at_ := c.at_ + 1, r := put c.r (a % 8).toNat v }) h hJ i1 i2 (by simp) (by simp [PS.do, e]) ca hw ⟨rfl, rfl, rfl⟩
 cases hJ.ca with
 | c2 K a h0 hw =>
   have hi := hP.h 2 (by decide);have := hw.le;have hat := a.2.1;exact pW (c' := { c with at_ := 21 }) h hJ (t := tb r 2) (by rw [hpg, hat]; exact hi) (by omega) (by simp [tb]) (by simp [tb, PS.do, h0]) (w2' := pn - 21) (.c0 K ⟨hs, rfl, rfl, rfl⟩ hw) (by rw [a.2.2.1]; omega) ⟨rfl, rfl, rfl⟩
 | c0 K a hw =>
   cases K with
   | zero =>
     obtain ⟨hR, i0, i1, he⟩ := hw;refine sets (i := 0) (a := 0) (v := 3) (w2' := pn - (c.at_ + 1)) (by rw [hpg]; exact i0) (by omega) (by decide) (by decide) (.e1 c.at_ ⟨hs, rfl, rfl, rfl⟩ ⟨hR, i0, i1, he⟩ rfl) (by rw [a.2.2.1]; omega)
   | succ K =>
     obtain ⟨n, hc, hw⟩ := hw;have hwl := hw.le;have hn0 := hc.n0;have hnl := hc.nl;obtain ⟨v, hv⟩ : ∃ v, R[0]? = some v := ⟨_, List.getElem?_eq_getElem (by omega)⟩;obtain ⟨i0, _, _⟩ := hc.s 0 v hn0 hv;have hvb := hbR v (List.mem_of_getElem? hv);refine sets (i := 0) (a := 0) (v := v) (w2' := pn - (c.at_ + 1)) (by rw [hpg]; exact i0) (by omega) hvb.1 (by have := hvb.2; omega) (.c1 K c.at_ n 0 ⟨hs, rfl, rfl, rfl⟩ hc hw hn0 (fun i v hi => by omega) (by rw [hv]; rfl)) (by rw [a.2.2.1]; omega)
 | cs K a' n j a hc hw hj hm =>
   have hwl := hw.le;have hnl := hc.nl;have hat := a.2.1;obtain ⟨v, hv⟩ : ∃ v, R[j]? = some v := ⟨_, List.getElem?_eq_getElem (by omega)⟩;obtain ⟨i0, _, _⟩ := hc.s j v hj hv;have hvb := hbR v (List.mem_of_getElem? hv);refine sets (i := 0) (a := 0) (v := v) (w2' := pn - (c.at_ + 1)) (by rw [hpg, hat]; exact i0) (by omega) hvb.1 (by have := hvb.2; omega) (.c1 K a' n j ⟨hs, by rw [hat], rfl, rfl⟩ hc hw hj hm (by rw [hv]; rfl)) (by rw [a.2.2.1]; omega)
 | c1 K a' n j a hc hw hj hm hg =>
   have hwl := hw.le;have hn8 := hc.n8;have hat := a.2.1;obtain ⟨_, i1, _⟩ := hc.s j _ hj hg;refine sets (i := 0) (a := 1) (v := (j : Int)) (w2' := pn - (c.at_ + 1)) (by rw [hpg, hat]; exact i1) (by omega) (by omega) (by omega) (.ct K a' n j ⟨hs, by rw [hat], rfl, rfl⟩ hc hw hj hm (by rw [hg]; rfl) rfl) (by rw [a.2.2.1]; omega)
 | ct K a' n j a hc hw hj hm hg h1 =>
   have hwl := hw.le;have hn8 := hc.n8;have hat := a.2.1;obtain ⟨_, _, i2⟩ := hc.s j _ hj hg;have hvb := hbR _ (List.mem_of_getElem? hg);have e0 : c.r 0 % 256 = c.r 0 := by have := hvb.1; have := hvb.2; omega
   have e1 : (j : Int) < 64 := by omega
   have hm2 : MemL (put c.m j (c.r 0)) R (j + 1) := fun i v hi hv => by
     unfold put;by_cases e : i = j
     · subst e; rw [if_pos rfl]; rw [hg] at hv; exact Option.some.inj hv
     · rw [if_neg e]; exact hm i v (by omega) hv
   have ca : CA pn pg c.st (c.at_ + 1) c.r (put c.m j (c.r 0)) R (pn - (c.at_ + 1)) 0 := by
     by_cases e : j + 1 = n
     · exact .w0 K a' n ⟨hs, by rw [hat, ← e]; omega, rfl, rfl⟩ hc hw (e ▸ hm2)
     · exact .cs K a' n (j + 1) ⟨hs, by rw [hat]; omega, rfl, rfl⟩ hc hw (by omega) hm2
   exact pW (c' := { c with at_ := c.at_ + 1, m := put c.m j (c.r 0) }) h hJ (t := (8, 0, 1, 0)) (by rw [hpg, hat]; exact i2) (by omega) (by simp) (by simp [PS.do, h1, e0, e1]) ca (by rw [a.2.2.1]; omega) ⟨rfl, rfl, rfl⟩
 | w0 K a' n a hc hw hm =>
   have hwl := hw.le;have hat := a.2.1;refine sets (i := 0) (a := 0) (v := 1) (w2' := pn - (c.at_ + 1)) (by rw [hpg, hat]; exact hc.w0) (by omega) (by omega) (by omega) (.w1 K a' n ⟨hs, by rw [hat], rfl, rfl⟩ hc hw hm rfl) (by rw [a.2.2.1]; omega)
 | w1 K a' n a hc hw hm h0 =>
   have hwl := hw.le;have hat := a.2.1;refine sets (i := 0) (a := 1) (v := 0) (w2' := pn - (c.at_ + 1)) (by rw [hpg, hat]; exact hc.w1) (by omega) (by omega) (by omega) (.w2 K a' n ⟨hs, by rw [hat], rfl, rfl⟩ hc hw hm h0 rfl) (by rw [a.2.2.1]; omega)
 | w2 K a' n a hc hw hm h0 h1 =>
   have hwl := hw.le;have hn8 := hc.n8;have hat := a.2.1;refine sets (i := 0) (a := 2) (v := (n : Int)) (w2' := pn - (c.at_ + 1)) (by rw [hpg, hat]; exact hc.w2) (by omega) (by omega) (by omega) (.w3 K a' n ⟨hs, by rw [hat], rfl, rfl⟩ hc hw hm h0 h1 rfl) (by rw [a.2.2.1]; omega)
 | w3 K a' n a hc hw hm h0 h1 h2 =>
   have hwl := hw.le;have hn0 := hc.n0;have hn8 := hc.n8;have hnl := hc.nl;have hat := a.2.1;have i1 : I4 S.pg c.at_ (9, 10, 0, 0) := by rw [hpg, hat]; exact hc.w3
   obtain ⟨e1, e2⟩ := dq (b := 2) (k := k) 10 i1 (by omega) rfl rfl;have he1 : S.runE 2 c = ([] : List Wd).map Wd.v := e1;have hI := h.set2 (c' := c.next);have hf : c.f = fP := hJ.cf (by decide);have hfl : c.next.file (c.next.r 0) = (1, 5) := by
     unfold PS.file;rw [show c.next.r 0 = 1 from h0, if_pos (by decide)];show c.f 1 = _;rw [hf]; rfl
   have h2' : c.next.r 2 = (n : Int) := h2
   have h1' : c.next.r 1 = 0 := h1
   have hck : c.next.checkUse 5 8 = none := by
     unfold PS.checkUse;rw [hfl, h1', h2', if_neg (by decide), if_neg (by omega), if_neg (by omega)]
   have ho : (p.has (1, 4) || c.next.has (1, 4)) = true := by rw [h4]; rfl
   have hpk : c.next.peek (c.next.r 1).toNat (c.next.r 2).toNat = R.take n := by
     rw [h1', h2'];exact sP (c := c.next) hm hnl
   have hRl : (R.take n).length = n := by rw [List.length_take]; omega
   have hRd : (R.drop n).length = R.length - n := List.length_drop;have cg : CA pn pg c.next.gave.st c.next.gave.at_ c.next.gave.r c.next.gave.m (R.drop n) (pn - (c.at_ + 1)) 0 := .c0 K ⟨hs, rfl, rfl, rfl⟩ (by show Wr pn pg K (R.drop n) (c.at_ + 1); rw [hat]; exact hw)
   have hW := hJ.w;by_cases hph : ph = 2
   · rw [if_pos hph] at hW;obtain ⟨_, hq⟩ := hJ.l2 hph;subst hW hq;have hps : p.st = 4 := by
       cases hJ.pa with
       | aw a => exact a.1
       | a2 a | a3 a | a4 a | a5 a | a6 a | a7 a | a8 a | a9 a | e9 a | b0 a | b1 a | b2 a | b3 _ a | b4 _ a | b5 _ a | b6 _ a | b7 _ a | b8 _ a | b9 a | e0 a => have := a.2.2.2; omega
     obtain ⟨z1, z2⟩ := hI.write_both hs hps hck hfl ho (by rw [h2']; omega) (by rw [hpk, hRl]; exact hn0);rw [hpk] at z2;cases hJ.pa with
     | aw pq hB p0 p1 p2 =>
       subst hB;obtain ⟨g1, g2', g3, g4, g5, g6⟩ := oF p (R.take n);have gm := yC p (R.take n) p1;rw [p2, Int.toNat_natCast, hRl] at z2 g6 gm;generalize hkk : Nat.min n r = kk at z2 g6 gm;have hkn : kk ≤ n := by rw [← hkk]; exact Nat.min_le_left _ _
       have hk0 : 0 < kk := by rw [← hkk]; exact Nat.lt_min.2 ⟨hn0, hr1⟩
       have htl : ((R.take n).take kk).length = kk := by rw [List.length_take, hRl]; omega
       have hdl : ((R.take n).drop kk).length = n - kk := by rw [List.length_drop, hRl]
       refine ⟨[], he1, .inl ⟨_, _, _, _, (R.take n).take kk, R.drop n, 6 * kk + 11, pn - (c.at_ + 1), 1, 0, by rw [e2 z1]; exact z2, ?_, ?_, by simp [goneW]⟩⟩
       · refine ⟨.a9 ⟨rfl, by show (p.got (R.take n)).at_ = 9; rw [g5]; exact pq.2.1, by rw [htl], rfl⟩ (fun e => ?_) (by rw [htl]; omega) gm (by show (p.got (R.take n)).r 0 = _; rw [g6, htl]; rfl), cg, ?_, by omega, by show (p.got (R.take n)).id = 1; rw [g2']; exact hJ.pid, hJ.cid, by show (p.got (R.take n)).par = 0; rw [g3]; exact hJ.ppar, hJ.cpar, by show (p.got (R.take n)).f = _; rw [g1, hJ.pf, hph]; rfl, fun _ => hf, fun e => absurd e (by decide), rfl, fun e => absurd e (by decide), fun e => absurd e (by decide), fun e => absurd e (by decide)⟩
         · rw [e] at htl;simp at htl;omega
         · have := hJ.sum;simp only [List.nil_append] at this;rw [← this];rw [tkd, List.take_append_drop];simp [outB]
       · rw [hdl, hRd, pq.2.2.1, a.2.2.1];show 14 * (n - kk + (R.length - n)) + (6 * kk + 11) + (pn - (c.at_ + 1)) < 14 * (0 + R.length) + 3 + (pn - c.at_);omega
     | a2 a | a3 a | a4 a | a5 a | a6 a | a7 a | a8 a | a9 a | e9 a | b0 a | b1 a | b2 a | b3 _ a | b4 _ a | b5 _ a | b6 _ a | b7 _ a | b8 _ a | b9 a | e0 a => have := a.2.2.2; omega
   · rw [if_neg hph, if_neg (by decide)] at hW;subst hW;by_cases hfit : (q.length : Int) + n ≤ 8
     · obtain ⟨z1, z2⟩ := hI.write_ok hs hck hfl ho (by rw [h2']; exact hfit);rw [hpk] at z2;refine ⟨[], he1, .inl ⟨_, _, _, _, B, R.drop n, w1, pn - (c.at_ + 1), ph, 0, by rw [e2 z1]; exact z2, ?_, ?_, by simp [goneW]⟩⟩
       · refine ⟨hJ.pa, cg, ?_, by rw [List.length_append, hRl]; omega, hJ.pid, hJ.cid, hJ.ppar, hJ.cpar, hJ.pf, fun _ => hf, fun e => absurd e (by decide), by rw [if_neg hph]; rfl, fun e => absurd e hph, fun e => absurd e (by decide), fun e => by have := (hJ.l3 e).1; omega⟩;rw [List.append_assoc q, List.take_append_drop];simpa [outB] using hJ.sum
       · rw [List.length_append, hRl, hRd, a.2.2.1]; omega
     · obtain ⟨z1, z2⟩ := hI.write_wait hck hfl ho (by rw [h2']; omega);refine ⟨[], he1, .inl ⟨_, _, _, _, B, R, w1, pn - (c.at_ + 1), ph, 1, by rw [e2 z1]; exact z2, ?_, ?_, by simp [goneW]; rfl⟩⟩
       · exact ⟨hJ.pa, .ww K a' n ⟨rfl, by show c.at_ + 1 = _; rw [hat], rfl, rfl⟩ hc hw hm h1 h2, by simpa [outB] using hJ.sum, hq8, hJ.pid, hJ.cid, hJ.ppar, hJ.cpar, hJ.pf, fun _ => hf, fun e => absurd e (by decide), by rw [if_neg hph]; rfl, fun e => absurd e hph, fun _ => by show 8 < (q.length : Int) + c.r 2; rw [h2]; omega, fun e => by have := (hJ.l3 e).1; omega⟩
       · rw [a.2.2.1]; omega
 | ww _ _ _ a => have := a.1; omega
 | e1 a' a hw h0 =>
   obtain ⟨hR, i0, i1, he⟩ := hw;have hat := a.2.1;obtain ⟨e1, e2⟩ := dq (S := S) (x := c) (t := (9, 0, 0, 0)) (b := 2) (k := k) 0 (by rw [hpg, hat]; exact i1) (by omega) rfl rfl;have hf : c.f = fP := hJ.cf (by decide);have hW := hJ.w;have hst := hJ.st.1;have z := (h.set2 (c' := c.next)).fin2 (by
     by_cases hph : ph = 2
     · rw [if_pos hph] at hW;exact .inr ⟨hW, (hJ.l2 hph).2, by
         cases hJ.pa with
         | aw a => exact a.1
         | a2 a | a3 a | a4 a | a5 a | a6 a | a7 a | a8 a | a9 a | e9 a | b0 a | b1 a | b2 a | b3 _ a | b4 _ a | b5 _ a | b6 _ a | b7 _ a | b8 _ a | b9 a | e0 a => have := a.2.2.2; omega, h5 (by omega)⟩
     · rw [if_neg hph, if_neg (by decide)] at hW;exact .inl ⟨hW, by omega⟩) hJ.cid ⟨by rw [hJ.ppar]; decide, by show c.par ≠ 2; rw [hJ.cpar]; decide⟩ (by
       unfold PS.file;rw [show c.next.r 0 = 3 from h0, if_pos (by decide)];show c.f 3 = _;rw [hf]; rfl) hf (c.next.r 0)
   have h05 : ({ c.next with st := 6, stat := c.next.r 0, f := put (put c.next.f 0 (0, 0)) 1 (0, 0) } : PS).has (1, 5) = false := by
     show ((List.range 6).any fun i => decide ((1, 5) = put (put c.f 0 (0, 0)) 1 (0, 0) i)) = false;rw [hf]; decide
   have hg : gs 2 = gs 0 ++ (goneW [((S.now : Int), 4, (c.id : Int), c.r 0)]).map g2 := by simp [gs, goneW, g2, h0, hJ.cid]
   by_cases hph : ph = 2
   · rw [if_pos hph] at hW;obtain ⟨_, hq⟩ := hJ.l2 hph;subst hW hq;rw [if_neg (by simp)] at z;refine ⟨[((S.now : Int), 4, (c.id : Int), c.r 0)], e1, .inl ⟨_, _, _, _, [], R, 3, 0, 3, 2, by rw [e2 rfl]; exact z, ?_, ?_, hg⟩⟩
     · obtain ⟨g1, g2', g3, g4, g5, g6⟩ := oF p [];cases hJ.pa with
       | aw pq hB p0 p1 p2 =>
         subst hB;refine ⟨.e9 ⟨rfl, by show (p.got []).at_ = 9; rw [g5]; exact pq.2.1, rfl, rfl⟩ rfl (by show (p.got []).r 0 = 0; rw [g6]; exact congrArg (fun n : Nat => (n : Int)) (Nat.zero_min (p.r 2).toNat)), .en ⟨rfl, rfl, rfl, rfl⟩ hR, by simpa [outB] using hJ.sum, by decide, by show (p.got []).id = 1; rw [g2']; exact hJ.pid, hJ.cid, by show (p.got []).par = 0; rw [g3]; exact hJ.ppar, hJ.cpar, by show (p.got []).f = _; rw [g1, hJ.pf, hph]; rfl, fun e => absurd rfl e, fun _ => h05, rfl, fun e => absurd e (by decide), fun e => absurd e (by decide), fun _ => ⟨rfl, rfl, hR⟩⟩
       | a2 a | a3 a | a4 a | a5 a | a6 a | a7 a | a8 a | a9 a | e9 a | b0 a | b1 a | b2 a | b3 _ a | b4 _ a | b5 _ a | b6 _ a | b7 _ a | b8 _ a | b9 a | e0 a => have := a.2.2.2; omega
     · have : w1 = 3 := by
         cases hJ.pa with
         | aw a => exact a.2.2.1
         | a2 a | a3 a | a4 a | a5 a | a6 a | a7 a | a8 a | a9 a | e9 a | b0 a | b1 a | b2 a | b3 _ a | b4 _ a | b5 _ a | b6 _ a | b7 _ a | b8 _ a | b9 a | e0 a => have := a.2.2.2; omega
       rw [this, a.2.2.1]; omega
   · rw [if_neg hph, if_neg (by decide)] at hW;subst hW;rw [if_pos rfl] at z;refine ⟨[((S.now : Int), 4, (c.id : Int), c.r 0)], e1, .inl ⟨_, _, _, _, B, R, w1, 0, ph, 2, by rw [e2 rfl]; exact z, ?_, by rw [a.2.2.1]; omega, hg⟩⟩;exact ⟨hJ.pa, .en ⟨rfl, rfl, rfl, rfl⟩ hR, by simpa [outB] using hJ.sum, hq8, hJ.pid, hJ.cid, hJ.ppar, hJ.cpar, hJ.pf, fun e => absurd rfl e, fun _ => h05, by rw [if_neg hph]; rfl, fun e => absurd e hph, fun e => absurd e (by decide), fun e => by have := (hJ.l3 e).1; omega⟩
 | en a => have := a.1; omega
end
section
variable {n : Nat} {nap stt : Nat → Int} {T : St} {m b now : Nat} {D G : List Nat} {out : List Int} {x : PS} {L : List PS}
theorem kV (T : St) : T.next.pn = T.pn ∧ T.next.pg = T.pg ∧ T.next.now = T.now + 1 := by
 have hf := bP T;have hnow : T.next.now = T.now + 1 := by show (T.tickU (T.last + 1)).now + 1 = _; rw [lL]
 unfold St.next St.tickU at *
 cases h1 : T.lead.first with
 | none => rw [h1] at hnow; exact ⟨hf.pn, hf.pg, hnow⟩
 | some b =>
   rw [h1] at hnow;simp only at hnow ⊢;cases h2 : T.lead.get b with
   | none => rw [h2] at hnow; exact ⟨hf.pn, hf.pg, hnow⟩
   | some x =>
     rw [h2] at hnow;have h3 := (iK T.lead b x (T.last + 1)).1;have h4 := fU (T.lead.runS b x (T.last + 1)) b;exact ⟨h4.pn.trans (h3.pn.trans hf.pn), h4.pg.trans (h3.pg.trans hf.pg), hnow⟩
theorem vH (a b : List Wd) : outB (a ++ b) = outB a ++ outB b := by simp [outB]
theorem sQ (a b : List Wd) : goneW (a ++ b) = goneW a ++ goneW b := by simp [goneW]
theorem oI {f : Nat → List Int} {k : Nat} (hf : ∀ i, (f i).length = k) : ∀ n, ((List.range n).flatMap f).length = k * n
 | 0 => rfl
 | n + 1 => by rw [List.range_succ, List.flatMap_append, List.length_append, oI hf n]; simp [hf, Nat.mul_succ]
theorem xU {l : List Int} {p : Nat} {v : Int} (h : l[p]? = some v) : l.getD p 0 = v := by simp [List.getD, h]
end
section
variable {l : List Int} {r pn : Nat} {pg : Nat → Nat → Int} {S T : St} {p c p' c' x x' : PS} {q : List Int} {W : Wt} {out B R : List Int} {w1 w2 ph ch k b : Nat}
theorem iQ : ∀ (bs : List Nat) (S : St), (S.wakes bs).by_ = S.by_ ∧ (S.wakes bs).wt = S.wt
 | [], S => ⟨rfl, rfl⟩
 | b :: bs, S => by
   unfold St.wakes;cases S.get b with
   | none => exact iQ bs S
   | some x =>
     simp only
     split
     · exact iQ bs (S.wake1 b x)
     · exact iQ bs S
theorem iR : ∀ (bs : List Nat) (S : St), (S.lifts bs).by_ = S.by_ ∧ (S.lifts bs).wt = S.wt
 | [], S => ⟨rfl, rfl⟩
 | b :: bs, S => by
   unfold St.lifts;cases S.get b with
   | none => exact iR bs S
   | some x =>
     simp only
     split
     · exact iR bs (S.setP b { x with lv := 0, used := 0 })
     · exact iR bs S
theorem jH (S : St) : S.lead.by_ = S.by_ ∧ S.lead.wt = S.wt := by
 unfold St.lead St.boost;have h := iQ (S.ps.map (·.1)) S
 split
 · obtain ⟨_, e1, e2, _⟩ := eF (S.wake.lifts (S.wake.ps.map (·.1))) 2;obtain ⟨e3, e4⟩ := iR (S.wake.ps.map (·.1)) S.wake;exact ⟨e2.trans (e3.trans h.1), e1.trans (e4.trans h.2)⟩
 · exact h
theorem vI (S : St) (b : Nat) : (S.after b).by_ = S.by_ ∧ (S.after b).wt = S.wt := by
 unfold St.after
 split
 · split
   · unfold St.turn; split <;> exact ⟨rfl, rfl⟩
   · exact ⟨rfl, rfl⟩
 · exact ⟨rfl, rfl⟩
theorem yD (hT : TI id T) : (T.tickE = [evt T.now 2 0 0] ∧ ∀ z ∈ T.lead.vs, z.st ≠ 1) ∨
   ∃ b x, (b, x) ∈ T.lead.ps ∧ x.st = 1 ∧ T.tickE = evt T.now 1 x.id x.at_ :: T.lead.runE b x ∧ T.next.vs = (T.lead.runS b x (T.last + 1)).vs ∧ T.next.by_ = (T.lead.runS b x (T.last + 1)).by_ ∧ T.next.wt = (T.lead.runS b x (T.last + 1)).wt := by
 obtain ⟨hM, hv, hT', hc, hcase⟩ := ju hT;rcases hcase with ⟨e1, e2, e3, e4⟩ | ⟨b, x, hx, hst, e1, e2, e3⟩
 · exact .inl ⟨e3, e2⟩
 · refine .inr ⟨b, x, hx, hst, e1, e2, ?_⟩;cases hf : T.lead.first with
   | none =>
     exfalso;have hE : T.tickE = [evt T.lead.now 2 0 0] := by unfold St.tickE; rw [hf]
     rw [hE] at e1;have := congrArg (fun l => l.head?) e1;simp [evt] at this
   | some b' =>
     obtain ⟨x', hx', hs'⟩ := eG hM.i.g hf;have hE : T.tickE = evt T.lead.now 1 x'.id x'.at_ :: T.lead.runE b' x' := by unfold St.tickE; rw [hf]; simp only [bl hM.i.g.pn hx']
     have hid : x'.id = x.id := by
       rw [hE] at e1;have := congrArg (fun l => l.head?) e1;simp [evt] at this;omega
     have hbx := hM.x.idn _ hx' _ hx hid;obtain ⟨rfl, rfl⟩ : b' = b ∧ x' = x := by cases hbx; exact ⟨rfl, rfl⟩
     have hU : T.tickU (T.last + 1) = (T.lead.runS b' x' (T.last + 1)).after b' := by unfold St.tickU; rw [hf]; simp only [bl hM.i.g.pn hx']
     obtain ⟨y1, y2⟩ := vI (T.lead.runS b' x' (T.last + 1)) b';unfold St.next
     rw [hU];exact ⟨y1, y2⟩
theorem fX {p' p : PS} (h : vw p' = vw p) : p'.id = p.id ∧ p'.par = p.par ∧ p'.st = p.st ∧ p'.at_ = p.at_ ∧ p'.r = p.r ∧ p'.m = p.m ∧ p'.f = p.f := by
 have e1 := congrArg PS.id h;have e2 := congrArg PS.par h;have e3 := congrArg PS.st h;have e4 := congrArg PS.at_ h;have e5 := congrArg PS.r h;have e6 := congrArg PS.m h;have e7 := congrArg PS.f h;exact ⟨e1, e2, e3, e4, e5, e6, e7⟩
theorem kW (hX : XI id S) (hv : S.vs = [vw p, vw c]) (h1 : p.id = 1) (h2 : c.id = 2) : ∃ p' c', S.ps = [(1, p'), (2, c')] ∧ vw p' = vw p ∧ vw c' = vw c := by
 have hl : S.ps.length = 2 := by have := congrArg List.length hv; simpa [St.vs] using this
 have hnm := hX.nm;unfold St.vs at hv
 match hps : S.ps, hl with
 | [(a, p'), (d, c')], _ =>
   rw [hps] at hv hnm;obtain ⟨e1, e2⟩ : vw p' = vw p ∧ vw c' = vw c := by simpa using hv
   have n1 : a = p'.id := hnm (a, p') (by simp);have n2 : d = c'.id := hnm (d, c') (by simp);have i1 := (fX e1).1;have i2 := (fX e2).1;exact ⟨p', c', by rw [n1, n2, i1, i2, h1, h2], e1, e2⟩
theorem J.like (h : J l r pn pg p c q W out B R w1 w2 ph ch) (e1 : vw p' = vw p) (e2 : vw c' = vw c) : J l r pn pg p' c' q W out B R w1 w2 ph ch := by
 obtain ⟨a1, a2, a3, a4, a5, a6, a7⟩ := fX e1;obtain ⟨b1, b2, b3, b4, b5, b6, b7⟩ := fX e2;exact ⟨by rw [a3, a4, a5, a6]; exact h.pa, by rw [b3, b4, b5, b6]; exact h.ca, h.sum, h.q8, a1.trans h.pid, b1.trans h.cid, a2.trans h.ppar, b2.trans h.cpar, a7.trans h.pf, fun e => b7.trans (h.cf e), fun e => (yz b7 _).trans (h.cf2 e), h.w, h.l2, fun e => by rw [b5]; exact h.l1 e, h.l3⟩
theorem Is.vs (h : Is S p c q W) : S.vs = [vw p, vw c] := by unfold St.vs; rw [h.ps]; rfl
theorem xV (hT : TI id T) (h : Is T p c q W) (hJ : J l r pn pg p c q W out B R w1 w2 ph ch) : ∃ p' c', Is T.lead p' c' q W ∧ J l r pn pg p' c' q W out B R w1 w2 ph ch := by
 obtain ⟨hM, hv, _⟩ := ju hT;have hst := hJ.st;rw [h.vs] at hv;have e1 : wk T.now (vw p) = vw p := (vA _ _).2.2.2.2.2.2 (by show p.st ≠ 3; omega);have e2 : wk T.now (vw c) = vw c := (vA _ _).2.2.2.2.2.2 (by show c.st ≠ 3; omega);rw [List.map_cons, List.map_cons, List.map_nil, e1, e2] at hv;obtain ⟨p', c', f1, f2, f3⟩ := kW hM.x hv hJ.pid hJ.cid;obtain ⟨y1, y2⟩ := jH T;exact ⟨p', c', ⟨f1, by rw [y1]; exact h.y, by rw [y2]; exact h.w⟩, hJ.like f2 f3⟩
theorem xW (hT : TI id T) (hP : Pg r pn pg l) (hpg : T.pg = pg) (hpn : T.pn = pn) (h : Is T p c q W) (hJ : J l r pn pg p c q W out B R w1 w2 ph ch) : ∃ ws : List Wd, T.tickE = ws.map Wd.v ∧
   ((∃ p' c' q' W' B' R' w1' w2' ph' ch', Is T.next p' c' q' W' ∧ J l r pn pg p' c' q' W' (out ++ outB ws) B' R' w1' w2' ph' ch' ∧ 14 * (q'.length + R'.length) + w1' + w2' < 14 * (q.length + R.length) + w1 + w2 ∧ gs ch' = gs ch ++ (goneW ws).map g2) ∨
    T.next.isOver = true ∧ out ++ outB ws = l ∧ gs ch ++ (goneW ws).map g2 = [(2, 3), (1, 9)]) := by
 obtain ⟨p, c, h, hJ⟩ := xV hT h hJ;have hf := bP T;have hT' : TI id T.next := (ju hT).2.2.1
 rcases yD hT with ⟨_, e⟩ | ⟨b, x, hx, hst, e1, e2, e3, e4⟩
 · exfalso;have n1 := e _ (by rw [h.vs]; exact List.mem_cons_self);have n2 := e _ (by rw [h.vs]; exact List.mem_cons_of_mem _ List.mem_cons_self);have n1' : p.st ≠ 1 := n1;have n2' : c.st ≠ 1 := n2;rcases hJ.st.1 with e | ⟨_, e⟩
   · exact n1' e
   · have := (hJ.l2 e).1;rcases hJ.st.2 with e | e | e <;> omega
 · have key : Stp l r pn pg T.lead b x (T.last + 1) out ch (14 * (q.length + R.length) + w1 + w2) := by
     rw [h.ps] at hx;simp only [List.mem_cons, Prod.mk.injEq, List.not_mem_nil, or_false] at hx;rcases hx with ⟨rfl, rfl⟩ | ⟨rfl, rfl⟩
     · exact vF hP (hf.pg.trans hpg) (hf.pn.trans hpn) h hJ hst
     · exact vG hP (hf.pg.trans hpg) (hf.pn.trans hpn) h hJ hst
   obtain ⟨ws, k1, k2⟩ := key;refine ⟨((T.now : Int), 1, (x.id : Int), (x.at_ : Int)) :: ws, by rw [e1, k1]; rfl, ?_⟩;have o1 : outB (((T.now : Int), 1, (x.id : Int), (x.at_ : Int)) :: ws) = outB ws := by simp [outB]
   have o2 : goneW (((T.now : Int), 1, (x.id : Int), (x.at_ : Int)) :: ws) = goneW ws := by simp [goneW]
   rw [o1, o2];rcases k2 with ⟨p', c', q', W', B', R', w1', w2', ph', ch', z1, z2, z3, z4⟩ | ⟨p', c', q', W', z1, ⟨z2, z2'⟩, z3, z4⟩
   · left;rw [z1.vs] at e2;obtain ⟨p2, c2, f1, f2, f3⟩ := kW hT'.m.x e2 z2.pid z2.cid;exact ⟨p2, c2, q', W', B', R', w1', w2', ph', ch', ⟨f1, by rw [e3]; exact z1.y, by rw [e4]; exact z1.w⟩, z2.like f2 f3, z3, z4⟩
   · right;refine ⟨?_, z3, z4⟩;rw [z1.vs] at e2;have hm : vw p' ∈ T.next.vs := by rw [e2]; exact List.mem_cons_self
     obtain ⟨y, hy, ey⟩ := qO hm;unfold St.isOver;cases hfd : T.next.find 1 with
     | none => rfl
     | some q2 =>
       obtain ⟨hq, hq1⟩ := fQ hfd;have yid : y.2.id = 1 := (fX (p' := y.2) ey).1.trans z2';have := hT'.m.x.idn q2 hq y hy (by omega);rw [this];have yst : y.2.st = 6 := (fX (p' := y.2) ey).2.2.1.trans z2;simp [yst]
theorem Is.live (h : Is T p c q W) (hJ : J l r pn pg p c q W out B R w1 w2 ph ch) : T.isOver = false := by
 unfold St.isOver St.find;rw [h.ps, List.find?_cons_of_pos (by simp [hJ.pid])];have := hJ.st.1;simp; omega
theorem vJ (hP : Pg r pn pg l) : ∀ (N : Nat) (T : St) (p c : PS) (q : List Int) (W : Wt) (out B R : List Int) (w1 w2 ph ch : Nat), TI id T → T.pg = pg → T.pn = pn → Is T p c q W → J l r pn pg p c q W out B R w1 w2 ph ch → 14 * (q.length + R.length) + w1 + w2 < N →
   ∃ ws, St.evs N T = ws.map Wd.v ∧ out ++ outB ws = l ∧ gs ch ++ (goneW ws).map g2 = [(2, 3), (1, 9)] ∧ (St.runs N T).isOver = true
 | 0, T, p, c, q, W, out, B, R, w1, w2, ph, ch, hT, hpg, hpn, h, hJ, hw => by omega
 | N + 1, T, p, c, q, W, out, B, R, w1, w2, ph, ch, hT, hpg, hpn, h, hJ, hw => by
   have ho := h.live hJ;obtain ⟨ws, e1, hn⟩ := xW hT hP hpg hpn h hJ;have hev : St.evs (N + 1) T = T.tickE ++ St.evs N T.next := by
     show (if T.isOver then [] else T.tickE ++ St.evs N T.next) = _;rw [ho]; rfl
   have hru : St.runs (N + 1) T = St.runs N T.next := by
     show (if T.isOver then T else St.runs N T.next) = _;rw [ho]; rfl
   rw [hev, hru];rcases hn with ⟨p', c', q', W', B', R', w1', w2', ph', ch', f1, f2, f3, f4⟩ | ⟨f1, f2, f3⟩
   · obtain ⟨p1, p2, p3⟩ := kV T;have hT' : TI id T.next := (ju hT).2.2.1
     obtain ⟨ws2, q1, q2, q3, q4⟩ := vJ hP N T.next p' c' q' W' (out ++ outB ws) B' R' w1' w2' ph' ch' hT' (by rw [p2]; exact hpg) (by rw [p1]; exact hpn) f1 f2 (by omega)
     refine ⟨ws ++ ws2, by rw [e1, q1, List.map_append], ?_, ?_, q4⟩
     · rw [vH, ← List.append_assoc]; exact q2
     · rw [sQ, List.map_append, ← List.append_assoc, ← f4]; exact q3
   · exact ⟨ws, by rw [oG f1, List.append_nil, e1], f2, f3, by rw [sN f1]; exact f1⟩
end
end Go.Proofs.YtejkelcaljmnoaaGreatDoor
namespace Go.Lo
open Go.Conc Go.Hx
section
variable {P : Program} {N : Nat} {ε : Env} {L : Frag} {d : Option Tmp} {ty : TypeId} {ps : String} {af : Array Edge} {g : Option (Nat × Bool)} {x y : Operand} {t : TypeId} {l : List Int} {k : IntKind} {h : Int}
theorem oJ (l : List Int) (a b : Nat) (hb : b ≤ l.length) : (⟨(l.map fun n => UInt8.ofNat n.toNat).toArray⟩ : ByteArray).extract a b = ⟨(((l.take b).drop a).map fun n => UInt8.ofNat n.toNat).toArray⟩ := by
 apply ByteArray.ext;rw [ByteArray.data_extract];apply Array.ext';simp only [Array.toList_extract, List.extract_eq_take_drop, List.map_drop, List.map_take];rw [List.drop_take]
theorem vK (hu : P.underlying t = some .string) (hx : ev ε x = some (strv l) := by rfl) (hy : ev ε y = some (.int k h) := by rfl) (h0 : 0 ≤ h) (h1 : h ≤ l.length) :
   EY P N ε L ⟨d, .slice t x none (some y) none, ty, ps, af, g⟩ (strv (l.take h.toNat)) := fun _ ha => by
 refine cR (fun _ => rfl) fun K hK => ?_;have hsz : (⟨(l.map fun n => UInt8.ofNat n.toNat).toArray⟩ : ByteArray).size = l.length := by simp [ByteArray.size]
 simp only [Option.map_some, Option.map_none, ha.ev hx, ha.ev hy];unfold Instr.sliceAt;rw [ar, aH hu];simp only [strv];unfold Instr.slice;rw [ar, aH hu];simp only [Instr.sliceBounds, Option.isSome_none, Bool.false_eq_true, if_false];simp only [ar, bG];refine cG h0 (by rw [hsz]; exact h1) ?_;rw [oJ _ _ _ (by omega), List.drop_zero];exact hK
theorem yE (hu : P.underlying t = some .string) (hx : ev ε x = some (strv l) := by rfl) (hy : ev ε y = some (.int k h) := by rfl) (h0 : 0 ≤ h) (h1 : h ≤ l.length) :
   EY P N ε L ⟨d, .slice t x (some y) none none, ty, ps, af, g⟩ (strv (l.drop h.toNat)) := fun _ ha => by
 refine cR (fun _ => rfl) fun K hK => ?_;have hsz : (⟨(l.map fun n => UInt8.ofNat n.toNat).toArray⟩ : ByteArray).size = l.length := by simp [ByteArray.size]
 simp only [Option.map_some, Option.map_none, ha.ev hx, ha.ev hy];unfold Instr.sliceAt;rw [ar, aH hu];simp only [strv];unfold Instr.slice;rw [ar, aH hu];simp only [Instr.sliceBounds, Option.isSome_none, Bool.false_eq_true, if_false];simp only [ar, bG];refine cG h0 (by rw [hsz]; exact h1) ?_;rw [hsz, oJ _ _ _ (Nat.le_refl _), List.take_length];exact hK
end
end Go.Lo
namespace Go.Proofs.YtejkelcaljmnoaaGreatDoor
open Go.Conc Go.Hx Go.Lo
def putI (l : List Int) (at_ : Nat) (k : Int) : List Int := l.take (4 * at_) ++ insn 5 0 k ++ l.drop (4 * at_ + 4)
theorem vL {l : List Int} {at_ : Nat} {k : Int} (h : 4 * at_ + 4 ≤ l.length) : (putI l at_ k).length = l.length := by
 unfold putI;rw [List.length_append, List.length_append, List.length_take, List.length_drop];show min (4 * at_) l.length + 4 + _ = _;omega
theorem xX : ∃ n, ∀ {σ} {F : Fam σ} {Δ : DM F} {main s} (L : Frag) (l : List Int) (f u : Nat) (a b : Int), (∀ s o, (Δ s).New o) → Fun L → l.length < 10000 → 4 * f + 4 ≤ l.length → 4 * u + 4 ≤ l.length →
   CallsL Δ Tryz.prog main 25 [strv l, .int .i64 (f : Nat), .int .i64 a, .int .i64 (u : Nat), .int .i64 b].toArray n s L (fun s' v L' => s = s' ∧ v = strv (putI (putI l f a) u b) ∧ Ext L L') := by
 obtain ⟨n1, g1⟩ := pU;apply Exists.intro;intro σ F Δ main s L l f u a b hN hF hl hf hu;have wm : ∀ m : Nat, m < 10000 → IntKind.i64.wrap (4 * (m : Int)) = ((4 * m : Nat) : Int) := fun m hm => by simp [IntKind.wrap_i64]; omega
 have wp : ∀ m : Nat, m < 10000 → IntKind.i64.wrap (((4 * m : Nat) : Int) + 4) = ((4 * m + 4 : Nat) : Int) := fun m hm => by simp [IntKind.wrap_i64]; omega
 co_applyP aB 37 Tryz.func25 Tryz.ntmps25;co_applyP aa;co_applyP oan rfl;co_applyP aq;co_applyP bi L 5 aT;co_applyP tr 0 rfl (ae) pI;co_applyP tr 1 rfl (ae) pI;co_applyP tr 2 rfl (nt) pI;rw [wm f (by omega)];co_applyP tr 3 rfl (vK U9 (h0 := by omega) (h1 := by omega)) pI;co_applyP tr 4 rfl (ae) pI;co_applyP tr 7 rfl (ae) pI;co_applyP tr 8 rfl (ae) pI;co_applyP tr 9 rfl (nt) pI;rw [wm f (by omega)];co_applyP tr 10 rfl (aR) pI;rw [wp f (by omega)];co_applyP tr 11 rfl (yE U9 (h0 := by omega) (h1 := by omega)) pI;co_applyP tc 5 rfl rfl rfl (g1 L 5 0 a hN hF);rintro _ _ _ ⟨rfl, rfl, hE1⟩;refine ⟨ay (fun t h => hE1.s t h), ?_⟩;have q1 : (l.take ((4 * f : Nat) : Int).toNat).length + (insn 5 0 a).length < 1000000 := by rw [List.length_take]; show _ + 4 < _; omega
 co_applyP to 6 rfl (bQ) (ay (fun t h => hE1.s t h));have q2 : (l.take ((4 * f : Nat) : Int).toNat ++ insn 5 0 a).length + (l.drop ((4 * f + 4 : Nat) : Int).toNat).length < 1000000 := by rw [List.length_append, List.length_take, List.length_drop]; show _ + 4 + _ < _; omega
 co_applyP to 12 rfl (bQ) (ay (fun t h => hE1.s t h));co_applyP to 13 rfl (bL) (ay (fun t h => hE1.s t h));co_applyP td (by kernel_rfl);co_applyP aq;rename_i L1;have ep : l.take ((4 * f : Nat) : Int).toNat ++ insn 5 0 a ++ l.drop ((4 * f + 4 : Nat) : Int).toNat = putI l f a := rfl;rw [ep];have hpl := vL (k := a) hf;clear q1 q2 ep;co_applyP bi L1 5 aT;co_applyP tr 0 rfl (ae) pI;co_applyP tr 1 rfl (ae) pI;co_applyP tr 2 rfl (nt) pI;rw [wm u (by omega)];co_applyP tr 3 rfl (vK U9 (h0 := by omega) (h1 := by omega)) pI;co_applyP tr 4 rfl (ae) pI;co_applyP tr 7 rfl (ae) pI;co_applyP tr 8 rfl (ae) pI;co_applyP tr 9 rfl (nt) pI;rw [wm u (by omega)];co_applyP tr 10 rfl (aR) pI;rw [wp u (by omega)];co_applyP tr 11 rfl (yE U9 (h0 := by omega) (h1 := by omega)) pI;co_applyP tc 5 rfl rfl rfl (g1 L1 5 0 b hN hE1.f);rintro _ _ _ ⟨rfl, rfl, hE2⟩;refine ⟨ay (fun t h => hE2.s t h), ?_⟩;have q1 : ((putI l f a).take ((4 * u : Nat) : Int).toNat).length + (insn 5 0 b).length < 1000000 := by rw [List.length_take]; show _ + 4 < _; omega
 co_applyP to 6 rfl (bQ) (ay (fun t h => hE2.s t h));have q2 : ((putI l f a).take ((4 * u : Nat) : Int).toNat ++ insn 5 0 b).length + ((putI l f a).drop ((4 * u + 4 : Nat) : Int).toNat).length < 1000000 := by rw [List.length_append, List.length_take, List.length_drop]; show _ + 4 + _ < _; omega
 co_applyP to 12 rfl (bQ) (ay (fun t h => hE2.s t h));co_applyP to 13 rfl (bL) (ay (fun t h => hE2.s t h));co_applyP td (by kernel_rfl);co_applyP aK;change ∃ v, resE .. = some v ∧ _;exact ⟨_, rfl, rfl, rfl, hE1.trans hE2⟩
section
variable {K M : Nat} {A B : Lay} {S T : St} {F L L' L2 : Frag}
def Own (K : Nat) (A : Lay) (S : St) (b : Nat) : Prop := b = K ∨ (∃ q ∈ S.ps, b = q.1) ∨ (∃ i, (A.a i).b = some b) ∨ (∃ i, (A.y i).b = some b) ∨ b = A.wt
theorem Rep.own (h : Rep K A S F L) {b : Nat} (hb : Own K A S b) : ∃ o, (b, true, o) ∈ L ∧ ((∃ m c, o = Obj.map m c) ∨ ∃ cs e, o = Obj.cells cs e ∧ (e = 115 ∨ e = 99 ∨ e = 93 ∨ e = 5)) := by
 rcases hb with rfl | ⟨q, hq, rfl⟩ | ⟨i, hi⟩ | ⟨i, hi⟩ | rfl
 · exact ⟨_, h.k, .inr ⟨_, _, rfl, .inl rfl⟩⟩
 · exact ⟨_, h.p q hq, .inr ⟨_, _, rfl, .inr (.inl rfl)⟩⟩
 · obtain ⟨xs, hx⟩ := h.al i b hi;exact ⟨_, hx, .inr ⟨_, _, rfl, .inr (.inr (.inl rfl))⟩⟩
 · obtain ⟨xs, hx⟩ := h.yl i b hi;exact ⟨_, hx, .inr ⟨_, _, rfl, .inr (.inr (.inr rfl))⟩⟩
 · exact ⟨_, h.w, .inl ⟨_, _, rfl⟩⟩
theorem Rep.notown (h : Rep K A S F L) {b : Nat} {f : Bool} {cs : Array Value} {e : TypeId} (hm : (b, f, Obj.cells cs e) ∈ L) (he : e ≠ 115 ∧ e ≠ 99 ∧ e ≠ 93 ∧ e ≠ 5) : ¬ Own K A S b := fun hb => by
 obtain ⟨o, ho, h1⟩ := h.own hb;have e1 := (h.fn _ _ _ _ _ hm ho).2;rcases h1 with ⟨m, c, rfl⟩ | ⟨cs', e', rfl, h2⟩
 · cases e1
 · cases e1;rcases h2 with h2 | h2 | h2 | h2
   · exact he.1 h2
   · exact he.2.1 h2
   · exact he.2.2.1 h2
   · exact he.2.2.2 h2
theorem vM {b : Nat} (h : ¬ Own K A S b) : b ≠ K ∧ (∀ q ∈ S.ps, b ≠ q.1) ∧ (∀ i, (A.a i).b ≠ some b) ∧ (∀ i, (A.y i).b ≠ some b) ∧ b ≠ A.wt :=
 ⟨fun e => h (.inl e), fun q hq e => h (.inr (.inl ⟨q, hq, e⟩)), fun i e => h (.inr (.inr (.inl ⟨i, e⟩))), fun i e => h (.inr (.inr (.inr (.inl ⟨i, e⟩)))), fun e => h (.inr (.inr (.inr (.inr e))))⟩
theorem Rep.with (h : Rep K A S F L) {b : Nat} {cs : Array Value} {e : TypeId} (hm : (b, true, Obj.cells cs e) ∈ L) (he : e ≠ 115 ∧ e ≠ 99 ∧ e ≠ 93 ∧ e ≠ 5) : Rep K A S ((b, true, Obj.cells cs e) :: F) L :=
 { h with
   fr := fun t ht => by
     rcases List.mem_cons.1 ht with rfl | ht
     · exact hm
     · exact h.fr t ht
   fd := fun t ht => by
     rcases List.mem_cons.1 ht with rfl | ht
     · exact vM (h.notown hm he)
     · exact h.fd t ht }
theorem Rep.hold (h : Rep K A S F L) {a : Sl} {xs : List Value} {e : TypeId} (ha : slOk a xs e L) (he : e ≠ 115 ∧ e ≠ 99 ∧ e ≠ 93 ∧ e ≠ 5) : ∃ F', Rep K A S F' L ∧ (∀ t ∈ F, t ∈ F') ∧ ∀ L', (∀ t ∈ F', t ∈ L') → slOk a xs e L' := by
 cases hab : a.b with
 | none => exact ⟨F, h, fun _ x => x, fun L' _ => ha.mono fun b hb => by rw [hab] at hb; cases hb⟩
 | some b => exact ⟨_ :: F, h.with (ha.mem hab) he, fun _ x => List.mem_cons_of_mem _ x, fun L' hs => by unfold slOk; rw [hab]; exact hs _ List.mem_cons_self⟩
end
theorem vN : ∀ {a b : List Wd}, a.map Wd.v = b.map Wd.v → a = b
 | [], [], _ => rfl
 | [], _ :: _, h => by simp at h
 | _ :: _, [], h => by simp at h
 | (x1, x2, x3, x4) :: a, (y1, y2, y3, y4) :: b, h => by
   simp only [List.map_cons, List.cons.injEq] at h;have h1 : (Value.agg #[.int .i64 x1, .int .i64 x2, .int .i64 x3, .int .i64 x4]) = .agg #[.int .i64 y1, .int .i64 y2, .int .i64 y3, .int .i64 y4] := h.1;simp only [Value.agg.injEq, Array.mk.injEq, List.cons.injEq, Value.int.injEq, true_and, and_true] at h1;obtain ⟨e1, e2, e3, e4⟩ := h1;rw [e1, e2, e3, e4, vN h.2]
theorem zO {L : Frag} {b : Nat} {v : Int} (h : (b, true, Obj.cells #[.int .i64 v] 3) ∈ L) : ∀ i, i < [v].length → ∃ b', (some ⟨b, 0, none⟩ : Option Addr) = some ⟨b', 0, none⟩ ∧ At L b' i (.int .i64 ([v].getD i 0)) := fun i hi => by
 obtain rfl : i = 0 := by simp at hi; omega
 exact ⟨b, rfl, true, _, _, _, h, rfl⟩
theorem pX {a : Sl} {xs : List Value} {e : TypeId} {L : Frag} (h : slOk a xs e L) (hn : 0 < xs.length) : ∃ g, a.b = some g := by
 cases hab : a.b with
 | some g => exact ⟨g, rfl⟩
 | none =>
   unfold slOk at h;rw [hab] at h;rw [h.1] at hn;cases hn
end Go.Proofs.YtejkelcaljmnoaaGreatDoor
namespace Go.Lo
open Go.Conc Go.Hx
end Go.Lo
namespace Go.Proofs.YtejkelcaljmnoaaGreatDoor
open Go.Conc Go.Hx Go.Lo
structure KI (l : List Key) (n : Nat) : Prop where
 asc : (l.map (·.1)).Pairwise (· < ·)
 rng : ∀ e ∈ l, 1 ≤ e.1 ∧ e.1 ≤ n
 one : ∃ e ∈ l, e.1 = 1 ∧ e.2.1 = 0
 par : ∀ e ∈ l, e.1 ≠ 1 → e.2.1 ≠ 0 ∧ ∃ f ∈ l, f.1 = e.2.1 ∧ (f.2.2 = false ∨ f.1 = 1)
structure Gone (l : List Key) (n : Nat) (G : Nat → Bool) : Prop where
 e : ∀ e ∈ l, G e.1 = e.2.2
 hi : ∀ j, n < j → G j = false
 z : G 0 = false
theorem pY {c : Nat → Int} {bo : Int} {l : List Int} (hc : okc c bo = true) (hl : oki l.length = true) (hB : Byt l) : TI id (St.fresh c bo l 1) ∧ KI (St.fresh c bo l 1).sk (St.fresh c bo l 1).last ∧ Gone (St.fresh c bo l 1).sk (St.fresh c bo l 1).last (fun _ => false) := by
 have hps : (St.fresh c bo l 1).ps = [(1, PS.one)] := kR;have hsk : (St.fresh c bo l 1).sk = [(1, 0, false)] := by unfold St.sk; rw [hps]; rfl
 have hlast : (St.fresh c bo l 1).last = 1 := rfl;refine ⟨(oA hc hl hB).rename fun q hq => ?_, ?_, ?_⟩
 · rw [hps] at hq;rw [List.mem_singleton.1 hq]; rfl
 · rw [hsk, hlast];exact ⟨by simp, by simp, ⟨_, List.mem_cons_self, rfl, rfl⟩, by simp⟩
 · rw [hsk, hlast];exact ⟨by simp, fun _ _ => rfl, rfl⟩
theorem cM (op a k : Int) : (insn op a k).length = 4 := rfl
theorem fw {l m : List Int} (h : Byt l) (k : Byt m) : Byt (l ++ m) := fun n hn => by
 rcases List.mem_append.1 hn with h1 | h1
 · exact h n h1
 · exact k n h1
section
variable {N : Nat} {ε : Env} {L : Frag} {d : Option Tmp} {ty : TypeId} {ps : String} {af : Array Edge} {g : Option (Nat × Bool)} {x y : Operand}
theorem Bp {l : List Int} {i : Nat} {v : Int} (hl : Byt l) (hv : l[i]? = some v) (hx : ev ε x = some (strv l) := by rfl) (hy : ev ε y = some (.int .i64 (i : Nat)) := by rfl) : EY Tryz.prog N ε L ⟨d, .index 9 x y, ty, ps, af, g⟩ (.int .u8 v) := by
 refine qE (w := strv l) (j := .int .i64 (i : Nat)) ?_ hx hy;have hb := hl v (List.mem_of_getElem? hv);have hi := (List.getElem?_eq_some_iff.1 hv).1;have h1 : (⟨(l.map fun n => UInt8.ofNat n.toNat).toArray⟩ : ByteArray)[(i : Nat)]? = some (UInt8.ofNat v.toNat) := by
   show (if h : i < (⟨(l.map fun n => UInt8.ofNat n.toNat).toArray⟩ : ByteArray).size then some _ else none) = _;rw [dif_pos (by simpa [ByteArray.size] using hi)];congr 1;have := (List.getElem?_eq_some_iff.1 hv).2;show ((l.map fun n => UInt8.ofNat n.toNat).toArray)[i]'(by simpa using hi) = _;simp [this]
 have h2 : evR Tryz.prog (Instr.index 9 (strv l) (.int .i64 (i : Nat))) [] = evR Tryz.prog (match (if 0 ≤ (i : Int) then (⟨(l.map fun n => UInt8.ofNat n.toNat).toArray⟩ : ByteArray)[(i : Int).toNat]? else none) with | some b => pure (.int .u8 b.toNat) | none => boundsPanic .i64 (i : Int) (⟨(l.map fun n => UInt8.ofNat n.toNat).toArray⟩ : ByteArray).size .index) [] := by kernel_rfl
 rw [h2, if_pos (by omega), Int.toNat_natCast, h1];show some ((Value.int .u8 ((UInt8.ofNat v.toNat).toNat : Nat)), []) = _;have : ((UInt8.ofNat v.toNat).toNat : Int) = v := by simp; omega
 rw [this]
end
section
variable {l : List Int} {r pn : Nat} {pg : Nat → Nat → Int} {S T : St} {p c p' c' x x' : PS} {q : List Int} {W : Wt} {out B R : List Int} {w1 w2 ph ch k b : Nat}
theorem vO (hT : TI id T) (h : T.vs = [vw p]) (hs : p.st = 1) (hid : p.id = 1) : ∃ p', T.lead.ps = [(1, p')] ∧ vw p' = vw p := by
 obtain ⟨hM, hv, _⟩ := ju hT;rw [h, List.map_cons, List.map_nil, show wk T.now (vw p) = vw p from (vA _ _).2.2.2.2.2.2 (by show p.st ≠ 3; omega)] at hv;have hl : T.lead.ps.length = 1 := by have := congrArg List.length hv; simpa [St.vs] using this
 have hnm := hM.x.nm;unfold St.vs at hv
 match hps : T.lead.ps, hl with
 | [(a, p')], _ =>
   rw [hps] at hv hnm;have e1 : vw p' = vw p := by simpa using hv
   have n1 : a = p'.id := hnm (a, p') (by simp);exact ⟨p', by rw [n1, (fX e1).1, hid], e1⟩
theorem oK (hT : TI id T) (h : T.vs = [vw p]) (hs : p.st = 1) (hid : p.id = 1) : T.isOver = false ∧ ∃ p', T.lead.ps = [(1, p')] ∧ vw p' = vw p ∧ T.tickE = evt T.now 1 p'.id p'.at_ :: T.lead.runE 1 p' ∧ T.next.vs = (T.lead.runS 1 p' (T.last + 1)).vs ∧ T.next.by_ = (T.lead.runS 1 p' (T.last + 1)).by_ ∧ T.next.wt = (T.lead.runS 1 p' (T.last + 1)).wt := by
 obtain ⟨p', f1, f2⟩ := vO hT h hs hid;constructor
 · unfold St.isOver;cases hf : T.find 1 with
   | none =>
     obtain ⟨q, hq, hq1⟩ := hT.m.x.p1;unfold St.find at hf;have := List.find?_eq_none.1 hf q hq;simp at this;omega
   | some q =>
     obtain ⟨hq, hq1⟩ := fQ hf;have hm : vw q.2 ∈ T.vs := List.mem_map.2 ⟨q, hq, rfl⟩;rw [h, List.mem_singleton] at hm;have := (fX hm).2.2.1;simp; omega
 · rcases yD hT with ⟨_, e⟩ | ⟨b, x, hx, hst, e1, e2, e3, e4⟩
   · have := e (vw p') (by unfold St.vs; rw [f1]; exact List.mem_cons_self);exact absurd ((fX f2).2.2.1.trans hs) this
   · rw [f1] at hx;simp only [List.mem_cons, Prod.mk.injEq, List.not_mem_nil, or_false] at hx;obtain ⟨rfl, rfl⟩ := hx;exact ⟨x, f1, f2, e1, e2, e3, e4⟩
theorem qR {N : Nat} (h : T.isOver = false) : St.evs (N + 1) T = T.tickE ++ St.evs N T.next ∧ St.runs (N + 1) T = St.runs N T.next := by
 constructor
 · show (if T.isOver then [] else T.tickE ++ St.evs N T.next) = _;rw [h]; rfl
 · show (if T.isOver then T else St.runs N T.next) = _;rw [h]; rfl
theorem xY (S : St) (b : Nat) (x : PS) (c : Nat) : (S.forkS b x c).by_ = S.by_ := rfl
theorem xZ (S : St) (b : Nat) (x : PS) (c : Nat) : (S.forkS b x c).wt = S.wt := rfl
theorem qS (S : St) (b : Nat) (x : PS) : (S.setP b x).by_ = S.by_ ∧ (S.setP b x).wt = S.wt := ⟨rfl, rfl⟩
theorem zP {k : Nat × Nat} (h : p.f = fun _ => (0, 0)) (hk : k ≠ (0, 0)) : p.has k = false := by
 unfold PS.has;rw [h];simp [hk]
theorem zQ (hT : TI id T) (hP : Pg r pn pg l) (hpg : T.pg = pg) (hpn : T.pn = pn) (hps : T.vs = [vw PS.one]) (hw : T.wt = []) (hl : T.last = 1) {N : Nat} (hN : 14 * l.length + 10 + (pn - 20) < N) :
   ∃ ws, St.evs (N + 2) T = ws.map Wd.v ∧ outB ws = l ∧ (goneW ws).map g2 = [(2, 3), (1, 9)] ∧ (St.runs (N + 2) T).isOver = true := by
 obtain ⟨K, hK⟩ := hP.k;have h23 : 23 ≤ pn := hK.le;have hf := bP T;obtain ⟨o1, p, f1, f2, e1, e2, e3, e4⟩ := oK hT hps rfl rfl;obtain ⟨a1, a2, a3, a4, a5, a6, a7⟩ := fX f2;have a3' : p.st = 1 := a3;have a4' : p.at_ = 0 := a4;have a7' : p.f = fun _ => (0, 0) := a7;have i0 : I4 T.lead.pg p.at_ (tb r 0) := by rw [hf.pg, hpg, a4']; exact hP.h 0 (by decide)
 obtain ⟨t1, t2⟩ := dq (b := 1) (k := T.last + 1) 7 i0 (by rw [hf.pn, hpn, a4']; omega) rfl rfl;have hS : (T.lead.setP 1 p.next).ps = [(1, p.next)] := by show T.lead.ps.map _ = _; rw [f1]; rfl
 have hun : (T.lead.setP 1 p.next).unused = 1 := by
   have hno : ∀ k, k ≠ (0, 0) → (T.lead.setP 1 p.next).isOpen k = false := fun k hk => by
     unfold St.isOpen;rw [hS];simp [zP (p := p.next) a7' hk]
   have hs1 : (T.lead.setP 1 p.next).shutAt 1 = true := by unfold St.shutAt; rw [hno _ (by decide), hno _ (by decide)]; rfl
   unfold St.unused;rw [show List.range' 1 4 = 1 :: List.range' 2 3 from rfl, List.find?_cons_of_pos hs1]
 have hfr : p.next.frees 6 = [0, 1, 2, 3, 4, 5] := by
   unfold PS.frees;rw [show p.next.f = _ from a7'];decide
 have hpr : (T.lead.setP 1 p.next).pipeR 1 p.next = (none, ((T.lead.setP 1 p.next).setY 1 []).setP 1 (p.next.piped 1 0 1)) := by
   unfold St.pipeR;rw [hun, hfr, if_neg (by decide)]
 have hrs : T.lead.runS 1 p (T.last + 1) = ((T.lead.setP 1 p.next).setY 1 []).setP 1 (p.next.piped 1 0 1) := by
   rw [t2 (by show ((T.lead.setP 1 p.next).pipeR 1 p.next).1 = none; rw [hpr])];show ((T.lead.setP 1 p.next).pipeR 1 p.next).2 = _;rw [hpr]
 have hT1 : TI id T.next := (ju hT).2.2.1
 obtain ⟨p1, p2, p3⟩ := kV T;have hv1 : T.next.vs = [vw (p.next.piped 1 0 1)] := by
   rw [e2, hrs];unfold St.vs;show ((T.lead.setP 1 p.next).ps.map _).map _ = _;rw [hS]; rfl
 have hy1 : T.next.by_ 1 = [] := by rw [e3, hrs]; rfl
 have hw1 : T.next.wt = [] := by rw [e4, hrs]; exact ((jH T).2.trans hw)
 have hl1 : T.next.last = 1 := by
   rcases ju hT with ⟨_, _, _, _, h | ⟨b, x, hx, _, h1, h2, h3⟩⟩
   · exact h.2.2.2.trans hl
   · rw [f1] at hx;simp only [List.mem_cons, Prod.mk.injEq, List.not_mem_nil, or_false] at hx;obtain ⟨rfl, rfl⟩ := hx;rw [h3, hrs];exact (cL T).trans hl
 have hf' := bP T.next
 obtain ⟨o2, u, g1, g2', j1, j2, j3, j4⟩ := oK hT1 hv1 a3' a1;obtain ⟨b1, b2, b3, b4, b5, b6, b7⟩ := fX g2';have b4' : u.at_ = 1 := b4.trans (by show p.at_ + 1 = 1; rw [a4']);have b3' : u.st = 1 := b3.trans a3';have i1 : I4 T.next.lead.pg u.at_ (tb r 1) := by rw [hf'.pg, p2, hpg, b4']; exact hP.h 1 (by decide)
 obtain ⟨hM1, _, hT2, hc1, _⟩ := ju hT1;obtain ⟨k1, k2, k3⟩ := vB (c := T.next.last + 1) hM1 (show (1, u) ∈ T.next.lead.ps by rw [g1]; exact List.mem_cons_self) b3' (by rw [hf'.pn, p1, hpn, b4']; omega) i1.1 i1.2.1 (by rw [g1]; show 1 < 8; decide) hc1 (by rw [cL]; rfl);have hvl : T.next.lead.vs = [vw u] := by unfold St.vs; rw [g1]; rfl
 rw [cL, hl1, hvl] at k1;have hv2 : T.next.next.vs = [vw (u.next.r0 2), vw { u.next.copy.r0 0 with id := 2, st := 1 }] := by
   rw [j2, hl1, k1];show [if (vw u).id = (vw u).id then _ else _] ++ _ = _;rw [if_pos rfl]; rfl
 obtain ⟨t3, t4⟩ := dq (b := 1) (k := T.next.last + 1) 1 i1 (by rw [hf'.pn, p1, hpn, b4']; omega) rfl rfl;have hpl : ¬ 8 ≤ (T.next.lead.setP 1 u.next).ps.length := by rw [d7, g1]; show ¬ 8 ≤ 1; decide
 have hrs2 : T.next.lead.runS 1 u (T.next.last + 1) = (T.next.lead.setP 1 u.next).forkS 1 u.next (T.next.last + 1) := by
   rw [t4 (by show (if 8 ≤ (T.next.lead.setP 1 u.next).ps.length then some 4 else none) = none; rw [if_neg hpl])];show (if 8 ≤ (T.next.lead.setP 1 u.next).ps.length then _ else _) = _;rw [if_neg hpl]
 have hy2 : T.next.next.by_ 1 = [] := by rw [j3, hrs2, xY, (qS _ _ _).1, (jH T.next).1]; exact hy1
 have hw2 : T.next.next.wt = [] := by rw [j4, hrs2, xZ, (qS _ _ _).2, (jH T.next).2]; exact hw1
 have uid : u.id = 1 := b1.trans a1;obtain ⟨P, C, m1, m2, m3⟩ := kW hT2.m.x hv2 uid rfl;have uf : u.f = fP := by rw [b7]; show put (put p.f 0 (1, 4)) 1 (1, 5) = _; rw [a7']; rfl
 have hJ : J l r pn pg (u.next.r0 2) { u.next.copy.r0 0 with id := 2, st := 1 } [] [] [] [] l 10 (pn - 20) 0 0 :=
   ⟨.a2 ⟨b3', by show u.at_ + 1 = 2; rw [b4'], rfl, rfl⟩ rfl rfl, .c2 K ⟨rfl, by show u.at_ + 1 = 2; rw [b4'], rfl, rfl⟩ rfl hK, rfl, by decide, uid, rfl, b2.trans a2, uid, uf, fun _ => uf, fun e => absurd e (by decide), rfl, fun e => absurd e (by decide), fun e => absurd e (by decide), fun e => absurd e (by decide)⟩
 obtain ⟨q1, q2, q3⟩ := kV T.next
 obtain ⟨ws, r1, r2, r3, r4⟩ := vJ hP N T.next.next P C [] [] [] [] l 10 (pn - 20) 0 0 hT2 (by rw [q2, p2]; exact hpg) (by rw [q1, p1]; exact hpn) ⟨m1, hy2, hw2⟩ (hJ.like m2 m3) (by simpa using (by omega : 14 * l.length + 10 + (pn - 20) < N))
 obtain ⟨s1, s2⟩ := qR (N := N + 1) o1;obtain ⟨s3, s4⟩ := qR (N := N) o2;have t1' : T.lead.runE 1 p = [] := t1;have t3' : T.next.lead.runE 1 u = [] := t3
 refine ⟨((T.now : Int), 1, (p.id : Int), (p.at_ : Int)) :: ((T.next.now : Int), 1, (u.id : Int), (u.at_ : Int)) :: ws, ?_, ?_, ?_, ?_⟩
 · rw [s1, s3, e1, j1, t1', t3', r1]; rfl
 · simpa [outB] using r2
 · simpa [goneW, gs] using r3
 · rw [s2, s4]; exact r4
end
def chkI (w : Nat) (l : List Int) (n : Nat) : List Int := (List.range n).flatMap fun j => insn 1 0 (l.getD j 0) ++ insn 1 1 (j : Nat) ++ insn 8 0 1
def cwI (w : Nat) : Nat → List Int → List Int
 | 0, _ => trapI 0 [3]
 | K + 1, l => chkI w l (min w l.length) ++ trapI 10 [1, 0, ((min w l.length : Nat) : Int)] ++ cwI w K (l.drop w)
def Nc (w : Nat) : Nat → List Int → Prop
 | 0, l => l = []
 | K + 1, l => l ≠ [] ∧ Nc w K (l.drop w)
def pipP (r : Int) (a b : Int) : List Int := trapI 7 [] ++ trapI 1 [] ++ insn 5 0 a ++ trapI 8 [1] ++ trapI 9 [0, 10, r] ++ insn 5 0 b ++ insn 2 3 0 ++ insn 1 4 10 ++ insn 1 5 1 ++ insn 7 0 4 ++ insn 9 11 0 ++ insn 3 4 5 ++ insn 4 3 5 ++ insn 5 3 5 ++ insn 6 0 13 ++ trapI 0 [9]
theorem yF {w : Nat} (hw : 0 < w) : ∀ (m : Nat) (l : List Int), l.length ≤ m → ∃ K, K ≤ m ∧ Nc w K l
 | 0, l, h => ⟨0, Nat.le_refl _, List.length_eq_zero_iff.1 (by omega)⟩
 | m + 1, l, h => by
   by_cases e : l = []
   · exact ⟨0, by omega, e⟩
   · obtain ⟨K, h1, h2⟩ := yF hw m (l.drop w) (by
       have := List.length_pos_iff.2 e;rw [List.length_drop]; omega)
     exact ⟨K + 1, by omega, e, h2⟩
theorem gG (w : Nat) (l : List Int) (n : Nat) : (chkI w l n).length = 12 * n := oI (k := 12) (fun i => rfl) n
theorem p9 {w : Nat} : ∀ (K : Nat) (l : List Int), (cwI w K l).length ≤ 16 * K + 12 * l.length + 8 ∧ (cwI w K l).length % 4 = 0 ∧ 8 ≤ (cwI w K l).length
 | 0, l => by
   have e : (cwI w 0 l).length = 8 := rfl;omega
 | K + 1, l => by
   obtain ⟨h1, h2, h3⟩ := p9 (w := w) K (l.drop w);unfold cwI;rw [List.length_append, List.length_append, gG, show (trapI 10 [1, 0, ((min w l.length : Nat) : Int)]).length = 16 from rfl];rw [List.length_drop] at h1;omega
theorem vP {w : Nat} : ∀ (K : Nat) (l : List Int), Byt (cwI w K l)
 | 0, l => fw (dG 1 0 3) (dG 9 0 0)
 | K + 1, l => fw (fw (fun v hv => by
     obtain ⟨i, _, h2⟩ := List.mem_flatMap.1 hv;exact fw (fw (dG _ _ _) (dG _ _ _)) (dG _ _ _) v h2) (fw (fw (dG _ _ _) (fw (dG _ _ _) (dG _ _ _))) (dG _ _ _))) (vP K _)
def Cd (I : List Int) (a : Nat) (code : List Int) : Prop := ∀ i v, code[i]? = some v → I.getD (4 * a + i) 0 = v
theorem Cd.app {I : List Int} {a n : Nat} {x y : List Int} (h : Cd I a (x ++ y)) (hx : x.length = 4 * n) : Cd I a x ∧ Cd I (a + n) y := by
 constructor
 · intro i v hv;exact h i v (by rw [List.getElem?_append_left (List.getElem?_eq_some_iff.1 hv).1]; exact hv)
 · intro i v hv;have := h (x.length + i) v (by rw [List.getElem?_append_right (by omega)]; simpa using hv);rw [hx] at this;rw [show 4 * (a + n) + i = 4 * a + (4 * n + i) by omega]; exact this
theorem Cd.i4 {I : List Int} {a : Nat} {op x k : Int} (h : Cd I a (insn op x k)) (h1 : 0 ≤ op ∧ op < 256 := by omega) (h2 : 0 ≤ x ∧ x < 256 := by omega) (h3 : 0 ≤ k ∧ k < 256 := by omega) : I4 (fun i j => I.getD (4 * i + j) 0) a (op, x, k, 0) :=
 ⟨(h 0 _ rfl).trans (by show op % 256 = op; omega), (h 1 _ rfl).trans (by show x % 256 = x; omega), (h 2 _ rfl).trans (by show k % 256 = k; omega), (h 3 _ rfl).trans (by show (k / 256) % 256 = 0; omega)⟩
theorem Cd.chk {I : List Int} {w a : Nat} {l : List Int} : ∀ {n : Nat}, Cd I a (chkI w l n) → ∀ j, j < n → Cd I (a + 3 * j) (insn 1 0 (l.getD j 0) ++ insn 1 1 (j : Nat) ++ insn 8 0 1)
 | n + 1, h, j, hj => by
   unfold chkI at h;rw [List.range_succ, List.flatMap_append] at h;obtain ⟨h1, h2⟩ := h.app (n := 3 * n) ((gG w l n).trans (by omega));by_cases e : j = n
   · subst e; simpa using h2
   · exact Cd.chk (w := w) (n := n) h1 j (by omega)
theorem yG {I : List Int} {w : Nat} (hw : 0 < w) (hw8 : w ≤ 8) : ∀ (K : Nat) (l : List Int) (a : Nat), Byt l → Nc w K l → Cd I a (cwI w K l) → 4 * a + (cwI w K l).length = I.length → Wr (I.length / 4) (fun i j => I.getD (4 * i + j) 0) K l a
 | 0, l, a, hb, hn, hc, he => by
   obtain ⟨h1, h2⟩ := hc.app (n := 1) (x := insn 1 0 3) (y := insn 9 0 0) rfl;refine ⟨hn, h1.i4, h2.i4, ?_⟩;have : (cwI w 0 l).length = 8 := rfl;omega
 | K + 1, l, a, hb, ⟨hne, hn⟩, hc, he => by
   have hpos := List.length_pos_iff.2 hne;generalize hm : min w l.length = n;unfold cwI at hc he;rw [hm] at hc he;obtain ⟨h1, h2⟩ := hc.app (n := 3 * n + 4) (by rw [List.length_append, gG]; show 12 * n + 16 = _; omega);obtain ⟨h3, h4⟩ := h1.app (n := 3 * n) (by rw [gG]; omega);obtain ⟨h5, h6⟩ := h4.app (n := 3) (x := insn 1 0 1 ++ (insn 1 1 0 ++ (insn 1 2 (n : Int) ++ []))) (y := insn 9 10 0) rfl;obtain ⟨h7, h8⟩ := h5.app (n := 1) rfl;obtain ⟨h9, h10⟩ := h8.app (n := 1) rfl;have hd : l.drop n = l.drop w := by
     by_cases e : w ≤ l.length
     · rw [show n = w by omega]
     · rw [List.drop_eq_nil_of_le (by omega), List.drop_eq_nil_of_le (by omega)]
   refine ⟨n, ⟨by omega, by omega, by omega, fun j v hj hv => ?_, h7.i4, h9.i4, ?_, h6.i4⟩, ?_⟩
   · have hv2 := hb v (List.mem_of_getElem? hv);have hg := h3.chk j hj;rw [show l.getD j 0 = v by simp [List.getD, hv]] at hg;obtain ⟨k1, k2⟩ := hg.app (n := 2) rfl;obtain ⟨k3, k4⟩ := k1.app (n := 1) rfl;have := hv2.1;have := hv2.2;exact ⟨k3.i4, k4.i4, k2.i4⟩
   · rw [List.append_nil] at h10;exact h10.i4
   · rw [hd];have h2' : Cd I (a + 3 * n + 4) (cwI w K (l.drop w)) := by rw [show a + 3 * n + 4 = a + (3 * n + 4) by omega]; exact h2
     refine yG hw hw8 K _ _ (fun v hv => hb v (List.mem_of_mem_drop hv)) hn h2' ?_;rw [List.length_append, List.length_append, gG, show (trapI 10 [1, 0, ((n : Nat) : Int)]).length = 16 from rfl] at he;omega
def pipL (r a b : Int) : List Int := [9, 7, 0, 0, 9, 1, 0, 0, 5, 0, a % 256, a / 256 % 256, 1, 0, 1, 0, 9, 8, 0, 0, 1, 0, 0, 0, 1, 1, 10, 0, 1, 2, r % 256, r / 256 % 256, 9, 9, 0, 0, 5, 0, b % 256, b / 256 % 256, 2, 3, 0, 0, 1, 4, 10, 0, 1, 5, 1, 0, 7, 0, 4, 0, 9, 11, 0, 0, 3, 4, 5, 0, 4, 3, 5, 0, 5, 3, 5, 0, 6, 0, 13, 0, 1, 0, 9, 0, 9, 0, 0, 0]
theorem Bq (r a b : Int) : pipP r a b = pipL r a b := by kernel_rfl
def pipI (r w K : Nat) (l : List Int) : List Int := pipL r 21 19 ++ cwI w K l
theorem x6 (r w K : Nat) (l : List Int) : putI (putI (pipP r 0 0 ++ cwI w K l) 2 21) 9 19 = pipI r w K l := by
 rw [Bq];rfl
theorem zR {r w K : Nat} {l : List Int} (hr : 0 < r) (hr20 : r ≤ 20) (hw : 0 < w) (hw8 : w ≤ 8) (hb : Byt l) (hn : Nc w K l) : Pg r ((pipI r w K l).length / 4) (fun i j => (pipI r w K l).getD (4 * i + j) 0) l := by
 have hall : Cd (pipI r w K l) 0 (pipL r 21 19 ++ cwI w K l) := fun i v hv => by rw [Nat.mul_zero, Nat.zero_add]; exact xU hv
 obtain ⟨h1, h2⟩ := hall.app (n := 21) rfl;have g : ∀ n v, (pipL r 21 19)[n]? = some v → (pipI r w K l).getD n 0 = v := fun n v hv => by simpa using h1 n v hv
 refine ⟨fun i hi => ?_, ⟨K, yG hw hw8 K l 21 hb hn (by simpa using h2) ?_⟩, hr, hr20, hb⟩
 · generalize pipI r w K l = I at g
   match i, hi with
   | 0, _ => exact ⟨g 0 _ rfl, g 1 _ rfl, g 2 _ rfl, g 3 _ rfl⟩
   | 1, _ => exact ⟨g 4 _ rfl, g 5 _ rfl, g 6 _ rfl, g 7 _ rfl⟩
   | 2, _ => exact ⟨g 8 _ rfl, g 9 _ rfl, g 10 _ rfl, g 11 _ rfl⟩
   | 3, _ => exact ⟨g 12 _ rfl, g 13 _ rfl, g 14 _ rfl, g 15 _ rfl⟩
   | 4, _ => exact ⟨g 16 _ rfl, g 17 _ rfl, g 18 _ rfl, g 19 _ rfl⟩
   | 5, _ => exact ⟨g 20 _ rfl, g 21 _ rfl, g 22 _ rfl, g 23 _ rfl⟩
   | 6, _ => exact ⟨g 24 _ rfl, g 25 _ rfl, g 26 _ rfl, g 27 _ rfl⟩
   | 7, _ => exact ⟨g 28 _ rfl, g 29 _ rfl, (g 30 _ rfl).trans (by show (r : Int) % 256 = r; omega), (g 31 _ rfl).trans (by show (r : Int) / 256 % 256 = 0; omega)⟩
   | 8, _ => exact ⟨g 32 _ rfl, g 33 _ rfl, g 34 _ rfl, g 35 _ rfl⟩
   | 9, _ => exact ⟨g 36 _ rfl, g 37 _ rfl, g 38 _ rfl, g 39 _ rfl⟩
   | 10, _ => exact ⟨g 40 _ rfl, g 41 _ rfl, g 42 _ rfl, g 43 _ rfl⟩
   | 11, _ => exact ⟨g 44 _ rfl, g 45 _ rfl, g 46 _ rfl, g 47 _ rfl⟩
   | 12, _ => exact ⟨g 48 _ rfl, g 49 _ rfl, g 50 _ rfl, g 51 _ rfl⟩
   | 13, _ => exact ⟨g 52 _ rfl, g 53 _ rfl, g 54 _ rfl, g 55 _ rfl⟩
   | 14, _ => exact ⟨g 56 _ rfl, g 57 _ rfl, g 58 _ rfl, g 59 _ rfl⟩
   | 15, _ => exact ⟨g 60 _ rfl, g 61 _ rfl, g 62 _ rfl, g 63 _ rfl⟩
   | 16, _ => exact ⟨g 64 _ rfl, g 65 _ rfl, g 66 _ rfl, g 67 _ rfl⟩
   | 17, _ => exact ⟨g 68 _ rfl, g 69 _ rfl, g 70 _ rfl, g 71 _ rfl⟩
   | 18, _ => exact ⟨g 72 _ rfl, g 73 _ rfl, g 74 _ rfl, g 75 _ rfl⟩
   | 19, _ => exact ⟨g 76 _ rfl, g 77 _ rfl, g 78 _ rfl, g 79 _ rfl⟩
   | 20, _ => exact ⟨g 80 _ rfl, g 81 _ rfl, g 82 _ rfl, g 83 _ rfl⟩
   | n + 21, h => omega
 · unfold pipI;rw [List.length_append]; rfl
theorem Rep.hold2 {K : Nat} {A : Lay} {S : St} {F L : Frag} (h : Rep K A S F L) {a : Sl} {xs : List Value} {e : TypeId} (ha : slOk a xs e L) (hn : ∀ b, a.b = some b → ¬ Own K A S b) : ∃ F', Rep K A S F' L ∧ (∀ t ∈ F, t ∈ F') ∧ ∀ L', (∀ t ∈ F', t ∈ L') → slOk a xs e L' := by
 cases hab : a.b with
 | none => exact ⟨F, h, fun _ x => x, fun L' _ => ha.mono fun b hb => by rw [hab] at hb; cases hb⟩
 | some b =>
   refine ⟨_ :: F, { h with fr := fun t ht => ?_, fd := fun t ht => ?_ }, fun _ x => List.mem_cons_of_mem _ x, fun L' hs => by unfold slOk; rw [hab]; exact hs _ List.mem_cons_self⟩
   · rcases List.mem_cons.1 ht with rfl | ht
     · exact ha.mem hab
     · exact h.fr t ht
   · rcases List.mem_cons.1 ht with rfl | ht
     · exact vM (hn b hab)
     · exact h.fd t ht
theorem sR : ∃ k, ∀ {Fin : Value → World → Prop} {W : World} {O : Nat} (nn : Nat) (s : List Nat) (K : Nat) (A : Lay) (S T : St) (Fr L : Frag) (eb : Nat → Nat × Nat), Rep K A S Fr L → Ers eb Fr → Ab S T → (St.runs 2000 T).isOver = true → S.now < 1152921504606846976 → T.now = 0 →
   Lo.CallsM (F := FZ Tryz.prog Fin) (fun s => dom0 (Shs s.2) W O) Tryz.prog true 24 [ptr K, .int .i64 3000].toArray k (nn + 1 + 1, s) L (fun s' v L' => ∃ s2 ws ag, s' = (nn, s2) ∧ St.evs 2000 T = ws.map Wd.v ∧ v = .tuple #[strv (outB ws), rowv ag 4 (goneW ws).length, .bool true] ∧ (∀ t ∈ Fr, t ∈ L') ∧ slOk ag (wcs (goneW ws)) 51 L') := by
 obtain ⟨n1, gr⟩ := Bc;apply Exists.intro;intro Fin W O nn s K A S T Fr L eb hR hEr hAb hover hnow hT0;have hN : ∀ (s : Nat × List Nat) (o : Obj), (dom0 (Shs s.2) W O).New o := fun _ _ => trivial;obtain ⟨ws, hws, hwl⟩ := kP 2000 T;co_applyP xR 66 Tryz.func24 Tryz.ntmps24;co_applyP aa;co_applyP oy rfl bL;co_applyP oy rfl bL;co_applyP oan rfl;co_applyP aa;co_applyP oan rfl;co_applyP aa;co_applyP oan rfl;co_applyP aq;co_applyP aI;co_applyP bK (fun k s' ε' L' => (k = 2 ∧ s' = (nn + 1 + 1, s) ∧ L' = L ∧ kn ε' [(0, ptr K), (1, .int .i64 3000), (7, .slice none 0 0), (8, .slice none 0 0)]) ∨ (k = 1 ∧ ∃ N A' S' ab ag, s' = (nn + 1, N :: s) ∧ Ab S' (St.runs 2000 T) ∧ Rep K A' S' Fr L' ∧ slOk ab (u8s (outB ws)) 5 L' ∧ (∀ b, ab.b = some b → ¬ Own K A' S' b) ∧ slOk ag (wcs (goneW ws)) 51 L' ∧ kn ε' [(0, ptr K), (1, .int .i64 1000), (7, rowv ab 1 (outB ws).length), (8, rowv ag 4 (goneW ws).length)]) ∨ (k = 0 ∧ ∃ s2 ab ag, s' = (nn, s2) ∧ (∀ t ∈ Fr, t ∈ L') ∧ slOk ab (u8s (outB ws)) 5 L' ∧ slOk ag (wcs (goneW ws)) 51 L' ∧ kn ε' [(1, .int .i64 0), (7, rowv ab 1 (outB ws).length), (8, rowv ag 4 (goneW ws).length)])) 2
 · exact .inl ⟨rfl, rfl, rfl, rfl⟩
 rintro k s' ε' L' hk;co_applyP bR (k = 2);intro h2
 · obtain ⟨rfl, rfl, he⟩ : s' = (nn + 1 + 1, s) ∧ L' = L ∧ kn ε' [(0, ptr K), (1, .int .i64 3000), (7, .slice none 0 0), (8, .slice none 0 0)] := by
     rcases hk with ⟨_, a, b, c⟩ | ⟨a, _⟩ | ⟨a, _⟩
     · exact ⟨a, b, c⟩
     · omega
     · omega
   co_applyP aV he;co_applyP aq;co_applyP aa;co_applyP om rfl rfl rfl dn;co_applyP ah;co_applyP aQ rfl;co_applyP aD;co_applyP aI;co_applyP aa;co_applyP oy rfl ae;co_applyP oan rfl;co_applyP aq;co_applyP aa;co_applyP om rfl rfl rfl dn;co_applyP ah;co_applyP aQ rfl;co_applyP ax;co_applyP oan rfl;co_applyP aa;co_applyP om rfl rfl rfl ae;co_applyP oc rfl rfl rfl (gr (nn + 1) s K A S T Fr L' eb 2000 hR hEr hAb (by decide) hnow);rintro _ _ _ ⟨N, told, A1, S1, rfl, rfl, hAb1, hR1, hH⟩;rename_i L1;rw [hws] at hH;obtain ⟨base, cap, rfl, hat⟩ := oH hH;co_applyP om rfl rfl rfl bW;co_applyP oy rfl bW;co_applyP oy rfl bL;co_applyP oan rfl;co_applyP aq;co_applyP aa;co_applyP om rfl rfl rfl fy;co_applyP ah;co_applyP ai rfl;co_applyP aD;co_applyP aq;co_applyP aa;co_applyP oan rfl;co_applyP aI;co_applyP bK (fun k s' ε' L' => s' = (nn + 1, N :: s) ∧ Ext L1 L' ∧ ∃ i ab ag, i ≤ ws.length ∧ k + i = 4000 ∧ slOk ab (u8s (outB (ws.take i))) 5 L' ∧ (∀ t ∈ L1, ab.b ≠ some t.1) ∧ slOk ag (wcs (goneW (ws.take i))) 51 L' ∧ (∀ t ∈ L1, ag.b ≠ some t.1) ∧ kn ε' [(0, ptr K), (1, .int .i64 3000), (9, .int .i64 2000), (10, .slice base ws.length cap), (12, .int .i64 (i : Nat)), (7, rowv ab 1 (outB (ws.take i)).length), (8, rowv ag 4 (goneW (ws.take i)).length)]) 4000
   · exact ⟨rfl, ⟨hR1.fn, fun _ h => h⟩, 0, ⟨none, []⟩, ⟨none, []⟩, by omega, rfl, ⟨rfl, rfl⟩, fun t ht => by simp, ⟨rfl, rfl⟩, fun t ht => by simp, rfl⟩
   rintro c s' ε' L2 ⟨rfl, hE, i, ab, ag, hi, hc, hb, hbn, hg, hgn, he⟩;co_applyP aV he;have ei : IntKind.i64.wrap ((i : Int) + 1) = ((i + 1 : Nat) : Int) := by simp [IntKind.wrap_i64]; omega
   co_applyP aq;co_applyP aa;co_applyP om rfl rfl rfl ae;co_applyP oy rfl (bB (hu := U38));co_applyP oy rfl cF;co_applyP ah;co_applyP bk rfl;intro hlt
   · have hlt' : i < ws.length := by simpa using hlt
     obtain ⟨w, hw⟩ : ∃ w, ws[i]? = some w := ⟨_, List.getElem?_eq_getElem hlt'⟩;obtain ⟨tg, cs, rfl, htg, hsz, hcs⟩ := hat i w hw;have htg2 := hE.s _ htg;have k1 : At L2 tg (i * 4 + 1) (.int .i64 w.2.1) := ⟨true, _, _, _, htg2, by rw [Nat.mul_comm]; exact hcs 1 (by omega)⟩;have k3 : At L2 tg (i * 4 + 3) (.int .i64 w.2.2.2) := ⟨true, _, _, _, htg2, by rw [Nat.mul_comm]; exact hcs 3 (by omega)⟩;have hob := sO ws hw;have hog := pV ws hw;have hol : (outB (ws.take i)).length ≤ 4000 := by
       unfold outB; rw [List.length_map];have := List.length_filter_le (fun w : Wd => decide (w.2.1 = 3)) (ws.take i);have := List.length_take_le i ws;omega
     have hgl : (goneW (ws.take i)).length ≤ 4000 := by
       unfold goneW;have := List.length_filter_le (fun w : Wd => decide (w.2.1 = 4)) (ws.take i);have := List.length_take_le i ws;omega
     co_applyP aD;co_applyP dZ (fun s'' ε'' L'' => s'' = (nn + 1, N :: s) ∧ Ext L1 L'' ∧ ∃ ab ag, slOk ab (u8s (outB (ws.take (i + 1)))) 5 L'' ∧ (∀ t ∈ L1, ab.b ≠ some t.1) ∧ slOk ag (wcs (goneW (ws.take (i + 1)))) 51 L'' ∧ (∀ t ∈ L1, ag.b ≠ some t.1) ∧ kn ε'' [(0, ptr K), (1, .int .i64 3000), (9, .int .i64 2000), (10, .slice (some ⟨tg, 0, none⟩) ws.length cap), (12, .int .i64 (i : Nat)), (7, rowv ab 1 (outB (ws.take (i + 1))).length), (8, rowv ag 4 (goneW (ws.take (i + 1))).length)]);co_applyP aI;co_applyP dZ (fun s'' ε'' L'' => s'' = (nn + 1, N :: s) ∧ Ext L1 L'' ∧ ∃ ab ag, slOk ab (u8s (outB (ws.take (i + 1)))) 5 L'' ∧ (∀ t ∈ L1, ab.b ≠ some t.1) ∧ slOk ag (wcs (goneW (ws.take i))) 51 L'' ∧ (∀ t ∈ L1, ag.b ≠ some t.1) ∧ kn ε'' [(0, ptr K), (1, .int .i64 3000), (9, .int .i64 2000), (10, .slice (some ⟨tg, 0, none⟩) ws.length cap), (12, .int .i64 (i : Nat)), (7, rowv ab 1 (outB (ws.take (i + 1))).length), (8, rowv ag 4 (goneW (ws.take i)).length)]);co_applyP aa;co_applyP om rfl rfl rfl ae;co_applyP oy rfl (bH U38 fJ);co_applyP oy rfl (au (hf := qm));co_applyP oy rfl (aF (ht := aY) (hv := k1));co_applyP oy rfl aA;co_applyP ah;co_applyP bk rfl;intro h3;co_applyP ax;co_applyP om rfl rfl rfl ae;co_applyP om rfl rfl rfl (bH U38 fJ);co_applyP oy rfl (au (hf := mi))
     · have h3' : w.2.1 = 3 := by simpa using h3
       co_applyP oy rfl (aF (ht := aY) (hv := k3));co_applyP oy rfl (cp (hs := U3) (ht := U5));co_applyP bT rfl (ip (hN _ _) (hu := U44) (hs := eJ) (hz := ut));intro nb L3 hA;have hr : Reads Tryz.prog L3 1 1 (.slice (some ⟨nb, 0, none⟩) 1 1) [Value.int .u8 (IntKind.u8.wrap w.2.2.2)].toArray := by
         have := cB (P := Tryz.prog) (sz := 1) (n := 1) (len := 1) (cap := 1) (o := 0) hA.self (by simp);simpa using this
       co_applyP oeN rfl (fun hnd => vf (a := ab) (by_ := 0) (xs := u8s (outB (ws.take i))) (n := (outB (ws.take i)).length) (m := 1) (hnd := hnd) (hu := U44) (hs := eJ) (hb := yq) (hz := ut) (hzs := rfl) (hN := fun cs => hN _ _) (ha := hb.mono fun c hc o ho => hA.sub _ ho) (hn := by simp) (hr := hr) (hm := rfl) (hpl := rfl) (h0 := by decide) (h8 := by omega));rintro _ L4 ⟨ab', rfl, hp⟩;co_applyP oan rfl;change _ = _ ∧ _ ∧ ∃ ab ag, _ ∧ _ ∧ _ ∧ _ ∧ kn _ _;rw [if_pos h3'] at hob;refine ⟨rfl, ⟨hp.fn, fun t ht => hp.sub _ (hA.sub _ (hE.s _ ht)) (hbn t ht)⟩, ab', ag, ?_, fun t ht e => ?_, ?_, hgn, ?_⟩
       · rw [hob]; have := hp.ok; rw [mo] at this; simpa using this
       · rcases hp.d _ e with h | h
         · exact hbn t ht h
         · exact h _ (hA.sub _ (hE.s _ ht)) rfl
       · refine hg.mono fun q hq o ho => hp.sub _ (hA.sub _ ho) fun e => ?_;have m1 := hb.mem e;have m2 := hg.mem hq;exact absurd (hE.f _ _ _ _ _ m1 m2).2 (aE (by decide))
       · rw [hob, List.length_append]; rfl
     intro h3;co_applyP aD;change _ = _ ∧ _ ∧ ∃ ab ag, _ ∧ _ ∧ _ ∧ _ ∧ kn _ _;have h3' : ¬ w.2.1 = 3 := by simpa using h3
     rw [if_neg h3', List.append_nil] at hob;exact ⟨rfl, hE, ab, ag, by rw [hob]; exact hb, hbn, hg, hgn, by rw [hob]; rfl⟩;rintro s'' ε'' L3 ⟨rfl, hE3, ab3, ag3, hb3, hbn3, hg3, hgn3, he3⟩;co_applyP aV he3;have htg3 := hE3.s _ htg;have k1' : At L3 tg (i * 4 + 1) (.int .i64 w.2.1) := ⟨true, _, _, _, htg3, by rw [Nat.mul_comm]; exact hcs 1 (by omega)⟩;have hcx : cs.extract (i * 4) (i * 4 + 4) = (Wd.c w).toArray := by
       apply Array.ext';apply List.ext_getElem?;intro j;by_cases hj : j < 4
       · rw [← hcs j hj];simp only [Array.toList_extract, List.extract_eq_take_drop];rw [List.getElem?_take_of_lt (by omega), List.getElem?_drop, Nat.mul_comm i 4];simp
       · rw [List.getElem?_eq_none (by simp; omega), List.getElem?_eq_none (by show 4 ≤ j; omega)]
     co_applyP aa;co_applyP om rfl rfl rfl ae;co_applyP oy rfl (bH U38 fJ);co_applyP oy rfl (au (hf := qm));co_applyP oy rfl (aF (ht := aY) (hv := k1'));co_applyP oy rfl aA;co_applyP ah;co_applyP bk rfl;intro h4;co_applyP ax;co_applyP om rfl rfl rfl ae;co_applyP om rfl rfl rfl (bH U38 fJ)
     · have h4' : w.2.1 = 4 := by simpa using h4
       co_applyP oy rfl (ba (ht := Ar) (hs := fJ) (hm := htg3) (hi := by omega));rw [hcx];co_applyP bT rfl (yx (sz := 4) (hN := hN _ _) (hv := rfl) (hu := U38) (hs := fJ) (hz := yA) (h0 := by decide) (h24 := by decide));intro nb L4 hA;have hr : Reads Tryz.prog L4 4 1 (.slice (some ⟨nb, 0, none⟩) 1 1) (Wd.c w).toArray := by
         have := cB (P := Tryz.prog) (sz := 4) (n := 1) (len := 1) (cap := 1) (o := 0) hA.self (by show 0 + 1 * 4 ≤ 4; decide);exact this
       co_applyP oeN rfl (fun hnd => vf (a := ag3) (by_ := 31) (xs := wcs (goneW (ws.take i))) (n := (goneW (ws.take i)).length) (m := 1) (hnd := hnd) (hu := U38) (hs := fJ) (hb := zN) (hz := yA) (hzs := rfl) (hN := fun cs => hN _ _) (ha := hg3.mono fun c hc o ho => hA.sub _ ho) (hn := qP _) (hr := hr) (hm := rfl) (hpl := rfl) (h0 := by decide) (h8 := by omega));rintro _ L5 ⟨ag', rfl, hp⟩;co_applyP oan rfl;change _ = _ ∧ _ ∧ ∃ ab ag, _ ∧ _ ∧ _ ∧ _ ∧ kn _ _;rw [if_pos h4'] at hog;refine ⟨rfl, ⟨hp.fn, fun t ht => hp.sub _ (hA.sub _ (hE3.s _ ht)) (hgn3 t ht)⟩, ab3, ag', ?_, hbn3, ?_, fun t ht e => ?_, ?_⟩
       · refine hb3.mono fun q hq o ho => hp.sub _ (hA.sub _ ho) fun e => ?_;have m1 := hg3.mem e;have m2 := hb3.mem hq;exact absurd (hE3.f _ _ _ _ _ m1 m2).2 (aE (by decide))
       · rw [hog, xS]; exact hp.ok
       · rcases hp.d _ e with h | h
         · exact hgn3 t ht h
         · exact h _ (hA.sub _ (hE3.s _ ht)) rfl
       · rw [hog, List.length_append]; rfl
     intro h4;co_applyP aD;change _ = _ ∧ _ ∧ ∃ ab ag, _ ∧ _ ∧ _ ∧ _ ∧ kn _ _;have h4' : ¬ w.2.1 = 4 := by simpa using h4
     rw [if_neg h4', List.append_nil] at hog;exact ⟨rfl, hE3, ab3, ag3, hb3, hbn3, by rw [hog]; exact hg3, hgn3, by rw [hog]; rfl⟩;rintro s'' ε'' L4 ⟨rfl, hE4, ab4, ag4, hb4, hbn4, hg4, hgn4, he4⟩;co_applyP aV he4;co_applyP ax;co_applyP om rfl rfl rfl aR;co_applyP oan rfl;change ∃ k', k' < _ ∧ _;exact ⟨c - 1, by omega, rfl, hE4, i + 1, ab4, ag4, by omega, by omega, hb4, hbn4, hg4, hgn4, by rw [← ei]; rfl⟩
   intro hlt;have hi' : i = ws.length := by simp at hlt; omega
   subst hi';rw [List.take_length] at hb hg he;co_applyP bS;co_applyP ax;co_applyP om rfl rfl rfl ae;co_applyP oy rfl qf;co_applyP oan rfl;change ∃ k', k' < _ ∧ _;refine ⟨1, by omega, .inr (.inl ⟨rfl, N, A1, S1, ab, ag, rfl, hAb1, hR1.ext hE, hb, fun b hbb ho => ?_, hg, by rw [List.take_length]; rfl⟩)⟩;obtain ⟨o, ho, _⟩ := hR1.own ho;exact hbn _ ho hbb
 intro h2;co_applyP bR (k = 1);intro h1
 · obtain ⟨N, A', S', ab, ag, rfl, hAb', hR', hb, hbo, hg, he⟩ : ∃ N A' S' ab ag, s' = (nn + 1, N :: s) ∧ Ab S' (St.runs 2000 T) ∧ Rep K A' S' Fr L' ∧ slOk ab (u8s (outB ws)) 5 L' ∧ (∀ b, ab.b = some b → ¬ Own K A' S' b) ∧ slOk ag (wcs (goneW ws)) 51 L' ∧ kn ε' [(0, ptr K), (1, .int .i64 1000), (7, rowv ab 1 (outB ws).length), (8, rowv ag 4 (goneW ws).length)] := by
     rcases hk with ⟨a, _⟩ | ⟨_, a⟩ | ⟨a, _⟩
     · exact absurd a h2
     · exact a
     · omega
   obtain ⟨F1, hR1, hs1, hk1⟩ := hR'.hold hg (by decide);obtain ⟨F2, hR2, hs2, hk2⟩ := hR1.hold2 hb hbo;have hnow' : S'.now < 1152921504606846976 := by
     rw [hAb'.now];have := qN 2000 T;omega
   co_applyP aV he;co_applyP aq;co_applyP aa;co_applyP om rfl rfl rfl dn;co_applyP ah;co_applyP aQ rfl;co_applyP aD;co_applyP aI;co_applyP aa;co_applyP oy rfl ae;co_applyP oan rfl;co_applyP aq;co_applyP aa;co_applyP om rfl rfl rfl dn;co_applyP ah;co_applyP ai rfl;co_applyP aD;co_applyP aa;co_applyP om rfl rfl rfl ae;co_applyP oc rfl rfl rfl (gr nn (N :: s) K A' S' _ F2 L' eb 1000 hR2 (hEr.mono fun t h => hs2 _ (hs1 _ h)) hAb' (by decide) hnow');rintro _ _ _ ⟨N2, told, A1, S1, rfl, rfl, hAb1, hR3, hH⟩;rename_i L1;rw [oG hover] at hH;obtain ⟨base, cap, rfl, _⟩ := oH (ws := []) hH;have hb3 := hk2 L1 hR3.fr;have hg3 := hk1 L1 fun t h => hR3.fr _ (hs2 _ h);co_applyP om rfl rfl rfl bW;co_applyP oy rfl bW;co_applyP oy rfl bL;co_applyP oan rfl;co_applyP aq;co_applyP aa;co_applyP om rfl rfl rfl fy;co_applyP ah;co_applyP ai rfl;co_applyP aD;co_applyP aq;co_applyP aa;co_applyP oan rfl;co_applyP aI;co_applyP bK (fun k s' ε' L' => s' = (nn, N2 :: N :: s) ∧ L' = L1 ∧ kn ε' [(1, .int .i64 1000), (9, .int .i64 1000), (10, .slice base 0 cap), (12, .int .i64 0), (7, rowv ab 1 (outB ws).length), (8, rowv ag 4 (goneW ws).length)]) 0
   · exact ⟨rfl, rfl, rfl⟩
   rintro c s' ε' L2 ⟨rfl, rfl, he⟩;co_applyP aV he;co_applyP aq (n₂ := 0);co_applyP aa;co_applyP om rfl rfl rfl ae;co_applyP oy rfl (bB (hu := U38));co_applyP oy rfl cF;co_applyP ah;co_applyP ai rfl;co_applyP bS;co_applyP ax;co_applyP om rfl rfl rfl ae;co_applyP oy rfl qf;co_applyP oan rfl;change ∃ k', k' < _ ∧ _;exact ⟨0, by omega, .inr (.inr ⟨rfl, N2 :: N :: s, ab, ag, rfl, fun t h => hR3.fr _ (hs2 _ (hs1 _ h)), hb3, hg3, rfl⟩)⟩
 intro h1;obtain ⟨s2, ab, ag, rfl, hfr, hb, hg, he⟩ : ∃ s2 ab ag, s' = (nn, s2) ∧ (∀ t ∈ Fr, t ∈ L') ∧ slOk ab (u8s (outB ws)) 5 L' ∧ slOk ag (wcs (goneW ws)) 51 L' ∧ kn ε' [(1, .int .i64 0), (7, rowv ab 1 (outB ws).length), (8, rowv ag 4 (goneW ws).length)] := by
   rcases hk with ⟨a, _⟩ | ⟨a, _⟩ | ⟨_, a⟩
   · exact absurd a h2
   · exact absurd a h1
   · exact a
 co_applyP aV he;co_applyP aq (n₂ := 0);co_applyP aa;co_applyP om rfl rfl rfl dn;co_applyP ah;co_applyP ai rfl;co_applyP bS;co_applyP aa;co_applyP om rfl rfl rfl (xT (ha := hb));co_applyP om rfl rfl rfl bL;co_applyP oy rfl bL;co_applyP oan rfl;co_applyP aK;change ∃ v, resE3 _ _ = some v ∧ _;refine ⟨.tuple #[strv (outB ws), rowv ag 4 (goneW ws).length, .bool true], ?_, s2, ws, ag, rfl, hws, rfl, hfr, hg⟩;generalize rowv ag 4 (goneW ws).length = v5;generalize strv (outB ws) = v4;rfl
section
variable {New : Obj → Prop} {N : Nat} {ε : Env} {L : Frag} {d : Option Tmp} {ty : TypeId} {ps : String} {af : Array Edge} {g : Option (Nat × Bool)} {P : Program}
theorem yH {t e : TypeId} {x0 x1 x2 : Operand} {v0 v1 v2 z : Value} (hN : New (.cells #[v0, v1, v2] e)) (h0 : ev ε x0 = some v0 := by rfl) (h1 : ev ε x1 = some v1 := by rfl) (h2 : ev ε x2 = some v2 := by rfl) (hu : P.underlying t = some (.slice e)) (hs : sizeAt P e = some 1) (hz : zeroAt P e = some z) (hzp : plainV z = true := by rfl) (p0 : plainV v0 = true := by rfl) (p1 : plainV v1 = true := by rfl) (p2 : plainV v2 = true := by rfl) :
   EO P New N ε L ⟨d, .buildSlice t 3 #[(0, x0), (1, x1), (2, x2)], ty, ps, af, g⟩ (fun r L'' => ∃ b, (∀ t ∈ L, t.1 ≠ b) ∧ r = .slice (some ⟨b, 0, none⟩) 3 3 ∧ L'' = (b, true, .cells #[v0, v1, v2] e) :: L) := by
 intro a ha;simp only [execOp, List.map_toArray, List.map_cons, List.map_nil];unfold Instr.buildSlice newRow;have h : Instr.fill (fun i => some (i * 1, 1)) ((Array.range (3 * 1)).map (#[z][· % #[z].size]!)) [(0, v0), (1, v1), (2, v2)] = some #[v0, v1, v2] := by
   have e1 : (Array.range (3 * 1)).map (#[z][· % #[z].size]!) = #[z, z, z] := by
     have : Array.range (3 * 1) = #[0, 1, 2] := by decide
     rw [this]; simp
   rw [e1];simp [Instr.fill, bv p0, bv p1, bv p2]
 rw [aj, aj, aN hu, ha.ev h0, ha.ev h1, ha.ev h2];simp only [];rw [aj, bI hs];simp only [Nat.mul_one, gt_iff_lt, Nat.reduceLT, Nat.reducePow, if_false, Nat.reduceEqDiff, reduceCtorEq, show ¬ (3 = 0) by decide];rw [aj, cv hz, aj, bm, bv hzp];simp only [Nat.mul_one] at h;simp only [h, aj];exact bY hN fun b hb => ⟨b, hb, rfl, rfl⟩
end
theorem Br {L : Frag} {b : Nat} {u v w : Int} (h : (b, true, Obj.cells #[.int .i64 u, .int .i64 v, .int .i64 w] 3) ∈ L) : ∀ i, i < [u, v, w].length → ∃ b', (some ⟨b, 0, none⟩ : Option Addr) = some ⟨b', 0, none⟩ ∧ At L b' i (.int .i64 ([u, v, w].getD i 0)) := fun i hi => by
 match i, hi with
 | 0, _ => exact ⟨b, rfl, true, _, _, _, h, rfl⟩
 | 1, _ => exact ⟨b, rfl, true, _, _, _, h, rfl⟩
 | 2, _ => exact ⟨b, rfl, true, _, _, _, h, rfl⟩
theorem sln {P Q : List Int} {n m : Nat} (hp : P.length = n) (hq : Q.length = m) (h : n + m < 1000000 := by decide) : P.length + Q.length < 1000000 := by rw [hp, hq]; exact h
theorem lap {P Q : List Int} {n m : Nat} (hp : P.length = n) (hq : Q.length = m) : (P ++ Q).length = n + m := by rw [List.length_append, hp, hq]
theorem vQ (r : Int) : Byt (pipL r 21 19) := by
 intro v hv;have h1 : 0 ≤ r % 256 ∧ r % 256 < 256 := by omega
 have h2 : 0 ≤ r / 256 % 256 ∧ r / 256 % 256 < 256 := by omega
 unfold pipL at hv;generalize r % 256 = x at *;generalize r / 256 % 256 = y at *;simp at hv;omega
theorem zS {ws : List Wd} (h : ws.map g2 = [(2, 3), (1, 9)]) : ∃ u v : Wd, ws = [u, v] ∧ u.2.2 = (2, 3) ∧ v.2.2 = (1, 9) := by
 have hl : ws.length = 2 := by have := congrArg List.length h; simpa using this
 match ws, hl with
 | [u, v], _ =>
   simp only [List.map_cons, List.map_nil, List.cons.injEq, and_true] at h;exact ⟨u, v, rfl, h.1, h.2⟩
theorem x7 : ∃ k, ∀ {Fin : Value → World → Prop} {W : World} {O : Nat} (a b c d : Int) (tx : List Int) (vi vo : Int) (L : Frag) (eb : Nat → Nat × Nat), I64 a → I64 b → I64 c → I64 d → I64 vi → I64 vo → Byt tx → Fun L → Ers eb L →
   CallsL (F := FZ Tryz.prog Fin) (fun s => dom0 (Shs s.2) W O) Tryz.prog true 8 [.int .i64 a, .int .i64 b, .int .i64 c, .int .i64 d, strv tx, .int .i64 vi, .int .i64 vo].toArray k (0 + 1 + 1, []) L (fun s' v L' => s'.1 = 0 ∧ v = .bool true) := by
 obtain ⟨n1, gc⟩ := vq;obtain ⟨n2, gt⟩ := zL;obtain ⟨n3, gk⟩ := vr;obtain ⟨n4, gpr⟩ := sR;obtain ⟨n5, gi⟩ := pU;obtain ⟨n6, gpick⟩ := vn;obtain ⟨n7, gj⟩ := xX;apply Exists.intro;intro Fin W O a b c d tx vi vo L eb ha hb hc hd hvi hvo htx hF hE;have hN : ∀ (s : Nat × List Nat) (o : Obj), (dom0 (Shs s.2) W O).New o := fun _ _ => trivial;generalize hll : tx.take 30 = l;have hl30 : l.length ≤ 30 := by rw [← hll, List.length_take]; omega
 have hbl : Byt l := fun v hv => htx v (List.mem_of_mem_take (hll ▸ hv));co_applyP aB 206 Tryz.func8 Tryz.ntmps8;co_applyP aa;co_applyP oan rfl;co_applyP dZ (fun s'' ε'' L'' => s'' = (0 + 1 + 1, []) ∧ L'' = L ∧ kn ε'' [(0, .int .i64 a), (1, .int .i64 b), (2, .int .i64 c), (3, .int .i64 d), (4, strv l), (5, .int .i64 vi), (6, .int .i64 vo)]);co_applyP aa;co_applyP om rfl rfl rfl (jX (hu := U9));co_applyP oy rfl dn;co_applyP ah;co_applyP bk rfl;intro hg;co_applyP ax;co_applyP oy rfl ae
 · have hg' : 30 < tx.length := by simp [ByteArray.size] at hg; omega
   co_applyP oy rfl (vK U9 (h0 := by decide) (h1 := by omega));co_applyP oan rfl;change _ = _ ∧ _ = _ ∧ kn _ _;rw [show tx.take (30 : Int).toNat = l from hll];exact ⟨rfl, rfl, rfl⟩
 intro hg;co_applyP aD;change _ = _ ∧ _ = _ ∧ kn _ _
 · have hg' : ¬ 30 < tx.length := by simp [ByteArray.size] at hg; omega
   have : l = tx := by rw [← hll]; exact List.take_of_length_le (by omega)
   rw [this];exact ⟨rfl, rfl, rfl⟩
 rintro s'' ε'' L'' ⟨rfl, rfl, he⟩;co_applyP aV he;generalize hwN : pickN vi 8 + 1 = w;generalize hrN : pickN vo 20 + 1 = r;have hw8 : 0 < w ∧ w ≤ 8 := by have := dh vi (n := 8) (by decide); omega
 have hr20 : 0 < r ∧ r ≤ 20 := by have := dh vo (n := 20) (by decide); omega
 have ew : IntKind.i64.wrap (1 + (pickN vi 8 : Nat)) = ((w : Nat) : Int) := by rw [← hwN]; simp [IntKind.wrap_i64]; omega
 have er : IntKind.i64.wrap (1 + (pickN vo 20 : Nat)) = ((r : Nat) : Int) := by rw [← hrN]; simp [IntKind.wrap_i64]; omega
 co_applyP aa;co_applyP oy rfl ae;co_applyP oc rfl rfl rfl (gpick L'' vi 8 hvi (by decide));rintro _ _ _ ⟨rfl, rfl, rfl⟩;co_applyP oy rfl aR;co_applyP oan rfl;co_applyP aa;co_applyP oy rfl ae;rw [ew];co_applyP oc rfl rfl rfl (gpick _ vo 20 hvo (by decide));rintro _ _ _ ⟨rfl, rfl, rfl⟩;co_applyP oy rfl aR;co_applyP oan rfl;co_applyP aa;rw [er];co_applyP oc rfl rfl rfl (gt _ 7 [] none 0 hN hF (by decide) (fun i hi => by simp at hi));rintro _ _ _ ⟨rfl, rfl, hE1⟩;co_applyP oc rfl rfl rfl (gt _ 1 [] none 0 hN hE1.f (by decide) (fun i hi => by simp at hi));rintro _ _ _ ⟨rfl, rfl, hE2⟩;obtain ⟨P1, p1, l1⟩ : ∃ P, trapI 7 [] ++ trapI 1 [] = P ∧ P.length = 8 := ⟨_, rfl, rfl⟩;have q1 : (trapI 7 []).length + (trapI 1 []).length < 1000000 := by decide
 have q2 := sln l1 (cM 5 0 0);co_applyP oy rfl (bQ);co_applyP oan rfl;co_applyP aa;co_applyP oy rfl ae;rw [p1];co_applyP oc rfl rfl rfl (gi _ 5 0 0 hN hE2.f);rintro _ _ _ ⟨rfl, rfl, hE3⟩;obtain ⟨P2, p2, l2⟩ : ∃ P, P1 ++ insn 5 0 0 = P ∧ P.length = 12 := ⟨_, rfl, lap l1 (cM _ _ _)⟩;co_applyP oy rfl (bQ);co_applyP oan rfl;co_applyP aa;co_applyP oan rfl;co_applyP aa;co_applyP oy rfl ae;rw [p2];clear q1 q2;co_applyP bT rfl (ip (hN _ _) (hu := U54) (hs := de) (hz := pB));intro b1 L1 hA1;co_applyP oc rfl rfl rfl (gt L1 8 [1] (some ⟨b1, 0, none⟩) 1 hN hA1.fn (by decide) (zO hA1.self));rintro _ _ _ ⟨rfl, rfl, hE4⟩;have q1 := sln l2 (show (trapI 8 [1]).length = 8 from rfl);obtain ⟨P3, p3, l3⟩ : ∃ P, P2 ++ trapI 8 [1] = P ∧ P.length = 20 := ⟨_, rfl, lap l2 rfl⟩;co_applyP oy rfl (bQ);co_applyP oan rfl;co_applyP aa;co_applyP om rfl rfl rfl aR;co_applyP oan rfl;co_applyP aa;co_applyP om rfl rfl rfl ae;rw [p3];clear q1;co_applyP bT rfl (yH (hN _ _) (hu := U54) (hs := de) (hz := pB));intro b2 L2 hA2;co_applyP oc rfl rfl rfl (gt L2 9 [0, 10, (r : Int)] (some ⟨b2, 0, none⟩) 3 hN hA2.fn (by show 3 ≤ 8; decide) (Br hA2.self));rintro _ _ _ ⟨rfl, rfl, hE5⟩;have q1 := sln l3 (show (trapI 9 [0, 10, (r : Int)]).length = 16 from rfl);obtain ⟨P4, p4, l4⟩ : ∃ P, P3 ++ trapI 9 [0, 10, (r : Int)] = P ∧ P.length = 36 := ⟨_, rfl, lap l3 rfl⟩;co_applyP oy rfl (bQ);co_applyP oan rfl;co_applyP aa;co_applyP oy rfl ae;rw [p4];clear q1;co_applyP oc rfl rfl rfl (gi _ 5 0 0 hN hE5.f);rintro _ _ _ ⟨rfl, rfl, hE6⟩;have q1 := sln l4 (cM 5 0 0);obtain ⟨P5, p5, l5⟩ : ∃ P, P4 ++ insn 5 0 0 = P ∧ P.length = 40 := ⟨_, rfl, lap l4 (cM _ _ _)⟩;co_applyP oy rfl (bQ);co_applyP oan rfl;co_applyP aa;co_applyP oy rfl ae;rw [p5];clear q1;have q1 := sln l5 (cM 2 3 0);have q2 := sln (lap l5 (cM 2 3 0)) (cM 1 4 10);have q3 := sln (lap (lap l5 (cM 2 3 0)) (cM 1 4 10)) (cM 1 5 1);obtain ⟨P6, p6, l6⟩ : ∃ P, P5 ++ insn 2 3 0 ++ insn 1 4 10 ++ insn 1 5 1 = P ∧ P.length = 52 := ⟨_, rfl, lap (lap (lap l5 (cM _ _ _)) (cM _ _ _)) (cM _ _ _)⟩;co_applyP oc rfl rfl rfl (gi _ 2 3 0 hN hE6.f);rintro _ _ _ ⟨rfl, rfl, hE7⟩;co_applyP oy rfl bQ;co_applyP oc rfl rfl rfl (gi _ 1 4 10 hN hE7.f);rintro _ _ _ ⟨rfl, rfl, hE8⟩;co_applyP oy rfl bQ;co_applyP oc rfl rfl rfl (gi _ 1 5 1 hN hE8.f);rintro _ _ _ ⟨rfl, rfl, hE9⟩;co_applyP oy rfl (bQ);co_applyP oan rfl;co_applyP aa;co_applyP om rfl rfl rfl aR;co_applyP oy rfl aR;co_applyP oy rfl aR
 co_applyP oan rfl;co_applyP aa;co_applyP oy rfl ae;rw [p6];clear q1 q2 q3;have q1 := sln l6 (cM 7 0 4);have q2 := sln (lap l6 (cM 7 0 4)) (cM 9 11 0);have q3 := sln (lap (lap l6 (cM 7 0 4)) (cM 9 11 0)) (cM 3 4 5);have q4 := sln (lap (lap (lap l6 (cM 7 0 4)) (cM 9 11 0)) (cM 3 4 5)) (cM 4 3 5);have q5 := sln (lap (lap (lap (lap l6 (cM 7 0 4)) (cM 9 11 0)) (cM 3 4 5)) (cM 4 3 5)) (cM 5 3 5);have q6 := sln (lap (lap (lap (lap (lap l6 (cM 7 0 4)) (cM 9 11 0)) (cM 3 4 5)) (cM 4 3 5)) (cM 5 3 5)) (cM 6 0 13);obtain ⟨P7, p7, l7⟩ : ∃ P, P6 ++ insn 7 0 4 ++ insn 9 11 0 ++ insn 3 4 5 ++ insn 4 3 5 ++ insn 5 3 5 ++ insn 6 0 13 = P ∧ P.length = 76 := ⟨_, rfl, lap (lap (lap (lap (lap (lap l6 (cM _ _ _)) (cM _ _ _)) (cM _ _ _)) (cM _ _ _)) (cM _ _ _)) (cM _ _ _)⟩;co_applyP oc rfl rfl rfl (gi _ 7 0 4 hN hE9.f);rintro _ _ _ ⟨rfl, rfl, hE10⟩;co_applyP oy rfl bQ;co_applyP oc rfl rfl rfl (gi _ 9 11 0 hN hE10.f);rintro _ _ _ ⟨rfl, rfl, hE11⟩;co_applyP oy rfl bQ;co_applyP oc rfl rfl rfl (gi _ 3 4 5 hN hE11.f);rintro _ _ _ ⟨rfl, rfl, hE12⟩;co_applyP oy rfl bQ;co_applyP oc rfl rfl rfl (gi _ 4 3 5 hN hE12.f);rintro _ _ _ ⟨rfl, rfl, hE13⟩;co_applyP oy rfl bQ;co_applyP oy rfl ae;co_applyP oc rfl rfl rfl (gi _ 5 3 5 hN hE13.f);rintro _ _ _ ⟨rfl, rfl, hE14⟩;co_applyP oy rfl bQ;co_applyP oy rfl ae;co_applyP oc rfl rfl rfl (gi _ 6 0 13 hN hE14.f);rintro _ _ _ ⟨rfl, rfl, hE15⟩;co_applyP oy rfl (bQ);co_applyP oan rfl;co_applyP aa;co_applyP om rfl rfl rfl aR;co_applyP oan rfl;co_applyP aa;co_applyP oy rfl ae;rw [p7];clear q1 q2 q3 q4 q5 q6;co_applyP bT rfl (ip (hN _ _) (hu := U54) (hs := de) (hz := pB));intro b3 L3 hA3;co_applyP oc rfl rfl rfl (gt L3 0 [9] (some ⟨b3, 0, none⟩) 1 hN hA3.fn (by decide) (zO hA3.self));rintro _ _ _ ⟨rfl, rfl, hE16⟩;rename_i L4;have q1 := sln l7 (show (trapI 0 [9]).length = 8 from rfl);obtain ⟨P8, p8, l8⟩ : ∃ P, P7 ++ trapI 0 [9] = P ∧ P.length = 84 := ⟨_, rfl, lap l7 rfl⟩;co_applyP oy rfl (bQ);co_applyP oan rfl;co_applyP aa;co_applyP om rfl rfl rfl aR;co_applyP oan rfl;co_applyP aq;co_applyP aa;co_applyP om rfl rfl rfl ae;co_applyP oy rfl (jX (hu := U9));co_applyP oy rfl Ah;co_applyP oy rfl fy;co_applyP ah;change wpE ..;rw [p8];clear q1;have esz : ((⟨(P8.map fun n => UInt8.ofNat n.toNat).toArray⟩ : ByteArray).size : Int) = 84 := by simp [ByteArray.size, l8]
 rw [esz];have hP8 : P8 = pipP r 0 0 := by rw [← p8, ← p7, ← p6, ← p5, ← p4, ← p3, ← p2, ← p1]; rfl
 have hX : Ext L'' L4 := ⟨hE16.f, fun t h => hE16.s _ (hA3.sub _ (hE15.s _ (hE14.s _ (hE13.s _ (hE12.s _ (hE11.s _ (hE10.s _ (hE9.s _ (hE8.s _ (hE7.s _ (hE6.s _ (hE5.s _ (hA2.sub _ (hE4.s _ (hA1.sub _ (hE3.s _ (hE2.s _ (hE1.s _ h))))))))))))))))))⟩;clear hA1 hA2 hA3 hE1 hE2 hE3 hE4 hE5 hE6 hE7 hE8 hE9 hE10 hE11 hE12 hE13 hE14 hE15 hE16 p1 p2 p3 p4 p5 p6 p7 p8 l1 l2 l3 l4 l5 l6 l7 esz;obtain ⟨K, hK30, hNc⟩ := yF hw8.1 30 l hl30;have hcl := (p9 (w := w) K l).1;co_applyP ai rfl;co_applyP aD;co_applyP aq;co_applyP aa;co_applyP oan rfl;co_applyP aI;co_applyP bK (fun k s' ε' L' => s' = (0 + 1 + 1, []) ∧ Ext L'' L' ∧ ∃ i m s0, k + i = 60 ∧ i ≤ l.length + 8 ∧ s0 ++ cwI w m (l.drop i) = P8 ++ cwI w K l ∧ Nc w m (l.drop i) ∧ kn ε' [(0, .int .i64 a), (1, .int .i64 b), (2, .int .i64 c), (3, .int .i64 d), (4, strv l), (15, .int .i64 (w : Nat)), (17, strv s0), (19, .int .i64 5), (21, .int .i64 19), (22, .int .i64 21), (23, .int .i64 (i : Nat))]) 60
 · exact ⟨rfl, hX, 0, K, P8, rfl, by omega, rfl, hNc, rfl⟩
 rintro c0 s' ε' L1 ⟨rfl, hX1, i, m, s0, hci, hi, hs0, hm, he⟩;co_applyP aV he;have hsl : s0.length + (cwI w m (l.drop i)).length = 84 + (cwI w K l).length := by
   have := congrArg List.length hs0;rw [List.length_append, List.length_append, l8] at this;exact this
 have hs932 : s0.length ≤ 932 := by omega
 co_applyP aq;co_applyP aa;co_applyP om rfl rfl rfl ae;co_applyP oy rfl (jX (hu := U9));co_applyP oy rfl cF;co_applyP ah;co_applyP bk rfl;intro hlt
 · have hlt' : i < l.length := by simp [ByteArray.size] at hlt; omega
   have hne : l.drop i ≠ [] := fun e => by
     have := congrArg List.length e;rw [List.length_drop] at this;simp at this;omega
   cases m with
   | zero => exact absurd hm hne
   | succ m =>
   obtain ⟨_, hm2⟩ := hm;generalize hRR : l.drop i = R at *;have hRl : R.length = l.length - i := by rw [← hRR, List.length_drop]
   generalize hnn : min w R.length = n;have hn8 : n ≤ 8 := by omega
   co_applyP aD;co_applyP aq;co_applyP aI;co_applyP aa;co_applyP oy rfl ae;co_applyP oan rfl;co_applyP dZ (fun s'' ε'' L' => s'' = (0 + 1 + 1, []) ∧ L' = L1 ∧ kn ε'' [(0, .int .i64 a), (1, .int .i64 b), (2, .int .i64 c), (3, .int .i64 d), (4, strv l), (15, .int .i64 (w : Nat)), (17, strv s0), (19, .int .i64 5), (21, .int .i64 19), (22, .int .i64 21), (23, .int .i64 (i : Nat)), (24, .int .i64 (n : Nat))]);co_applyP aa;co_applyP om rfl rfl rfl ae;co_applyP oy rfl aR;co_applyP om rfl rfl rfl (jX (hu := U9));co_applyP oy rfl dn;co_applyP ah;change wpE ..;have ew2 : IntKind.i64.wrap ((i : Int) + (w : Int)) = ((i + w : Nat) : Int) := by simp [IntKind.wrap_i64]; omega
   co_applyP bk rfl;intro hq;co_applyP ax;co_applyP om rfl rfl rfl (jX (hu := U9));co_applyP om rfl rfl rfl qf;co_applyP oan rfl;change _ = _ ∧ _ = _ ∧ kn _ _
   · have hq' : l.length < i + w := by rw [ew2] at hq; simp [ByteArray.size] at hq; omega
     have ez : IntKind.i64.wrap (((⟨(l.map fun n => UInt8.ofNat n.toNat).toArray⟩ : ByteArray).size : Int) - (i : Int)) = ((n : Nat) : Int) := by
       have : ((⟨(l.map fun n => UInt8.ofNat n.toNat).toArray⟩ : ByteArray).size : Int) = (l.length : Nat) := by simp [ByteArray.size]
       rw [this];simp [IntKind.wrap_i64]; omega
     rw [ez];exact ⟨rfl, rfl, rfl⟩
   intro hq;co_applyP aD;change _ = _ ∧ _ = _ ∧ kn _ _
   · have hq' : ¬ l.length < i + w := by rw [ew2] at hq; simp [ByteArray.size] at hq; omega
     have ez : n = w := by omega
     rw [ez];exact ⟨rfl, rfl, rfl⟩
   rintro s'' ε'' L' ⟨rfl, rfl, he4⟩;co_applyP aV he4;co_applyP aq;co_applyP aa;co_applyP oan rfl;co_applyP aI;co_applyP bK (fun k s' ε' L2 => s' = (0 + 1 + 1, []) ∧ Ext L'' L2 ∧ ∃ j, k + j = 8 ∧ j ≤ n ∧ kn ε' [(0, .int .i64 a), (1, .int .i64 b), (2, .int .i64 c), (3, .int .i64 d), (4, strv l), (15, .int .i64 (w : Nat)), (17, strv (s0 ++ chkI w R j)), (19, .int .i64 5), (21, .int .i64 19), (22, .int .i64 21), (23, .int .i64 (i : Nat)), (24, .int .i64 (n : Nat)), (25, .int .i64 (j : Nat))]) 8
   · exact ⟨rfl, hX1, 0, rfl, Nat.zero_le _, by rw [show chkI w R 0 = [] from rfl, List.append_nil]; rfl⟩
   rintro c1 s' ε' L2 ⟨rfl, hX2, j, hcj, hj, he5⟩;co_applyP aV he5;have ej : IntKind.i64.wrap ((j : Int) + 1) = ((j + 1 : Nat) : Int) := by simp [IntKind.wrap_i64]; omega
   have hcj' := gG w R j;co_applyP aq;co_applyP aa;co_applyP om rfl rfl rfl ae;co_applyP oy rfl cF;co_applyP ah;co_applyP bk rfl;intro hlt2
   · have hlt2' : j < n := by simpa using hlt2
     obtain ⟨v, hv⟩ : ∃ v, l[i + j]? = some v := ⟨_, List.getElem?_eq_getElem (by omega)⟩;have hvR : R.getD j 0 = v := by rw [← hRR]; simp [List.getD, hv]
     have hvb := hbl v (List.mem_of_getElem? hv);have eij : IntKind.i64.wrap ((i : Int) + (j : Int)) = ((i + j : Nat) : Int) := by simp [IntKind.wrap_i64]; omega
     have ev : IntKind.i64.wrap v = v := by have := hvb.1; have := hvb.2; simp [IntKind.wrap_i64]; omega
     have l0 : (s0 ++ chkI w R j).length ≤ 1100 := by rw [List.length_append, hcj']; omega
     have q1 : (s0 ++ chkI w R j).length + (insn 1 0 v).length < 1000000 := by show _ + 4 < _; omega
     have q2 : (s0 ++ chkI w R j ++ insn 1 0 v).length + (insn 1 1 (j : Nat)).length < 1000000 := by rw [List.length_append]; show _ + 4 + 4 < _; omega
     have q3 : (s0 ++ chkI w R j ++ insn 1 0 v ++ insn 1 1 (j : Nat)).length + (insn 8 0 1).length < 1000000 := by rw [List.length_append, List.length_append]; show _ + 4 + 4 + 4 < _; omega
     co_applyP aD;co_applyP aq;co_applyP aI;co_applyP ax;co_applyP om rfl rfl rfl ae;co_applyP om rfl rfl rfl ae;co_applyP oy rfl aR;rw [eij];co_applyP oy rfl (Bp hbl hv);co_applyP oy rfl (cp (hs := U5) (ht := U3));rw [ev];co_applyP oc rfl rfl rfl (gi L2 1 0 v hN hX2.f);rintro _ _ _ ⟨rfl, rfl, hE1⟩;co_applyP oy rfl bQ;co_applyP oy rfl ae;co_applyP oc rfl rfl rfl (gi _ 1 1 (j : Nat) hN hE1.f);rintro _ _ _ ⟨rfl, rfl, hE2⟩;co_applyP oy rfl bQ;co_applyP oc rfl rfl rfl (gi _ 8 0 1 hN hE2.f);rintro _ _ _ ⟨rfl, rfl, hE3⟩;co_applyP oy rfl bQ;co_applyP oan rfl;co_applyP ax;co_applyP om rfl rfl rfl aR;co_applyP oan rfl;change ∃ k', k' < _ ∧ _;have e5 : s0 ++ chkI w R (j + 1) = s0 ++ chkI w R j ++ insn 1 0 v ++ insn 1 1 (j : Nat) ++ insn 8 0 1 := by
       rw [← hvR];unfold chkI;rw [List.range_succ, List.flatMap_append];simp
     exact ⟨c1 - 1, by omega, rfl, ((hX2.trans hE1).trans hE2).trans hE3, j + 1, by omega, by omega, by rw [← ej, e5]; rfl⟩
   intro hlt2;have hjn : j = n := by simp at hlt2; omega
   subst hjn;have q1 : (s0 ++ chkI w R j).length + (trapI 10 [1, 0, (j : Int)]).length < 1000000 := by rw [List.length_append, hcj']; show _ + 16 < _; omega
   have ew2 : IntKind.i64.wrap ((i : Int) + (w : Int)) = ((i + w : Nat) : Int) := by simp [IntKind.wrap_i64]; omega
   co_applyP bS;co_applyP ax;co_applyP om rfl rfl rfl ae;co_applyP bT rfl (yH (hN _ _) (hu := U54) (hs := de) (hz := pB));intro b2 L3 hA2;co_applyP oc rfl rfl rfl (gt L3 10 [1, 0, (j : Int)] (some ⟨b2, 0, none⟩) 3 hN hA2.fn (by show 3 ≤ 8; decide) (Br hA2.self));rintro _ _ _ ⟨rfl, rfl, hE5⟩;co_applyP oy rfl bQ;co_applyP oan rfl;co_applyP ax;co_applyP om rfl rfl rfl ae;co_applyP oy rfl aR;co_applyP oan rfl;change ∃ k', k' < _ ∧ _;rename_i L5;have e6 : s0 ++ chkI w R j ++ trapI 10 [1, 0, (j : Int)] ++ cwI w m (l.drop (i + w)) = P8 ++ cwI w K l := by
     rw [← hs0];show _ = s0 ++ (chkI w R (min w R.length) ++ trapI 10 [1, 0, ((min w R.length : Nat) : Int)] ++ cwI w m (R.drop w));rw [hnn, ← hRR, List.drop_drop];simp
   exact ⟨c0 - w, by omega, rfl, ⟨hE5.f, fun t h => hE5.s _ (hA2.sub _ (hX2.s _ h))⟩, i + w, m, s0 ++ chkI w R j ++ trapI 10 [1, 0, (j : Int)], by omega, by omega, e6, by rw [← List.drop_drop, hRR]; exact hm2, by rw [← ew2]; rfl⟩
 intro hlt;have hlt' : ¬ i < l.length := by simp [ByteArray.size] at hlt; omega
 have hde : l.drop i = [] := List.drop_eq_nil_of_le (by omega);cases m with
 | succ m => exact absurd hde hm.1
 | zero =>
 have q1 : s0.length + (trapI 0 [3]).length < 1000000 := by show _ + 8 < _; omega
 have e7 : s0 ++ trapI 0 [3] = pipP r 0 0 ++ cwI w K l := by rw [← hP8, ← hs0]; rfl
 co_applyP bS;co_applyP aa;co_applyP oy rfl ae;co_applyP bT rfl (ip (hN _ _) (hu := U54) (hs := de) (hz := pB));intro b4 L5 hA4;co_applyP oc rfl rfl rfl (gt L5 0 [3] (some ⟨b4, 0, none⟩) 1 hN hA4.fn (by decide) (zO hA4.self));rintro _ _ _ ⟨rfl, rfl, hE8⟩;rename_i L6;co_applyP oy rfl (bQ);co_applyP oan rfl;co_applyP aa;co_applyP om rfl rfl rfl ae;co_applyP om rfl rfl rfl aR;co_applyP oy rfl ae;rw [e7];have hll2 : (pipP r 0 0 ++ cwI w K l).length = 84 + (cwI w K l).length := by rw [← hP8, List.length_append, l8]
 co_applyP oc rfl rfl rfl (gj L6 (pipP r 0 0 ++ cwI w K l) 2 9 21 19 hN hE8.f (by omega) (by omega) (by omega));rintro _ _ _ ⟨rfl, rfl, hE9⟩;rw [x6];co_applyP oan rfl;co_applyP aa;co_applyP om rfl rfl rfl ae;co_applyP om rfl rfl rfl ae;have hok := xM a b c d;have hcl2 := p9 (w := w) K l;have hpl : (pipI r w K l).length = 84 + (cwI w K l).length := by unfold pipI; rw [List.length_append]; rfl
 have hoi : oki (pipI r w K l).length = true := by rw [hpl]; unfold oki; simp; omega
 have hby : Byt (pipI r w K l) := fw (vQ r) (vP K l);have hX6 : Ext L'' _ := ⟨hE9.f, fun t h => hE9.s _ (hE8.s _ (hA4.sub _ (hX1.s _ h)))⟩;co_applyP ocm rfl rfl rfl (gc _ a b c d hN hX6.f ha hb hc hd);rintro _ _ _ ⟨rfl, rfl, hE7⟩;co_applyP oy rfl ae;rename_i L7;co_applyP oc rfl rfl rfl (gk L7 (cfgf a b c) (cfgb d) (pipI r w K l) hN hE7.f hby hok hoi);rintro _ _ _ ⟨rfl, K0, A0, b0, rfl, hR0⟩;co_applyP oan rfl;co_applyP aq;co_applyP aa;co_applyP om rfl rfl rfl (jj (hu := Tryz.underlying35));co_applyP ah;co_applyP ai rfl;co_applyP aD;co_applyP aa;co_applyP oy rfl ae;have hAb0 := vt (b := b0) hok hoi hby;obtain ⟨wsF, f1, f2, f3, f4⟩ := zQ (T := St.fresh (cfgf a b c) (cfgb d) (pipI r w K l) 1) (pY hok hoi hby).1 (zR hr20.1 hr20.2 hw8.1 hw8.2 hbl hNc) rfl rfl (by unfold St.vs; rw [kR]; rfl) rfl rfl (N := 1998) (by rw [hpl]; omega);co_applyP ocm rfl rfl rfl (gpr 0 [] K0 A0 _ _ L7 _ eb hR0 (hE.mono fun t h => hE7.s _ (hX6.s _ h)) hAb0 f4 (by show (0 : Nat) < _; decide) rfl);rintro _ _ _ ⟨s2, ws, ag, rfl, hws, rfl, hfr, hg⟩;rename_i L8;obtain rfl : ws = wsF := vN (hws.symm.trans f1);rw [f2];obtain ⟨u, v, huv, hu, hv⟩ := zS f3;rw [huv] at hg ⊢;obtain ⟨gg, hgg⟩ := pX hg (by rw [qP]; exact Nat.succ_pos _);have er1 : rowv ag 4 [u, v].length = .slice (some ⟨gg, 0, none⟩) 2 (2 + ag.junk.length / 4) := by unfold rowv; rw [hgg]; rfl
 rw [er1];have hgm := hg.mem hgg;have y2 : At L8 gg 2 (.int .i64 2) := ⟨true, _, _, _, hgm, by show some (Value.int .i64 u.2.2.1) = _; rw [hu]⟩;have y3 : At L8 gg 3 (.int .i64 3) := ⟨true, _, _, _, hgm, by show some (Value.int .i64 u.2.2.2) = _; rw [hu]⟩;have y6 : At L8 gg 6 (.int .i64 1) := ⟨true, _, _, _, hgm, by show some (Value.int .i64 v.2.2.1) = _; rw [hv]⟩;have y7 : At L8 gg 7 (.int .i64 9) := ⟨true, _, _, _, hgm, by show some (Value.int .i64 v.2.2.2) = _; rw [hv]⟩;co_applyP om rfl rfl rfl bW;co_applyP oy rfl bW;co_applyP oy rfl bW;co_applyP oy rfl bL;co_applyP oy rfl bL;co_applyP oan rfl;co_applyP aa;co_applyP om rfl rfl rfl ae;co_applyP om rfl rfl rfl (ae);co_applyP oy rfl (Bg (l := l) (m := l) (hl := hbl) (hm := hbl));co_applyP oy rfl aP;co_applyP oy rfl ae;rw [show decide (l = l) = true from decide_eq_true rfl];co_applyP om rfl rfl rfl ((bB (hu := U38)));co_applyP oy rfl (aA);co_applyP oy rfl aP;co_applyP om rfl rfl rfl (ae);co_applyP oy rfl ((bH U38 fJ));co_applyP oy rfl ((au (hf := qn)));co_applyP oy rfl (aF (ht := aY) (hv := y2));co_applyP oy rfl (aA);co_applyP oy rfl aP;co_applyP om rfl rfl rfl (ae);co_applyP oy rfl ((bH U38 fJ));co_applyP oy rfl ((au (hf := mi)));co_applyP oy rfl (aF (ht := aY) (hv := y3));co_applyP oy rfl (aA);co_applyP oy rfl aP;co_applyP om rfl rfl rfl (ae);co_applyP oy rfl ((bH U38 fJ));co_applyP oy rfl ((au (hf := qn)));co_applyP oy rfl (aF (ht := aY) (hv := y6));co_applyP oy rfl (aA);co_applyP oy rfl aP;co_applyP om rfl rfl rfl (ae);co_applyP oy rfl ((bH U38 fJ));co_applyP oy rfl ((au (hf := mi)));co_applyP oy rfl (aF (ht := aY) (hv := y7));co_applyP oy rfl (aA);co_applyP oy rfl aP;co_applyP oan rfl;co_applyP aK;change ∃ v, resE .. = some v ∧ _;exact ⟨_, rfl, rfl, rfl⟩
end Go.Proofs.YtejkelcaljmnoaaGreatDoor
