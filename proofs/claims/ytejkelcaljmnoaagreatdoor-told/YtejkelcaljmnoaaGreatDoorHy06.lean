/-
  Part 6 of the proof.
  No condition but those that each statement names.
-/
import Derived.Test.YtejkelcaljmnoaaGreatDoorHy05
set_option maxRecDepth 100000
set_option linter.unusedVariables false
set_option linter.unusedSimpArgs false
set_option linter.unusedSectionVars false
set_option maxRecDepth 100000
namespace Go.Proofs.YtejkelcaljmnoaaGreatDoor
open Go.Lo Go.Extern Go.Extern.Rtype
section
variable {New : Obj → Prop} {N : Nat} {ε : Env} {L : Frag} {d : Option Tmp} {ty : TypeId} {ps : String} {af : Array Edge} {g : Option (Nat × Bool)} {args : Array Operand} {ats : Array TypeId}
theorem xm {v : Value} (hx : args.toList.map (ev ε) = [Value.iface 255 v].map some := by rfl) : EY Tryz.prog N ε L ⟨d, .call ⟨.value (.func 142), args, ats⟩, ty, ps, af, g⟩ (rty 255) :=
 jN (e := ReflectliteType.typeOf) hx Tryz.func142 (by kernel_rfl) (bd (q9 v) rfl)
theorem zJ {v : Value} (hx : args.toList.map (ev ε) = [Value.iface 180 v].map some := by rfl) : EY Tryz.prog N ε L ⟨d, .call ⟨.value (.func 142), args, ats⟩, ty, ps, af, g⟩ (rty 180) :=
 jN (e := ReflectliteType.typeOf) hx Tryz.func142 (by kernel_rfl) (bd (re v) rfl)
abbrev rval (t : TypeId) (a : Nat) (fl : Int) : Value := .agg #[hnd t, ptr a, .int .u64 fl]
theorem zK {a : Nat} (hx : args.toList.map (ev ε) = [rval 182 a 150].map some := by rfl) : EY Tryz.prog N ε L ⟨d, .call ⟨.value (.func 120), args, ats⟩, ty, ps, af, g⟩ (rty 182) :=
 jN (e := ReflectliteValue.methodAny (ReflectliteValue.valueError "reflectlite.Value.Type" 0) (fun t _ _ _ => ReflectliteType.toType t)) hx Tryz.func120 (by kernel_rfl) (bd (vA _) rfl)
theorem zL {a p : Nat} (hp : At L a 0 (ptr p)) (hx : args.toList.map (ev ε) = [rval 182 a 150].map some := by rfl) : EY Tryz.prog N ε L ⟨d, .call ⟨.value (.func 121), args, ats⟩, ty, ps, af, g⟩ (.bool false) :=
 jN (e := ReflectliteValue.method (ReflectliteValue.valueError "reflectlite.Value.IsNil" 0) ReflectliteValue.isNil) hx Tryz.func121 (by kernel_rfl) (lT (tt _ _) hp rfl)
theorem AC {a p : Nat} (hp : At L a 0 (ptr p)) (hx : args.toList.map (ev ε) = [rval 182 a 150].map some := by rfl) : EY Tryz.prog N ε L ⟨d, .call ⟨.value (.func 143), args, ats⟩, ty, ps, af, g⟩ (rval 180 p 406) :=
 jN (e := ReflectliteValue.method (ReflectliteValue.valueError "reflectlite.Value.Elem" 0) ReflectliteValue.elem) hx Tryz.func143 (by kernel_rfl) (lT (tv _ _) hp rfl)
theorem ng {x : Operand} (hx : ev ε x = some (rty 182) := by rfl) : EY Tryz.prog N ε L ⟨d, .call ⟨.invoke x "Kind", #[], ats⟩, ty, ps, af, g⟩ (.int .u8 22) :=
 jO (vs := []) (f := 189) (rc := hnd 182) (e := ReflectliteType.abiMethod fun t => (fun a : Nat => Value.int IntKind.u8 (a : Int)) <$> Rtype.kind t) hx (by rfl) (bd (xi _) rfl) Tryz.func189 (by kernel_rfl) (bd vB rfl)
theorem nh {x : Operand} (hx : ev ε x = some (rty 180) := by rfl) : EY Tryz.prog N ε L ⟨d, .call ⟨.invoke x "Kind", #[], ats⟩, ty, ps, af, g⟩ (.int .u8 22) :=
 jO (vs := []) (f := 189) (rc := hnd 180) (e := ReflectliteType.abiMethod fun t => (fun a : Nat => Value.int IntKind.u8 (a : Int)) <$> Rtype.kind t) hx (by rfl) (bd (xi _) rfl) Tryz.func189 (by kernel_rfl) (bd vC rfl)
theorem ni {x : Operand} (hx : ev ε x = some (rty 182) := by rfl) : EY Tryz.prog N ε L ⟨d, .call ⟨.invoke x "Elem", #[], ats⟩, ty, ps, af, g⟩ (rty 180) :=
 jO (vs := []) (f := 200) (rc := .agg #[hnd 182]) (e := ReflectliteType.method ReflectliteType.elem) hx (by rfl) (bd (zC _) rfl) Tryz.func200 (by kernel_rfl) (bd vD rfl)
theorem xn {x : Operand} (hx : ev ε x = some (rty 180) := by rfl) (ha : args.toList.map (ev ε) = [rty 168].map some := by rfl) : EY Tryz.prog N ε L ⟨d, .call ⟨.invoke x "Implements", args, ats⟩, ty, ps, af, g⟩ (.bool true) :=
 jO (f := 201) (rc := .agg #[hnd 180]) (e := ReflectliteType.relation "Implements" ReflectliteType.implements_) hx ha (bd (na _) rfl) Tryz.func201 (by kernel_rfl) (bd kP rfl)
theorem vF {x : Operand} (hx : ev ε x = some (rty 255) := by rfl) (ha : args.toList.map (ev ε) = [rty 180].map some := by rfl) : EY Tryz.prog N ε L ⟨d, .call ⟨.invoke x "AssignableTo", args, ats⟩, ty, ps, af, g⟩ (.bool false) :=
 jO (f := 198) (rc := .agg #[hnd 255]) (e := ReflectliteType.relation "AssignableTo" ReflectliteType.assignableTo) hx ha (bd (i8 _) rfl) Tryz.func198 (by kernel_rfl) (bd kQ rfl)
theorem vG {x : Operand} (hx : ev ε x = some (rty 180) := by rfl) (ha : args.toList.map (ev ε) = [rty 180].map some := by rfl) : EY Tryz.prog N ε L ⟨d, .call ⟨.invoke x "AssignableTo", args, ats⟩, ty, ps, af, g⟩ (.bool true) :=
 jO (f := 198) (rc := .agg #[hnd 180]) (e := ReflectliteType.relation "AssignableTo" ReflectliteType.assignableTo) hx ha (bd (i8 _) rfl) Tryz.func198 (by kernel_rfl) (bd kR rfl)
theorem AD {x : Operand} (hx : ev ε x = some (rty 255) := by rfl) : EY Tryz.prog N ε L ⟨d, .call ⟨.invoke x "Comparable", #[], ats⟩, ty, ps, af, g⟩ (.bool true) :=
 jO (vs := []) (f := 199) (rc := .agg #[hnd 255]) (e := ReflectliteType.method (fun t => do noPackHeld "Comparable" t; pure (.bool (← typeInfo t).comparable))) hx (by rfl) (bd (nc _) rfl) Tryz.func199 (by kernel_rfl) (bd kS rfl)
theorem jr {α : Type} {Q : α → Frag → Prop} {s : Sem α} {r : α} (h : evR Tryz.prog s [] = some (r, [])) (hK : Q r L) : wpS Tryz.prog New s Q L := bH (K := (· = r)) (fun _ e => by rw [e]; exact hK) s (bd h rfl)
theorem vH {α : Type} {Q : α → Frag → Prop} {s : Sem α} {r : α} {v : Value} {b i : Nat} (h : evR Tryz.prog s [v] = some (r, [⟨b, i, none⟩])) (hv : At L b i v) (hK : Q r L) : wpS Tryz.prog New s Q L := bH (K := (· = r)) (fun _ e => by rw [e]; exact hK) s (lT h hv rfl)
theorem pQ {t : TypeId} {p : Option Addr} (ht : ∀ a, evR Tryz.prog (ReflectliteValue.mk t a 0) [] = some (.agg #[hnd t, .pointer (some a), .int .u64 150], [])) (hN : New (.cells #[.pointer p] t)) : wpS Tryz.prog New (ReflectliteValue.unpack (.iface t (.pointer p))) (fun r L'' => ∃ b, (∀ t ∈ L, t.1 ≠ b) ∧ r = rval t b 150 ∧ L'' = (b, true, .cells #[.pointer p] t) :: L) L := by
 show wpS Tryz.prog New (newVar t (.pointer p) >>= fun a => ReflectliteValue.mk t a 0) _ L;rw [ar];show wpS Tryz.prog New (newObj (.cells #[.pointer p] t) >>= fun b => pure (⟨b, 0, none⟩ : Addr)) _ L;rw [ar];refine cf hN fun b hb => ?_;rw [br];exact jr (ht _) ⟨b, hb, rfl, rfl⟩
theorem xo {p : Option Addr} (hN : New (.cells #[.pointer p] 182)) (hx : args.toList.map (ev ε) = [Value.iface 182 (.pointer p)].map some := by rfl) : EO Tryz.prog New N ε L ⟨d, .call ⟨.value (.func 119), args, ats⟩, ty, ps, af, g⟩ (fun r L'' => ∃ b, (∀ t ∈ L, t.1 ≠ b) ∧ r = rval 182 b 150 ∧ L'' = (b, true, .cells #[.pointer p] 182) :: L) :=
 s9 (e := fun args => ReflectliteValue.unpack (args.getD 0 (.tuple #[]))) hx Tryz.func119 (by kernel_rfl) (pQ zA hN)
theorem zM {p : Option Addr} (hN : New (.cells #[.pointer p] 180)) (hx : args.toList.map (ev ε) = [Value.iface 180 (.pointer p)].map some := by rfl) : EO Tryz.prog New N ε L ⟨d, .call ⟨.value (.func 119), args, ats⟩, ty, ps, af, g⟩ (fun r L'' => ∃ b, (∀ t ∈ L, t.1 ≠ b) ∧ r = rval 180 b 150 ∧ L'' = (b, true, .cells #[.pointer p] 180) :: L) :=
 s9 (e := fun args => ReflectliteValue.unpack (args.getD 0 (.tuple #[]))) hx Tryz.func119 (by kernel_rfl) (pQ zB hN)
theorem zN : evR Tryz.prog (directlyAssignable 180 180) [] = some (true, []) := by kernel_rfl
theorem zO (a : Addr) (v : Value) : evR Tryz.prog (loadVar 180 a) [v] = some (v, [a]) := by kernel_rfl
theorem AE {a b : Nat} {p : Option Addr} {cs : Array Value} {e : TypeId} (hnd : (L.map (·.1)).Nodup) (hv : At L b 0 (.pointer p)) (hm : (a, true, .cells cs e) ∈ L) (hi : 0 < cs.size) (hx : args.toList.map (ev ε) = [rval 180 a 406, rval 180 b 150].map some := by rfl) : EO Tryz.prog New N ε L ⟨d, .call ⟨.value (.func 144), args, ats⟩, ty, ps, af, g⟩ (fun r L'' => r = .tuple #[] ∧ Upd L a (.cells (cs.setIfInBounds 0 (.pointer p)) e) L'') := by
 refine s9 (e := ReflectliteValue.set) hx Tryz.func144 (by kernel_rfl) ?_;obtain ⟨n, hn⟩ := List.getElem?_of_mem hm;show wpS Tryz.prog New (ReflectliteValue.parts (rval 180 a 406) >>= fun v => _) _ L;rw [ar];refine jr (rf _) ?_;show wpS Tryz.prog New (ReflectliteValue.parts (rval 180 b 150) >>= fun v => _) _ L;rw [ar];refine jr (tw _) ?_;show wpS Tryz.prog New (loadVar 180 ⟨b, 0, none⟩ >>= fun v => _) _ L;rw [ar];refine vH (zO _ _) hv ?_;show wpS Tryz.prog New (directlyAssignable 180 180 >>= fun v => _) _ L;rw [ar];refine jr zN ?_;show wpS Tryz.prog New (storeVar 180 ⟨a, 0, none⟩ (.pointer p) >>= fun v => _) _ L;rw [ar];unfold storeVar;rw [ar, bP x6];show wpS Tryz.prog New (storeCells ⟨a, 0, none⟩ [.pointer p]) _ L;refine co hn (by simp; omega) rfl ?_;exact ⟨rfl, cH hnd hn⟩
end
end Go.Proofs.YtejkelcaljmnoaaGreatDoor
namespace Go.Proofs.YtejkelcaljmnoaaGreatDoor
open Go.Conc Go.Hx Go.Lo
structure Sl where
 b : Option Nat
 junk : List Value
def slv (a : Sl) (n : Nat) : Value := match a.b with
 | none => .slice none 0 0
 | some b => .slice (some ⟨b, 0, none⟩) n (n + a.junk.length)
def slOk (a : Sl) (xs : List Value) (e : TypeId) (L : Frag) : Prop := match a.b with
 | none => xs = [] ∧ a.junk = []
 | some b => (b, true, Obj.cells (xs ++ a.junk).toArray e) ∈ L
structure St where
 sl : Nat → Int
 bo : Int
 pn : Nat
 pg : Nat → Nat → Int
 ps : List (Nat × PS)
 last : Nat
 rows : Nat → List Nat
 by_ : Nat → List Int
 wt : List ((Nat × Nat) × List Nat)
 now : Nat
structure Lay where
 g : Nat
 gcap : Nat
 gc : Array Value
 a : Nat → Sl
 y : Nat → Sl
 wt : Nat
 born : List Nat
 clock : Nat
def slot (k : Nat × Nat) : Nat := 100 + 10 * k.1 + k.2
def kst (A : Lay) (S : St) : KS := ⟨S.sl, S.bo, .slice (some ⟨A.g, 0, none⟩) S.pn A.gcap, slv (A.a 0) S.ps.length, S.last, fun l => slv (A.a (l + 1)) (S.rows l).length, fun i => slv (A.y i) (S.by_ i).length, .map (some A.wt), S.now⟩
def keyv (k : Nat × Nat) : Value := .agg #[.int .i64 k.1, .int .i64 k.2]
def went (A : Lay) (e : ((Nat × Nat) × List Nat) × Nat) : MapEntry := ⟨keyv e.1.1, slv (A.a (slot e.1.1)) e.1.2.length, e.2⟩
def wobj (A : Lay) (S : St) : Obj := .map ((S.wt.zip A.born).map (went A)).toArray A.clock
structure Rep (K : Nat) (A : Lay) (S : St) (F : Frag) (L : Frag) : Prop where
 fn : Fun L
 k : kb K (kst A S) ∈ L
 g : (A.g, true, Obj.cells A.gc 158) ∈ L
 gv : ∀ i j, i < S.pn → j < 4 → A.gc[4 * i + j]? = some (.int .u8 (S.pg i j))
 p : ∀ q ∈ S.ps, pb q.1 q.2 ∈ L
 pn : (S.ps.map (·.1)).Nodup
 p8 : S.ps.length ≤ 8
 pa : slOk (A.a 0) (S.ps.map fun q => ptr q.1) 93 L
 rw : ∀ l, l < 3 → slOk (A.a (l + 1)) ((S.rows l).map ptr) 93 L
 ya : ∀ i, i < 5 → slOk (A.y i) ((S.by_ i).map fun v => .int .u8 v) 5 L
 w : (A.wt, true, wobj A S) ∈ L
 wl : A.born.length = S.wt.length
 bn : A.born.Nodup
 bc : ∀ x ∈ A.born, x < A.clock
 wa : ∀ e ∈ S.wt, slOk (A.a (slot e.1)) (e.2.map ptr) 93 L
 d : ∀ i j, i ≠ j → (A.a i).b ≠ none → (A.a i).b ≠ (A.a j).b
 dy : ∀ i j, i ≠ j → (A.y i).b ≠ none → (A.y i).b ≠ (A.y j).b
 al : ∀ i c, (A.a i).b = some c → ∃ xs, (c, true, Obj.cells xs 93) ∈ L
 yl : ∀ i c, (A.y i).b = some c → ∃ xs, (c, true, Obj.cells xs 5) ∈ L
 fr : ∀ t ∈ F, t ∈ L
 fd : ∀ t ∈ F, t.1 ≠ K ∧ (∀ q ∈ S.ps, t.1 ≠ q.1) ∧ (∀ i, (A.a i).b ≠ some t.1) ∧ (∀ i, (A.y i).b ≠ some t.1) ∧ t.1 ≠ A.wt
def St.setP (S : St) (b : Nat) (x : PS) : St := { S with ps := S.ps.map fun q => if q.1 = b then (b, x) else q }
section
variable {K : Nat} {A : Lay} {S : St} {F L L' : Frag}
theorem _root_.Go.Lo.Fun.ne {L : Frag} {b b' : Nat} {fl fl' : Bool} {o o' : Obj} (h : Fun L) (h1 : (b, fl, o) ∈ L) (h2 : (b', fl', o') ∈ L) (hne : o ≠ o') : b ≠ b' := by
 rintro rfl;exact hne (h _ _ _ _ _ h1 h2).2
theorem aF {c c' : Array Value} {t t' : TypeId} {f f' : Nat × Nat} (h : t ≠ t') : Obj.cells c t f ≠ Obj.cells c' t' f' := by
 intro e; cases e; exact h rfl
theorem slOk.mono {a : Sl} {xs : List Value} {e : TypeId} (h : slOk a xs e L) (hs : ∀ b, a.b = some b → ∀ o, (b, true, o) ∈ L → (b, true, o) ∈ L') : slOk a xs e L' := by
 unfold slOk at *
 split
 · rename_i hb; rw [hb] at h; exact h
 · rename_i b hb; rw [hb] at h; exact hs b hb _ h
theorem slOk.mem {a : Sl} {xs : List Value} {e : TypeId} (h : slOk a xs e L) {b : Nat} (hb : a.b = some b) : (b, true, Obj.cells (xs ++ a.junk).toArray e) ∈ L := by
 unfold slOk at h; rw [hb] at h; exact h
theorem bA {a : Sl} {xs : List Value} {e : TypeId} (h : slOk a xs e L) : ∃ base cap, slv a xs.length = .slice base xs.length cap ∧ ∀ i v, xs[i]? = some v → ∃ b, a.b = some b ∧ base = some ⟨b, 0, none⟩ ∧ At L b i v := by
 unfold slv;cases hb : a.b with
 | none =>
   unfold slOk at h;rw [hb] at h;obtain ⟨rfl, _⟩ := h;exact ⟨none, 0, rfl, fun i v hv => by simp at hv⟩
 | some b =>
   refine ⟨some ⟨b, 0, none⟩, _, rfl, fun i v hv => ⟨b, rfl, rfl, true, _, _, _, h.mem hb, ?_⟩⟩;have hlt := (List.getElem?_eq_some_iff.1 hv).1;rw [List.getElem?_toArray, List.getElem?_append_left hlt]; exact hv
theorem Rep.of (h : Rep K A S F L) (hf : Fun L') (hs : ∀ t ∈ L, t ∈ L') : Rep K A S F L' :=
 { h with
   fn := hf, k := hs _ h.k, g := hs _ h.g, p := fun q hq => hs _ (h.p q hq), w := hs _ h.w, fr := fun t ht => hs _ (h.fr t ht)
   pa := h.pa.mono fun _ _ _ x => hs _ x, rw := fun l hl => (h.rw l hl).mono fun _ _ _ x => hs _ x, ya := fun i hi => (h.ya i hi).mono fun _ _ _ x => hs _ x, wa := fun e he => (h.wa e he).mono fun _ _ _ x => hs _ x
   al := fun i c hc => (h.al i c hc).imp fun _ x => hs _ x, yl := fun i c hc => (h.yl i c hc).imp fun _ x => hs _ x }
theorem Rep.add (h : Rep K A S F L) {b : Nat} {o : Obj} (u : Add L b o L') : Rep K A S F L' := h.of u.fn u.sub
theorem Rep.keep (h : Rep K A S F L) {b : Nat} {o : Obj} (u : Add L b o L') (ha : ∀ i, (A.a i).b ≠ some b) (hy : ∀ i, (A.y i).b ≠ some b) : Rep K A S ((b, true, o) :: F) L' :=
 { h.add u with
   fr := fun t ht => by
     rcases List.mem_cons.1 ht with rfl | ht
     · exact u.self
     · exact u.sub _ (h.fr t ht)
   fd := fun t ht => by
     rcases List.mem_cons.1 ht with rfl | ht
     · exact ⟨fun e => u.new _ h.k e.symm, fun q hq e => u.new _ (h.p q hq) e.symm, ha, hy, fun e => u.new _ h.w e.symm⟩
     · exact h.fd t ht }
theorem Rep.less (h : Rep K A S F L) {F' : Frag} (hs : ∀ t ∈ F', t ∈ F) : Rep K A S F' L := { h with fr := fun t ht => h.fr t (hs t ht), fd := fun t ht => h.fd t (hs t ht) }
theorem bp {l : List (Nat × PS)} (h : (l.map (·.1)).Nodup) {b : Nat} {x y : PS} (h1 : (b, x) ∈ l) (h2 : (b, y) ∈ l) : x = y := by
 obtain ⟨i, hi⟩ := List.getElem?_of_mem h1;obtain ⟨j, hj⟩ := List.getElem?_of_mem h2;have e1 : (l.map (·.1))[i]? = some b := by simp [hi]
 have e2 : (l.map (·.1))[j]? = some b := by simp [hj]
 obtain ⟨hl1, he1⟩ := List.getElem?_eq_some_iff.1 e1;obtain ⟨hl2, he2⟩ := List.getElem?_eq_some_iff.1 e2;have hij : i = j := by
   rcases Nat.lt_trichotomy i j with g | g | g
   · exact absurd (he1.trans he2.symm) (List.pairwise_iff_getElem.1 h i j hl1 hl2 g)
   · exact g
   · exact absurd (he2.trans he1.symm) (List.pairwise_iff_getElem.1 h j i hl2 hl1 g)
 subst hij;rw [hi] at hj;simpa using hj
theorem aX (S : St) (b : Nat) (x : PS) : (S.setP b x).ps.map (·.1) = S.ps.map (·.1) := by
 simp only [St.setP, List.map_map];apply List.map_congr_left;intro q _;simp only [Function.comp]
 split
 · rename_i e; exact e.symm
 · rfl
theorem eP (S : St) (b : Nat) (x : PS) : (S.setP b x).ps.length = S.ps.length := by simp [St.setP]
theorem a5 {S : St} {b : Nat} {x : PS} {q : Nat × PS} (h : q ∈ (S.setP b x).ps) : q = (b, x) ∨ (q ∈ S.ps ∧ q.1 ≠ b) := by
 simp only [St.setP, List.mem_map] at h;obtain ⟨r, hr, e⟩ := h
 split at e
 · exact .inl e.symm
 · rename_i hne; exact .inr ⟨e ▸ hr, e ▸ hne⟩
theorem au {S : St} {b : Nat} {x y : PS} (h : (b, y) ∈ S.ps) : (b, x) ∈ (S.setP b x).ps := by
 simp only [St.setP, List.mem_map];exact ⟨(b, y), h, by simp⟩
theorem tx (S : St) (b : Nat) (x : PS) : (S.setP b x).ps.map (fun q => ptr q.1) = S.ps.map fun q => ptr q.1 := by
 have := congrArg (List.map ptr) (aX S b x);rw [List.map_map, List.map_map] at this;exact this
theorem tA (A : Lay) (S : St) (b : Nat) (x : PS) : kst A (S.setP b x) = kst A S := by unfold kst; rw [eP]; rfl
theorem Rep.setP (h : Rep K A S F L) {b : Nat} {x x' : PS} (hb : (b, x) ∈ S.ps) (u : Upd L b (.cells (pcells x') 99) L') : Rep K A (S.setP b x') F L' := by
 have hbm := h.p _ hb;have hk : K ≠ b := h.fn.ne h.k hbm (aF (by decide));have arr : ∀ (a : Sl) (xs : List Value) (e : TypeId), e ≠ 99 → slOk a xs e L → slOk a xs e L' := fun a xs e he ha => by
   refine ha.mono fun c hc o ho => u.ne _ ho ?_;exact h.fn.ne (ha.mem hc) hbm (aF he)
 exact { h with
   fn := u.fn
   k := by rw [tA]; exact u.ne _ h.k hk
   g := u.ne _ h.g (h.fn.ne h.g hbm (aF (by decide)))
   p := fun q hq => by
     rcases a5 hq with rfl | ⟨h1, h2⟩
     · exact u.self
     · exact u.ne _ (h.p q h1) h2
   pn := by rw [aX]; exact h.pn
   p8 := by rw [eP]; exact h.p8
   pa := by rw [tx]; exact arr _ _ _ (by decide) h.pa
   rw := fun l hl => arr _ _ _ (by decide) (h.rw l hl)
   ya := fun i hi => arr _ _ _ (by decide) (h.ya i hi)
   w := u.ne _ h.w (h.fn.ne h.w hbm (by simp [wobj]))
   wa := fun e he => arr _ _ _ (by decide) (h.wa e he)
   al := fun i c hc => by obtain ⟨xs, hx⟩ := h.al i c hc; exact ⟨xs, u.ne _ hx (h.fn.ne hx hbm (aF (by decide)))⟩
   yl := fun i c hc => by obtain ⟨xs, hx⟩ := h.yl i c hc; exact ⟨xs, u.ne _ hx (h.fn.ne hx hbm (aF (by decide)))⟩
   fr := fun t ht => u.ne _ (h.fr t ht) ((h.fd t ht).2.1 _ hb)
   fd := fun t ht => ⟨(h.fd t ht).1, fun q hq => by
     rcases a5 hq with rfl | ⟨h1, h2⟩
     · exact (h.fd t ht).2.1 (b, x) hb
     · exact (h.fd t ht).2.1 q h1, (h.fd t ht).2.2⟩ }
theorem Rep.setK (h : Rep K A S F L) {S' : St} (hps : S'.ps = S.ps) (hrw : S'.rows = S.rows) (hby : S'.by_ = S.by_) (hwt : S'.wt = S.wt) (hpn : S'.pn = S.pn) (hpg : S'.pg = S.pg) (u : Upd L K (.cells (kcells (kst A S')) 115) L') : Rep K A S' F L' := by
 have arr : ∀ (a : Sl) (xs : List Value) (e : TypeId), e ≠ 115 → slOk a xs e L → slOk a xs e L' := fun a xs e he ha => by
   refine ha.mono fun c hc o ho => u.ne _ ho ?_;exact h.fn.ne (ha.mem hc) h.k (aF he)
 exact { h with
   fn := u.fn
   k := u.self
   g := u.ne _ h.g (h.fn.ne h.g h.k (aF (by decide)))
   gv := by rw [hpn, hpg]; exact h.gv
   p := fun q hq => u.ne _ (h.p q (hps ▸ hq)) (h.fn.ne (h.p q (hps ▸ hq)) h.k (aF (by decide)))
   pn := by rw [hps]; exact h.pn
   p8 := by rw [hps]; exact h.p8
   pa := by rw [hps]; exact arr _ _ _ (by decide) h.pa
   rw := fun l hl => by rw [hrw]; exact arr _ _ _ (by decide) (h.rw l hl)
   ya := fun i hi => by rw [hby]; exact arr _ _ _ (by decide) (h.ya i hi)
   w := by
     have : wobj A S' = wobj A S := by unfold wobj; rw [hwt]
     rw [this];exact u.ne _ h.w (h.fn.ne h.w h.k (by simp [wobj]))
   wl := by rw [hwt]; exact h.wl
   wa := fun e he => arr _ _ _ (by decide) (h.wa e (hwt ▸ he))
   al := fun i c hc => by obtain ⟨xs, hx⟩ := h.al i c hc; exact ⟨xs, u.ne _ hx (h.fn.ne hx h.k (aF (by decide)))⟩
   yl := fun i c hc => by obtain ⟨xs, hx⟩ := h.yl i c hc; exact ⟨xs, u.ne _ hx (h.fn.ne hx h.k (aF (by decide)))⟩
   fr := fun t ht => u.ne _ (h.fr t ht) (h.fd t ht).1
   fd := fun t ht => ⟨(h.fd t ht).1, fun q hq => (h.fd t ht).2.1 q (hps ▸ hq), (h.fd t ht).2.2⟩ }
def Lay.setA (A : Lay) (i : Nat) (a : Sl) : Lay := { A with a := put A.a i a }
structure LRel (A A' : Lay) : Prop where
 a : ∀ i, i = 0 ∨ 3 < i → A'.a i = A.a i
 y : A'.y = A.y
 w : A'.wt = A.wt ∧ A'.born = A.born ∧ A'.clock = A.clock
 g : A'.g = A.g ∧ A'.gcap = A.gcap ∧ A'.gc = A.gc
theorem LRel.refl (A : Lay) : LRel A A := ⟨fun _ _ => rfl, rfl, ⟨rfl, rfl, rfl⟩, ⟨rfl, rfl, rfl⟩⟩
theorem LRel.trans {A B C : Lay} (h : LRel A B) (k : LRel B C) : LRel A C := ⟨fun i hi => (k.a i hi).trans (h.a i hi), k.y.trans h.y, ⟨k.w.1.trans h.w.1, k.w.2.1.trans h.w.2.1, k.w.2.2.trans h.w.2.2⟩, ⟨k.g.1.trans h.g.1, k.g.2.1.trans h.g.2.1, k.g.2.2.trans h.g.2.2⟩⟩
theorem LRel.set (A : Lay) {l : Nat} (hl : l < 3) (a : Sl) : LRel A (A.setA (l + 1) a) := ⟨fun i hi => by simp [Lay.setA, put]; intro e; omega, rfl, ⟨rfl, rfl, rfl⟩, ⟨rfl, rfl, rfl⟩⟩
def St.setRow (S : St) (l : Nat) (xs : List Nat) : St := { S with rows := put S.rows l xs }
theorem Rep.setRow (h : Rep K A S F L) {l : Nat} (hl : l < 3) {a' : Sl} {xs : List Nat} (hf : Fun L') (hk : kb K (kst (A.setA (l + 1) a') (S.setRow l xs)) ∈ L') (hs : ∀ t ∈ L, t.1 ≠ K → (A.a (l + 1)).b ≠ some t.1 → t ∈ L') (ha : slOk a' (xs.map ptr) 93 L')
   (hd : ∀ b, a'.b = some b → (A.a (l + 1)).b = some b ∨ ((∀ i, (A.a i).b ≠ some b) ∧ ∀ t ∈ F, t.1 ≠ b)) (hw : ∀ e ∈ S.wt, slot e.1 ≠ l + 1) : Rep K (A.setA (l + 1) a') (S.setRow l xs) F L' := by
 have hal : ∀ b, (A.a (l + 1)).b = some b → (b, true, Obj.cells ((S.rows l).map ptr ++ (A.a (l + 1)).junk).toArray 93) ∈ L := fun b hb => (h.rw l hl).mem hb;have ty : ∀ {b : Nat} {fl : Bool} {o : Obj}, (b, fl, o) ∈ L → (∀ c, o ≠ Obj.cells c 93) → (A.a (l + 1)).b ≠ some b := fun hm ho hb => ho _ (h.fn _ _ _ _ _ hm (hal _ hb)).2;have arr : ∀ (a : Sl) (xs : List Value) (e : TypeId), e ≠ 115 → (∀ b, a.b = some b → (A.a (l + 1)).b ≠ some b) → slOk a xs e L → slOk a xs e L' := fun a xs e he hne ha => by
   refine ha.mono fun c hc o ho => hs _ ho ?_ (hne c hc);exact h.fn.ne (ha.mem hc) h.k (aF he)
 have hdn : ∀ i, i ≠ l + 1 → ∀ b, (A.a i).b = some b → (A.a (l + 1)).b ≠ some b := fun i hi b hb e => h.d i (l + 1) hi (by rw [hb]; simp) (by rw [hb, e]);have pm : ∀ q ∈ S.ps, pb q.1 q.2 ∈ L' := fun q hq => hs _ (h.p q hq) (h.fn.ne (h.p q hq) h.k (aF (by decide))) (ty (h.p q hq) fun c => aF (by decide));have pA : ∀ i, i ≠ l + 1 → (A.setA (l + 1) a').a i = A.a i := fun i hi => by simp [Lay.setA, put, hi]
 exact { h with
   fn := hf
   k := hk
   g := hs _ h.g (h.fn.ne h.g h.k (aF (by decide))) (ty h.g fun c => aF (by decide))
   p := pm
   pa := by rw [pA 0 (by omega)]; exact arr _ _ _ (by decide) (hdn 0 (by omega)) h.pa
   rw := fun l' hl' => by
     by_cases e : l' = l
     · subst e;have e1 : (A.setA (l' + 1) a').a (l' + 1) = a' := by simp [Lay.setA, put]
       have e2 : (S.setRow l' xs).rows l' = xs := by simp [St.setRow, put]
       rw [e1, e2]; exact ha
     · have e2 : (S.setRow l xs).rows l' = S.rows l' := by simp [St.setRow, put, e]
       rw [pA _ (by omega), e2];exact arr _ _ _ (by decide) (hdn _ (by omega)) (h.rw l' hl')
   ya := fun i hi => arr _ _ _ (by decide) (fun b hb => ty ((h.ya i hi).mem hb) fun c => aF (by decide)) (h.ya i hi)
   w := by
     have : wobj (A.setA (l + 1) a') (S.setRow l xs) = wobj A S := by
       have e0 : (S.wt.zip A.born).map (went (A.setA (l + 1) a')) = (S.wt.zip A.born).map (went A) := by
         apply List.map_congr_left;intro e he;unfold went;rw [pA _ (hw e.1 (List.of_mem_zip he).1)]
       show Obj.map ((S.wt.zip A.born).map (went (A.setA (l + 1) a'))).toArray A.clock = _;rw [e0]; rfl
     rw [this];exact hs _ h.w (h.fn.ne h.w h.k (by simp [wobj])) (ty h.w fun c => by simp [wobj])
   wa := fun e he => by rw [pA _ (hw e he)]; exact arr _ _ _ (by decide) (hdn _ (hw e he)) (h.wa e he)
   al := fun i c hc => by
     by_cases ei : i = l + 1
     · subst ei;have e1 : (A.setA (l + 1) a').a (l + 1) = a' := by simp [Lay.setA, put]
       rw [e1] at hc;exact ⟨_, ha.mem hc⟩
     · rw [pA i ei] at hc;obtain ⟨xs, hx⟩ := h.al i c hc;exact ⟨xs, hs _ hx (h.fn.ne hx h.k (aF (by decide))) (hdn i ei c hc)⟩
   yl := fun i c hc => by
     obtain ⟨xs, hx⟩ := h.yl i c hc;exact ⟨xs, hs _ hx (h.fn.ne hx h.k (aF (by decide))) (ty hx fun c => aF (by decide))⟩
   d := fun i j hij hi => by
     by_cases ei : i = l + 1
     · subst ei;have e1 : (A.setA (l + 1) a').a (l + 1) = a' := by simp [Lay.setA, put]
       rw [pA j (by omega), e1];rw [e1] at hi;intro e;cases hb : a'.b with
       | none => exact hi hb
       | some b =>
         rcases hd b hb with h1 | h1
         · exact h.d (l + 1) j (by omega) (by rw [h1]; simp) (by rw [h1, ← e, hb])
         · exact h1.1 j (by rw [← e, hb])
     · rw [pA i ei];rw [pA i ei] at hi;by_cases ej : j = l + 1
       · subst ej;have e1 : (A.setA (l + 1) a').a (l + 1) = a' := by simp [Lay.setA, put]
         rw [e1];intro e;cases hb : a'.b with
         | none => rw [hb] at e; exact hi e
         | some b =>
           rcases hd b hb with h1 | h1
           · exact h.d i (l + 1) ei hi (by rw [h1, e, hb])
           · exact h1.1 i (by rw [e, hb])
       · rw [pA j ej]; exact h.d i j hij hi
   fr := fun t ht => hs _ (h.fr t ht) (h.fd t ht).1 ((h.fd t ht).2.2.1 _)
   fd := fun t ht => by
     refine ⟨(h.fd t ht).1, (h.fd t ht).2.1, fun i => ?_, (h.fd t ht).2.2.2⟩;by_cases ei : i = l + 1
     · subst ei;have e1 : (A.setA (l + 1) a').a (l + 1) = a' := by simp [Lay.setA, put]
       rw [e1];intro e;rcases hd _ e with h1 | h1
       · exact (h.fd t ht).2.2.1 _ h1
       · exact h1.2 t ht rfl
     · rw [pA i ei]; exact (h.fd t ht).2.2.1 i }
end
abbrev ptq (a : Nat × Nat) : Value := .pointer (some ⟨a.1, a.2, none⟩)
theorem AF : ∃ n, ∀ {σ : Type} {F : Fam σ} {Δ : ∀ s, Dom (F.R s) (F.D s)} {main : Bool} {s : σ} (L : Frag) (e : Nat × Nat) (t vp : Nat), (∀ cs, (Δ s).New (.cells cs 196)) →
   CallsL Δ Tryz.prog main 122 [.iface 255 (ptq e), .iface 182 (ptr t), rval 182 vp 150, rty 180].toArray n s L (fun s' v L' => s = s' ∧ v = .bool false ∧ Fun L' ∧ ∀ t ∈ L, t ∈ L') := by
 apply Exists.intro;intro σ F Δ main s L e t vp hN;co_applyP aB 62 Tryz.func122 Tryz.ntmps122;co_applyP ae;co_applyP aa;co_applyP bN rfl (bV (hN _));intro nb L1 hA;co_applyP oy rfl ak;co_applyP ah;change wpE ..;co_applyP aI;co_applyP bG (fun k s' ε' L' => s' = s ∧ k = 1 ∧ L' = L1 ∧ kn ε' [(0, .iface 255 (ptq e)), (1, .iface 182 (ptr t)), (3, rty 180), (6, ptr nb)]) 1
 · exact ⟨rfl, rfl, rfl, rfl⟩
 rintro k s' ε' L' ⟨rfl, rfl, rfl, he⟩;co_applyP a6 he;co_applyP aI;co_applyP ae;co_applyP ae;co_applyP aa;co_applyP oy rfl aj;co_applyP oy rfl (xm);co_applyP oy rfl aj;co_applyP oy rfl (vF);co_applyP ah;change wpE ..;co_applyP aq rfl;co_applyP aA;change wpE ..;co_applyP ae;co_applyP ae;co_applyP aa;co_applyP oy rfl aj;co_applyP oy rfl (zF);co_applyP oy rfl aj;co_applyP oy rfl bM;co_applyP oy rfl bM;co_applyP oy rfl ak;co_applyP oy rfl ak;co_applyP ah;change wpE ..;co_applyP ae;co_applyP aa;co_applyP oy rfl aj;co_applyP oy rfl aj;co_applyP ou rfl;co_applyP ou rfl;co_applyP ou rfl;co_applyP oy rfl aN;co_applyP ah;change wpE ..;co_applyP aq rfl;co_applyP aA;change wpE ..;co_applyP ae;co_applyP aa;co_applyP oy rfl aj;co_applyP ah;change wpE ..;co_applyP aI;co_applyP ae;co_applyP aa;co_applyP oy rfl (xj);co_applyP oy rfl bM;co_applyP oy rfl bM;co_applyP ah;change wpE ..;co_applyP aq rfl;co_applyP ae;co_applyP aa;co_applyP oy rfl (xl);co_applyP oy rfl bM;co_applyP oy rfl bM;co_applyP ah;change wpE ..;co_applyP aq rfl;co_applyP ae;co_applyP aa;co_applyP oy rfl ak;co_applyP ah;change wpE ..;co_applyP ae;co_applyP aa;co_applyP oy rfl ak;co_applyP ah;change wpE ..;co_applyP aJ;change ∃ v, resE .. = some v ∧ _;exact ⟨_, rfl, rfl, rfl, hA.fn, hA.sub⟩
theorem AG : ∃ n, ∀ {σ : Type} {F : Fam σ} {Δ : ∀ s, Dom (F.R s) (F.D s)} {main : Bool} {s : σ} (L : Frag) (r t vp : Nat) (v0 : Value), (∀ cs, (Δ s).New (.cells cs 196)) → (∀ cs, (Δ s).New (.cells cs 180)) → At L vp 0 (ptr t) → (t, true, Obj.cells #[v0] 180) ∈ L →
   CallsL Δ Tryz.prog main 122 [.iface 180 (ptr r), .iface 182 (ptr t), rval 182 vp 150, rty 180].toArray n s L (fun s' v L' => s = s' ∧ v = .bool true ∧ ∃ L1, Fun L1 ∧ (∀ t ∈ L, t ∈ L1) ∧ Upd L1 t (.cells #[ptr r] 180) L') := by
 apply Exists.intro;intro σ F Δ main s L r t vp v0 hN hN2 hv ht;co_applyP aB 62 Tryz.func122 Tryz.ntmps122;co_applyP ae;co_applyP aa;co_applyP bN rfl (bV (hN _));intro nb L1 hA;co_applyP oy rfl ak;co_applyP ah;change wpE ..;co_applyP aI;co_applyP bG (fun k s' ε' L' => s' = s ∧ k = 1 ∧ L' = L1 ∧ kn ε' [(0, .iface 180 (ptr r)), (1, .iface 182 (ptr t)), (3, rty 180), (6, ptr nb)]) 1
 · exact ⟨rfl, rfl, rfl, rfl⟩
 rintro k s' ε' L' ⟨rfl, rfl, rfl, he⟩;co_applyP a6 he;have hv1 : At L' vp 0 (ptr t) := let ⟨a, b, c, d, e, f⟩ := hv; ⟨a, b, c, d, hA.sub _ e, f⟩;co_applyP aI;co_applyP ae (n₂ := 0);co_applyP ae;co_applyP aa;co_applyP oy rfl aj;co_applyP oy rfl (zJ);co_applyP oy rfl aj;co_applyP oy rfl (vG);co_applyP ah;change wpE ..;co_applyP aW rfl;co_applyP ae;co_applyP aa;co_applyP oy rfl (a8 (ht := gD) (hs := fc) (hm := hA.self) (hi := Nat.le_refl _));co_applyP oy rfl (AC hv1);co_applyP oy rfl aj;co_applyP bN rfl (zM (hN2 _));intro nb2 L2 hA2;have hat2 : At L2 nb2 0 (ptr r) := ⟨true, _, _, _, hA2.self, rfl⟩;co_applyP oeN rfl (fun hnd => AE hnd hat2 (hA2.sub _ (hA.sub _ ht)) (Nat.one_pos));rintro _ L3 ⟨rfl, hU⟩;co_applyP ah;change wpE ..;co_applyP ae;co_applyP aa;co_applyP oy rfl ak;co_applyP ah;change wpE ..;co_applyP aJ;change ∃ v, resE .. = some v ∧ _;exact ⟨_, rfl, rfl, rfl, L2, hA2.fn, fun x hx => hA2.sub _ (hA.sub _ hx), hU⟩
theorem AH : ∃ n, ∀ {σ : Type} {F : Fam σ} {Δ : ∀ s, Dom (F.R s) (F.D s)} {main : Bool} {s : σ} (L : Frag) (e : Nat × Nat) (t : Nat), (∀ cs, (Δ s).New (.cells cs 196)) → (∀ cs, (Δ s).New (.cells cs 182)) → At L 2 0 (rty 168) →
   CallsL Δ Tryz.prog main 103 [.iface 255 (ptq e), .iface 182 (ptr t)].toArray n s L (fun s' v L' => s = s' ∧ v = .bool false ∧ Fun L' ∧ ∀ t ∈ L, t ∈ L') := by
 obtain ⟨n1, g1⟩ := AF;apply Exists.intro;intro σ F Δ main s L e t hN hN2 hg;co_applyP aB 42 Tryz.func103 Tryz.ntmps103;co_applyP ae;co_applyP aa;co_applyP oy rfl ak;co_applyP ah;change wpE ..;co_applyP ae;co_applyP ae;co_applyP aa;co_applyP oy rfl aj;co_applyP oy rfl (dx (v := .iface 255 (ptq e)) (c := false) (hv := .inr ⟨_, _, rfl, rfl⟩) (hu := Tryz.underlying168));co_applyP ah;change wpE ..;co_applyP aq rfl;co_applyP aA;change wpE ..;co_applyP ae;co_applyP ae;co_applyP aa;co_applyP oy rfl aj;co_applyP oy rfl (dx (v := .iface 182 (ptr t)) (c := false) (hv := .inr ⟨_, _, rfl, rfl⟩) (hu := Tryz.underlying20));co_applyP ah;change wpE ..;co_applyP aq rfl;co_applyP aA;change wpE ..;co_applyP ae;co_applyP aa;co_applyP oy rfl aj;co_applyP bN rfl (xo (hN2 _));intro vp L1 hA;co_applyP bN rfl (dQ (z := .agg #[.pointer none, .pointer none, .int .u64 0]) (hN _));intro nb L2 hA2;co_applyP oeN rfl (fun hnd => fj (hs := fc) (vs := [.pointer (some ⟨11, 182, none⟩), ptr vp, .int .u64 150]) (hnd := hnd) (hm := hA2.self) (hi := Nat.le_refl _));rintro _ L3 ⟨rfl, hU⟩;have hb3 := hU.self;have hv3 : (vp, true, Obj.cells #[ptr t] 182) ∈ L3 := hU.ne _ (hA2.sub _ hA.self) (fun h => hA2.new _ hA.self h);have hvp : At L3 vp 0 (ptr t) := ⟨true, _, _, _, hv3, rfl⟩;have hL3 : ∀ x ∈ L, x ∈ L3 := fun x hx => hU.ne _ (hA2.sub _ (hA.sub _ hx)) (fun h => hA2.new _ (hA.sub _ hx) h);have hg3 : At L3 2 0 (rty 168) := let ⟨a, b, c, d, e, f⟩ := hg; ⟨a, b, c, d, hL3 _ e, f⟩;co_applyP ah;change wpE ..;co_applyP ae;co_applyP aa;co_applyP oy rfl (a8 (ht := gD) (hs := fc) (hm := hb3) (hi := Nat.le_refl _));co_applyP oy rfl (zK);co_applyP oy rfl ak;co_applyP ah;change wpE ..;co_applyP ae;co_applyP ae;co_applyP aa;co_applyP oy rfl aj;co_applyP oy rfl (ng);co_applyP oy rfl cY;co_applyP oy rfl aj;co_applyP oy rfl (a8 (ht := gD) (hs := fc) (hm := hb3) (hi := Nat.le_refl _));co_applyP oy rfl (zL hvp);co_applyP oy rfl aN;co_applyP ah;change wpE ..;co_applyP aq rfl;co_applyP aA;change wpE ..;co_applyP ae;co_applyP aa;co_applyP oy rfl aj;co_applyP oy rfl (ni);co_applyP oy rfl ak;co_applyP ah;change wpE ..;co_applyP ae;co_applyP ae;co_applyP aa;co_applyP oy rfl aj;co_applyP oy rfl (nh);co_applyP oy rfl cY;co_applyP oy rfl aj;co_applyP oy rfl (aj);co_applyP oy rfl ((aC (ht := tn)));co_applyP oy rfl (xn);co_applyP oy rfl (bY);co_applyP oy rfl aN;co_applyP ah;change wpE ..;co_applyP aq rfl;co_applyP aA;change wpE ..;co_applyP ae;co_applyP aa;co_applyP oy rfl aj;co_applyP oy rfl aj;co_applyP oy rfl (a8 (ht := gD) (hs := fc) (hm := hb3) (hi := Nat.le_refl _));co_applyP oy rfl aj;co_applyP oc rfl rfl rfl (g1 L3 e t vp hN);rintro _ _ _ ⟨rfl, rfl, hF, hs⟩;co_applyP oy rfl ak;co_applyP ah;change wpE ..;co_applyP aJ
 change ∃ v, resE .. = some v ∧ _;exact ⟨_, rfl, rfl, rfl, hF, fun x hx => hs _ (hL3 _ hx)⟩
theorem AI : ∃ n, ∀ {σ : Type} {F : Fam σ} {Δ : ∀ s, Dom (F.R s) (F.D s)} {main : Bool} {s : σ} (L : Frag) (e t : Nat) (v0 : Value), (∀ cs, (Δ s).New (.cells cs 196)) → (∀ cs, (Δ s).New (.cells cs 182)) → At L 2 0 (rty 168) → (∀ cs, (Δ s).New (.cells cs 180)) → (t, true, Obj.cells #[v0] 180) ∈ L →
   CallsL Δ Tryz.prog main 103 [.iface 180 (ptr e), .iface 182 (ptr t)].toArray n s L (fun s' v L' => s = s' ∧ v = .bool true ∧ ∃ L1, Fun L1 ∧ (∀ t ∈ L, t ∈ L1) ∧ Upd L1 t (.cells #[ptr e] 180) L') := by
 obtain ⟨n1, g1⟩ := AG;apply Exists.intro;intro σ F Δ main s L e t v0 hN hN2 hg hN3 ht;co_applyP aB 42 Tryz.func103 Tryz.ntmps103;co_applyP ae;co_applyP aa;co_applyP oy rfl ak;co_applyP ah;change wpE ..;co_applyP ae;co_applyP ae;co_applyP aa;co_applyP oy rfl aj;co_applyP oy rfl (dx (v := .iface 180 (ptr e)) (c := false) (hv := .inr ⟨_, _, rfl, rfl⟩) (hu := Tryz.underlying168));co_applyP ah;change wpE ..;co_applyP aq rfl;co_applyP aA;change wpE ..;co_applyP ae;co_applyP ae;co_applyP aa;co_applyP oy rfl aj;co_applyP oy rfl (dx (v := .iface 182 (ptr t)) (c := false) (hv := .inr ⟨_, _, rfl, rfl⟩) (hu := Tryz.underlying20));co_applyP ah;change wpE ..;co_applyP aq rfl;co_applyP aA;change wpE ..;co_applyP ae;co_applyP aa;co_applyP oy rfl aj;co_applyP bN rfl (xo (hN2 _));intro vp L1 hA;co_applyP bN rfl (dQ (z := .agg #[.pointer none, .pointer none, .int .u64 0]) (hN _));intro nb L2 hA2;co_applyP oeN rfl (fun hnd => fj (hs := fc) (vs := [.pointer (some ⟨11, 182, none⟩), ptr vp, .int .u64 150]) (hnd := hnd) (hm := hA2.self) (hi := Nat.le_refl _));rintro _ L3 ⟨rfl, hU⟩;have hb3 := hU.self;have hv3 : (vp, true, Obj.cells #[ptr t] 182) ∈ L3 := hU.ne _ (hA2.sub _ hA.self) (fun h => hA2.new _ hA.self h);have hvp : At L3 vp 0 (ptr t) := ⟨true, _, _, _, hv3, rfl⟩;have hL3 : ∀ x ∈ L, x ∈ L3 := fun x hx => hU.ne _ (hA2.sub _ (hA.sub _ hx)) (fun h => hA2.new _ (hA.sub _ hx) h);have hg3 : At L3 2 0 (rty 168) := let ⟨a, b, c, d, e, f⟩ := hg; ⟨a, b, c, d, hL3 _ e, f⟩;co_applyP ah;change wpE ..;co_applyP ae;co_applyP aa;co_applyP oy rfl (a8 (ht := gD) (hs := fc) (hm := hb3) (hi := Nat.le_refl _));co_applyP oy rfl (zK);co_applyP oy rfl ak;co_applyP ah;change wpE ..;co_applyP ae;co_applyP ae;co_applyP aa;co_applyP oy rfl aj;co_applyP oy rfl (ng);co_applyP oy rfl cY;co_applyP oy rfl aj;co_applyP oy rfl (a8 (ht := gD) (hs := fc) (hm := hb3) (hi := Nat.le_refl _));co_applyP oy rfl (zL hvp);co_applyP oy rfl aN;co_applyP ah;change wpE ..;co_applyP aq rfl;co_applyP aA;change wpE ..;co_applyP ae;co_applyP aa;co_applyP oy rfl aj;co_applyP oy rfl (ni);co_applyP oy rfl ak;co_applyP ah;change wpE ..;co_applyP ae;co_applyP ae;co_applyP aa;co_applyP oy rfl aj;co_applyP oy rfl (nh);co_applyP oy rfl cY;co_applyP oy rfl aj;co_applyP oy rfl (aj);co_applyP oy rfl ((aC (ht := tn)));co_applyP oy rfl (xn);co_applyP oy rfl (bY);co_applyP oy rfl aN;co_applyP ah;change wpE ..;co_applyP aq rfl;co_applyP aA;change wpE ..;co_applyP ae;co_applyP aa;co_applyP oy rfl aj;co_applyP oy rfl aj;co_applyP oy rfl (a8 (ht := gD) (hs := fc) (hm := hb3) (hi := Nat.le_refl _));co_applyP oy rfl aj;co_applyP oc rfl rfl rfl (g1 L3 e t vp v0 hN hN3 hvp (hL3 _ ht));rintro _ _ _ ⟨rfl, rfl, L4, hF, hs, hU4⟩;co_applyP oy rfl ak;co_applyP ah
 change wpE ..;co_applyP aJ;change ∃ v, resE .. = some v ∧ _;exact ⟨_, rfl, rfl, rfl, L4, hF, fun x hx => hs _ (hL3 _ hx), hU4⟩
end Go.Proofs.YtejkelcaljmnoaaGreatDoor
namespace Go.Lo
open Go.Conc Go.Hx
section
variable {σ : Type} {F : Fam σ} {Δ : ∀ s, Dom (F.R s) (F.D s)} {P : Program} {main : Bool} {fn : FuncId} {N : Nat} {Q : σ → Exit → Env → Frag → Prop} {s : σ} {ε : Env} {L : Frag}
theorem i9 {f : FuncId} {vs : Array Value} {n n' : Nat} {Post : σ → Value → Frag → Prop} (h : CallsL Δ P main f vs n s L Post) (hn : n ≤ n') : CallsL Δ P main f vs n' s L Post := fun w hO => by
 obtain ⟨g, c, hf, hname, hbody, hwp⟩ := h w hO;exact ⟨g, c, hf, hname, hbody, fun b k cs m hb hk hc => (hwp b k cs m hb hk hc).mono (by omega)⟩
theorem bK (p : Prop) {c : Code} {n₁ n₂ : Nat} (h1 : p → wpE Δ P main fn N c n₁ s Q ε L) (h2 : ¬ p → wpE Δ P main fn N c n₂ s Q ε L) : wpE Δ P main fn N c (n₁ + n₂) s Q ε L := by
 by_cases h : p
 · exact gS (h1 h) (by omega)
 · exact gS (h2 h) (by omega)
theorem pT (p : Prop) {ops : Array Oper} {todo : List Nat} {n₁ n₂ : Nat} (h1 : p → OpsE Δ P main fn N ops todo n₁ s Q ε L) (h2 : ¬ p → OpsE Δ P main fn N ops todo n₂ s Q ε L) : OpsE Δ P main fn N ops todo (n₁ + n₂) s Q ε L := by
 by_cases h : p
 · exact k8 (h1 h) (by omega)
 · exact k8 (h2 h) (by omega)
theorem aS (p : Prop) {f : FuncId} {vs : Array Value} {n₁ n₂ : Nat} {Post : σ → Value → Frag → Prop} (h1 : p → CallsL Δ P main f vs n₁ s L Post) (h2 : ¬ p → CallsL Δ P main f vs n₂ s L Post) : CallsL Δ P main f vs (n₁ + n₂) s L Post := by
 by_cases h : p
 · exact i9 (h1 h) (by omega)
 · exact i9 (h2 h) (by omega)
theorem aU {f : FuncId} {vs : Array Value} {n : Nat} {Post Post' : σ → Value → Frag → Prop} (h : CallsL Δ P main f vs n s L Post) (hp : ∀ s v L, Post s v L → Post' s v L) : CallsL Δ P main f vs n s L Post' := fun w hO => by
 obtain ⟨g, c, hf, hname, hbody, hwp⟩ := h w hO;refine ⟨g, c, hf, hname, hbody, fun b k cs m hb hk hc => hwp b k cs m hb hk fun s' e a' w' q => hc s' e a' w' ?_⟩;cases e with
 | normal => obtain ⟨h1, v, h2, L', h3, h4⟩ := q; exact ⟨h1, v, h2, L', h3, hp _ _ _ h4⟩
 | ret => obtain ⟨h1, v, h2, L', h3, h4⟩ := q; exact ⟨h1, v, h2, L', h3, hp _ _ _ h4⟩
 | _ => exact q
end
section
variable {P : Program} {New : Obj → Prop} {N : Nat} {ε : Env} {L : Frag} {d : Option Tmp} {ty : TypeId} {ps : String} {af : Array Edge} {g : Option (Nat × Bool)}
theorem bq {t : TypeId} {fs : Array (Nat × Operand)} {ws : List (Nat × Value)} {v : Value} (hv : evR P (Instr.build t ws.toArray) [] = some (v, [])) (hx : fs.toList.map (fun p => (p.1, ev ε p.2)) = ws.map (fun p => (p.1, some p.2)) := by rfl) : EY P N ε L ⟨d, .build t fs, ty, ps, af, g⟩ v := fun a ha => by
 have hw : fs.map (fun p => (p.1, a.eval p.2)) = ws.toArray := by
   apply Array.ext';have : ∀ (l : List (Nat × Operand)) (ws : List (Nat × Value)), l.map (fun p => (p.1, ev ε p.2)) = ws.map (fun p => (p.1, some p.2)) → l.map (fun p => (p.1, a.eval p.2)) = ws := by
     intro l
     induction l with
     | nil => intro vs h; cases vs <;> simp_all
     | cons x l ih =>
       intro vs h;cases vs with
       | nil => simp at h
       | cons v vs =>
         simp only [List.map_cons, List.cons.injEq, Prod.mk.injEq] at h ⊢;exact ⟨Prod.ext h.1.1 (ha.ev h.1.2), ih vs h.2⟩
   simpa using this _ _ hx
 refine cG (fun _ => rfl) fun K hK => ?_;show wpQ P (Instr.build t (fs.map fun p => (p.1, a.eval p.2))) K L;rw [hw];exact bd hv hK
end
end Go.Lo
namespace Go.Proofs.YtejkelcaljmnoaaGreatDoor
open Go.Conc Go.Hx Go.Lo
theorem vI (r : Nat) : evR Tryz.prog (Go.method (Tryz.prog.types.size + Made.depth) 180 (ptr r) "Unwrap") [] = some ((193, ptr r), []) := by kernel_rfl
theorem x9 : (Tryz.prog.info? 255).map (·.comparable) = some true := by kernel_rfl
theorem tB : ∃ n, ∀ {σ : Type} {F : Fam σ} {Δ : ∀ s, Dom (F.R s) (F.D s)} {main : Bool} {s : σ} (L : Frag) (r : Nat) (v : Value), At L r 1 v →
   CallsL Δ Tryz.prog main 193 [ptr r].toArray n s L (fun s' v' L' => s = s' ∧ L = L' ∧ v = v') := by
 apply Exists.intro;intro σ F Δ main s L r v hv;co_applyP aB 7 Tryz.func193 Tryz.ntmps193;co_applyP ae;co_applyP aa;co_applyP oy rfl ak;co_applyP ah;change wpE ..;co_applyP ae;co_applyP aa;co_applyP oy rfl aj;co_applyP oy rfl aL;co_applyP oy rfl (av (hf := tq));co_applyP oy rfl (aC (ht := b4));co_applyP oy rfl ak;co_applyP ah;change wpE ..;co_applyP aJ;change ∃ v, resE .. = some v ∧ _;exact ⟨_, rfl, rfl, rfl, rfl⟩
theorem AJ : ∃ n, ∀ {σ : Type} {F : Fam σ} {Δ : ∀ s, Dom (F.R s) (F.D s)} {main : Bool} {s : σ} (L : Frag) (r : Nat) (e t : Nat × Nat) (fl fl' : Bool) (cs cs' : Array Value) (ty ty' : TypeId), At L r 1 (.iface 255 (ptq e)) → (e.1, fl, Obj.cells cs ty) ∈ L → (t.1, fl', Obj.cells cs' ty') ∈ L →
   CallsL Δ Tryz.prog main 145 [.iface 180 (ptr r), .iface 255 (ptq t), .bool true].toArray n s L (fun s' v L' => s = s' ∧ L = L' ∧ v = .bool (decide (e = t))) := by
 obtain ⟨n1, g1⟩ := tB;apply Exists.intro;intro σ F Δ main s L r e t fl fl' cs cs' ty ty' hr he ht;co_applyP aB 54 Tryz.func145 Tryz.ntmps145;co_applyP ae;co_applyP aa;co_applyP oy rfl ak;co_applyP ah;change wpE ..;co_applyP aI;co_applyP bG (fun k s' ε' L' => s' = s ∧ L' = L ∧ ((k = 2 ∧ kn ε' [(0, .iface 180 (ptr r)), (1, .iface 255 (ptq t)), (2, .bool true)]) ∨ (k = 1 ∧ kn ε' [(0, .iface 255 (ptq e)), (1, .iface 255 (ptq t)), (2, .bool true)]))) 2
 · exact ⟨rfl, rfl, .inl ⟨rfl, rfl⟩⟩
 rintro k s' ε' L' ⟨rfl, rfl, hk⟩;co_applyP bK (k = 2);intro h2
 · have hε : kn ε' [(0, .iface 180 (ptr r)), (1, .iface 255 (ptq t)), (2, .bool true)] := by
     rcases hk with ⟨_, h⟩ | ⟨h, _⟩
     · exact h
     · omega
   co_applyP a6 hε;co_applyP aI;co_applyP ae;co_applyP ae;co_applyP aa;co_applyP oy rfl aj;co_applyP oy rfl aj;co_applyP oy rfl (aj);co_applyP oy rfl (aj);co_applyP oy rfl (zq (oO _ _));co_applyP oy rfl aN;co_applyP ah;change wpE ..;co_applyP aq rfl;co_applyP aA;change wpE ..;co_applyP ae;co_applyP ae;co_applyP aa;co_applyP oy rfl aj;co_applyP oy rfl (zH);co_applyP oy rfl aj;co_applyP oy rfl bM;co_applyP oy rfl bM;co_applyP oy rfl ak;co_applyP oy rfl ak;co_applyP ah;change wpE ..;co_applyP ae;co_applyP aa;co_applyP oy rfl aj;co_applyP oy rfl aj;co_applyP ou rfl;co_applyP ou rfl;co_applyP ou rfl;co_applyP oy rfl aN;co_applyP ah;change wpE ..;co_applyP aq rfl;co_applyP aA;change wpE ..;co_applyP ae;co_applyP aa;co_applyP oy rfl aj;co_applyP ah;change wpE ..;co_applyP aI;co_applyP ae;co_applyP aa;co_applyP oy rfl (AB (zI _));co_applyP oy rfl bM;co_applyP oy rfl bM;co_applyP ah;change wpE ..;co_applyP aW rfl;co_applyP ae;co_applyP aa;co_applyP oy rfl ak;co_applyP ah;change wpE ..;co_applyP ae;co_applyP aa;co_applyP oy rfl aj;co_applyP oi rfl (vs := []) (rc := ptr r) (hm := bd (vI r) rfl) (hf := Tryz.func193) (hcall := g1 L' r (.iface 255 (ptq e)) hr);rintro _ _ _ ⟨rfl, rfl, rfl⟩;co_applyP oy rfl ak;co_applyP ah;change wpE ..;co_applyP ae;co_applyP aa;co_applyP oy rfl aj;co_applyP oy rfl (dx (v := .iface 255 (ptq e)) (c := false) (hv := .inr ⟨_, _, rfl, rfl⟩) (hu := Tryz.underlying168));co_applyP ah;change wpE ..;co_applyP aq rfl;co_applyP aA;change ∃ k', k' < _ ∧ _;exact ⟨1, by omega, rfl, rfl, .inr ⟨rfl, rfl⟩⟩
 intro h2;co_applyP aI;co_applyP ae;co_applyP ae;have hε : kn ε' [(0, .iface 255 (ptq e)), (1, .iface 255 (ptq t)), (2, .bool true)] := by
   rcases hk with ⟨h, _⟩ | ⟨_, h⟩
   · omega
   · exact h
 co_applyP a6 hε;co_applyP aa;co_applyP oy rfl aj;co_applyP oy rfl aj;co_applyP oy rfl (aj);co_applyP oy rfl (aj);co_applyP oy rfl (zr (hu := Tryz.underlying168) (hi := x9) (hp := Tryz.underlying255) (hs := x8) (h1 := he) (h2 := ht));co_applyP oy rfl aN;co_applyP ah;change wpE ..;co_applyP bl rfl;intro hc;co_applyP ae;co_applyP aa;co_applyP oy rfl ak;co_applyP ah;change wpE ..;co_applyP aJ;change ∃ v, resE .. = some v ∧ _
 · have e1 : e = t := by simpa [Prod.ext_iff] using hc
   exact ⟨_, rfl, rfl, rfl, by simp [e1]⟩
 intro hc;co_applyP aA;change wpE ..;co_applyP ae;co_applyP ae;co_applyP aa;co_applyP oy rfl aj;have e1 : ¬ e = t := by simpa [Prod.ext_iff] using hc
 co_applyP oy rfl (zG);co_applyP oy rfl aj;co_applyP oy rfl bM;co_applyP oy rfl bM;co_applyP oy rfl ak;co_applyP oy rfl ak;co_applyP ah;change wpE ..;co_applyP ae;co_applyP aa;co_applyP oy rfl aj;co_applyP oy rfl aj;co_applyP ou rfl;co_applyP ou rfl;co_applyP ou rfl;co_applyP oy rfl aN;co_applyP ah;change wpE ..;co_applyP aq rfl;co_applyP aA;change wpE ..;co_applyP ae;co_applyP aa;co_applyP oy rfl aj;co_applyP ah;change wpE ..;co_applyP aI;co_applyP ae;co_applyP aa;co_applyP oy rfl (xj);co_applyP oy rfl bM;co_applyP oy rfl bM;co_applyP ah;change wpE ..;co_applyP aq rfl;co_applyP ae;co_applyP aa;co_applyP oy rfl (xl);co_applyP oy rfl bM;co_applyP oy rfl bM;co_applyP ah;change wpE ..;co_applyP aq rfl;co_applyP ae;co_applyP aa;co_applyP oy rfl ak;co_applyP ah;change wpE ..;co_applyP ae;co_applyP aa;co_applyP oy rfl ak;co_applyP ah;change wpE ..;co_applyP aJ;change ∃ v, resE .. = some v ∧ _;exact ⟨_, rfl, rfl, rfl, by simp [e1]⟩
theorem AK : ∃ n, ∀ {σ : Type} {F : Fam σ} {Δ : ∀ s, Dom (F.R s) (F.D s)} {main : Bool} {s : σ} (L : Frag) (r : Nat) (e t : Nat × Nat) (fl fl' : Bool) (cs cs' : Array Value) (ty ty' : TypeId), At L r 1 (.iface 255 (ptq e)) → (e.1, fl, Obj.cells cs ty) ∈ L → (t.1, fl', Obj.cells cs' ty') ∈ L →
   CallsL Δ Tryz.prog main 123 [.iface 180 (ptr r), .iface 255 (ptq t)].toArray n s L (fun s' v L' => s = s' ∧ L = L' ∧ v = .bool (decide (e = t))) := by
 obtain ⟨n1, g1⟩ := AJ;apply Exists.intro;intro σ F Δ main s L r e t fl fl' cs cs' ty ty' hr he ht;co_applyP aB 22 Tryz.func123 Tryz.ntmps123;co_applyP ae;co_applyP aa;co_applyP oy rfl ak;co_applyP ah;change wpE ..;co_applyP ae;co_applyP ae;co_applyP aa;co_applyP oy rfl aj;co_applyP oy rfl (dx (v := .iface 180 (ptr r)) (c := false) (hv := .inr ⟨_, _, rfl, rfl⟩) (hu := Tryz.underlying168));co_applyP oy rfl aj;co_applyP oy rfl (aj);co_applyP oy rfl (dx (v := .iface 255 (ptq t)) (c := false) (hv := .inr ⟨_, _, rfl, rfl⟩) (hu := Tryz.underlying168));co_applyP oy rfl aN;co_applyP ah;change wpE ..;co_applyP aq rfl;co_applyP aA;change wpE ..;co_applyP ae;co_applyP aa;co_applyP oy rfl aj;co_applyP oy rfl (xm);co_applyP oy rfl (AD);co_applyP oy rfl ak;co_applyP ah;change wpE ..;co_applyP ae;co_applyP aa;co_applyP oy rfl aj;co_applyP oy rfl aj;co_applyP oy rfl aj;co_applyP oc rfl rfl rfl (g1 L r e t fl fl' cs cs' ty ty' hr he ht);rintro _ _ _ ⟨rfl, rfl, rfl⟩;co_applyP oy rfl ak;co_applyP ah;change wpE ..;co_applyP aJ;change ∃ v, resE .. = some v ∧ _;exact ⟨_, rfl, rfl, rfl, rfl⟩
structure Ers (eb : Nat → Nat × Nat) (L : Frag) : Prop where
 g : ∀ i, i < 11 → i ≠ 2 → At L i 0 (.iface 255 (ptq (eb i)))
 t : At L 2 0 (rty 168)
 b : ∀ i, i < 11 → i ≠ 2 → ∃ fl cs ty, ((eb i).1, fl, Obj.cells cs ty) ∈ L
 d : ∀ i j, i < 11 → j < 11 → i ≠ 2 → j ≠ 2 → eb i = eb j → i = j
theorem js {L L' : Frag} {b i : Nat} {v : Value} (h : At L b i v) (hs : ∀ t ∈ L, t ∈ L') : At L' b i v := let ⟨a, b, c, d, e, f⟩ := h; ⟨a, b, c, d, hs _ e, f⟩
theorem Ers.mono {eb : Nat → Nat × Nat} {L L' : Frag} (h : Ers eb L) (hs : ∀ t ∈ L, t ∈ L') : Ers eb L' :=
 ⟨fun i h1 h2 => js (h.g i h1 h2) hs, js h.t hs, fun i h1 h2 => let ⟨a, b, c, d⟩ := h.b i h1 h2; ⟨a, b, c, hs _ d⟩, h.d⟩
def ansOf (i : Nat) : Int := if i = 3 then 65535 else if i = 4 then 65534 else if i = 5 then 65533 else if i = 6 then 65532 else if i = 7 then 65531 else if i = 8 then 65530 else 65529
theorem tC : ∃ n, ∀ {σ : Type} {F : Fam σ} {Δ : ∀ s, Dom (F.R s) (F.D s)} {main : Bool} {s : σ} (L : Frag) (eb : Nat → Nat × Nat) (r i : Nat), Ers eb L → i < 11 → i ≠ 2 → At L r 1 (.iface 255 (ptq (eb i))) →
   CallsL Δ Tryz.prog main 104 [ptr r].toArray n s L (fun s' v L' => s = s' ∧ L = L' ∧ v = .int .u16 (ansOf i)) := by
 obtain ⟨n1, g1⟩ := AK;apply Exists.intro;intro σ F Δ main s L eb r i hE hi hi2 hr;have hi180 : ∀ ms : Array (String × TypeId), TypeDesc.pointer 210 ≠ .interface ms := fun _ => by simp
 obtain ⟨fl, cs, ty, hb⟩ := hE.b i hi hi2;obtain ⟨f3, c3, t3, h3⟩ := hE.b 3 (by decide) (by decide);obtain ⟨f4, c4, t4, h4⟩ := hE.b 4 (by decide) (by decide);obtain ⟨f5, c5, t5, h5⟩ := hE.b 5 (by decide) (by decide);obtain ⟨f6, c6, t6, h6⟩ := hE.b 6 (by decide) (by decide);obtain ⟨f7, c7, t7, h7⟩ := hE.b 7 (by decide) (by decide);obtain ⟨f8, c8, t8, h8⟩ := hE.b 8 (by decide) (by decide);have g3 := hE.g 3 (by decide) (by decide);have g4 := hE.g 4 (by decide) (by decide);have g5 := hE.g 5 (by decide) (by decide);have g6 := hE.g 6 (by decide) (by decide);have g7 := hE.g 7 (by decide) (by decide);have g8 := hE.g 8 (by decide) (by decide);have d : ∀ j, j < 11 → j ≠ 2 → ¬ eb i = eb j → i ≠ j := fun j _ _ h e => h (by rw [e]);co_applyP aB 33 Tryz.func104 Tryz.ntmps104;co_applyP ae;co_applyP aa;co_applyP oy rfl ak;co_applyP ah;change wpE ..;co_applyP aI;co_applyP ae;co_applyP aa;co_applyP oy rfl aj;co_applyP oy rfl (gU hi180 (ht := Tryz.underlying180));co_applyP oy rfl (aC (ht := b4));co_applyP oc rfl rfl rfl (g1 L r (eb i) (eb 3) fl f3 cs c3 ty t3 hr hb h3);rintro _ _ _ ⟨rfl, rfl, rfl⟩;co_applyP oy rfl ak;co_applyP ah;change wpE ..;co_applyP bl rfl;intro hc;co_applyP ae;co_applyP aa;co_applyP oy rfl ak;co_applyP ah;change wpE ..;co_applyP aJ;change ∃ v, resE .. = some v ∧ _
 · have e : i = 3 := hE.d i 3 hi (by decide) hi2 (by decide) (by simpa using hc);exact ⟨_, rfl, rfl, rfl, by simp [ansOf, e]⟩
 intro hc;co_applyP ae;co_applyP aa;co_applyP oy rfl aj;have e3 := d 3 (by decide) (by decide) (by simpa using hc);co_applyP oy rfl (gU hi180 (ht := Tryz.underlying180));co_applyP oy rfl (aC (ht := b4));co_applyP oc rfl rfl rfl (g1 L r (eb i) (eb 4) fl f4 cs c4 ty t4 hr hb h4);rintro _ _ _ ⟨rfl, rfl, rfl⟩;co_applyP oy rfl ak;co_applyP ah;change wpE ..;co_applyP bl rfl;intro hc;co_applyP ae;co_applyP aa;co_applyP oy rfl ak;co_applyP ah;change wpE ..;co_applyP aJ;change ∃ v, resE .. = some v ∧ _
 · have e : i = 4 := hE.d i 4 hi (by decide) hi2 (by decide) (by simpa using hc);exact ⟨_, rfl, rfl, rfl, by simp [ansOf, e]⟩
 intro hc;co_applyP ae;co_applyP aa;co_applyP oy rfl aj;have e4 := d 4 (by decide) (by decide) (by simpa using hc);co_applyP oy rfl (gU hi180 (ht := Tryz.underlying180));co_applyP oy rfl (aC (ht := b4));co_applyP oc rfl rfl rfl (g1 L r (eb i) (eb 5) fl f5 cs c5 ty t5 hr hb h5);rintro _ _ _ ⟨rfl, rfl, rfl⟩;co_applyP oy rfl ak;co_applyP ah;change wpE ..;co_applyP bl rfl;intro hc;co_applyP ae;co_applyP aa;co_applyP oy rfl ak;co_applyP ah;change wpE ..;co_applyP aJ;change ∃ v, resE .. = some v ∧ _
 · have e : i = 5 := hE.d i 5 hi (by decide) hi2 (by decide) (by simpa using hc);exact ⟨_, rfl, rfl, rfl, by simp [ansOf, e]⟩
 intro hc;co_applyP ae;co_applyP aa;co_applyP oy rfl aj;have e5 := d 5 (by decide) (by decide) (by simpa using hc);co_applyP oy rfl (gU hi180 (ht := Tryz.underlying180));co_applyP oy rfl (aC (ht := b4));co_applyP oc rfl rfl rfl (g1 L r (eb i) (eb 6) fl f6 cs c6 ty t6 hr hb h6);rintro _ _ _ ⟨rfl, rfl, rfl⟩;co_applyP oy rfl ak;co_applyP ah;change wpE ..;co_applyP bl rfl;intro hc;co_applyP ae;co_applyP aa;co_applyP oy rfl ak;co_applyP ah;change wpE ..;co_applyP aJ;change ∃ v, resE .. = some v ∧ _
 · have e : i = 6 := hE.d i 6 hi (by decide) hi2 (by decide) (by simpa using hc);exact ⟨_, rfl, rfl, rfl, by simp [ansOf, e]⟩
 intro hc;co_applyP ae;co_applyP aa;co_applyP oy rfl aj;have e6 := d 6 (by decide) (by decide) (by simpa using hc);co_applyP oy rfl (gU hi180 (ht := Tryz.underlying180));co_applyP oy rfl (aC (ht := b4));co_applyP oc rfl rfl rfl (g1 L r (eb i) (eb 7) fl f7 cs c7 ty t7 hr hb h7);rintro _ _ _ ⟨rfl, rfl, rfl⟩;co_applyP oy rfl ak;co_applyP ah;change wpE ..;co_applyP bl rfl;intro hc;co_applyP ae;co_applyP aa;co_applyP oy rfl ak;co_applyP ah;change wpE ..;co_applyP aJ;change ∃ v, resE .. = some v ∧ _
 · have e : i = 7 := hE.d i 7 hi (by decide) hi2 (by decide) (by simpa using hc);exact ⟨_, rfl, rfl, rfl, by simp [ansOf, e]⟩
 intro hc;co_applyP ae;co_applyP aa;co_applyP oy rfl aj;have e7 := d 7 (by decide) (by decide) (by simpa using hc);co_applyP oy rfl (gU hi180 (ht := Tryz.underlying180));co_applyP oy rfl (aC (ht := b4));co_applyP oc rfl rfl rfl (g1 L r (eb i) (eb 8) fl f8 cs c8 ty t8 hr hb h8);rintro _ _ _ ⟨rfl, rfl, rfl⟩;co_applyP oy rfl ak;co_applyP ah;change wpE ..;co_applyP bl rfl;intro hc;co_applyP ae;co_applyP aa;co_applyP oy rfl ak;co_applyP ah;change wpE ..;co_applyP aJ;change ∃ v, resE .. = some v ∧ _
 · have e : i = 8 := hE.d i 8 hi (by decide) hi2 (by decide) (by simpa using hc);exact ⟨_, rfl, rfl, rfl, by simp [ansOf, e]⟩
 intro hc;co_applyP ae;co_applyP aa;co_applyP oy rfl ak;co_applyP ah;change wpE ..;co_applyP aJ;change ∃ v, resE .. = some v ∧ _;have e8 := d 8 (by decide) (by decide) (by simpa using hc);exact ⟨_, rfl, rfl, rfl, by simp [ansOf, e3, e4, e5, e6, e7, e8]⟩
section
variable {K : Nat} {A : Lay} {S : St} {Fr L : Frag}
theorem Rep.kat (h : Rep K A S Fr L) {i : Nat} {v : Value} (hv : (kcells (kst A S))[i]? = some v) : At L K i v := ⟨true, _, _, _, h.k, hv⟩
theorem Rep.pat (h : Rep K A S Fr L) {b : Nat} {x : PS} (hb : (b, x) ∈ S.ps) {i : Nat} {v : Value} (hv : (pcells x)[i]? = some v) : At L b i v := ⟨true, _, _, _, h.p _ hb, hv⟩
end
theorem xp : ∃ n, ∀ {σ : Type} {F : Fam σ} {Δ : ∀ s, Dom (F.R s) (F.D s)} {main : Bool} {s : σ} (K : Nat) (A : Lay) (S : St) (Fr L : Frag), Rep K A S Fr L →
   CallsL Δ Tryz.prog main 36 [ptr K].toArray n s L (fun s' v L' => s = s' ∧ L = L' ∧ v = slv (A.a 0) S.ps.length) := by
 apply Exists.intro;intro σ F Δ main s K A S Fr L hR;have h1 : At L K 5 _ := hR.kat rfl;co_applyP aB 9 Tryz.func36 Tryz.ntmps36;co_applyP ae;co_applyP aa;co_applyP oy rfl ak;co_applyP ah;change wpE ..;co_applyP ae;co_applyP ae;co_applyP aa;co_applyP oy rfl aj;co_applyP oy rfl (gj (hu := Tryz.underlying35));co_applyP ah;change wpE ..;co_applyP aq rfl;co_applyP aA;change wpE ..;co_applyP ae;co_applyP aa;co_applyP oy rfl aj;co_applyP oy rfl aL;co_applyP oy rfl (av (hf := bO));co_applyP oy rfl (aC (ht := cZ));co_applyP oy rfl ak;co_applyP ah;change wpE ..;co_applyP aJ;change ∃ v, resE .. = some v ∧ _;exact ⟨_, rfl, rfl, rfl, rfl⟩
def St.find (S : St) (id : Int) : Option (Nat × PS) := S.ps.find? fun q => (q.2.id : Int) == id
def optPtr : Option Nat → Value
 | none => .pointer none
 | some b => ptr b
theorem vJ {S : St} {id : Int} {l1 l2 : List (Nat × PS)} {q : Nat × PS} (hl : S.ps = l1 ++ q :: l2) (hn : ∀ q ∈ l1, ((q.2.id : Int) == id) = false) (hq : ((q.2.id : Int) == id) = true) : S.find id = some q := by
 unfold St.find;rw [hl, List.find?_append, List.find?_cons, hq];have : l1.find? (fun q => (q.2.id : Int) == id) = none := List.find?_eq_none.2 fun r hr => by simp [hn r hr]
 rw [this]; rfl
theorem rh {S : St} {id : Int} (hn : ∀ q ∈ S.ps, ((q.2.id : Int) == id) = false) : S.find id = none := List.find?_eq_none.2 fun r hr => by simp [hn r hr]
theorem lW : ∃ n, ∀ {σ : Type} {F : Fam σ} {Δ : ∀ s, Dom (F.R s) (F.D s)} {main : Bool} {s : σ} (K : Nat) (A : Lay) (S : St) (Fr L : Frag) (id : Int), Rep K A S Fr L →
   CallsL Δ Tryz.prog main 37 [ptr K, .int .i64 id].toArray n s L (fun s' v L' => s = s' ∧ L = L' ∧ v = optPtr ((S.find id).map (·.1))) := by
 obtain ⟨n1, g1⟩ := xp;apply Exists.intro;intro σ F Δ main s K A S Fr L id hR;obtain ⟨base, cap, hv, hat⟩ := bA hR.pa;simp only [List.length_map] at hv;co_applyP aB 23 Tryz.func37 Tryz.ntmps37;co_applyP ae;co_applyP aa;co_applyP oy rfl ak;co_applyP ah;change wpE ..;co_applyP ae;co_applyP ae;co_applyP aa;co_applyP oy rfl aj;co_applyP oc rfl rfl rfl (g1 K A S Fr L hR);rintro _ _ _ ⟨rfl, rfl, rfl⟩;rw [hv];co_applyP oy rfl (bz (hu := Tryz.underlying91));co_applyP oy rfl aj;co_applyP ah;change wpE ..;co_applyP aI;co_applyP bG (fun k s' ε' L' => s' = s ∧ L' = L ∧ ∃ l1 l2, S.ps = l1 ++ l2 ∧ (∀ q ∈ l1, ((q.2.id : Int) == id) = false) ∧ k + l1.length = 8 ∧ kn ε' [(10, .int .i64 l1.length), (9, .int .i64 S.ps.length), (8, .slice base S.ps.length cap), (1, .int .i64 id), (0, ptr K)]) 8
 · exact ⟨rfl, rfl, [], S.ps, rfl, by simp, rfl, rfl⟩
 rintro k s' ε' L' ⟨rfl, rfl, l1, l2, hl, hn, hk, he⟩;co_applyP a6 he;have hlen := congrArg List.length hl;simp only [List.length_append] at hlen;have h8 := hR.p8;co_applyP ae;co_applyP aa;co_applyP oy rfl bX;co_applyP ah;change wpE ..;co_applyP ae;co_applyP bl rfl;intro hc
 · cases l2 with
   | nil => simp at hc hlen; omega
   | cons q l2 =>
     obtain ⟨b, hb, hbs, hbv⟩ := hat l1.length (ptr q.1) (by rw [hl]; simp);subst hbs;have hq := hR.pat (b := q.1) (x := q.2) (by rw [hl]; simp) (i := 0) rfl;simp at hlen;co_applyP aA;change wpE ..;co_applyP ae;co_applyP aI;co_applyP ae;co_applyP aa;co_applyP oy rfl (bv Tryz.underlying91 bI);co_applyP oy rfl (aC (ht := c9));co_applyP oy rfl ak;co_applyP ah;change wpE ..;co_applyP ae;co_applyP aa;co_applyP oy rfl aj;co_applyP oy rfl aL;co_applyP oy rfl (av (hf := aD));co_applyP oy rfl (av (hf := cn));co_applyP oy rfl (aC (ht := aV));co_applyP oy rfl aj;co_applyP oy rfl ay;co_applyP ah;change wpE ..;co_applyP bl rfl;intro hid;co_applyP ae;co_applyP aa;co_applyP oy rfl aj;co_applyP oy rfl ak;co_applyP ah;change wpE ..;co_applyP aJ;change ∃ v, resE .. = some v ∧ _;exact ⟨_, rfl, rfl, rfl, by rw [vJ hl hn hid]; rfl⟩;intro hid;co_applyP aA;change wpE ..;co_applyP aa;co_applyP oy rfl a7;co_applyP oy rfl aj;co_applyP ah;change ∃ k', k' < _ ∧ _;refine ⟨k - 1, by omega, rfl, rfl, l1 ++ [q], l2, by simp [hl], ?_, by simp; omega, ?_⟩
     · intro r hr;rcases List.mem_append.1 hr with h | h
       · exact hn r h
       · simp at h; rw [h]; exact hid
     · have e : IntKind.i64.wrap ((l1.length : Int) + 1) = ((l1 ++ [q]).length : Int) := by simp [IntKind.wrap_i64]; omega
       rw [← e]; rfl
 intro hc;co_applyP bL;change wpE ..;co_applyP ae;co_applyP aa;co_applyP oy rfl ak;co_applyP ah;change wpE ..;co_applyP aJ;change ∃ v, resE .. = some v ∧ _;cases l2 with
 | nil => exact ⟨_, rfl, rfl, rfl, by rw [rh (by rw [hl]; simpa using hn)]; rfl⟩
 | cons q l2 => simp at hc hlen; omega
theorem yd : ∃ n, ∀ {σ : Type} {F : Fam σ} {Δ : ∀ s, Dom (F.R s) (F.D s)} {main : Bool} {s : σ} (K : Nat) (A : Lay) (S : St) (Fr L : Frag) (b : Nat) (x : PS), Rep K A S Fr L → S.find 1 = some (b, x) →
   CallsL Δ Tryz.prog main 62 [ptr K].toArray n s L (fun s' v L' => s = s' ∧ L = L' ∧ v = .bool ((x.st : Int) == 6)) := by
 obtain ⟨n1, g1⟩ := lW;apply Exists.intro;intro σ F Δ main s K A S Fr L b x hR hf;have hb : (b, x) ∈ S.ps := List.mem_of_find?_eq_some hf;have h1 := hR.pat hb (i := 2) rfl;co_applyP aB 16 Tryz.func62 Tryz.ntmps62;co_applyP ae;co_applyP aa;co_applyP oy rfl ak;co_applyP ah;change wpE ..;co_applyP ae;co_applyP aa;co_applyP oy rfl aj;co_applyP oc rfl rfl rfl (g1 K A S Fr L 1 hR);rintro _ _ _ ⟨rfl, rfl, rfl⟩;rw [hf];co_applyP oy rfl ak;co_applyP ah;change wpE ..;co_applyP ae;co_applyP aa;co_applyP oy rfl aj;co_applyP oy rfl (gj (hu := Tryz.underlying93));co_applyP oy rfl aj;co_applyP oy rfl (aj);co_applyP oy rfl (aL);co_applyP oy rfl ((av (hf := aD)));co_applyP oy rfl ((av (hf := cA)));co_applyP oy rfl ((aC (ht := aV)));co_applyP oy rfl (ay);co_applyP oy rfl aN;co_applyP oy rfl ak;co_applyP ah;change wpE ..;co_applyP aJ;change ∃ v, resE .. = some v ∧ _;exact ⟨_, rfl, rfl, rfl, rfl⟩
theorem jT (k : KS) {l : Nat} (hl : l < 3) : (kcells k)[7 + l]? = some (k.row l) := by
 rcases l with _ | _ | _ | l
 · rfl
 · rfl
 · rfl
 · omega
def St.first (S : St) : Option Nat := (S.rows 0 ++ (S.rows 1 ++ S.rows 2)).head?
theorem pU : ∃ n, ∀ {σ : Type} {F : Fam σ} {Δ : ∀ s, Dom (F.R s) (F.D s)} {main : Bool} {s : σ} (K : Nat) (A : Lay) (S : St) (Fr L : Frag), Rep K A S Fr L →
   CallsL Δ Tryz.prog main 82 [.pointer (some ⟨K, 7, none⟩)].toArray n s L (fun s' v L' => s = s' ∧ L = L' ∧ v = optPtr S.first) := by
 apply Exists.intro;intro σ F Δ main s K A S Fr L hR;co_applyP aB 19 Tryz.func82 Tryz.ntmps82;co_applyP ae;co_applyP aa;co_applyP oy rfl ak;co_applyP ah;change wpE ..;co_applyP ae;co_applyP ae;co_applyP aa;co_applyP oy rfl aj;co_applyP oy rfl aL;co_applyP oy rfl aj;co_applyP ah;change wpE ..;co_applyP aI;co_applyP bG (fun k s' ε' L' => s' = s ∧ L' = L ∧ ∃ i : Nat, k + i = 3 ∧ (∀ j, j < i → S.rows j = []) ∧ kn ε' [(7, .int .i64 i), (5, .pointer (some ⟨K, 7, none⟩)), (0, .pointer (some ⟨K, 7, none⟩))]) 3
 · exact ⟨rfl, rfl, 0, rfl, by simp, rfl⟩
 rintro k s' ε' L' ⟨rfl, rfl, i, hk, hn, he⟩;co_applyP a6 he;co_applyP ae;co_applyP aa;co_applyP oy rfl bX;co_applyP ah;change wpE ..;co_applyP ae;co_applyP bl rfl;intro hc
 · have hi : i < 3 := by simp at hc; omega
   obtain ⟨base, cap, hv, hat⟩ := bA (hR.rw i hi);simp only [List.length_map] at hv;have hrow : At L' K (7 + i) (.slice base (S.rows i).length cap) := by
     rw [← hv]; exact hR.kat (jT _ hi)
   co_applyP aA;change wpE ..;co_applyP ae;co_applyP aI;co_applyP ae;co_applyP aa;co_applyP oy rfl aL;co_applyP oy rfl (a0 Tryz.underlying112 eg);co_applyP oy rfl (aC (ht := cZ));co_applyP oy rfl ak;co_applyP ah;change wpE ..;co_applyP ae;co_applyP aa;co_applyP oy rfl aj;co_applyP oy rfl (bz (hu := Tryz.underlying91));co_applyP oy rfl dj;co_applyP ah;change wpE ..;co_applyP bl rfl;intro hz;cases hxs : S.rows i with
   | nil => rw [hxs] at hz; simp at hz
   | cons b bs =>
     obtain ⟨c, hc1, hc2, hc3⟩ := hat 0 (ptr b) (by rw [hxs]; rfl);subst hc2;have hb0 : 0 < ((S.rows i).length : Int) := by rw [hxs]; simp
     co_applyP ae;co_applyP aa;co_applyP oy rfl aj;co_applyP oy rfl (bv Tryz.underlying91 bI);co_applyP oy rfl (aC (ht := c9));co_applyP oy rfl ak;co_applyP ah;change wpE ..;co_applyP aJ;change ∃ v, resE .. = some v ∧ _;refine ⟨_, rfl, rfl, rfl, ?_⟩;have : S.first = some b := by
       unfold St.first
       rcases i with _ | _ | _ | i
       · rw [hxs]; rfl
       · rw [hn 0 (by omega), hxs]; rfl
       · rw [hn 0 (by omega), hn 1 (by omega), hxs]; rfl
       · omega
     rw [this]; rfl
   intro hz;co_applyP aA;change wpE ..;co_applyP aa;co_applyP oy rfl a7;co_applyP oy rfl aj;co_applyP ah;change ∃ k', k' < _ ∧ _;refine ⟨k - 1, by omega, rfl, rfl, i + 1, by omega, fun j hj => ?_, ?_⟩
   · rcases Nat.lt_succ_iff_lt_or_eq.1 hj with h | rfl
     · exact hn j h
     · simpa using hz
   · have e : IntKind.i64.wrap ((i : Int) + 1) = ((i + 1 : Nat) : Int) := by simp [IntKind.wrap_i64]; omega
     rw [← e]; rfl
 intro hc;co_applyP bL;change wpE ..;co_applyP ae;co_applyP aa;co_applyP oy rfl ak;co_applyP ah;change wpE ..;co_applyP aJ;change ∃ v, resE .. = some v ∧ _;have h3 : 3 ≤ i := by simp at hc; omega
 refine ⟨_, rfl, rfl, rfl, ?_⟩;have : S.first = none := by unfold St.first; rw [hn 0 (by omega), hn 1 (by omega), hn 2 (by omega)]; rfl
 rw [this]; rfl
def idx (xs : List Nat) (b : Nat) : Int := match xs.findIdx? (· == b) with
 | some i => i
 | none => -1
theorem oP {xs l1 l2 : List Nat} {q b : Nat} (hl : xs = l1 ++ q :: l2) (hn : ∀ c ∈ l1, c ≠ b) (hq : q = b) : idx xs b = l1.length := by
 have : xs.findIdx? (· == b) = some l1.length := by
   rw [hl, List.findIdx?_append, List.findIdx?_cons];have h1 : l1.findIdx? (· == b) = none := List.findIdx?_eq_none_iff.2 fun c hc => by simpa using hn c hc
   simp [h1, hq]
 unfold idx; rw [this]
theorem nj {xs : List Nat} {b : Nat} (hn : ∀ c ∈ xs, c ≠ b) : idx xs b = -1 := by
 have : xs.findIdx? (· == b) = none := List.findIdx?_eq_none_iff.2 fun c hc => by simpa using hn c hc
 unfold idx; rw [this]
theorem pV : ∃ n, ∀ {σ : Type} {F : Fam σ} {Δ : ∀ s, Dom (F.R s) (F.D s)} {main : Bool} {s : σ} (L : Frag) (a : Sl) (xs : List Nat) (b : Nat), xs.length ≤ 8 → slOk a (xs.map ptr) 93 L → (∀ c ∈ xs, ∃ x, pb c x ∈ L) → (∃ x, pb b x ∈ L) →
   CallsL Δ Tryz.prog main 115 [slv a xs.length, ptr b].toArray n s L (fun s' v L' => s = s' ∧ L = L' ∧ v = .int .i64 (idx xs b)) := by
 apply Exists.intro;intro σ F Δ main s L a xs b h8 ha hxs hb;obtain ⟨base, cap, hv, hat⟩ := bA ha;simp only [List.length_map] at hv;rw [hv];obtain ⟨xb, hxb⟩ := hb;co_applyP aB 19 Tryz.func115 Tryz.ntmps115;co_applyP ae;co_applyP aa;co_applyP oy rfl ak;co_applyP ah;change wpE ..;co_applyP ae;co_applyP ae;co_applyP aa;co_applyP oy rfl aj;co_applyP oy rfl (bz (hu := Tryz.underlying91));co_applyP oy rfl aj;co_applyP ah;change wpE ..;co_applyP aI;co_applyP bG (fun k s' ε' L' => s' = s ∧ L' = L ∧ ∃ l1 l2, xs = l1 ++ l2 ∧ (∀ c ∈ l1, c ≠ b) ∧ k + l1.length = 8 ∧ kn ε' [(8, .int .i64 l1.length), (7, .int .i64 xs.length), (1, ptr b), (0, .slice base xs.length cap)]) 8
 · exact ⟨rfl, rfl, [], xs, rfl, by simp, rfl, rfl⟩
 rintro k s' ε' L' ⟨rfl, rfl, l1, l2, hl, hn, hk, he⟩;co_applyP a6 he;have hlen := congrArg List.length hl;simp only [List.length_append] at hlen;co_applyP ae;co_applyP aa;co_applyP oy rfl bX;co_applyP ah;change wpE ..;co_applyP ae;co_applyP bl rfl;intro hc
 · cases l2 with
   | nil => simp at hc hlen; omega
   | cons q l2 =>
     obtain ⟨c, hc1, hc2, hc3⟩ := hat l1.length (ptr q) (by rw [hl]; simp);subst hc2;simp at hlen;obtain ⟨xq, hxq⟩ := hxs q (by rw [hl]; simp);co_applyP aA;change wpE ..;co_applyP ae;co_applyP aI;co_applyP ae;co_applyP aa;co_applyP oy rfl aj;co_applyP oy rfl ak;co_applyP ah;change wpE ..;co_applyP ae;co_applyP aa;co_applyP oy rfl aj;co_applyP oy rfl aj;co_applyP oy rfl aj;co_applyP oy rfl (bv Tryz.underlying91 bI);co_applyP oy rfl (aC (ht := c9));co_applyP oy rfl (xf hxb hxq (hu := Tryz.underlying93) (hs := xh));co_applyP ah;change wpE ..;co_applyP bl rfl;intro hq;co_applyP ae;co_applyP aa;co_applyP oy rfl aj;co_applyP oy rfl ak;co_applyP ah;change wpE ..;co_applyP aJ;change ∃ v, resE .. = some v ∧ _
     · refine ⟨_, rfl, rfl, rfl, ?_⟩;have : q = b := by simp at hq; exact hq.symm
       rw [oP hl hn this]
     intro hq;co_applyP aA;change wpE ..;co_applyP aa;co_applyP oy rfl a7;co_applyP oy rfl aj;co_applyP ah;change ∃ k', k' < _ ∧ _;refine ⟨k - 1, by omega, rfl, rfl, l1 ++ [q], l2, by simp [hl], ?_, by simp; omega, ?_⟩
     · intro r hr;rcases List.mem_append.1 hr with h | h
       · exact hn r h
       · simp at h hq; rw [h]; exact fun e => hq e.symm
     · have e : IntKind.i64.wrap ((l1.length : Int) + 1) = ((l1 ++ [q]).length : Int) := by simp [IntKind.wrap_i64]; omega
       rw [← e]; rfl
 intro hc;co_applyP bL;change wpE ..;co_applyP ae;co_applyP aa;co_applyP oy rfl ak;co_applyP ah;change wpE ..;co_applyP aJ;change ∃ v, resE .. = some v ∧ _;cases l2 with
 | nil => exact ⟨_, rfl, rfl, rfl, by rw [nj (by rw [hl]; simpa using hn)]⟩
 | cons q l2 => simp at hc hlen; omega
theorem hY : zeroAt Tryz.prog 93 = some (.pointer none) := by kernel_rfl
theorem tF {xs junk : List Value} {i : Nat} (hi : i < xs.length) : ((xs ++ junk).toArray.extract (cutAt 0 ((i : Int) + 1).toNat (xs.length + junk.length) 1) (cutAt 0 ((i : Int) + 1).toNat (xs.length + junk.length) 1 + (xs.length - ((i : Int) + 1).toNat) * 1)).toList = xs.drop (i + 1) := by
 have h1 : ((i : Int) + 1).toNat = i + 1 := by omega
 rw [h1];simp only [Array.toList_extract, List.extract_eq_take_drop];unfold cutAt
 split
 · rename_i e;have : xs.length = i + 1 := by omega
   simp [this]
 · have e1 : 0 + (i + 1) * 1 + (xs.length - (i + 1)) * 1 - (0 + (i + 1) * 1) = xs.length - (i + 1) := by omega
   have e2 : 0 + (i + 1) * 1 = i + 1 := by omega
   rw [e1, e2, List.drop_append_of_le_length (by omega), List.take_append_of_le_length (by simp)];rw [List.take_of_length_le (by simp)]
theorem ri {xs junk : List Value} {i : Nat} (hi : i < xs.length) :
   puts (xs ++ junk).toArray (0 + ((i : Int).toNat - 0) * 1) ((xs ++ junk).toArray.extract (cutAt 0 ((i : Int) + 1).toNat (xs.length + junk.length) 1) (cutAt 0 ((i : Int) + 1).toNat (xs.length + junk.length) 1 + (xs.length - ((i : Int) + 1).toNat) * 1)).toList = (xs.eraseIdx i ++ (xs.drop (xs.length - 1) ++ junk)).toArray := by
 have h2 : 0 + ((i : Int).toNat - 0) * 1 = i := by omega
 rw [h2, tF hi, b6 _ _ _ (by simp; omega)];congr 1;rw [List.take_append_of_le_length (by omega), List.length_drop, show i + (xs.length - (i + 1)) = xs.length - 1 by omega, List.drop_append_of_le_length (by omega), List.eraseIdx_eq_take_drop_succ]
theorem oQ {xs junk : List Value} {i : Nat} (hi : i < xs.length) : puts (xs.eraseIdx i ++ (xs.drop (xs.length - 1) ++ junk)).toArray (xs.length - 1) (List.replicate 1 (.pointer none)) = (xs.eraseIdx i ++ .pointer none :: junk).toArray := by
 have hl : (xs.eraseIdx i).length = xs.length - 1 := by rw [List.length_eraseIdx]; simp [hi]
 rw [b6 _ _ _ (by simp [hl]; omega)];congr 1;rw [List.take_append_of_le_length (by omega), List.take_of_length_le (by omega)];have : (xs.eraseIdx i ++ (xs.drop (xs.length - 1) ++ junk)).drop (xs.length - 1 + (List.replicate 1 (Value.pointer none)).length) = junk := by
   rw [← List.append_assoc, List.drop_append_of_le_length (by simp [hl]; omega), List.drop_of_length_le (by simp [hl]; omega)]; rfl
 rw [this]; simp
theorem nk : ∃ n, ∀ {σ : Type} {F : Fam σ} {Δ : ∀ s, Dom (F.R s) (F.D s)} {main : Bool} {s : σ} (L : Frag) (b : Nat) (xs junk : List Value) (i : Nat), i < xs.length → xs.length < 1000000 → xs.all plainV = true → (b, true, Obj.cells (xs ++ junk).toArray 93) ∈ L →
   CallsL Δ Tryz.prog main 116 [.slice (some ⟨b, 0, none⟩) xs.length (xs.length + junk.length), .int .i64 i, .int .i64 ((i : Int) + 1)].toArray n s L (fun s' v L' => s = s' ∧ v = .slice (some ⟨b, 0, none⟩) (xs.length - 1) (xs.length + junk.length) ∧ Upd L b (.cells (xs.eraseIdx i ++ .pointer none :: junk).toArray 93) L') := by
 apply Exists.intro;intro σ F Δ main s L b xs junk i hi hxs hpl hb;co_applyP aB 33 Tryz.func116 Tryz.ntmps116;co_applyP ae;co_applyP aa;co_applyP oy rfl ak;co_applyP ah;change wpE ..;co_applyP ae;co_applyP aa;co_applyP oy rfl aj;co_applyP oy rfl aj;co_applyP oy rfl aj;co_applyP oy rfl aj;co_applyP oy rfl (bz (hu := Tryz.underlying91));co_applyP oy rfl (s7 Tryz.underlying91 bI);co_applyP ah;change wpE ..;co_applyP ae;co_applyP ae;co_applyP aa;co_applyP oy rfl aj;co_applyP oy rfl aj;co_applyP oy rfl ay;co_applyP ah;change wpE ..;have e0 : ((i : Int) == (i : Int) + 1) = false := by simp; omega
 rw [e0];co_applyP aq rfl;co_applyP aA;change wpE ..;co_applyP ae;co_applyP aa;co_applyP oy rfl aj;co_applyP oy rfl (bz (hu := Tryz.underlying91));co_applyP oy rfl ak;co_applyP ah;change wpE ..;co_applyP ae;have hsz : (xs ++ junk).toArray.size = xs.length + junk.length := by simp
 have hcut : cutAt 0 ((i : Int) + 1).toNat (xs.length + junk.length) 1 + (xs.length - ((i : Int) + 1).toNat) * 1 ≤ (xs ++ junk).toArray.size := by unfold cutAt; rw [hsz]; split <;> omega
 co_applyP bm [] 6 (nf := 0) aZ;co_applyP tr (i := 0) rfl aj (ai (by simp));co_applyP tr (i := 1) rfl aj (ai (by simp));co_applyP tr (i := 2) rfl (sY Tryz.underlying91 bI) (ai (by simp));co_applyP tr (i := 3) rfl aj (ai (by simp));co_applyP tr (i := 4) rfl aj (ai (by simp));co_applyP tr (i := 5) rfl (sZ Tryz.underlying91 bI) (ai (by simp));co_applyP ba;intro hnd;co_applyP te (i := 6) rfl (jM (hnd := hnd) (hu := Tryz.underlying91) (hv := Tryz.underlying91) (hs := bI) (hr := b7 hb hcut) (hc := by omega) (hm := hb) (ho := by simp; unfold cutAt; split <;> split <;> omega) (hp := by rw [tF hi]; rw [List.all_eq_true] at hpl ⊢; exact fun v hv => hpl v (List.mem_of_mem_drop hv)));rintro _ _ ⟨rfl, hU⟩;refine ⟨aE (by simp), ?_⟩;co_applyP to (i := 7) rfl (ak) (aE (by simp));have ec : cutAt 0 0 (xs.length + junk.length) 1 = 0 := by unfold cutAt; split <;> omega
 have el : (i : Int).toNat - 0 + (xs.length - ((i : Int) + 1).toNat) = xs.length - 1 := by omega
 have ek : xs.length + junk.length - 0 = xs.length + junk.length := rfl;rw [ec, ri hi] at hU;rw [ec, el, ek];co_applyP td (by kernel_rfl);change wpE ..;co_applyP ae;co_applyP aa;co_applyP oy rfl aj;co_applyP oy rfl aj;co_applyP oy rfl (bz (hu := Tryz.underlying91));co_applyP oy rfl aj;co_applyP oy rfl (s6 Tryz.underlying91 bI);co_applyP jn;intro hnd';co_applyP oe rfl (s8 (hnd := hnd') (hu := Tryz.underlying91) (hz0 := hY) (hzp := rfl) (hm := hU.self) (ho := by have hl : (xs.eraseIdx i).length = xs.length - 1 := (by rw [List.length_eraseIdx]; simp [hi]); simp [hl]; unfold cutAt; split <;> omega));rintro _ _ ⟨rfl, hU'⟩;co_applyP ah;change wpE ..;co_applyP ae;co_applyP aa;co_applyP oy rfl aj;co_applyP oy rfl ak;co_applyP ah;change wpE ..;co_applyP aJ;change ∃ v, resE .. = some v ∧ _;have e3 : cutAt 0 (((xs.length - 1 : Nat) : Int)).toNat (xs.length + junk.length) 1 = xs.length - 1 := by unfold cutAt; split <;> omega
 have e4 : (xs.length : Int).toNat - ((xs.length - 1 : Nat) : Int).toNat = 1 := by omega
 rw [e3, e4, oQ hi] at hU';exact ⟨_, rfl, rfl, rfl, hU'.self, fun t ht hne => hU'.ne t (hU.ne t ht hne) hne, hU'.fn⟩
theorem oR : bytesAt Tryz.prog 93 = some 8 := by kernel_rfl
theorem eQ (a : Sl) (n : Nat) : plainV (slv a n) = true := by unfold slv; split <;> rfl
theorem eq {z : Value} (h : plainV z = true) (n : Nat) : Builtin.zeroCells z.cells n = (List.replicate n z).toArray := by
 rw [bU h];unfold Builtin.zeroCells;apply Array.ext';apply List.ext_getElem
 · simp
 · intro i h1 h2; simp [Nat.mod_one]
structure Ap1 (L : Frag) (a : Sl) (xs : List Nat) (c : Nat) (a' : Sl) (L' : Frag) : Prop where
 ok : slOk a' ((xs ++ [c]).map ptr) 93 L'
 fn : Fun L'
 sub : ∀ t ∈ L, a.b ≠ some t.1 → t ∈ L'
 d : ∀ b, a'.b = some b → a.b = some b ∨ ∀ t ∈ L, t.1 ≠ b
section
variable {New : Obj → Prop} {N : Nat} {ε : Env} {L : Frag} {d : Option Tmp} {ty : TypeId} {ps : String} {af : Array Edge} {g : Option (Nat × Bool)} {x y : Operand}
theorem pW {a : Sl} {xs : List Nat} {c nb : Nat} (hx : ev ε x = some (slv a xs.length) := by rfl) (hy : ev ε y = some (.slice (some ⟨nb, 0, none⟩) 1 1) := by rfl) (hnd : (L.map (·.1)).Nodup) (hN : ∀ cs, New (.cells cs 93)) (ha : slOk a (xs.map ptr) 93 L) (h8 : xs.length ≤ 1000) (hnb : (nb, true, .cells #[ptr c] 93) ∈ L) :
   EO Tryz.prog New N ε L ⟨d, .call ⟨.builtin .append, #[x, y], #[91, 91]⟩, ty, ps, af, g⟩ (fun r L' => ∃ a', r = slv a' (xs.length + 1) ∧ Ap1 L a xs c a' L') := by
 have hr : Reads Tryz.prog L 1 1 (.slice (some ⟨nb, 0, none⟩) 1 1) #[ptr c] := by
   have := b7 (P := Tryz.prog) (sz := 1) (n := 1) (len := 1) (cap := 1) (o := 0) hnb (by simp);simpa using this
 have grow : ∀ (ws : Array Value) (cap0 : Nat), Reads Tryz.prog L 1 xs.length (slv a xs.length) ws → ws = (xs.map ptr).toArray → (∃ base, slv a xs.length = .slice base xs.length cap0) → cap0 < xs.length + 1 →
     EO Tryz.prog New N ε L ⟨d, .call ⟨.builtin .append, #[x, y], #[91, 91]⟩, ty, ps, af, g⟩ (fun r L' => ∃ a', r = slv a' (xs.length + 1) ∧ Ap1 L a xs c a' L') := by
   rintro ws cap0 hws rfl ⟨base, hb⟩ hc;rw [hb] at hws hx;intro ac hac;refine bR ?_ _ _ (la (by_ := 7) (New := New) hx hy (bF hnd) Tryz.underlying91 Tryz.underlying91 bI oR hY hws hr hc (by omega) hN ac hac);intro r L' q;cases r <;> try exact q.elim
   · obtain ⟨b, cap, h1, h2, rfl, hA⟩ := q;rw [eq rfl] at hA;refine ⟨⟨some b, List.replicate (cap - (xs.length + 1)) (.pointer none)⟩, ?_, ?_, hA.fn, fun t ht _ => hA.sub t ht, fun b' hb' => .inr ?_⟩
     · unfold slv; simp; omega
     · have e5 : (xs.map ptr).toArray ++ #[ptr c] ++ (List.replicate (cap - (xs.length + 1)) (Value.pointer none)).toArray = ((xs ++ [c]).map ptr ++ List.replicate (cap - (xs.length + 1)) (Value.pointer none)).toArray := by
         apply Array.ext'; simp
       rw [e5] at hA;exact hA.self
     · obtain rfl : b = b' := by simpa using hb'
       exact hA.new
   · obtain ⟨b, cap, _, _, e, _⟩ := q; cases e
 cases hab : a.b with
 | none =>
   have h2 := ha;unfold slOk at h2;rw [hab] at h2;obtain ⟨e1, e2⟩ := h2;obtain rfl : xs = [] := by simpa using e1
   have e3 : slv a 0 = .slice none 0 0 := by unfold slv; rw [hab]
   exact grow #[] 0 (by rw [List.length_nil, e3]; exact dC) rfl ⟨none, e3⟩ (by simp)
 | some b =>
   have hm := ha.mem hab;have e3 : slv a xs.length = .slice (some ⟨b, 0, none⟩) xs.length (xs.length + a.junk.length) := by unfold slv; rw [hab]
   cases hj : a.junk with
   | nil =>
     rw [hj] at e3 hm;refine grow _ xs.length ?_ rfl ⟨_, e3⟩ (by omega);rw [e3];have := b7 (P := Tryz.prog) (sz := 1) (n := xs.length) (len := xs.length) (cap := xs.length + ([] : List Value).length) (o := 0) hm (by simp);have e7 : (xs.map ptr).take xs.length = xs.map ptr := List.take_of_length_le (by simp);simpa [e7] using this
   | cons u junk =>
     rw [hj] at e3 hm;intro ac hac;rw [e3] at hx;refine bR ?_ _ _ (jM (New := New) hx hy hnd Tryz.underlying91 Tryz.underlying91 bI hr (by simp) hm (by simp) (by simp [plainV]) ac hac);intro r L' q;cases r <;> try exact q.elim
     · obtain ⟨rfl, hU⟩ := q;have e4 : puts (xs.map ptr ++ u :: junk).toArray (0 + xs.length * 1) #[ptr c].toList = ((xs ++ [c]).map ptr ++ junk).toArray := by
         rw [b6 _ _ _ (by simp)];have e6 : (xs.map ptr ++ u :: junk).drop (xs.length + 1) = junk := by
           rw [List.drop_append]; simp
         simp [e6]
       rw [e4] at hU;refine ⟨⟨some b, junk⟩, ?_, hU.self, hU.fn, fun t ht hne => hU.ne t ht fun e => hne (by rw [hab, e]), fun b' hb' => .inl (by rw [hab]; exact hb')⟩;unfold slv; simp; omega
     · exact absurd q.1 (by simp [undef])
end
theorem Rep.row_ne {K : Nat} {A : Lay} {S : St} {Fr L : Frag} (h : Rep K A S Fr L) {l : Nat} (hl : l < 3) {t : Nat × Bool × Obj} (ht : t ∈ L) (ho : ∀ c, t.2.2 ≠ .cells c 93) : (A.a (l + 1)).b ≠ some t.1 := fun e =>
 ho _ (h.fn _ _ _ _ _ ht ((h.rw l hl).mem e)).2
theorem eR {c : Array Value} {t : TypeId} (h : t ≠ 93) : ∀ c', Obj.cells c t ≠ .cells c' 93 := fun _ => aF h
theorem hZ (k : KS) {l : Nat} (hl : l < 3) (v : Value) : (kcells k).setIfInBounds (7 + l) v = kcells { k with row := put k.row l v } := by
 rcases l with _ | _ | _ | l
 · rfl
 · rfl
 · rfl
 · omega
theorem jt (A : Lay) (S : St) (l : Nat) (a' : Sl) (xs : List Nat) (h0 : l + 1 ≠ 0) : kst (A.setA (l + 1) a') (S.setRow l xs) = { kst A S with row := put (kst A S).row l (slv a' xs.length) } := by
 unfold kst Lay.setA St.setRow;simp only [KS.mk.injEq, true_and];refine ⟨by simp [put], ?_, ?_⟩
 · funext l'
   unfold put;by_cases e : l' = l
   · subst e; simp
   · simp [e]
 · simp
theorem oS : ∃ n, ∀ {σ : Type} {F : Fam σ} {Δ : ∀ s, Dom (F.R s) (F.D s)} {main : Bool} {s : σ} (K : Nat) (A : Lay) (S : St) (Fr L : Frag) (b : Nat) (x : PS), (∀ cs, (Δ s).New (.cells cs 93)) → Rep K A S Fr L → (b, x) ∈ S.ps → x.lv < 3 → (S.rows x.lv).length ≤ 8 → (∀ e ∈ S.wt, slot e.1 ≠ x.lv + 1) →
   CallsL Δ Tryz.prog main 91 [.pointer (some ⟨K, 7, none⟩), ptr b].toArray n s L (fun s' v L' => s = s' ∧ v = .tuple #[] ∧ ∃ A', LRel A A' ∧ Rep K A' (S.setRow x.lv (S.rows x.lv ++ [b])) Fr L') := by
 apply Exists.intro;intro σ F Δ main s K A S Fr L b x hN hR hb hlv h8 hw;have hx5 := hR.pat hb (i := 5) rfl;have hx5' : At L b 5 (.int .i64 (x.lv : Int)) := hx5;have hrow : At L K (7 + x.lv) (slv (A.a (x.lv + 1)) (S.rows x.lv).length) := hR.kat (jT _ hlv);clear hx5;co_applyP aB 24 Tryz.func91 Tryz.ntmps91;co_applyP bm [pb b x] 17 (nf := 0) aZ;co_applyP tr (i := 0) rfl aj (ai (by simpa using hR.p _ hb));co_applyP tr (i := 1) rfl aj (ai (by simpa using hR.p _ hb));co_applyP tr (i := 2) rfl aL (ai (by simpa using hR.p _ hb));co_applyP tr (i := 3) rfl (av (hf := aD)) (ai (by simpa using hR.p _ hb));co_applyP tr (i := 4) rfl (av (hf := dS)) (ai (by simpa using hR.p _ hb));co_applyP tr (i := 5) rfl (aC (ht := aV)) (ai (by simpa using hR.p _ hb));co_applyP tr (i := 6) rfl aj (ai (by simpa using hR.p _ hb));co_applyP tr (i := 7) rfl aj (ai (by simpa using hR.p _ hb));co_applyP tr (i := 8) rfl aL (ai (by simpa using hR.p _ hb));co_applyP tr (i := 9) rfl (av (hf := aD)) (ai (by simpa using hR.p _ hb));co_applyP tr (i := 10) rfl (av (hf := dS)) (ai (by simpa using hR.p _ hb));co_applyP t0 (i := 11) rfl (aC (ht := aV)) (ai (by simpa using hR.p _ hb));co_applyP tr (i := 12) rfl aL (ai (by simpa using hR.p _ hb));co_applyP tr (i := 13) rfl (a0 Tryz.underlying112 eg) (ai (by simpa using hR.p _ hb));co_applyP t0 (i := 14) rfl (aC (ht := cZ)) (ai (by simpa using hR.p _ hb));co_applyP tr (i := 15) rfl aj (ai (by simpa using hR.p _ hb));co_applyP tr (i := 18) rfl aL (ai (by simpa using hR.p _ hb));co_applyP te (i := 16) rfl (iY (hN _) (hx := rfl) (hu := Tryz.underlying91) (hs := bI) (hz := hY));rintro _ _ ⟨nb, hnb, rfl, rfl⟩;refine ⟨dN (by simpa using hR.p _ hb) (fun t ht => List.mem_cons_of_mem _ ht), ?_⟩;co_applyP ba;intro hnd;have hA := dk (o := .cells #[ptr b] 93) hR.fn hnb;have hR1 := hR.add hA;have hpne : (A.a (x.lv + 1)).b ≠ some b := hR1.row_ne hlv (hR1.p _ hb) (eR (by decide));have hkne : (A.a (x.lv + 1)).b ≠ some K := hR1.row_ne hlv hR1.k (eR (by decide));co_applyP te (i := 17) rfl (pW (c := b) (hnd := hnd) (hN := hN) (ha := hR1.rw _ hlv) (h8 := by omega) (hnb := hA.self));rintro _ _ ⟨a', rfl, hp⟩;refine ⟨aE (by simpa using hp.sub _ (hR1.p _ hb) hpne), ?_⟩;co_applyP to (i := 19) rfl ((a0 Tryz.underlying112 eg)) (aE (by simpa using hp.sub _ (hR1.p _ hb) hpne));co_applyP ba;intro hnd';co_applyP te (i := 20) rfl (fb (hnd := hnd') (hm := hp.sub _ hR1.k hkne) (hi := by rw [bC]; omega) (hp := eQ _ _) (hs := eg));rintro _ _ ⟨rfl, hU⟩;refine ⟨aE (by simpa using hU.ne _ (hp.sub _ (hR1.p _ hb) hpne) (hR1.fn.ne (hR1.p _ hb) hR1.k (aF (by decide)))), ?_⟩;co_applyP td (by kernel_rfl);change ∃ v, resE .. = some v ∧ _;refine ⟨_, rfl, rfl, rfl, A.setA (x.lv + 1) a', LRel.set A hlv a', ?_⟩;refine hR1.setRow hlv hU.fn ?_ (fun t ht h1 h2 => hU.ne t (hp.sub t ht h2) h1) ?_ ?_ hw
 · rw [jt _ _ _ _ _ (by omega)];have := hU.self;rw [hZ _ hlv] at this;simpa using this
 · exact hp.ok.mono fun c hc o ho => hU.ne _ ho fun e => by
     have h1 := hp.ok.mem hc;have e' : c = K := e;rw [e'] at h1;exact aF (by decide) (hp.fn _ _ _ _ _ h1 (hp.sub _ hR1.k hkne)).2
 · intro c hc;rcases hp.d c hc with h1 | h1
   · exact .inl h1
   · refine .inr ⟨fun i hi => ?_, fun t ht => h1 t (hR1.fr t ht)⟩;obtain ⟨ys, hy⟩ := hR1.al i c hi;exact h1 _ hy rfl
theorem nl (S : St) (l : Nat) : S.setRow l (S.rows l) = S := by
 have : put S.rows l (S.rows l) = S.rows := by funext j; unfold put; split <;> simp_all
 unfold St.setRow; rw [this]
theorem tG {l1 l2 : List Nat} {b : Nat} (hn : ∀ c ∈ l1, c ≠ b) : (l1 ++ b :: l2).erase b = l1 ++ l2 := by
 rw [List.erase_append_right _ (fun h => hn b h rfl)]; simp
theorem lX {α : Type} {l1 l2 : List α} {b : α} : (l1 ++ b :: l2).eraseIdx l1.length = l1 ++ l2 := by rw [List.eraseIdx_append_of_length_le (Nat.le_refl _)]; simp
theorem ie {α β : Type} (f : α → β) (l : List α) (i : Nat) : (l.eraseIdx i).map f = (l.map f).eraseIdx i := by
 rw [List.eraseIdx_eq_take_drop_succ, List.eraseIdx_eq_take_drop_succ]; simp
theorem lY : ∃ n, ∀ {σ : Type} {F : Fam σ} {Δ : ∀ s, Dom (F.R s) (F.D s)} {main : Bool} {s : σ} (K : Nat) (A : Lay) (S : St) (Fr L : Frag) (b : Nat) (x : PS), Rep K A S Fr L → (b, x) ∈ S.ps → x.lv < 3 → (S.rows x.lv).length ≤ 8 → (∀ c ∈ S.rows x.lv, ∃ y, (c, y) ∈ S.ps) → (∀ e ∈ S.wt, slot e.1 ≠ x.lv + 1) →
   CallsL Δ Tryz.prog main 97 [.pointer (some ⟨K, 7, none⟩), ptr b].toArray n s L (fun s' v L' => s = s' ∧ v = .tuple #[] ∧ ∃ A', LRel A A' ∧ Rep K A' (S.setRow x.lv ((S.rows x.lv).erase b)) Fr L') := by
 obtain ⟨n1, g1⟩ := pV;obtain ⟨n2, g2⟩ := nk;apply Exists.intro;intro σ F Δ main s K A S Fr L b x hR hb hlv h8 hm hw;have hx5 : At L b 5 (.int .i64 (x.lv : Int)) := hR.pat hb (i := 5) rfl;have hrow : At L K (7 + x.lv) (slv (A.a (x.lv + 1)) (S.rows x.lv).length) := hR.kat (jT _ hlv);co_applyP aB 33 Tryz.func97 Tryz.ntmps97;co_applyP ae;co_applyP bj aZ;co_applyP tr (i := 0) rfl aj pI;co_applyP tr (i := 1) rfl aj pI;co_applyP tr (i := 2) rfl aL pI;co_applyP tr (i := 3) rfl (av (hf := aD)) pI;co_applyP tr (i := 4) rfl (av (hf := dS)) pI;co_applyP tr (i := 5) rfl (aC (ht := aV)) pI;co_applyP tr (i := 6) rfl aL pI;co_applyP tr (i := 7) rfl (a0 Tryz.underlying112 eg) pI;co_applyP tr (i := 8) rfl (aC (ht := cZ)) pI;co_applyP tr (i := 9) rfl ak pI;co_applyP td (by kernel_rfl);change wpE ..;co_applyP ae;co_applyP aa;co_applyP oy rfl aj;co_applyP oy rfl aj;co_applyP oc rfl rfl rfl (g1 L (A.a (x.lv + 1)) (S.rows x.lv) b h8 (hR.rw _ hlv) (fun c hc => by obtain ⟨y, hy⟩ := hm c hc; exact ⟨y, hR.p _ hy⟩) ⟨x, hR.p _ hb⟩);rintro _ _ _ ⟨rfl, rfl, rfl⟩;co_applyP oy rfl ak;co_applyP ah;change wpE ..;co_applyP ae;co_applyP aa;co_applyP oy rfl aj;co_applyP oy rfl d9;co_applyP ah;change wpE ..;co_applyP bl rfl;intro hi
 · by_cases hin : b ∈ S.rows x.lv
   · obtain ⟨l1, l2, hl, hn⟩ := List.eq_append_cons_of_mem hin;have hn' : ∀ c ∈ l1, c ≠ b := fun c hc e => hn (e ▸ hc);have hix : idx (S.rows x.lv) b = (l1.length : Int) := oP hl hn' rfl;have hll : l1.length < (S.rows x.lv).length := by rw [hl]; simp
     have hwr : IntKind.i64.wrap ((l1.length : Int) + 1) = (l1.length : Int) + 1 := by simp [IntKind.wrap_i64]; omega
     cases hQ : (A.a (x.lv + 1)).b with
     | none =>
       have := hR.rw _ hlv;unfold slOk at this;rw [hQ] at this;rw [hl] at this; simp at this
     | some Q =>
       have hQm := (hR.rw _ hlv).mem hQ;have hsv : slv (A.a (x.lv + 1)) (S.rows x.lv).length = .slice (some ⟨Q, 0, none⟩) ((S.rows x.lv).map ptr).length (((S.rows x.lv).map ptr).length + (A.a (x.lv + 1)).junk.length) := by unfold slv; rw [hQ]; simp
       have hpQ : b ≠ Q := fun e => hR.row_ne hlv (hR.p _ hb) (eR (by decide)) (by rw [hQ, e]);have hkQ : K ≠ Q := fun e => hR.row_ne hlv hR.k (eR (by decide)) (by rw [hQ, e]);rw [hix, hsv];co_applyP bm [pb b x] 10 aZ;co_applyP tr (i := 0) rfl aj (ai (by simpa using hR.p _ hb));co_applyP tr (i := 1) rfl aj (ai (by simpa using hR.p _ hb));co_applyP tr (i := 2) rfl aL (ai (by simpa using hR.p _ hb));co_applyP tr (i := 3) rfl (av (hf := aD)) (ai (by simpa using hR.p _ hb));co_applyP tr (i := 4) rfl (av (hf := dS)) (ai (by simpa using hR.p _ hb));co_applyP tr (i := 5) rfl (aC (ht := aV)) (ai (by simpa using hR.p _ hb));co_applyP tr (i := 6) rfl aj (ai (by simpa using hR.p _ hb));co_applyP tr (i := 7) rfl aj (ai (by simpa using hR.p _ hb));co_applyP tr (i := 8) rfl aj (ai (by simpa using hR.p _ hb));co_applyP tr (i := 9) rfl a7 (ai (by simpa using hR.p _ hb));co_applyP tr (i := 11) rfl aL (ai (by simpa using hR.p _ hb));rw [hwr];co_applyP tc (i := 10) rfl rfl rfl (g2 L Q ((S.rows x.lv).map ptr) (A.a (x.lv + 1)).junk l1.length (by simpa using hll) (by simp; omega) (by simp [plainV]) hQm);rintro _ _ _ ⟨rfl, rfl, hU⟩;refine ⟨aE (by simpa using hU.ne _ (hR.p _ hb) hpQ), ?_⟩;co_applyP to (i := 12) rfl ((a0 Tryz.underlying112 eg)) (aE (by simpa using hU.ne _ (hR.p _ hb) hpQ));co_applyP ba;intro hnd;co_applyP te (i := 13) rfl (fb (hnd := hnd) (hm := hU.ne _ hR.k hkQ) (hi := by rw [bC]; omega) (hs := eg));rintro _ _ ⟨rfl, hU'⟩;refine ⟨aE (by simpa using hU'.ne _ (hU.ne _ (hR.p _ hb) hpQ) (hR.fn.ne (hR.p _ hb) hR.k (aF (by decide)))), ?_⟩;co_applyP td (by kernel_rfl);change ∃ v, resE .. = some v ∧ _;have her : (S.rows x.lv).erase b = (S.rows x.lv).eraseIdx l1.length := by rw [hl, tG hn', lX]
       have hlen' : ((S.rows x.lv).eraseIdx l1.length).length = (S.rows x.lv).length - 1 := by rw [List.length_eraseIdx]; simp [hll]
       refine ⟨_, rfl, rfl, rfl, A.setA (x.lv + 1) ⟨some Q, .pointer none :: (A.a (x.lv + 1)).junk⟩, LRel.set A hlv _, ?_⟩;rw [her];refine hR.setRow hlv hU'.fn ?_ (fun t ht h1 h2 => hU'.ne t (hU.ne t ht fun e => h2 (by rw [hQ, e])) h1) ?_ (fun c hc => .inl (by rw [hQ]; exact hc)) hw
       · rw [jt _ _ _ _ _ (by omega)];have := hU'.self;rw [hZ _ hlv] at this;have e9 : slv ⟨some Q, .pointer none :: (A.a (x.lv + 1)).junk⟩ ((S.rows x.lv).eraseIdx l1.length).length = .slice (some ⟨Q, 0, none⟩) (((S.rows x.lv).map ptr).length - 1) (((S.rows x.lv).map ptr).length + (A.a (x.lv + 1)).junk.length) := by
           unfold slv; simp [hlen']; omega
         rw [e9]; exact this
       · have := hU'.ne _ hU.self (Ne.symm hkQ);show (Q, true, _) ∈ _;rw [ie];exact this
   · rw [nj (fun c hc e => hin (by rw [← e]; exact hc))] at hi;simp at hi
 intro hi;co_applyP aA;change ∃ v, resE .. = some v ∧ _;refine ⟨_, rfl, rfl, rfl, A, LRel.refl A, ?_⟩;have hni : b ∉ S.rows x.lv := fun hin => by
   obtain ⟨l1, l2, hl, hn⟩ := List.eq_append_cons_of_mem hin;rw [oP hl (fun c hc e => hn (by rw [← e]; exact hc)) rfl] at hi;simp at hi
 rw [List.erase_of_not_mem hni, nl];exact hR
end Go.Proofs.YtejkelcaljmnoaaGreatDoor
