/-
  Part 16 of the proof.
  No condition but those that each statement names.
-/
import Derived.Test.YtejkelcaljmnoaaGreatDoorHy15
set_option maxRecDepth 100000
set_option linter.unusedVariables false
set_option linter.unusedSimpArgs false
set_option linter.unusedSectionVars false
set_option maxRecDepth 100000
namespace Go.Proofs.YtejkelcaljmnoaaGreatDoor
open Go.Lo Go.Extern Go.Extern.Rtype
section
variable {New : Obj → Prop} {N : Nat} {ε : Env} {L : Frag} {d : Option Tmp} {ty : TypeId} {ps : String} {af : Array Edge} {g : Option (Nat × Bool)} {args : Array Operand} {ats : Array TypeId}
theorem x142a {v : Value} (hx : args.toList.map (ev ε) = [Value.iface 255 v].map some := by rfl) : EY Tryz.prog N ε L ⟨d, .call ⟨.value (.func 142), args, ats⟩, ty, ps, af, g⟩ (rty 255) :=
 E_ext0 (e := ReflectliteType.typeOf) hx Tryz.func142 (by kernel_rfl) (wpQ_ev0 (typeOf255 v) rfl)
theorem x142b {v : Value} (hx : args.toList.map (ev ε) = [Value.iface 180 v].map some := by rfl) : EY Tryz.prog N ε L ⟨d, .call ⟨.value (.func 142), args, ats⟩, ty, ps, af, g⟩ (rty 180) :=
 E_ext0 (e := ReflectliteType.typeOf) hx Tryz.func142 (by kernel_rfl) (wpQ_ev0 (typeOf180 v) rfl)
abbrev rval (t : TypeId) (a : Nat) (fl : Int) : Value := .agg #[hnd t, ptr a, .int .u64 fl]
theorem x120 {a : Nat} (hx : args.toList.map (ev ε) = [rval 182 a 150].map some := by rfl) : EY Tryz.prog N ε L ⟨d, .call ⟨.value (.func 120), args, ats⟩, ty, ps, af, g⟩ (rty 182) :=
 E_ext0 (e := ReflectliteValue.methodAny (ReflectliteValue.valueError "reflectlite.Value.Type" 0) (fun t _ _ _ => ReflectliteType.toType t)) hx Tryz.func120 (by kernel_rfl) (wpQ_ev0 (type182 _) rfl)
theorem x121 {a p : Nat} (hp : At L a 0 (ptr p)) (hx : args.toList.map (ev ε) = [rval 182 a 150].map some := by rfl) : EY Tryz.prog N ε L ⟨d, .call ⟨.value (.func 121), args, ats⟩, ty, ps, af, g⟩ (.bool false) :=
 E_ext0 (e := ReflectliteValue.method (ReflectliteValue.valueError "reflectlite.Value.IsNil" 0) ReflectliteValue.isNil) hx Tryz.func121 (by kernel_rfl) (wpQ_ev1 (isNil182 _ _) hp rfl)
theorem x143 {a p : Nat} (hp : At L a 0 (ptr p)) (hx : args.toList.map (ev ε) = [rval 182 a 150].map some := by rfl) : EY Tryz.prog N ε L ⟨d, .call ⟨.value (.func 143), args, ats⟩, ty, ps, af, g⟩ (rval 180 p 406) :=
 E_ext0 (e := ReflectliteValue.method (ReflectliteValue.valueError "reflectlite.Value.Elem" 0) ReflectliteValue.elem) hx Tryz.func143 (by kernel_rfl) (wpQ_ev1 (vElem182 _ _) hp rfl)
theorem iKind182 {x : Operand} (hx : ev ε x = some (rty 182) := by rfl) : EY Tryz.prog N ε L ⟨d, .call ⟨.invoke x "Kind", #[], ats⟩, ty, ps, af, g⟩ (.int .u8 22) :=
 E_inv (vs := []) (f := 189) (rc := hnd 182) (e := ReflectliteType.abiMethod fun t => (fun a : Nat => Value.int IntKind.u8 (a : Int)) <$> Rtype.kind t) hx (by rfl) (wpQ_ev0 (mKind _) rfl) Tryz.func189 (by kernel_rfl) (wpQ_ev0 kind182 rfl)
theorem iKind180 {x : Operand} (hx : ev ε x = some (rty 180) := by rfl) : EY Tryz.prog N ε L ⟨d, .call ⟨.invoke x "Kind", #[], ats⟩, ty, ps, af, g⟩ (.int .u8 22) :=
 E_inv (vs := []) (f := 189) (rc := hnd 180) (e := ReflectliteType.abiMethod fun t => (fun a : Nat => Value.int IntKind.u8 (a : Int)) <$> Rtype.kind t) hx (by rfl) (wpQ_ev0 (mKind _) rfl) Tryz.func189 (by kernel_rfl) (wpQ_ev0 kind180 rfl)
theorem iElem182 {x : Operand} (hx : ev ε x = some (rty 182) := by rfl) : EY Tryz.prog N ε L ⟨d, .call ⟨.invoke x "Elem", #[], ats⟩, ty, ps, af, g⟩ (rty 180) :=
 E_inv (vs := []) (f := 200) (rc := .agg #[hnd 182]) (e := ReflectliteType.method ReflectliteType.elem) hx (by rfl) (wpQ_ev0 (mElem _) rfl) Tryz.func200 (by kernel_rfl) (wpQ_ev0 elem182 rfl)
theorem iImpl {x : Operand} (hx : ev ε x = some (rty 180) := by rfl) (ha : args.toList.map (ev ε) = [rty 168].map some := by rfl) : EY Tryz.prog N ε L ⟨d, .call ⟨.invoke x "Implements", args, ats⟩, ty, ps, af, g⟩ (.bool true) :=
 E_inv (f := 201) (rc := .agg #[hnd 180]) (e := ReflectliteType.relation "Implements" ReflectliteType.implements_) hx ha (wpQ_ev0 (mImplements _) rfl) Tryz.func201 (by kernel_rfl) (wpQ_ev0 implements180 rfl)
theorem iAsg255 {x : Operand} (hx : ev ε x = some (rty 255) := by rfl) (ha : args.toList.map (ev ε) = [rty 180].map some := by rfl) : EY Tryz.prog N ε L ⟨d, .call ⟨.invoke x "AssignableTo", args, ats⟩, ty, ps, af, g⟩ (.bool false) :=
 E_inv (f := 198) (rc := .agg #[hnd 255]) (e := ReflectliteType.relation "AssignableTo" ReflectliteType.assignableTo) hx ha (wpQ_ev0 (mAssignable _) rfl) Tryz.func198 (by kernel_rfl) (wpQ_ev0 assignable255 rfl)
theorem iAsg180 {x : Operand} (hx : ev ε x = some (rty 180) := by rfl) (ha : args.toList.map (ev ε) = [rty 180].map some := by rfl) : EY Tryz.prog N ε L ⟨d, .call ⟨.invoke x "AssignableTo", args, ats⟩, ty, ps, af, g⟩ (.bool true) :=
 E_inv (f := 198) (rc := .agg #[hnd 180]) (e := ReflectliteType.relation "AssignableTo" ReflectliteType.assignableTo) hx ha (wpQ_ev0 (mAssignable _) rfl) Tryz.func198 (by kernel_rfl) (wpQ_ev0 assignable180 rfl)
theorem iCmp {x : Operand} (hx : ev ε x = some (rty 255) := by rfl) : EY Tryz.prog N ε L ⟨d, .call ⟨.invoke x "Comparable", #[], ats⟩, ty, ps, af, g⟩ (.bool true) :=
 E_inv (vs := []) (f := 199) (rc := .agg #[hnd 255]) (e := ReflectliteType.method (fun t => do noPackHeld "Comparable" t; pure (.bool (← typeInfo t).comparable))) hx (by rfl) (wpQ_ev0 (mComparable _) rfl) Tryz.func199 (by kernel_rfl) (wpQ_ev0 comparable255 rfl)
theorem wpS_ev0 {α : Type} {Q : α → Frag → Prop} {s : Sem α} {r : α} (h : evR Tryz.prog s [] = some (r, [])) (hK : Q r L) : wpS Tryz.prog New s Q L := wpS_of_wpQ (K := (· = r)) (fun _ e => by rw [e]; exact hK) s (wpQ_ev0 h rfl)
theorem wpS_ev1 {α : Type} {Q : α → Frag → Prop} {s : Sem α} {r : α} {v : Value} {b i : Nat} (h : evR Tryz.prog s [v] = some (r, [⟨b, i, none⟩])) (hv : At L b i v) (hK : Q r L) : wpS Tryz.prog New s Q L := wpS_of_wpQ (K := (· = r)) (fun _ e => by rw [e]; exact hK) s (wpQ_ev1 h hv rfl)
theorem valueOf {t : TypeId} {p : Option Addr} (ht : ∀ a, evR Tryz.prog (ReflectliteValue.mk t a 0) [] = some (.agg #[hnd t, .pointer (some a), .int .u64 150], [])) (hN : New (.cells #[.pointer p] t)) : wpS Tryz.prog New (ReflectliteValue.unpack (.iface t (.pointer p))) (fun r L'' => ∃ b, (∀ t ∈ L, t.1 ≠ b) ∧ r = rval t b 150 ∧ L'' = (b, true, .cells #[.pointer p] t) :: L) L := by
 show wpS Tryz.prog New (newVar t (.pointer p) >>= fun a => ReflectliteValue.mk t a 0) _ L
 rw [wpS_bind]
 show wpS Tryz.prog New (newObj (.cells #[.pointer p] t) >>= fun b => pure (⟨b, 0, none⟩ : Addr)) _ L
 rw [wpS_bind]
 refine wpS_newObj hN fun b hb => ?_
 rw [wpS_pure]
 exact wpS_ev0 (ht _) ⟨b, hb, rfl, rfl⟩
theorem o119a {p : Option Addr} (hN : New (.cells #[.pointer p] 182)) (hx : args.toList.map (ev ε) = [Value.iface 182 (.pointer p)].map some := by rfl) : EO Tryz.prog New N ε L ⟨d, .call ⟨.value (.func 119), args, ats⟩, ty, ps, af, g⟩ (fun r L'' => ∃ b, (∀ t ∈ L, t.1 ≠ b) ∧ r = rval 182 b 150 ∧ L'' = (b, true, .cells #[.pointer p] 182) :: L) :=
 O_ext (e := fun args => ReflectliteValue.unpack (args.getD 0 (.tuple #[]))) hx Tryz.func119 (by kernel_rfl) (valueOf mk182 hN)
theorem o119b {p : Option Addr} (hN : New (.cells #[.pointer p] 180)) (hx : args.toList.map (ev ε) = [Value.iface 180 (.pointer p)].map some := by rfl) : EO Tryz.prog New N ε L ⟨d, .call ⟨.value (.func 119), args, ats⟩, ty, ps, af, g⟩ (fun r L'' => ∃ b, (∀ t ∈ L, t.1 ≠ b) ∧ r = rval 180 b 150 ∧ L'' = (b, true, .cells #[.pointer p] 180) :: L) :=
 O_ext (e := fun args => ReflectliteValue.unpack (args.getD 0 (.tuple #[]))) hx Tryz.func119 (by kernel_rfl) (valueOf mk180 hN)
theorem da180 : evR Tryz.prog (directlyAssignable 180 180) [] = some (true, []) := by kernel_rfl
theorem lv180 (a : Addr) (v : Value) : evR Tryz.prog (loadVar 180 a) [v] = some (v, [a]) := by kernel_rfl
theorem o144 {a b : Nat} {p : Option Addr} {cs : Array Value} {e : TypeId} (hnd : (L.map (·.1)).Nodup) (hv : At L b 0 (.pointer p)) (hm : (a, true, .cells cs e) ∈ L) (hi : 0 < cs.size) (hx : args.toList.map (ev ε) = [rval 180 a 406, rval 180 b 150].map some := by rfl) : EO Tryz.prog New N ε L ⟨d, .call ⟨.value (.func 144), args, ats⟩, ty, ps, af, g⟩ (fun r L'' => r = .tuple #[] ∧ Upd L a (.cells (cs.setIfInBounds 0 (.pointer p)) e) L'') := by
 refine O_ext (e := ReflectliteValue.set) hx Tryz.func144 (by kernel_rfl) ?_
 obtain ⟨n, hn⟩ := List.getElem?_of_mem hm
 show wpS Tryz.prog New (ReflectliteValue.parts (rval 180 a 406) >>= fun v => _) _ L
 rw [wpS_bind]
 refine wpS_ev0 (parts180a _) ?_
 show wpS Tryz.prog New (ReflectliteValue.parts (rval 180 b 150) >>= fun v => _) _ L
 rw [wpS_bind]
 refine wpS_ev0 (parts180 _) ?_
 show wpS Tryz.prog New (loadVar 180 ⟨b, 0, none⟩ >>= fun v => _) _ L
 rw [wpS_bind]
 refine wpS_ev1 (lv180 _ _) hv ?_
 show wpS Tryz.prog New (directlyAssignable 180 180 >>= fun v => _) _ L
 rw [wpS_bind]
 refine wpS_ev0 da180 ?_
 show wpS Tryz.prog New (storeVar 180 ⟨a, 0, none⟩ (.pointer p) >>= fun v => _) _ L
 rw [wpS_bind]
 unfold storeVar
 rw [wpS_bind, wpS_sizeOf sz_180]
 show wpS Tryz.prog New (storeCells ⟨a, 0, none⟩ [.pointer p]) _ L
 refine wpS_storeCells hn (by simp; omega) rfl ?_
 exact ⟨rfl, upd_set hnd hn⟩
end
end Go.Proofs.YtejkelcaljmnoaaGreatDoor
namespace Go.Proofs.YtejkelcaljmnoaaGreatDoor
open Go.Conc Go.Hx Go.Lo
structure Sl where
 b : Option Nat
 junk : List Value
def slv (a : Sl) (n : Nat) : Value := match a.b with
 | none => .slice none 0 0
 | some b => .slice (some ⟨b, 0, none⟩) n (n + a.junk.length)
def slOk (a : Sl) (xs : List Value) (e : TypeId) (L : Frag) : Prop := match a.b with
 | none => xs = [] ∧ a.junk = []
 | some b => (b, true, Obj.cells (xs ++ a.junk).toArray e) ∈ L
structure St where
 sl : Nat → Int
 bo : Int
 pn : Nat
 pg : Nat → Nat → Int
 ps : List (Nat × PS)
 last : Nat
 rows : Nat → List Nat
 by_ : Nat → List Int
 wt : List ((Nat × Nat) × List Nat)
 now : Nat
structure Lay where
 g : Nat
 gcap : Nat
 gc : Array Value
 a : Nat → Sl
 y : Nat → Sl
 wt : Nat
 born : List Nat
 clock : Nat
def slot (k : Nat × Nat) : Nat := 100 + 10 * k.1 + k.2
def kst (A : Lay) (S : St) : KS := ⟨S.sl, S.bo, .slice (some ⟨A.g, 0, none⟩) S.pn A.gcap, slv (A.a 0) S.ps.length, S.last, fun l => slv (A.a (l + 1)) (S.rows l).length, fun i => slv (A.y i) (S.by_ i).length, .map (some A.wt), S.now⟩
def keyv (k : Nat × Nat) : Value := .agg #[.int .i64 k.1, .int .i64 k.2]
def went (A : Lay) (e : ((Nat × Nat) × List Nat) × Nat) : MapEntry := ⟨keyv e.1.1, slv (A.a (slot e.1.1)) e.1.2.length, e.2⟩
def wobj (A : Lay) (S : St) : Obj := .map ((S.wt.zip A.born).map (went A)).toArray A.clock
structure Rep (K : Nat) (A : Lay) (S : St) (F : Frag) (L : Frag) : Prop where
 fn : Fun L
 k : kb K (kst A S) ∈ L
 g : (A.g, true, Obj.cells A.gc 158) ∈ L
 gv : ∀ i j, i < S.pn → j < 4 → A.gc[4 * i + j]? = some (.int .u8 (S.pg i j))
 p : ∀ q ∈ S.ps, pb q.1 q.2 ∈ L
 pn : (S.ps.map (·.1)).Nodup
 p8 : S.ps.length ≤ 8
 pa : slOk (A.a 0) (S.ps.map fun q => ptr q.1) 93 L
 rw : ∀ l, l < 3 → slOk (A.a (l + 1)) ((S.rows l).map ptr) 93 L
 ya : ∀ i, i < 5 → slOk (A.y i) ((S.by_ i).map fun v => .int .u8 v) 5 L
 w : (A.wt, true, wobj A S) ∈ L
 wl : A.born.length = S.wt.length
 bn : A.born.Nodup
 bc : ∀ x ∈ A.born, x < A.clock
 wa : ∀ e ∈ S.wt, slOk (A.a (slot e.1)) (e.2.map ptr) 93 L
 d : ∀ i j, i ≠ j → (A.a i).b ≠ none → (A.a i).b ≠ (A.a j).b
 dy : ∀ i j, i ≠ j → (A.y i).b ≠ none → (A.y i).b ≠ (A.y j).b
 al : ∀ i c, (A.a i).b = some c → ∃ xs, (c, true, Obj.cells xs 93) ∈ L
 yl : ∀ i c, (A.y i).b = some c → ∃ xs, (c, true, Obj.cells xs 5) ∈ L
 fr : ∀ t ∈ F, t ∈ L
 fd : ∀ t ∈ F, t.1 ≠ K ∧ (∀ q ∈ S.ps, t.1 ≠ q.1) ∧ (∀ i, (A.a i).b ≠ some t.1) ∧ (∀ i, (A.y i).b ≠ some t.1) ∧ t.1 ≠ A.wt
def St.setP (S : St) (b : Nat) (x : PS) : St := { S with ps := S.ps.map fun q => if q.1 = b then (b, x) else q }
section
variable {K : Nat} {A : Lay} {S : St} {F L L' : Frag}
theorem _root_.Go.Lo.Fun.ne {L : Frag} {b b' : Nat} {fl fl' : Bool} {o o' : Obj} (h : Fun L) (h1 : (b, fl, o) ∈ L) (h2 : (b', fl', o') ∈ L) (hne : o ≠ o') : b ≠ b' := by
 rintro rfl
 exact hne (h _ _ _ _ _ h1 h2).2
theorem cells_ne {c c' : Array Value} {t t' : TypeId} {f f' : Nat × Nat} (h : t ≠ t') : Obj.cells c t f ≠ Obj.cells c' t' f' := by
 intro e; cases e; exact h rfl
theorem slOk.mono {a : Sl} {xs : List Value} {e : TypeId} (h : slOk a xs e L) (hs : ∀ b, a.b = some b → ∀ o, (b, true, o) ∈ L → (b, true, o) ∈ L') : slOk a xs e L' := by
 unfold slOk at *
 split
 · rename_i hb; rw [hb] at h; exact h
 · rename_i b hb; rw [hb] at h; exact hs b hb _ h
theorem slOk.mem {a : Sl} {xs : List Value} {e : TypeId} (h : slOk a xs e L) {b : Nat} (hb : a.b = some b) : (b, true, Obj.cells (xs ++ a.junk).toArray e) ∈ L := by
 unfold slOk at h; rw [hb] at h; exact h
theorem slv_view {a : Sl} {xs : List Value} {e : TypeId} (h : slOk a xs e L) : ∃ base cap, slv a xs.length = .slice base xs.length cap ∧ ∀ i v, xs[i]? = some v → ∃ b, a.b = some b ∧ base = some ⟨b, 0, none⟩ ∧ At L b i v := by
 unfold slv
 cases hb : a.b with
 | none =>
   unfold slOk at h
   rw [hb] at h
   obtain ⟨rfl, _⟩ := h
   exact ⟨none, 0, rfl, fun i v hv => by simp at hv⟩
 | some b =>
   refine ⟨some ⟨b, 0, none⟩, _, rfl, fun i v hv => ⟨b, rfl, rfl, true, _, _, _, h.mem hb, ?_⟩⟩
   have hlt := (List.getElem?_eq_some_iff.1 hv).1
   rw [List.getElem?_toArray, List.getElem?_append_left hlt]; exact hv
theorem Rep.of (h : Rep K A S F L) (hf : Fun L') (hs : ∀ t ∈ L, t ∈ L') : Rep K A S F L' :=
 { h with
   fn := hf, k := hs _ h.k, g := hs _ h.g, p := fun q hq => hs _ (h.p q hq), w := hs _ h.w, fr := fun t ht => hs _ (h.fr t ht)
   pa := h.pa.mono fun _ _ _ x => hs _ x, rw := fun l hl => (h.rw l hl).mono fun _ _ _ x => hs _ x, ya := fun i hi => (h.ya i hi).mono fun _ _ _ x => hs _ x, wa := fun e he => (h.wa e he).mono fun _ _ _ x => hs _ x
   al := fun i c hc => (h.al i c hc).imp fun _ x => hs _ x, yl := fun i c hc => (h.yl i c hc).imp fun _ x => hs _ x }
theorem Rep.add (h : Rep K A S F L) {b : Nat} {o : Obj} (u : Add L b o L') : Rep K A S F L' := h.of u.fn u.sub
theorem Rep.keep (h : Rep K A S F L) {b : Nat} {o : Obj} (u : Add L b o L') (ha : ∀ i, (A.a i).b ≠ some b) (hy : ∀ i, (A.y i).b ≠ some b) : Rep K A S ((b, true, o) :: F) L' :=
 { h.add u with
   fr := fun t ht => by
     rcases List.mem_cons.1 ht with rfl | ht
     · exact u.self
     · exact u.sub _ (h.fr t ht)
   fd := fun t ht => by
     rcases List.mem_cons.1 ht with rfl | ht
     · exact ⟨fun e => u.new _ h.k e.symm, fun q hq e => u.new _ (h.p q hq) e.symm, ha, hy, fun e => u.new _ h.w e.symm⟩
     · exact h.fd t ht }
theorem Rep.less (h : Rep K A S F L) {F' : Frag} (hs : ∀ t ∈ F', t ∈ F) : Rep K A S F' L := { h with fr := fun t ht => h.fr t (hs t ht), fd := fun t ht => h.fd t (hs t ht) }
theorem nodup_val {l : List (Nat × PS)} (h : (l.map (·.1)).Nodup) {b : Nat} {x y : PS} (h1 : (b, x) ∈ l) (h2 : (b, y) ∈ l) : x = y := by
 obtain ⟨i, hi⟩ := List.getElem?_of_mem h1
 obtain ⟨j, hj⟩ := List.getElem?_of_mem h2
 have e1 : (l.map (·.1))[i]? = some b := by simp [hi]
 have e2 : (l.map (·.1))[j]? = some b := by simp [hj]
 obtain ⟨hl1, he1⟩ := List.getElem?_eq_some_iff.1 e1
 obtain ⟨hl2, he2⟩ := List.getElem?_eq_some_iff.1 e2
 have hij : i = j := by
   rcases Nat.lt_trichotomy i j with g | g | g
   · exact absurd (he1.trans he2.symm) (List.pairwise_iff_getElem.1 h i j hl1 hl2 g)
   · exact g
   · exact absurd (he2.trans he1.symm) (List.pairwise_iff_getElem.1 h j i hl2 hl1 g)
 subst hij
 rw [hi] at hj
 simpa using hj
theorem setP_fst (S : St) (b : Nat) (x : PS) : (S.setP b x).ps.map (·.1) = S.ps.map (·.1) := by
 simp only [St.setP, List.map_map]
 apply List.map_congr_left
 intro q _
 simp only [Function.comp]
 split
 · rename_i e; exact e.symm
 · rfl
theorem setP_len (S : St) (b : Nat) (x : PS) : (S.setP b x).ps.length = S.ps.length := by simp [St.setP]
theorem mem_setP {S : St} {b : Nat} {x : PS} {q : Nat × PS} (h : q ∈ (S.setP b x).ps) : q = (b, x) ∨ (q ∈ S.ps ∧ q.1 ≠ b) := by
 simp only [St.setP, List.mem_map] at h
 obtain ⟨r, hr, e⟩ := h
 split at e
 · exact .inl e.symm
 · rename_i hne; exact .inr ⟨e ▸ hr, e ▸ hne⟩
theorem mem_setP_self {S : St} {b : Nat} {x y : PS} (h : (b, y) ∈ S.ps) : (b, x) ∈ (S.setP b x).ps := by
 simp only [St.setP, List.mem_map]
 exact ⟨(b, y), h, by simp⟩
theorem setP_ptr (S : St) (b : Nat) (x : PS) : (S.setP b x).ps.map (fun q => ptr q.1) = S.ps.map fun q => ptr q.1 := by
 have := congrArg (List.map ptr) (setP_fst S b x)
 rw [List.map_map, List.map_map] at this
 exact this
theorem kst_setP (A : Lay) (S : St) (b : Nat) (x : PS) : kst A (S.setP b x) = kst A S := by unfold kst; rw [setP_len]; rfl
theorem Rep.setP (h : Rep K A S F L) {b : Nat} {x x' : PS} (hb : (b, x) ∈ S.ps) (u : Upd L b (.cells (pcells x') 99) L') : Rep K A (S.setP b x') F L' := by
 have hbm := h.p _ hb
 have hk : K ≠ b := h.fn.ne h.k hbm (cells_ne (by decide))
 have arr : ∀ (a : Sl) (xs : List Value) (e : TypeId), e ≠ 99 → slOk a xs e L → slOk a xs e L' := fun a xs e he ha => by
   refine ha.mono fun c hc o ho => u.ne _ ho ?_
   exact h.fn.ne (ha.mem hc) hbm (cells_ne he)
 exact { h with
   fn := u.fn
   k := by rw [kst_setP]; exact u.ne _ h.k hk
   g := u.ne _ h.g (h.fn.ne h.g hbm (cells_ne (by decide)))
   p := fun q hq => by
     rcases mem_setP hq with rfl | ⟨h1, h2⟩
     · exact u.self
     · exact u.ne _ (h.p q h1) h2
   pn := by rw [setP_fst]; exact h.pn
   p8 := by rw [setP_len]; exact h.p8
   pa := by rw [setP_ptr]; exact arr _ _ _ (by decide) h.pa
   rw := fun l hl => arr _ _ _ (by decide) (h.rw l hl)
   ya := fun i hi => arr _ _ _ (by decide) (h.ya i hi)
   w := u.ne _ h.w (h.fn.ne h.w hbm (by simp [wobj]))
   wa := fun e he => arr _ _ _ (by decide) (h.wa e he)
   al := fun i c hc => by obtain ⟨xs, hx⟩ := h.al i c hc; exact ⟨xs, u.ne _ hx (h.fn.ne hx hbm (cells_ne (by decide)))⟩
   yl := fun i c hc => by obtain ⟨xs, hx⟩ := h.yl i c hc; exact ⟨xs, u.ne _ hx (h.fn.ne hx hbm (cells_ne (by decide)))⟩
   fr := fun t ht => u.ne _ (h.fr t ht) ((h.fd t ht).2.1 _ hb)
   fd := fun t ht => ⟨(h.fd t ht).1, fun q hq => by
     rcases mem_setP hq with rfl | ⟨h1, h2⟩
     · exact (h.fd t ht).2.1 (b, x) hb
     · exact (h.fd t ht).2.1 q h1, (h.fd t ht).2.2⟩ }
theorem Rep.setK (h : Rep K A S F L) {S' : St} (hps : S'.ps = S.ps) (hrw : S'.rows = S.rows) (hby : S'.by_ = S.by_) (hwt : S'.wt = S.wt) (hpn : S'.pn = S.pn) (hpg : S'.pg = S.pg) (u : Upd L K (.cells (kcells (kst A S')) 115) L') : Rep K A S' F L' := by
 have arr : ∀ (a : Sl) (xs : List Value) (e : TypeId), e ≠ 115 → slOk a xs e L → slOk a xs e L' := fun a xs e he ha => by
   refine ha.mono fun c hc o ho => u.ne _ ho ?_
   exact h.fn.ne (ha.mem hc) h.k (cells_ne he)
 exact { h with
   fn := u.fn
   k := u.self
   g := u.ne _ h.g (h.fn.ne h.g h.k (cells_ne (by decide)))
   gv := by rw [hpn, hpg]; exact h.gv
   p := fun q hq => u.ne _ (h.p q (hps ▸ hq)) (h.fn.ne (h.p q (hps ▸ hq)) h.k (cells_ne (by decide)))
   pn := by rw [hps]; exact h.pn
   p8 := by rw [hps]; exact h.p8
   pa := by rw [hps]; exact arr _ _ _ (by decide) h.pa
   rw := fun l hl => by rw [hrw]; exact arr _ _ _ (by decide) (h.rw l hl)
   ya := fun i hi => by rw [hby]; exact arr _ _ _ (by decide) (h.ya i hi)
   w := by
     have : wobj A S' = wobj A S := by unfold wobj; rw [hwt]
     rw [this]
     exact u.ne _ h.w (h.fn.ne h.w h.k (by simp [wobj]))
   wl := by rw [hwt]; exact h.wl
   wa := fun e he => arr _ _ _ (by decide) (h.wa e (hwt ▸ he))
   al := fun i c hc => by obtain ⟨xs, hx⟩ := h.al i c hc; exact ⟨xs, u.ne _ hx (h.fn.ne hx h.k (cells_ne (by decide)))⟩
   yl := fun i c hc => by obtain ⟨xs, hx⟩ := h.yl i c hc; exact ⟨xs, u.ne _ hx (h.fn.ne hx h.k (cells_ne (by decide)))⟩
   fr := fun t ht => u.ne _ (h.fr t ht) (h.fd t ht).1
   fd := fun t ht => ⟨(h.fd t ht).1, fun q hq => (h.fd t ht).2.1 q (hps ▸ hq), (h.fd t ht).2.2⟩ }
def Lay.setA (A : Lay) (i : Nat) (a : Sl) : Lay := { A with a := put A.a i a }
structure LRel (A A' : Lay) : Prop where
 a : ∀ i, i = 0 ∨ 3 < i → A'.a i = A.a i
 y : A'.y = A.y
 w : A'.wt = A.wt ∧ A'.born = A.born ∧ A'.clock = A.clock
 g : A'.g = A.g ∧ A'.gcap = A.gcap ∧ A'.gc = A.gc
theorem LRel.refl (A : Lay) : LRel A A := ⟨fun _ _ => rfl, rfl, ⟨rfl, rfl, rfl⟩, ⟨rfl, rfl, rfl⟩⟩
theorem LRel.trans {A B C : Lay} (h : LRel A B) (k : LRel B C) : LRel A C := ⟨fun i hi => (k.a i hi).trans (h.a i hi), k.y.trans h.y, ⟨k.w.1.trans h.w.1, k.w.2.1.trans h.w.2.1, k.w.2.2.trans h.w.2.2⟩, ⟨k.g.1.trans h.g.1, k.g.2.1.trans h.g.2.1, k.g.2.2.trans h.g.2.2⟩⟩
theorem LRel.set (A : Lay) {l : Nat} (hl : l < 3) (a : Sl) : LRel A (A.setA (l + 1) a) := ⟨fun i hi => by simp [Lay.setA, put]; intro e; omega, rfl, ⟨rfl, rfl, rfl⟩, ⟨rfl, rfl, rfl⟩⟩
def St.setRow (S : St) (l : Nat) (xs : List Nat) : St := { S with rows := put S.rows l xs }
theorem Rep.setRow (h : Rep K A S F L) {l : Nat} (hl : l < 3) {a' : Sl} {xs : List Nat} (hf : Fun L') (hk : kb K (kst (A.setA (l + 1) a') (S.setRow l xs)) ∈ L') (hs : ∀ t ∈ L, t.1 ≠ K → (A.a (l + 1)).b ≠ some t.1 → t ∈ L') (ha : slOk a' (xs.map ptr) 93 L')
   (hd : ∀ b, a'.b = some b → (A.a (l + 1)).b = some b ∨ ((∀ i, (A.a i).b ≠ some b) ∧ ∀ t ∈ F, t.1 ≠ b)) (hw : ∀ e ∈ S.wt, slot e.1 ≠ l + 1) : Rep K (A.setA (l + 1) a') (S.setRow l xs) F L' := by
 have hal : ∀ b, (A.a (l + 1)).b = some b → (b, true, Obj.cells ((S.rows l).map ptr ++ (A.a (l + 1)).junk).toArray 93) ∈ L := fun b hb => (h.rw l hl).mem hb
 have ty : ∀ {b : Nat} {fl : Bool} {o : Obj}, (b, fl, o) ∈ L → (∀ c, o ≠ Obj.cells c 93) → (A.a (l + 1)).b ≠ some b := fun hm ho hb => ho _ (h.fn _ _ _ _ _ hm (hal _ hb)).2
 have arr : ∀ (a : Sl) (xs : List Value) (e : TypeId), e ≠ 115 → (∀ b, a.b = some b → (A.a (l + 1)).b ≠ some b) → slOk a xs e L → slOk a xs e L' := fun a xs e he hne ha => by
   refine ha.mono fun c hc o ho => hs _ ho ?_ (hne c hc)
   exact h.fn.ne (ha.mem hc) h.k (cells_ne he)
 have hdn : ∀ i, i ≠ l + 1 → ∀ b, (A.a i).b = some b → (A.a (l + 1)).b ≠ some b := fun i hi b hb e => h.d i (l + 1) hi (by rw [hb]; simp) (by rw [hb, e])
 have pm : ∀ q ∈ S.ps, pb q.1 q.2 ∈ L' := fun q hq => hs _ (h.p q hq) (h.fn.ne (h.p q hq) h.k (cells_ne (by decide))) (ty (h.p q hq) fun c => cells_ne (by decide))
 have pA : ∀ i, i ≠ l + 1 → (A.setA (l + 1) a').a i = A.a i := fun i hi => by simp [Lay.setA, put, hi]
 exact { h with
   fn := hf
   k := hk
   g := hs _ h.g (h.fn.ne h.g h.k (cells_ne (by decide))) (ty h.g fun c => cells_ne (by decide))
   p := pm
   pa := by rw [pA 0 (by omega)]; exact arr _ _ _ (by decide) (hdn 0 (by omega)) h.pa
   rw := fun l' hl' => by
     by_cases e : l' = l
     · subst e
       have e1 : (A.setA (l' + 1) a').a (l' + 1) = a' := by simp [Lay.setA, put]
       have e2 : (S.setRow l' xs).rows l' = xs := by simp [St.setRow, put]
       rw [e1, e2]; exact ha
     · have e2 : (S.setRow l xs).rows l' = S.rows l' := by simp [St.setRow, put, e]
       rw [pA _ (by omega), e2]
       exact arr _ _ _ (by decide) (hdn _ (by omega)) (h.rw l' hl')
   ya := fun i hi => arr _ _ _ (by decide) (fun b hb => ty ((h.ya i hi).mem hb) fun c => cells_ne (by decide)) (h.ya i hi)
   w := by
     have : wobj (A.setA (l + 1) a') (S.setRow l xs) = wobj A S := by
       have e0 : (S.wt.zip A.born).map (went (A.setA (l + 1) a')) = (S.wt.zip A.born).map (went A) := by
         apply List.map_congr_left
         intro e he
         unfold went
         rw [pA _ (hw e.1 (List.of_mem_zip he).1)]
       show Obj.map ((S.wt.zip A.born).map (went (A.setA (l + 1) a'))).toArray A.clock = _
       rw [e0]; rfl
     rw [this]
     exact hs _ h.w (h.fn.ne h.w h.k (by simp [wobj])) (ty h.w fun c => by simp [wobj])
   wa := fun e he => by rw [pA _ (hw e he)]; exact arr _ _ _ (by decide) (hdn _ (hw e he)) (h.wa e he)
   al := fun i c hc => by
     by_cases ei : i = l + 1
     · subst ei
       have e1 : (A.setA (l + 1) a').a (l + 1) = a' := by simp [Lay.setA, put]
       rw [e1] at hc
       exact ⟨_, ha.mem hc⟩
     · rw [pA i ei] at hc
       obtain ⟨xs, hx⟩ := h.al i c hc
       exact ⟨xs, hs _ hx (h.fn.ne hx h.k (cells_ne (by decide))) (hdn i ei c hc)⟩
   yl := fun i c hc => by
     obtain ⟨xs, hx⟩ := h.yl i c hc
     exact ⟨xs, hs _ hx (h.fn.ne hx h.k (cells_ne (by decide))) (ty hx fun c => cells_ne (by decide))⟩
   d := fun i j hij hi => by
     by_cases ei : i = l + 1
     · subst ei
       have e1 : (A.setA (l + 1) a').a (l + 1) = a' := by simp [Lay.setA, put]
       rw [pA j (by omega), e1]
       rw [e1] at hi
       intro e
       cases hb : a'.b with
       | none => exact hi hb
       | some b =>
         rcases hd b hb with h1 | h1
         · exact h.d (l + 1) j (by omega) (by rw [h1]; simp) (by rw [h1, ← e, hb])
         · exact h1.1 j (by rw [← e, hb])
     · rw [pA i ei]
       rw [pA i ei] at hi
       by_cases ej : j = l + 1
       · subst ej
         have e1 : (A.setA (l + 1) a').a (l + 1) = a' := by simp [Lay.setA, put]
         rw [e1]
         intro e
         cases hb : a'.b with
         | none => rw [hb] at e; exact hi e
         | some b =>
           rcases hd b hb with h1 | h1
           · exact h.d i (l + 1) ei hi (by rw [h1, e, hb])
           · exact h1.1 i (by rw [e, hb])
       · rw [pA j ej]; exact h.d i j hij hi
   fr := fun t ht => hs _ (h.fr t ht) (h.fd t ht).1 ((h.fd t ht).2.2.1 _)
   fd := fun t ht => by
     refine ⟨(h.fd t ht).1, (h.fd t ht).2.1, fun i => ?_, (h.fd t ht).2.2.2⟩
     by_cases ei : i = l + 1
     · subst ei
       have e1 : (A.setA (l + 1) a').a (l + 1) = a' := by simp [Lay.setA, put]
       rw [e1]
       intro e
       rcases hd _ e with h1 | h1
       · exact (h.fd t ht).2.2.1 _ h1
       · exact h1.2 t ht rfl
     · rw [pA i ei]; exact (h.fd t ht).2.2.1 i }
end
end Go.Proofs.YtejkelcaljmnoaaGreatDoor
