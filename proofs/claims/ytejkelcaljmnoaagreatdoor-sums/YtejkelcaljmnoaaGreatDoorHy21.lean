/-
  Part 21 of the proof.
  No condition but those that each statement names.
-/
import Derived.Test.YtejkelcaljmnoaaGreatDoorHy07
import Derived.Test.YtejkelcaljmnoaaGreatDoorHy17
import Derived.Test.YtejkelcaljmnoaaGreatDoorHy20
import Derived.Laws.StructEq
set_option maxRecDepth 100000
set_option linter.unusedVariables false
set_option linter.unusedSimpArgs false
set_option linter.unusedSectionVars false
namespace Go.Hx
open Go.Conc
theorem stepG_leaveM {P : Program} {main : Bool} {b : Frame} {a : Act} {cs : List Frame} {w : World} {fn : Func} {todo : List Item} {c : Frame} {v : Value} (hn : b.kind = .normal) (hd : a.defers = []) (hf : P.funcs[b.fn]? = some fn)
   (hr : (results fn a.tmps).run P w = .ok v w) : ∃ es, stepG P main (G { b.at a todo with mode := .returning } (c :: cs)) w = .go (G (c.finish v) cs) w es ∧ ∀ e ∈ es, e ∈ (results fn a.tmps).events P w #[] :=
 ⟨_, by simp [G, stepG, unwind, doReturn, Frame.at, hn, hd, hf, hr, GStep.after]; rfl, fun _ he => mem_seen he⟩
def bodyPostM (P : Program) (R : World → World → Prop) (D : World → World → Array Event → Prop) (fn : Func) (Post : Value → World → Prop) : Exit → Act → World → Prop
 | .normal, a, w | .ret, a, w => a.defers = [] ∧ ∃ v, (∀ w₁, R w w₁ → (results fn a.tmps).run P w₁ = .ok v w₁ ∧ ∀ es : Array Event, (∀ e ∈ es, e ∈ (results fn a.tmps).events P w₁ #[]) → D w₁ w₁ es) ∧ Post v w
 | _, _, _ => False
def CallsM (P : Program) (main : Bool) (R : World → World → Prop) (D : World → World → Array Event → Prop) (f : FuncId) (args : Array Value) (n : Nat) (w : World) (Post : Value → World → Prop) : Prop :=
 ∃ fn c, P.funcs[f]? = some fn ∧ (fn.name == "runtime.NumGoroutine") = false ∧ fn.body = some c ∧
   c.wpC P main R D f n (bodyPostM P R D fn Post) { tmps := args ++ Array.replicate (fn.ntmps - args.size) undef, defers := [] } w
end Go.Hx
namespace Go.Lo
open Go.Conc Go.Hx
def bodyLM {σ : Type} (P : Program) (g : Func) (Post : σ → Value → Frag → Prop) : σ → Exit → Act → Frag → Prop
 | s, .normal, a, L | s, .ret, a, L => a.defers = [] ∧ ∃ v, wpQ P (results g a.tmps) (· = v) L ∧ Post s v L
 | _, _, _, _ => False
def CallsM {σ : Type} {F : Fam σ} (Δ : ∀ s, Dom (F.R s) (F.D s)) (P : Program) (main : Bool) (f : FuncId) (args : Array Value) (n : Nat) (s : σ) (L : Frag) (Post : σ → Value → Frag → Prop) : Prop :=
 ∃ g c, P.funcs[f]? = some g ∧ (g.name == "runtime.NumGoroutine") = false ∧ g.body = some c ∧ wpL Δ P main f c n s (bodyLM P g Post) { tmps := args ++ Array.replicate (g.ntmps - args.size) undef, defers := [] } L
section
variable {σ : Type} {F : Fam σ} {Δ : ∀ s, Dom (F.R s) (F.D s)} {P : Program} {main : Bool} {fn : FuncId} {s : σ} {a : Act} {L : Frag}
theorem opsL_callM {Q : σ → Exit → Act → Frag → Prop} {ops : Array Oper} {i : Nat} {rest : List Nat} {o : Oper} {f : FuncId} {args : Array Operand} {ats : Array TypeId} {nf n : Nat} {Post : σ → Value → Frag → Prop}
   (ho : ops[i]? = some o) (hw : Region.wanted o (yielded ops a.tmps) = true) (hop : o.op = .call { callee := .value (.func f), args, argTypes := ats }) (hcall : CallsM Δ P main f (args.map a.eval) nf s L Post) (hnext : ∀ s' v L', Post s' v L' → OpsL Δ P main fn ops rest n s' Q (a.put o.dst v) L') : OpsL Δ P main fn ops (i :: rest) (n + nf + 3) s Q a L := by
 intro w hO b k cs m hb hk hc
 obtain ⟨g, c, hf, hname, hbody, hwp⟩ := hcall
 have hfin : ∀ v, (b.at a (.inRegion ops (i :: rest) :: k)).finish v = b.at (a.put o.dst v) (.inRegion ops rest :: k) := fun v => by rw [Frame.finish_at, ho]; rfl
 have hleave : ∀ (s' : σ) (a' : Act) (w' : World) (todo : List Item), (∃ L', (Δ s').Own L' w' ∧ a'.defers = [] ∧ ∃ v, wpQ P (results g a'.tmps) (· = v) L' ∧ Post s' v L') →
     Goes P main (F.R s') (F.D s') (F.Stop s') (m + n + 1) (G { (base f).at a' todo with mode := .returning } (b.at a (.inRegion ops (i :: rest) :: k) :: cs)) w' := by
   rintro s' a' w' todo ⟨L', hL, hd, v, hr, hp⟩
   refine Goes.step rfl fun w₁ h₁ => ?_
   obtain ⟨q1, q2⟩ := quiet' (Δ s') ((Δ s').rely hL h₁) hr
   obtain ⟨es, hes, hm⟩ := stepG_leaveM (main := main) (cs := cs) (todo := todo) (c := b.at a (.inRegion ops (i :: rest) :: k)) (b := base f) rfl hd hf q1
   rw [hes, hfin]
   exact ⟨(Δ s').dd ((Δ s').gr w₁) fun e he => q2 e (hm e he), (hnext s' v L' hp w' hL b k cs m hb hk hc).rely (F.terms s').trans h₁⟩
 have hbodyG : Goes P main (F.R s) (F.D s) (F.Stop s) (m + n + 2 + nf) (G ((base f).at { tmps := args.map a.eval ++ Array.replicate (g.ntmps - (args.map a.eval).size) undef, defers := [] } [.code c]) (b.at a (.inRegion ops (i :: rest) :: k) :: cs)) w := by
   refine hwp w hO (base f) [] _ (m + n + 2) rfl (by simp [base]) fun s' e a' w' q => ?_
   obtain ⟨L', hL, q⟩ := q
   cases e with
   | normal => exact Goes.step rfl fun w₁ h₁ => by rw [stepG_end]; exact ⟨(F.terms s').idle _, (hleave s' a' w' [] ⟨L', hL, q⟩).rely (F.terms s').trans h₁⟩
   | ret => exact fun todo => (hleave s' a' w' todo ⟨L', hL, q⟩).more
   | exit id => exact q.elim
   | goto l => exact q.elim
   | panic ch => exact q.elim
   | outgrown => exact q.elim
 have e : m + (n + nf + 3) = (m + n + 2 + nf) + 1 := by omega
 rw [e]
 exact Goes.step rfl fun w₁ h₁ => goes_call ho hw hk hop hf hname hbody ⟨(F.terms s).idle _, hbodyG.rely (F.terms s).trans h₁⟩
end
def resM (P : Program) (g : Func) (ε : Env) (L : Frag) (v : Value) : Prop := ∃ t ty b i n fl cs e, g.results.toList = [.cell t ty] ∧ look ε t = some (.pointer (some ⟨b, i, none⟩)) ∧ aggAt P ty = some true ∧ sizeAt P ty = some n ∧ (b, fl, Obj.cells cs e) ∈ L ∧ i + n ≤ cs.size ∧ v = .agg (cs.extract i (i + n))
def bodyM {σ : Type} (P : Program) (g : Func) (Post : σ → Value → Frag → Prop) : σ → Exit → Env → Frag → Prop
 | s, .normal, ε, L | s, .ret, ε, L => ∃ v, resM P g ε L v ∧ Post s v L
 | _, _, _, _ => False
section
variable {σ : Type} {F : Fam σ} {Δ : ∀ s, Dom (F.R s) (F.D s)} {P : Program} {main : Bool} {fn : FuncId} {N : Nat} {Q : σ → Exit → Env → Frag → Prop} {s : σ} {ε : Env} {L : Frag}
theorem resM_ok {g : Func} {a : Act} {v : Value} (hf : Fits N ε a) (h : resM P g ε L v) : wpQ P (results g a.tmps) (· = v) L := by
 obtain ⟨t, ty, b, i, n, fl, cs, e, h1, h2, h3, h4, h5, h6, rfl⟩ := h
 have h1' : g.results = #[.cell t ty] := Array.ext' h1
 have e1 := (hf.at_ _ _ h2).2
 have e0 : results g a.tmps = (asAddr (a.tmps.getD t undef) >>= fun x => loadVar ty x) := by simp [results, h1']
 rw [e0, e1, wpQ_bind]
 show wpQ P (loadVar ty ⟨b, i, none⟩) _ L
 unfold loadVar
 rw [wpQ_bind, wpQ_isAgg h3]
 simp only [if_true]
 rw [wpQ_bind, wpQ_sizeOf h4, wpQ_bind]
 exact wpQ_loadCells h5 h6 rfl
theorem callsME (N : Nat) {f : FuncId} {g : Func} {c : Code} {vs : List Value} {n : Nat} {Post : σ → Value → Frag → Prop} (hf : P.funcs[f]? = some g) (hN : g.ntmps = N)  (hname : (g.name == "runtime.NumGoroutine") = false := by rfl) (hb : g.body = some c := by rfl) (hl : Nat.ble vs.length N = true := by rfl) (h : wpE Δ P main f N c n s (bodyM P g Post) (args vs) L) : CallsM Δ P main f vs.toArray n s L Post := by
 have hl := Nat.le_of_ble_eq_true hl
 subst hN
 refine ⟨g, c, hf, hname, hb, wpL_mono (h _ ⟨by simp; omega, rfl, fun t v ht => ?_⟩) fun s' e a' L' ⟨ε', hf, q⟩ => ?_⟩
 · obtain ⟨_, h2⟩ := look_args vs 0 t v ht
   have hlt := (List.getElem?_eq_some_iff.1 h2).1
   simp only [Nat.sub_zero] at h2 hlt
   refine ⟨by omega, ?_⟩
   simp only [Array.getD_eq_getD_getElem?, Array.getElem?_append, List.size_toArray, hlt, if_true, List.getElem?_toArray, h2, Option.getD_some]
 · cases e <;> first | exact ⟨hf.df, q.choose, resM_ok hf q.choose_spec.1, q.choose_spec.2⟩ | exact q
theorem ocm {ops : Array Oper} {i : Nat} {rest : List Nat} {d : Option Tmp} {k : Op} {ot : TypeId} {ps : String} {af : Array Edge} {g : Option (Nat × Bool)} {f : FuncId} {args : Array Operand} {ats : Array TypeId} {vs : List Value} {nf n : Nat} {Post : σ → Value → Frag → Prop}
   (ho : ops[i]? = some ⟨d, k, ot, ps, af, g⟩) (hop : k = .call { callee := .value (.func f), args, argTypes := ats }) (ha : args.toList.map (ev ε) = vs.map some) (hcall : CallsM Δ P main f vs.toArray nf s L Post)
    (hw : wantedE ops N ε g = some true := by rfl) (hd : dstOk N d = true := by rfl) (h : ∀ s' v L', Post s' v L' → OpsE Δ P main fn N ops rest n s' Q (putE d v ε) L') : OpsE Δ P main fn N ops (i :: rest) (n + nf + 3) s Q ε L := by
 intro a hfa
 have e1 : args.map a.eval = vs.toArray := by apply Array.ext'; simpa using eval_args hfa _ _ ha
 subst hop
 exact opsL_callM ho (hfa.wanted hw) rfl (by rw [e1]; exact hcall) fun s' v L' hp => h s' v L' hp _ (hfa.put hd v)
end
end Go.Lo
namespace Go.Proofs.YtejkelcaljmnoaaGreatDoor
open Go.Conc Go.Hx Go.Lo
theorem pext_f (x : PS) {i : Nat} (hi : i < 6) : (pcells x).extract (79 + 2 * i) (79 + 2 * i + 2) = #[.int .i64 (x.f i).1, .int .i64 (x.f i).2] := by
 have : i = 0 ∨ i = 1 ∨ i = 2 ∨ i = 3 ∨ i = 4 ∨ i = 5 := by omega
 rcases this with rfl | rfl | rfl | rfl | rfl | rfl <;> rfl
theorem pset_f (x : PS) {i : Nat} (hi : i < 6) (k : Nat × Nat) : puts (pcells x) (79 + 2 * i) [.int .i64 k.1, .int .i64 k.2] = pcells { x with f := put x.f i k } := by
 have : i = 0 ∨ i = 1 ∨ i = 2 ∨ i = 3 ∨ i = 4 ∨ i = 5 := by omega
 rcases this with rfl | rfl | rfl | rfl | rfl | rfl <;> rfl
def PS.file (x : PS) (n : Int) : Nat × Nat := if n < 6 then x.f n.toNat else (0, 0)
theorem bld96 : evR Tryz.prog (Instr.build 96 ([] : List (Nat × Value)).toArray) [] = some (keyv (0, 0), []) := by kernel_rfl
theorem file_s : ∃ n, ∀ {σ : Type} {F : Fam σ} {Δ : ∀ s, Dom (F.R s) (F.D s)} {main : Bool} {s : σ} (K : Nat) (A : Lay) (S : St) (Fr L : Frag) (b : Nat) (x : PS) (k : Int), (∀ cs, (Δ s).New (.cells cs 96)) → Rep K A S Fr L → (b, x) ∈ S.ps → 0 ≤ k ∧ k < 65536 →
   CallsM Δ Tryz.prog main 106 [ptr b, .int .u16 k].toArray n s L (fun s' v L' => s = s' ∧ v = keyv (x.file k) ∧ Fun L' ∧ ∀ t ∈ L, t ∈ L') := by
 apply Exists.intro
 intro σ F Δ main s K A S Fr L b x k hN hR hb hk
 have hw : IntKind.i64.wrap k = k := by simp [IntKind.wrap_i64]; omega
 co_applyP callsME 15 Tryz.func106 Tryz.ntmps106
 co_applyP c_seq
 co_applyP c_region
 co_applyP oadd rfl (O_new (z := keyv (0, 0)) (hN _))
 intro nb L1 hA
 have hR1 := hR.add hA
 co_applyP o_nil
 change wpE ..
 co_applyP c_seq
 co_applyP c_seq
 co_applyP c_region
 co_applyP oy rfl E_mv
 co_applyP oy rfl (E_cv (hs := Tryz.underlying32) (ht := Tryz.underlying3))
 co_applyP oy rfl E_geq
 co_applyP o_nil
 change wpE ..
 simp only [hw]
 co_applyP c_if rfl
 intro hc
 co_applyP c_seq
 co_applyP c_region
 · have h6 : ¬ k < 6 := by simpa using hc
   co_applyP oy rfl (E_build bld96)
   co_applyP oeN rfl (fun hnd => O_sa (hs := sz_96) (vs := [.int .i64 (0 : Nat), .int .i64 (0 : Nat)]) (hnd := hnd) (hm := hA.self) (hi := Nat.le_refl _))
   rintro _ L2 ⟨rfl, hU⟩
   co_applyP o_nil
   change wpE ..
   co_applyP c_ret
   change ∃ v, resM _ _ _ _ v ∧ _
   refine ⟨_, ⟨_, _, nb, 0, 2, true, _, _, rfl, rfl, ag_96, sz_96, hU.self, Nat.le_refl _, rfl⟩, rfl, by simp [PS.file, h6]; rfl, hU.fn, fun t ht => hU.ne _ (hA.sub _ ht) (hA.new _ ht)⟩
 intro hc
 have h6 : k < 6 := by simpa using hc
 co_applyP c_skip
 change wpE ..
 co_applyP c_seq
 co_applyP c_region
 co_applyP oy rfl E_mv
 co_applyP oy rfl E_mv
 co_applyP oy rfl E_nc
 co_applyP oy rfl (E_fa (hf := fo_99_2))
 co_applyP oy rfl (E_ixa Tryz.underlying97 sz_96)
 co_applyP oy rfl (E_lda (ht := ag_96) (hs := sz_96) (hm := hR1.p _ hb) (hi := by rw [psize]; omega))
 co_applyP oeN rfl (fun hnd => O_sa (hs := sz_96) (vs := [.int .i64 (x.f k.toNat).1, .int .i64 (x.f k.toNat).2]) (hy := by rw [show 0 + 79 + k.toNat * 2 = 79 + 2 * k.toNat by omega, pext_f x (by omega)]; rfl) (hnd := hnd) (hm := hA.self) (hi := Nat.le_refl _))
 rintro _ L2 ⟨rfl, hU⟩
 co_applyP o_nil
 change wpE ..
 co_applyP c_ret
 change ∃ v, resM _ _ _ _ v ∧ _
 refine ⟨_, ⟨_, _, nb, 0, 2, true, _, _, rfl, rfl, ag_96, sz_96, hU.self, Nat.le_refl _, rfl⟩, rfl, by simp [PS.file, h6]; rfl, hU.fn, fun t ht => hU.ne _ (hA.sub _ ht) (hA.new _ ht)⟩
end Go.Proofs.YtejkelcaljmnoaaGreatDoor
namespace Go.Lo
open Go.Conc Go.Hx
section
variable {P : Program} {New : Obj → Prop} {L : Frag}
theorem wpQ_equalIn_struct {d : Nat} {t : TypeId} {xs ys : Array Value} {fs : Array Field} {K : Bool → Prop} (ht : P.underlying t = some (.struct fs)) (hp : P.stoodInHeld t = false) (h : wpQ P (Op.eqFields d xs ys fs.toList) K L) : wpQ P (Op.equalIn (d + 1) t (.agg xs) (.agg ys)) K L := by
 rw [Op.equalIn.eq_def]
 rw [wpQ_bind, wpQ_underlying ht]
 simp only
 rw [wpQ_bind]
 show wpQ P (if P.stoodInHeld t = true then _ else _) K L
 rw [hp]
 simp only [Bool.false_eq_true, if_false]
 rw [← Array.forIn_toList]
 generalize fs.toList = l at h ⊢
 clear ht
 induction l with
 | nil => exact h
 | cons f l ih =>
   simp only [Op.eqFields] at h
   simp only [List.forIn_cons, wpQ_bind]
   split
   · rename_i hn
     rw [if_pos hn] at h
     simp only [wpQ_bind] at h ⊢
     refine wpQ_mono ?_ (fun _ h => h) _ h
     intro a h
     refine wpQ_mono ?_ (fun _ h => h) _ h
     intro b h
     refine wpQ_mono ?_ (fun _ h => h) _ h
     intro r h
     cases r with
     | false => exact h
     | true =>
       have := ih h
       simpa [wpQ_bind, wpQ_pure] using this
   · rename_i hn
     rw [if_neg hn] at h
     have := ih h
     simpa [wpQ_bind, wpQ_pure] using this
theorem wpQ_equalIn_int {d : Nat} {t : TypeId} {k k' : IntKind} {a b : Int} {K : Bool → Prop} (h : P.underlying t = some (.int k')) (hK : K (a == b)) : wpQ P (Op.equalIn (d + 1) t (.int k a) (.int k b)) K L := by
 rw [Op.equalIn.eq_def, wpQ_bind, wpQ_underlying h]
 simpa [wpQ_pure] using hK
abbrev kv (k : Nat × Nat) : Value := .agg #[.int .i64 k.1, .int .i64 k.2]
structure FldAt (P : Program) (f : Field) (off : Nat) : Prop where
 n : f.name ≠ "_"
 o : f.offset = off
 a : aggAt P f.type = some false
 u : ∃ k, P.underlying f.type = some (.int k)
structure Key2 (P : Program) (t : TypeId) : Prop where
 ex : ∃ f0 f1, P.underlying t = some (.struct #[f0, f1]) ∧ FldAt P f0 0 ∧ FldAt P f1 1
 hp : P.stoodInHeld t = false
 ck : ∀ e a b, evR P (Instr.checkKey e 10000 t (.agg #[.int .i64 a, .int .i64 b])) [] = some ((), [])
theorem wpQ_eqKey {t : TypeId} (H : Key2 P t) {k k' : Nat × Nat} {K : Bool → Prop} (hK : K (decide (k = k'))) : wpQ P (Op.equal t (kv k) (kv k')) K L := by
 obtain ⟨f0, f1, hu, h0, h1⟩ := H.ex
 obtain ⟨k0, u0⟩ := h0.u
 obtain ⟨k1, u1⟩ := h1.u
 rw [equal_unf]
 refine wpQ_equalIn_struct hu H.hp ?_
 simp only [Op.eqFields, if_pos h0.n, if_pos h1.n, wpQ_bind]
 refine wpQ_part1 h0.a (v := .int .i64 k.1) (by rw [h0.o]; rfl) ?_
 refine wpQ_part1 h0.a (v := .int .i64 k'.1) (by rw [h0.o]; rfl) ?_
 refine wpQ_equalIn_int (d := 9998) u0 ?_
 by_cases e0 : k.1 = k'.1
 · simp only [e0, beq_self_eq_true, Bool.not_true, Bool.false_eq_true, if_false, wpQ_bind]
   refine wpQ_part1 h1.a (v := .int .i64 k.2) (by rw [h1.o]; rfl) ?_
   refine wpQ_part1 h1.a (v := .int .i64 k'.2) (by rw [h1.o]; rfl) ?_
   refine wpQ_equalIn_int (d := 9998) u1 ?_
   by_cases e1 : k.2 = k'.2
   · have e : k = k' := Prod.ext e0 e1
     simpa [e, wpQ_pure] using hK
   · have e : ¬ k = k' := fun e => e1 (by rw [e])
     have e2 : ((k.2 : Int) == (k'.2 : Int)) = false := by simp; omega
     rw [e2]
     simpa [e, wpQ_pure] using hK
 · have e : ¬ k = k' := fun e => e0 (by rw [e])
   have e2 : ((k.1 : Int) == (k'.1 : Int)) = false := by simp; omega
   rw [e2]
   simpa [e, wpQ_pure] using hK
abbrev Ents := List ((Nat × Nat) × Value × Nat)
def ent (e : (Nat × Nat) × Value × Nat) : MapEntry := ⟨kv e.1, e.2.1, e.2.2⟩
def mapO (l : Ents) (clock : Nat) : Obj := .map (l.map ent).toArray clock
def lk (k : Nat × Nat) : Ents → Nat → Option (Nat × Value)
 | [], _ => none
 | e :: l, i => if k = e.1 then some (i, e.2.1) else lk k l (i + 1)
theorem wpQ_findAsking {t : TypeId} (H : Key2 P t) {k : Nat × Nat} {K : Option (Nat × Value) → Prop} : ∀ (l : Ents) (i : Nat), K (lk k l i) → wpQ P (Instr.findAsking t (kv k) (l.map ent) i) K L := by
 intro l
 induction l with
 | nil => exact fun i h => h
 | cons e l ih =>
   intro i h
   simp only [List.map_cons, Instr.findAsking, wpQ_bind]
   refine wpQ_eqKey H ?_
   simp only [lk] at h
   by_cases e1 : k = e.1
   · rw [if_pos e1] at h
     simp only [decide_eq_true e1, if_true]
     exact h
   · rw [if_neg e1] at h
     simp only [decide_eq_false e1, Bool.false_eq_true, if_false]
     exact ih _ h
theorem wpQ_findKey {t : TypeId} (H : Key2 P t) {k : Nat × Nat} {K : Option (Nat × Value) → Prop} (l : Ents) (h : K (lk k l 0)) : wpQ P (Instr.findKey t (kv k) (l.map ent)) K L := by
 obtain ⟨f0, f1, hu, h0, h1⟩ := H.ex
 unfold Instr.findKey
 rw [wpQ_bind, wpQ_underlying hu]
 cases l with
 | nil => exact h
 | cons e l => exact wpQ_findAsking H (e :: l) 0 h
def upk (k : Nat × Nat) (v : Value) (l : Ents) (clock : Nat) : Obj := match lk k l 0 with
 | some (i, _) => mapO (l.modify i fun e => (k, v, e.2.2)) clock
 | none => mapO (l ++ [(k, v, clock)]) (clock + 1)
def dlk (k : Nat × Nat) (l : Ents) : Ents := match lk k l 0 with
 | some (i, _) => l.eraseIdx i
 | none => l
theorem lk_at {k : Nat × Nat} : ∀ {l : Ents} {j i : Nat} {v : Value}, lk k l j = some (i, v) → ∃ e, j ≤ i ∧ l[i - j]? = some e ∧ e.1 = k ∧ e.2.1 = v
 | [], _, _, _, h => by cases h
 | e :: l, j, i, v, h => by
   simp only [lk] at h
   split at h
   · rename_i e1
     simp only [Option.some.injEq, Prod.mk.injEq] at h
     obtain ⟨rfl, rfl⟩ := h
     exact ⟨e, Nat.le_refl _, by simp, e1.symm, rfl⟩
   · obtain ⟨e', h1, h2, h3⟩ := lk_at h
     refine ⟨e', by omega, ?_, h3⟩
     rw [show i - j = (i - (j + 1)) + 1 by omega]
     simpa using h2
end
section
variable {P : Program} {New : Obj → Prop} {N : Nat} {ε : Env} {L : Frag} {d : Option Tmp} {ty : TypeId} {ps : String} {af : Array Edge} {g : Option (Nat × Bool)}
theorem E_lk {x ix : Operand} {t kt et : TypeId} {r clock : Nat} {k : Nat × Nat} {l : Ents} {z : Value} {fl : Bool} (H : Key2 P kt) (hu : P.underlying t = some (.map kt et)) (hz : zeroAt P et = some z) (hm : (r, fl, mapO l clock) ∈ L) (hx : ev ε x = some (.map (some r)) := by rfl) (hi : ev ε ix = some (kv k) := by rfl) :
   EY P N ε L ⟨d, .lookup t x ix false, ty, ps, af, g⟩ (match lk k l 0 with | some (_, v) => v | none => z) := fun a ha => by
 refine y_of (fun _ => rfl) fun K hK => ?_
 rw [ha.ev hx, ha.ev hi]
 unfold Instr.lookup
 rw [wpQ_bind, wpQ_underlying hu]
 simp only [wpQ_bind]
 refine wpQ_getObj hm rfl ?_
 simp only [mapO]
 rw [wpQ_bind, wpQ_pure, wpQ_bind]
 refine wpQ_ev0 (H.ck _ _ _) ?_
 rw [wpQ_bind]
 refine wpQ_findKey H l ?_
 cases hl : lk k l 0 with
 | some p =>
   rw [hl] at hK
   exact hK
 | none =>
   rw [hl] at hK
   simp only [wpQ_bind, wpQ_zeroValue hz]
   exact hK
theorem O_mu {x ix y : Operand} {t kt et : TypeId} {r clock : Nat} {k : Nat × Nat} {v : Value} {l : Ents} (hnd : (L.map (·.1)).Nodup) (H : Key2 P kt) (hu : P.underlying t = some (.map kt et)) (hm : (r, true, mapO l clock) ∈ L) (hx : ev ε x = some (.map (some r)) := by rfl) (hi : ev ε ix = some (kv k) := by rfl) (hy : ev ε y = some v := by rfl) :
   EO P New N ε L ⟨d, .mapUpdate t x ix y, ty, ps, af, g⟩ (fun r' L'' => r' = undef ∧ Upd L r (upk k v l clock) L'') := by
 intro a ha
 obtain ⟨n, hn⟩ := List.getElem?_of_mem hm
 show wpS P New (Instr.mapUpdate t (a.eval x) (a.eval ix) (a.eval y) >>= fun _ => pure Next.skip) _ L
 rw [ha.ev hx, ha.ev hi, ha.ev hy, wpS_bind]
 unfold Instr.mapUpdate
 rw [wpS_bind, wpS_underlying hu]
 simp only [wpS_bind]
 refine wpS_getObj hm rfl ?_
 simp only [mapO, wpS_bind]
 refine wpS_of_wpQ (K := (· = ())) (fun _ _ => ?_) _ (wpQ_ev0 (H.ck _ _ _) rfl)
 refine wpS_of_wpQ (K := (· = lk k l 0)) (fun _ e => ?_) _ (wpQ_findKey H l rfl)
 subst e
 cases hl : lk k l 0 with
 | some p =>
   obtain ⟨i, w⟩ := p
   obtain ⟨e, _, h2, h3, _⟩ := lk_at hl
   simp only [Nat.sub_zero] at h2
   have hkey : ((((l.map ent).toArray[i]?).map (·.key)).getD (kv k)) = kv k := by simp [h2, ent, h3]
   simp only [wpS_bind, hkey]
   have hs : Instr.keyThatStays (kv k) (kv k) = pure (kv k) := by
     unfold Instr.keyThatStays
     have : Instr.sameBits 10000 (kv k) (kv k) = true := by simp [Instr.sameBits]
     rw [this]; rfl
   rw [hs, wpS_pure]
   refine wpS_setObj hn rfl rfl ⟨trivial, ?_⟩
   have he : (l.map ent).toArray.modify i (fun e => { e with key := kv k, val := v }) = ((l.modify i fun e => (k, v, e.2.2)).map ent).toArray := by
     apply Array.ext'
     simp only [Array.toList_modify]
     apply List.ext_getElem?
     intro j
     simp only [List.getElem?_modify, List.getElem?_map]
     cases l[j]? with
     | none => rfl
     | some e => simp only [Option.map_some]; split <;> rfl
   rw [he]
   have hu : upk k v l clock = mapO (l.modify i fun e => (k, v, e.2.2)) clock := by unfold upk; rw [hl]
   rw [hu]
   exact upd_set hnd hn
 | none =>
   refine wpS_setObj hn rfl rfl ⟨trivial, ?_⟩
   have he : (l.map ent).toArray.push ⟨kv k, v, clock⟩ = ((l ++ [(k, v, clock)]).map ent).toArray := by apply Array.ext'; simp [ent]
   rw [he]
   have hu : upk k v l clock = mapO (l ++ [(k, v, clock)]) (clock + 1) := by unfold upk; rw [hl]
   rw [hu]
   exact upd_set hnd hn
theorem O_del {x ix : Operand} {ats : Array TypeId} {t kt et : TypeId} {r clock : Nat} {k : Nat × Nat} {l : Ents} (hnd : (L.map (·.1)).Nodup) (H : Key2 P kt) (hu : P.underlying t = some (.map kt et)) (hm : (r, true, mapO l clock) ∈ L) (hx : ev ε x = some (.map (some r)) := by rfl) (hi : ev ε ix = some (kv k) := by rfl) (ha' : ats[0]? = some t := by rfl) :
   EO P New N ε L ⟨d, .call ⟨.builtin .delete, #[x, ix], ats⟩, ty, ps, af, g⟩ (fun r' L'' => r' = .tuple #[] ∧ Upd L r (mapO (dlk k l) clock) L'') := by
 intro a ha
 obtain ⟨n, hn⟩ := List.getElem?_of_mem hm
 refine call_builtin (s := Builtin.delete_ ats ty #[.map (some r), kv k]) (fun _ => by simp [builtin, ha.ev hx, ha.ev hi]) ?_
 unfold Builtin.delete_
 simp only [ha', List.getElem?_toArray, List.getElem?_cons_zero, List.getElem?_cons_succ]
 rw [wpS_bind, wpS_underlying hu]
 simp only [wpS_bind]
 refine wpS_getObj hm rfl ?_
 simp only [mapO, wpS_bind]
 refine wpS_of_wpQ (K := (· = ())) (fun _ _ => ?_) _ (wpQ_ev0 (H.ck _ _ _) rfl)
 refine wpS_of_wpQ (K := (· = lk k l 0)) (fun _ e => ?_) _ (wpQ_findKey H l rfl)
 subst e
 cases hl : lk k l 0 with
 | some p =>
   obtain ⟨i, w⟩ := p
   obtain ⟨e, _, h2, h3, _⟩ := lk_at hl
   simp only [Nat.sub_zero] at h2
   simp only [wpS_bind]
   refine wpS_setObj hn rfl rfl ?_
   refine ⟨by first | rfl | trivial, ?_⟩
   have hlt := (List.getElem?_eq_some_iff.1 h2).1
   have he : (l.map ent).toArray.eraseIdxIfInBounds i = ((dlk k l).map ent).toArray := by
     unfold dlk; rw [hl]
     apply Array.ext'
     simp [Array.eraseIdxIfInBounds, hlt, List.eraseIdx_eq_take_drop_succ]
   rw [he]
   exact upd_set hnd hn
 | none =>
   simp only [wpS_bind]
   refine wpS_setObj hn rfl rfl ?_
   refine ⟨by first | rfl | trivial, ?_⟩
   have he : dlk k l = l := by unfold dlk; rw [hl]
   rw [he]
   exact upd_set hnd hn
end
end Go.Lo
namespace Go.Proofs.YtejkelcaljmnoaaGreatDoor
open Go.Conc Go.Hx Go.Lo
structure Ext (L L' : Frag) : Prop where
 f : Fun L'
 s : ∀ t ∈ L, t ∈ L'
theorem Ext.trans {L L' L'' : Frag} (h : Ext L L') (k : Ext L' L'') : Ext L L'' := ⟨k.f, fun t ht => k.s t (h.s t ht)⟩
theorem Ext.at {L L' : Frag} (h : Ext L L') {b i : Nat} {v : Value} (ha : At L b i v) : At L' b i v := at_mono ha h.s
theorem Rep.ext {K : Nat} {A : Lay} {S : St} {F L L' : Frag} (h : Rep K A S F L) (e : Ext L L') : Rep K A S F L' := h.of e.f e.s
def idxF (test : Nat → Bool) (xs : List Nat) : Int := match xs.findIdx? test with
 | some i => i
 | none => -1
theorem indexFunc_s (nf : Nat) : ∃ n, ∀ {σ : Type} {F : Fam σ} {Δ : ∀ s, Dom (F.R s) (F.D s)} {main : Bool} {s : σ} (L0 : Frag) (f : FuncId) (gf : Func) (c1 c2 : List Value) (xs : List Nat) (test : Nat → Bool) (base : Option Addr) (cap : Nat),
   (∀ i v, (xs.map ptr)[i]? = some v → ∃ b, base = some ⟨b, 0, none⟩ ∧ At L0 b i v) → xs.length ≤ 8 → Tryz.prog.funcs[f]? = some gf → (gf.name == "runtime.NumGoroutine") = false → gf.body.isNone = false →
   (∀ c ∈ xs, ∀ L, Ext L0 L → CallsL Δ Tryz.prog main f (c1 ++ [ptr c] ++ c2).toArray nf s L (fun s' v L' => s = s' ∧ v = .bool (test c) ∧ Ext L L')) →
   CallsL Δ Tryz.prog main 146 [.slice base xs.length cap, .func (.func f) c1.toArray c2.toArray].toArray n s L0 (fun s' v L' => s = s' ∧ v = .int .i64 (idxF test xs) ∧ Ext L0 L') := by
 apply Exists.intro
 intro σ F Δ main s L0 f gf c1 c2 xs test base cap hat h8 hf hname hb hc
 co_applyP callsE 19 Tryz.func146 Tryz.ntmps146
 co_applyP wpE_fun
 intro hF0
 co_applyP c_seq
 co_applyP c_region
 co_applyP oy rfl E_as
 co_applyP o_nil
 change wpE ..
 co_applyP c_seq
 co_applyP c_seq
 co_applyP c_region
 co_applyP oy rfl E_mv
 co_applyP oy rfl (E_len (hu := Tryz.underlying91))
 co_applyP oy rfl E_mv
 co_applyP o_nil
 change wpE ..
 co_applyP c_block
 co_applyP c_loop (fun k s' ε' L' => s' = s ∧ Ext L0 L' ∧ ∃ l1 l2, xs = l1 ++ l2 ∧ (∀ q ∈ l1, test q = false) ∧ k + l1.length = 8 ∧ kn ε' [(8, .int .i64 l1.length), (7, .int .i64 xs.length), (0, .slice base xs.length cap), (1, .func (.func f) c1.toArray c2.toArray)]) 8
 · exact ⟨rfl, ⟨hF0, fun _ h => h⟩, [], xs, rfl, by simp, rfl, rfl⟩
 rintro k s' ε' L' ⟨rfl, hE, l1, l2, hl, hn, hk, he⟩
 co_applyP wpE_kn he
 have hlen := congrArg List.length hl
 simp only [List.length_append] at hlen
 co_applyP c_seq
 co_applyP c_region
 co_applyP oy rfl E_lss
 co_applyP o_nil
 change wpE ..
 co_applyP c_seq
 co_applyP c_if rfl
 intro hlt
 · cases l2 with
   | nil => simp at hlt hlen; omega
   | cons q l2 =>
     simp at hlen
     obtain ⟨b, rfl, hav⟩ := hat l1.length (ptr q) (by rw [hl]; simp)
     have hav' := hE.at hav
     co_applyP c_skip
     change wpE ..
     co_applyP c_seq
     co_applyP c_block
     co_applyP c_seq
     co_applyP c_region
     co_applyP oy rfl E_mv
     co_applyP oy rfl E_as
     co_applyP o_nil
     change wpE ..
     co_applyP c_seq
     co_applyP c_region
     co_applyP oy rfl E_mv
     co_applyP oy rfl E_mv
     co_applyP oy rfl E_mv
     co_applyP oy rfl (E_ixs Tryz.underlying91 sz_93)
     co_applyP oy rfl (E_ld (ht := ag_93))
     co_applyP ov rfl (vs := [ptr q]) (hf := hf) (hname := hname) (hb := hb) (hcall := hc q (by rw [hl]; simp) L' hE)
     rintro _ _ _ ⟨rfl, rfl, hE2⟩
     co_applyP o_nil
     change wpE ..
     co_applyP c_if rfl
     intro ht
     co_applyP c_seq
     co_applyP c_region
     co_applyP oy rfl E_mv
     co_applyP oy rfl E_as
     co_applyP o_nil
     change wpE ..
     co_applyP c_ret
     change ∃ v, resE .. = some v ∧ _
     · have e1 : idxF test xs = l1.length := by
         unfold idxF
         have : xs.findIdx? test = some l1.length := by
           rw [hl, List.findIdx?_append, List.findIdx?_eq_none_iff.2 (fun x hx => by simpa using hn x hx)]
           have ht' : test q = true := by simpa using ht
           simp [List.findIdx?_cons, ht']
         rw [this]
       refine ⟨_, rfl, rfl, by rw [e1], hE.trans hE2⟩
     intro ht
     co_applyP c_skip
     change wpE ..
     co_applyP c_region
     co_applyP oy rfl E_add
     co_applyP oy rfl E_mv
     co_applyP o_nil
     change ∃ k', k' < _ ∧ _
     have elen : IntKind.i64.wrap ((l1.length : Int) + 1) = ((l1 ++ [q]).length : Int) := by simp [IntKind.wrap_i64]; omega
     refine ⟨k - 1, by omega, rfl, hE.trans hE2, l1 ++ [q], l2, by simp [hl], ?_, by simp; omega, ?_⟩
     · intro x hx
       rcases List.mem_append.1 hx with h | h
       · exact hn x h
       · simp at h; subst h; simpa using ht
     · rw [← elen]; rfl
 intro hlt
 co_applyP c_exit
 change wpE ..
 co_applyP c_seq
 co_applyP c_region
 co_applyP oy rfl E_as
 co_applyP o_nil
 change wpE ..
 co_applyP c_ret
 change ∃ v, resE .. = some v ∧ _
 cases l2 with
 | nil =>
   have e : l1 = xs := by rw [hl]; simp
   subst e
   have e1 : idxF test l1 = -1 := by
     unfold idxF
     rw [List.findIdx?_eq_none_iff.2 (fun x hx => by simpa using hn x hx)]
   exact ⟨_, rfl, rfl, by rw [e1], hE⟩
 | cons q l2 => simp at hlt hlen; omega
end Go.Proofs.YtejkelcaljmnoaaGreatDoor
