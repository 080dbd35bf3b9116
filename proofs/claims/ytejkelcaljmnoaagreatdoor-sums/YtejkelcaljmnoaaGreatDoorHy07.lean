/-
  Part 7 of the proof.
  No condition but those that each statement names.
-/
import Derived.Test.YtejkelcaljmnoaaGreatDoorHy06
import Derived.ArgAppend
import Derived.Conc.AppendWalk
import Derived.Test.YtejkelcaljmnoaaGreatDoorChecked
set_option maxRecDepth 100000
set_option linter.unusedVariables false
set_option linter.unusedSimpArgs false
set_option linter.unusedSectionVars false
namespace Go.Hx
open Go.Conc Go.RowKit
structure Fam (σ : Type) where
 R : σ → World → World → Prop
 D : σ → World → World → Array Event → Prop
 Stop : σ → Goroutine → World → Prop
 terms : ∀ s, Terms (R s) (D s)
section
variable {σ : Type} (F : Fam σ) (P : Program) (main : Bool) (fn : FuncId)
def wpX (c : Code) (n : Nat) (s : σ) (Q : σ → Exit → Act → World → Prop) (a : Act) (w : World) : Prop :=
 ∀ (b : Frame) (k : List Item) (cs : List Frame) (m : Nat), b.fn = fn → b.kind ≠ .early →
   (∀ s' e a' w', Q s' e a' w' → After P main (F.R s') (F.D s') (F.Stop s') m b k cs e a' w') → Goes P main (F.R s) (F.D s) (F.Stop s) (m + n) (G (b.at a (.code c :: k)) cs) w
def OpsX (ops : Array Oper) (todo : List Nat) (n : Nat) (s : σ) (Q : σ → Exit → Act → World → Prop) (a : Act) (w : World) : Prop :=
 ∀ (b : Frame) (k : List Item) (cs : List Frame) (m : Nat), b.fn = fn → b.kind ≠ .early →
   (∀ s' e a' w', Q s' e a' w' → After P main (F.R s') (F.D s') (F.Stop s') m b k cs e a' w') → Goes P main (F.R s) (F.D s) (F.Stop s) (m + n) (G (b.at a (.inRegion ops todo :: k)) cs) w
def LoopX (c : Code) (n : Nat) (s : σ) (Q : σ → Exit → Act → World → Prop) (a : Act) (w : World) : Prop :=
 ∀ (b : Frame) (k : List Item) (cs : List Frame) (m : Nat), b.fn = fn → b.kind ≠ .early →
   (∀ s' e a' w', Q s' e a' w' → After P main (F.R s') (F.D s') (F.Stop s') m b k cs e a' w') → Goes P main (F.R s) (F.D s) (F.Stop s) (m + n) (G (b.at a (.inLoop c :: k)) cs) w
def ThenX (K : σ → Act → World → Prop) (Q : σ → Exit → Act → World → Prop) : σ → Exit → Act → World → Prop := fun s => Exit.then (K s) (Q s)
def BodyX (f : Func) (Post : σ → Value → World → Prop) : σ → Exit → Act → World → Prop := fun s => bodyPostC P f (Post s)
def CallsX (f : FuncId) (args : Array Value) (n : Nat) (s : σ) (w : World) (Post : σ → Value → World → Prop) : Prop :=
 ∃ fn c, P.funcs[f]? = some fn ∧ (fn.name == "runtime.NumGoroutine") = false ∧ fn.body = some c ∧
   wpX F P main f c n s (BodyX P fn Post) { tmps := args ++ Array.replicate (fn.ntmps - args.size) undef, defers := [] } w
end
section
variable {σ : Type} {F : Fam σ} {P : Program} {main : Bool} {fn : FuncId} {Q : σ → Exit → Act → World → Prop} {s : σ} {a : Act} {w : World}
theorem wpX_of {c : Code} {n : Nat} (h : c.wpC P main (F.R s) (F.D s) fn n (Q s) a w) : wpX F P main fn c n s Q a w :=
 fun b k cs m hb hk hc => h b k cs _ m hb hk (hc s)
theorem opsX_of {ops : Array Oper} {todo : List Nat} {n : Nat} (h : OpsC P main (F.R s) (F.D s) fn ops todo n (Q s) a w) : OpsX F P main fn ops todo n s Q a w :=
 fun b k cs m hb hk hc => h b k cs _ m hb hk (hc s)
theorem wpX_rely {c : Code} {n : Nat} {w₁ : World} (h : wpX F P main fn c n s Q a w) (hr : F.R s w w₁) : wpX F P main fn c n s Q a w₁ :=
 fun b k cs m hb hk hc => (h b k cs m hb hk hc).rely (F.terms s).trans hr
theorem callsX_rely {f : FuncId} {args : Array Value} {n : Nat} {Post : σ → Value → World → Prop} {w₁ : World} (h : CallsX F P main f args n s w Post) (hr : F.R s w w₁) : CallsX F P main f args n s w₁ Post := by
 obtain ⟨g, c, h1, h2, h3, h4⟩ := h
 exact ⟨g, c, h1, h2, h3, wpX_rely h4 hr⟩
theorem wpX_more {c : Code} {n n' : Nat} (h : wpX F P main fn c n s Q a w) (hn : n ≤ n') : wpX F P main fn c n' s Q a w :=
 fun b k cs m hb hk hc => (h b k cs m hb hk hc).mono (by omega)
theorem opsX_more {ops : Array Oper} {todo : List Nat} {n n' : Nat} (h : OpsX F P main fn ops todo n s Q a w) (hn : n ≤ n') : OpsX F P main fn ops todo n' s Q a w :=
 fun b k cs m hb hk hc => (h b k cs m hb hk hc).mono (by omega)
theorem wpX_mono {c : Code} {n : Nat} {Q' : σ → Exit → Act → World → Prop} (h : wpX F P main fn c n s Q a w) (hq : ∀ s e a w, Q s e a w → Q' s e a w) : wpX F P main fn c n s Q' a w :=
 fun b k cs m hb hk hc => h b k cs m hb hk fun s' e a' w' q => hc s' e a' w' (hq s' e a' w' q)
theorem after_then {K : σ → Act → World → Prop} {b : Frame} {x : Item} {k : List Item} {cs : List Frame} {m m' : Nat} (hx : x.plain = true) (hm : m ≤ m')
   (hc : ∀ s' e a' w', Q s' e a' w' → After P main (F.R s') (F.D s') (F.Stop s') m b k cs e a' w')
   (hK : ∀ s' a' w', K s' a' w' → Goes P main (F.R s') (F.D s') (F.Stop s') m' (G (b.at a' (x :: k)) cs) w') :
   ∀ s' e a' w', ThenX K Q s' e a' w' → After P main (F.R s') (F.D s') (F.Stop s') m' b (x :: k) cs e a' w' := by
 intro s' e a' w' q
 cases e with
 | normal => exact hK s' a' w' q
 | exit id => exact ((hc _ _ _ _ q).mono hm).push hx (by simp)
 | ret => exact ((hc _ _ _ _ q).mono hm).push (x := x) hx (by simp)
 | goto l => exact hc _ _ _ _ q
 | panic ch => exact hc _ _ _ _ q
 | outgrown => exact hc _ _ _ _ q
theorem wpX_seq {x y : Code} {n₁ n₂ : Nat} (h : wpX F P main fn x n₁ s (ThenX (fun s' a' w' => wpX F P main fn y n₂ s' Q a' w') Q) a w) : wpX F P main fn (Code.seq x y) (n₁ + n₂ + 1) s Q a w := by
 intro b k cs m hb hk hc
 have hx := h b (.code y :: k) cs (m + n₂) hb hk (after_then rfl (Nat.le_add_right _ _) hc fun s' a' w' q => q b k cs m hb hk hc)
 have e : m + (n₁ + n₂ + 1) = (m + n₂ + n₁) + 1 := by omega
 rw [e]
 exact Goes.step rfl fun w₁ h₁ => by rw [stepG_seq]; exact ⟨(F.terms s).idle _, hx.rely (F.terms s).trans h₁⟩
theorem wpX_cond {c : Operand} {x y : Code} {t : Bool} {n : Nat} (hc : a.eval c = .bool t) (h : wpX F P main fn (if t then x else y) n s Q a w) : wpX F P main fn (Code.cond c x y) (n + 1) s Q a w :=
 fun b k cs m hb hk hq => Goes.step rfl fun w₁ h₁ => by rw [stepG_cond hc]; exact ⟨(F.terms s).idle _, (h b k cs m hb hk hq).rely (F.terms s).trans h₁⟩
theorem wpX_block {id : Nat} {c : Code} {n : Nat} (h : wpX F P main fn c n s (fun s' => Exit.inBlock id (Q s')) a w) : wpX F P main fn (Code.block id c) (n + 2) s Q a w := by
 intro b k cs m hb hk hc
 have hx : Goes P main (F.R s) (F.D s) (F.Stop s) (m + 1 + n) (G (b.at a (.code c :: .inBlock id :: k)) cs) w := by
   refine h b (.inBlock id :: k) cs (m + 1) hb hk fun s' e a' w' q => ?_
   cases e with
   | normal => exact Goes.step rfl fun w₁ h₁ => by rw [stepG_inBlock]; exact ⟨(F.terms s').idle _, Goes.rely (F.terms s').trans (hc _ _ _ _ q) h₁⟩
   | exit id' =>
     by_cases hid : id' = id
     · simp only [Exit.inBlock, hid, if_true] at q
       exact ⟨k, by simp [exitTo, hid], Goes.more (hc _ _ _ _ q)⟩
     · simp only [Exit.inBlock, hid, if_false] at q
       obtain ⟨k', hk', hg⟩ := hc _ _ _ _ q
       have : (id == id') = false := by simp; exact fun h => hid h.symm
       exact ⟨k', by simp [exitTo, this, hk'], hg.more⟩
   | ret => exact fun todo => (hc _ _ _ _ q todo).more
   | goto l => exact hc _ _ _ _ q
   | panic ch => exact hc _ _ _ _ q
   | outgrown => exact hc _ _ _ _ q
 have e : m + (n + 2) = (m + 1 + n) + 1 := by omega
 rw [e]
 exact Goes.step rfl fun w₁ h₁ => by rw [stepG_block]; exact ⟨(F.terms s).idle _, hx.rely (F.terms s).trans h₁⟩
theorem wpX_loop1 {c : Code} {n₁ n₂ : Nat} (h : wpX F P main fn c n₁ s (ThenX (fun s' a' w' => LoopX F P main fn c n₂ s' Q a' w') Q) a w) : wpX F P main fn (Code.loop c) (n₁ + n₂ + 1) s Q a w := by
 intro b k cs m hb hk hc
 have hx := h b (.inLoop c :: k) cs (m + n₂) hb hk (after_then rfl (Nat.le_add_right _ _) hc fun s' a' w' q => q b k cs m hb hk hc)
 have e : m + (n₁ + n₂ + 1) = (m + n₂ + n₁) + 1 := by omega
 rw [e]
 exact Goes.step rfl fun w₁ h₁ => by rw [stepG_loop]; exact ⟨(F.terms s).idle _, hx.rely (F.terms s).trans h₁⟩
theorem loopX1 {c : Code} {n₁ n₂ : Nat} (h : wpX F P main fn c n₁ s (ThenX (fun s' a' w' => LoopX F P main fn c n₂ s' Q a' w') Q) a w) : LoopX F P main fn c (n₁ + n₂ + 1) s Q a w := by
 intro b k cs m hb hk hc
 have hx := h b (.inLoop c :: k) cs (m + n₂) hb hk (after_then rfl (Nat.le_add_right _ _) hc fun s' a' w' q => q b k cs m hb hk hc)
 have e : m + (n₁ + n₂ + 1) = (m + n₂ + n₁) + 1 := by omega
 rw [e]
 exact Goes.step rfl fun w₁ h₁ => by rw [stepG_inLoop]; exact ⟨(F.terms s).idle _, hx.rely (F.terms s).trans h₁⟩
theorem wpX_region {id : Nat} {ops : Array Oper} {n : Nat} (h : OpsX F P main fn ops (List.range ops.size) n s Q a w) : wpX F P main fn (Code.region id ops false) (n + 1) s Q a w :=
 fun b k cs m hb hk hc => Goes.step rfl fun w₁ h₁ => by rw [stepG_region]; exact ⟨(F.terms s).idle _, (h b k cs m hb hk hc).rely (F.terms s).trans h₁⟩
theorem opsX_nil {ops : Array Oper} (h : Q s .normal a w) : OpsX F P main fn ops [] 1 s Q a w := opsX_of (opsC_nil (F.terms s) h)
theorem opsX_cons {ops : Array Oper} {i : Nat} {rest : List Nat} {o : Oper} {n : Nat} (ho : ops[i]? = some o) (hw : Region.wanted o (yielded ops a.tmps) = true)
   (h : ∀ w₁, F.R s w w₁ → uponK o a (fun a' w' => F.D s w₁ w' (listed P fn a o w₁) ∧ OpsX F P main fn ops rest n s Q a' w') ((execOp a.eval o).run P w₁)) : OpsX F P main fn ops (i :: rest) (n + 1) s Q a w := by
 intro b k cs m hb hk hc
 refine Goes.step rfl fun w₁ h₁ => goes_oper ho hw hk ?_
 have := h w₁ h₁
 revert this
 cases (execOp a.eval o).run P w₁ with
 | ok x w' => cases x <;> first | exact fun ⟨d, g⟩ => ⟨hb ▸ d, g b k cs m hb hk hc⟩ | exact id
 | halt _ _ => exact id
theorem opsX_cons_k {ops : Array Oper} {i : Nat} {rest : List Nat} {o : Oper} {n : Nat} (ho : ops[i]? = some o) (hw : Region.wanted o (yielded ops a.tmps) = true)
   (h : ∀ w₁, F.R s w w₁ → ∀ K : Act → World → Prop, (∀ a' w', F.D s w₁ w' (listed P fn a o w₁) ∧ OpsX F P main fn ops rest n s Q a' w' → K a' w') → uponK o a K ((execOp a.eval o).run P w₁)) : OpsX F P main fn ops (i :: rest) (n + 1) s Q a w :=
 opsX_cons ho hw fun w₁ h₁ => h w₁ h₁ _ fun _ _ x => x
theorem opsX_unwanted {ops : Array Oper} {i : Nat} {rest : List Nat} {o : Oper} {n : Nat} (ho : ops[i]? = some o) (hw : Region.wanted o (yielded ops a.tmps) = false)
   (h : OpsX F P main fn ops rest n s Q (a.put o.dst undef) w) : OpsX F P main fn ops (i :: rest) (n + 1) s Q a w :=
 fun b k cs m hb hk hc => Goes.step rfl fun w₁ h₁ => by rw [stepG_unwanted ho hw]; exact ⟨(F.terms s).idle _, (h b k cs m hb hk hc).rely (F.terms s).trans h₁⟩
theorem callsX_of_wpX {f : FuncId} {g : Func} {c : Code} {args : Array Value} {n : Nat} {Post : σ → Value → World → Prop} (hf : P.funcs[f]? = some g) (hname : (g.name == "runtime.NumGoroutine") = false) (hb : g.body = some c)
   (h : wpX F P main f c n s (BodyX P g Post) { tmps := args ++ Array.replicate (g.ntmps - args.size) undef, defers := [] } w) : CallsX F P main f args n s w Post := ⟨g, c, hf, hname, hb, h⟩
theorem goesX_call {b : Frame} {k : List Item} {cs : List Frame} {ops : Array Oper} {i : Nat} {rest : List Nat} {o : Oper} {f : FuncId} {args : Array Operand} {ats : Array TypeId}
   {nf m : Nat} {Post : σ → Value → World → Prop}
   (ho : ops[i]? = some o) (hw : Region.wanted o (yielded ops a.tmps) = true) (hk : b.kind ≠ .early) (hop : o.op = .call { callee := .value (.func f), args, argTypes := ats })
   (hcall : CallsX F P main f (args.map a.eval) nf s w Post)
   (hnext : ∀ s' v w', Post s' v w' → Goes P main (F.R s') (F.D s') (F.Stop s') m (G (b.at (a.put o.dst v) (.inRegion ops rest :: k)) cs) w') :
   Goes P main (F.R s) (F.D s) (F.Stop s) (m + nf + 3) (G (b.at a (.inRegion ops (i :: rest) :: k)) cs) w := by
 obtain ⟨g, c, hf, hname, hbody, hwp⟩ := hcall
 have hfin : ∀ v, (b.at a (.inRegion ops (i :: rest) :: k)).finish v = b.at (a.put o.dst v) (.inRegion ops rest :: k) := fun v => by rw [Frame.finish_at, ho]; rfl
 have hleave : ∀ (s' : σ) (a' : Act) (w' : World) (todo : List Item), (a'.defers = [] ∧ ∃ v, ResultsC P g a'.tmps v ∧ Post s' v w') →
     Goes P main (F.R s') (F.D s') (F.Stop s') (m + 1) (G { (base f).at a' todo with mode := .returning } (b.at a (.inRegion ops (i :: rest) :: k) :: cs)) w' := by
   rintro s' a' w' todo ⟨hd, v, hr, hp⟩
   refine Goes.step rfl fun w₁ h₁ => ?_
   rw [stepG_leave (b := base f) rfl hd hf (hr w₁).1 (hr w₁).2, hfin]
   exact ⟨(F.terms s').idle _, (hnext s' v w' hp).rely (F.terms s').trans h₁⟩
 have hbodyG : Goes P main (F.R s) (F.D s) (F.Stop s) (m + 2 + nf) (G ((base f).at { tmps := args.map a.eval ++ Array.replicate (g.ntmps - (args.map a.eval).size) undef, defers := [] } [.code c]) (b.at a (.inRegion ops (i :: rest) :: k) :: cs)) w := by
   refine hwp (base f) [] _ (m + 2) rfl (by simp [base]) fun s' e a' w' q => ?_
   cases e with
   | normal => exact Goes.step rfl fun w₁ h₁ => by rw [stepG_end]; exact ⟨(F.terms s').idle _, (hleave s' a' w' [] q).rely (F.terms s').trans h₁⟩
   | ret => exact fun todo => (hleave s' a' w' todo q).more
   | exit id => exact q.elim
   | goto l => exact q.elim
   | panic ch => exact q.elim
   | outgrown => exact q.elim
 have e : m + nf + 3 = (m + 2 + nf) + 1 := by omega
 rw [e]
 exact Goes.step rfl fun w₁ h₁ => goes_call ho hw hk hop hf hname hbody ⟨(F.terms s).idle _, hbodyG.rely (F.terms s).trans h₁⟩
theorem opsX_call {ops : Array Oper} {i : Nat} {rest : List Nat} {o : Oper} {f : FuncId} {args : Array Operand} {ats : Array TypeId} {nf n : Nat} {Post : σ → Value → World → Prop}
   (ho : ops[i]? = some o) (hw : Region.wanted o (yielded ops a.tmps) = true) (hop : o.op = .call { callee := .value (.func f), args, argTypes := ats })
   (hcall : CallsX F P main f (args.map a.eval) nf s w Post) (hnext : ∀ s' v w', Post s' v w' → OpsX F P main fn ops rest n s' Q (a.put o.dst v) w') : OpsX F P main fn ops (i :: rest) (n + nf + 3) s Q a w := by
 intro b k cs m hb hk hc
 have := goesX_call (m := m + n) (b := b) (k := k) (cs := cs) ho hw hk hop hcall fun s' v w' hp => hnext s' v w' hp b k cs m hb hk hc
 exact this.mono (by omega)
end
section
variable {σ : Type} (F : Fam σ) (P : Program) (main : Bool) (fn : FuncId) (ops : Array Oper) (md : Region.Mode) (S : σ → World → Prop) (Q : σ → Exit → Act → World → Prop) (nf : Nat)
def OpX (i : Nat) (K : σ → Act → World → Prop) (s : σ) (a : Act) (w : World) : Prop :=
 OpC P (F.R s) (F.D s) fn ops i (K s) a w ∨
 ∃ o f args ats Post, ops[i]? = some o ∧ Region.wanted o (yielded ops a.tmps) = true ∧ o.op = .call { callee := .value (.func f), args := args, argTypes := ats } ∧ CallsX F P main f (args.map a.eval) nf s w Post ∧
   ∀ s' v w', Post s' v w' → K s' (a.put o.dst v) w'
def AnyX : Nat → Array Bool → σ → Act → World → Prop
 | 0, listed, s, a, w => Region.ready md ops listed = [] ∧ Q s .normal a w
 | fuel + 1, listed, s, a, w =>
   (Region.ready md ops listed = [] → Q s .normal a w) ∧
   ∀ i ∈ Region.ready md ops listed, OpX F P main fn ops nf i (fun s' a' w' => S s' w' ∧ AnyX fuel (listed.setIfInBounds i true) s' a' w') s a w
end
section
variable {σ : Type} {F : Fam σ} {P : Program} {main : Bool} {fn : FuncId} {ops : Array Oper} {md : Region.Mode} {S : σ → World → Prop} {Q : σ → Exit → Act → World → Prop} {nf : Nat}
theorem OpX_mono {i : Nat} {s : σ} {a : Act} {w : World} {K K' : σ → Act → World → Prop} (h : ∀ s a w, K s a w → K' s a w) (hh : OpX F P main fn ops nf i K s a w) : OpX F P main fn ops nf i K' s a w := by
 rcases hh with x | ⟨o, f, args, ats, Post, h1, h2, h3, h4, h5⟩
 · exact .inl (OpC_mono (h s) x)
 · exact .inr ⟨o, f, args, ats, Post, h1, h2, h3, h4, fun s' v w' hp => h _ _ _ (h5 s' v w' hp)⟩
theorem opsX_of_opX {i : Nat} {rest : List Nat} {n : Nat} {s : σ} {a : Act} {w : World} (h : OpX F P main fn ops nf i (fun s' a' w' => OpsX F P main fn ops rest n s' Q a' w') s a w) : OpsX F P main fn ops (i :: rest) (n + nf + 3) s Q a w := by
 rcases h with h | ⟨o, f, args, ats, Post, h1, h2, h3, h4, h5⟩
 · unfold OpC at h
   split at h
   · exact h.elim
   · rename_i o ho
     split at h
     · rename_i hw; exact opsX_more (opsX_cons ho hw h) (by omega)
     · rename_i hw; exact opsX_more (opsX_unwanted ho (by simpa using hw) h) (by omega)
 · exact opsX_call h1 h2 h3 h4 h5
def YieldsX (F : Fam σ) (P : Program) (fn : FuncId) (ops : Array Oper) (S : σ → World → Prop) (o : Oper) (v : Value) (a : Act) : Prop := ∀ s, YieldsIfC P (F.D s) fn ops (S s) o v a
theorem YieldsX.opX (hSR : ∀ s x y, S s x → F.R s x y → S s y) {i : Nat} {o : Oper} {v : Value} {s : σ} {a : Act} (hi : ops[i]? = some o) (hy : YieldsX F P fn ops S o v a)
   {K : σ → Act → World → Prop} (hK : ∀ s a x y, K s a x → F.R s x y → K s a y) {w : World} (hS : S s w) (h : K s (a.put o.dst v) w) : OpX F P main fn ops nf i K s a w :=
 .inl ((hy s).opC (hSR s) hi (hK s) hS h)
end
end Go.Hx
namespace Go.Hx
open Go.Conc
section
variable {p : Par} {E Dn : Nat} {w w₁ w' : World} {b : Nat} {cs : Array Value}
def Fb (p : Par) (b : Nat) (cs : Array Value) (w : World) : Prop := p.N0 ≤ b ∧ w.heap[b]? = some (.cells cs p.ety (0, 0))
theorem Fb.fa (h : Fb p b cs w) : FA p w b := ⟨h.1, _, h.2, by simp [isEv]⟩
theorem Fb.lt (h : Fb p b cs w) : b < w.heap.size := (Array.getElem?_eq_some_iff.1 h.2).1
theorem Fb.rely (h : Fb p b cs w) (r : RA p w w₁) : Fb p b cs w₁ := ⟨h.1, (r.block b h.fa).trans h.2⟩
theorem Fb.cell (h : Fb p b cs w) {i : Nat} {v : Value} (hv : cs[i]? = some v) : w.cell? ⟨b, i, none⟩ = some v := by simp [World.cell?, h.2, hv]
theorem Fb.thaw (h : Fb p b cs w) (i : Nat) : w.frozen? ⟨b, i, none⟩ = false := by simp [World.frozen?, h.2]
theorem Fb.set (h : Fb p b cs w) (i : Nat) (v : Value) : Fb p b (cs.setIfInBounds i v) (w.setCell ⟨b, i, none⟩ v) := by
 refine ⟨h.1, ?_⟩
 have hlt := h.lt
 have h2 := h.2
 rw [Array.getElem?_eq_getElem hlt] at h2
 have h' := Option.some.inj h2
 simp [World.setCell, hlt, Array.getElem_modify, h']
theorem Fb.new (hN : p.N0 ≤ w.heap.size) : Fb p w.heap.size cs (w.alloc (.cells cs p.ety)) := ⟨hN, alloc_new w _⟩
theorem evA_cell (h : Fb p b cs w) {ad : Addr} (hb : ad.block = b) (wr sy : Bool) : EvA p w ⟨.cell ad, wr, sy⟩ := by
 refine ⟨fun x hx _ => .inl ⟨b, ?_, h.fa⟩, by simp, by simp⟩
 have hx' : x.loc = .cell ad := by cases sy <;> (simp [MemAct.ofEvent, MemAct.touch?] at hx; subst hx; rfl)
 rw [hx']; exact congrArg some hb
theorem evA_mark {m : Mark} (hm : Conc.Neutral m) : EvA p w ⟨.mark m, false, true⟩ :=
 ⟨fun x hx _ => by simp [MemAct.ofEvent, hm.touch] at hx, ⟨fun h => hm.ne_disable (by simpa using h), fun h => hm.ne_enable (by simpa using h)⟩, fun a h => by
   have hm' : m = .noRoom := hm
   subst hm'
   simp at h⟩
theorem dg_read {es : Array Event} (hes : ∀ e ∈ es, EvA p w e) : DG p E Dn w w es := ⟨RB.refl p E Dn w, rfl, rfl, hes⟩
theorem termsG (p : Par) (E Dn : Nat) : Terms (RA p) (DG p E Dn) := ⟨RA.trans, fun w => dg_read (by simp)⟩
theorem rb_alloc (hN : p.N0 ≤ w.heap.size) : RB p E Dn w (w.alloc (.cells cs p.ety)) := by
 refine ⟨rfl, rfl, rfl, ⟨by rw [alloc_size]; omega, fun x f => ?_, fun x hl hn f => hn ?_⟩, fun x hl _ _ _ => alloc_get w _ (Nat.ne_of_lt hl)⟩
 · obtain ⟨h1, o, ho, hi⟩ := f
   exact ⟨h1, o, by rw [alloc_get w _ (Nat.ne_of_lt (Array.getElem?_eq_some_iff.1 ho).1)]; exact ho, hi⟩
 · obtain ⟨h1, o, ho, hi⟩ := f
   exact ⟨h1, o, by rw [← alloc_get w _ (Nat.ne_of_lt hl)]; exact ho, hi⟩
theorem dg_alloc (hN : p.N0 ≤ w.heap.size) (hE : E < p.N0) (hD : Dn < p.N0) {es : Array Event} (hes : ∀ e ∈ es, False) : DG p E Dn w (w.alloc (.cells cs p.ety)) es :=
 ⟨rb_alloc hN, alloc_get w _ (by omega), alloc_get w _ (by omega), fun e he => (hes e he).elim⟩
theorem dg_turn {cs' : Array Value} (h : Fb p b cs w) (h' : Fb p b cs' w') (ht : w'.tape = w.tape) (ho : w'.os = w.os) (hu : w'.output = w.output) (hs : w'.heap.size = w.heap.size) (hb : ∀ x, x ≠ b → w'.heap[x]? = w.heap[x]?) (hE : E < p.N0) (hD : Dn < p.N0)
   {es : Array Event} (hes : ∀ e ∈ es, EvA p w' e) : DG p E Dn w w' es := by
 have hbN := h.1
 refine ⟨⟨ht, ho, hu, ⟨by omega, fun x f => ?_, fun x hl hn f => hn ?_⟩, fun x _ hn _ _ => hb x fun e => hn (e ▸ h.fa)⟩, hb E (by omega), hb Dn (by omega), hes⟩
 · by_cases e : x = b
   · subst e; exact h'.fa
   · obtain ⟨h1, o, ho, hi⟩ := f; exact ⟨h1, o, by rw [hb x e]; exact ho, hi⟩
 · by_cases e : x = b
   · subst e; exact h.fa
   · obtain ⟨h1, o, ho, hi⟩ := f; exact ⟨h1, o, by rw [← hb x e]; exact ho, hi⟩
theorem dg_set (h : Fb p b cs w) (hE : E < p.N0) (hD : Dn < p.N0) (i : Nat) (v : Value) {es : Array Event} (hes : ∀ e ∈ es, ∃ ad wr sy, e = ⟨.cell ad, wr, sy⟩ ∧ ad.block = b) : DG p E Dn w (w.setCell ⟨b, i, none⟩ v) es :=
 dg_turn h (h.set i v) rfl rfl rfl (by simp [World.setCell]) (fun x hx => setCell_get w _ v hx) hE hD fun e he => by
   obtain ⟨ad, wr, sy, rfl, hb⟩ := hes e he; exact evA_cell (h.set i v) hb wr sy
theorem dg_trans {es : Array Event} (h : DG p E Dn w w₁ #[]) (h' : DG p E Dn w₁ w' es) : DG p E Dn w w' es := ⟨RB.trans _ _ _ h.1 h'.1, h'.2.1.trans h.2.1, h'.2.2.1.trans h.2.2.1, h'.2.2.2⟩
theorem dg_set4 (h : Fb p b cs w) (hE : E < p.N0) (hD : Dn < p.N0) (v0 v1 v2 v3 : Value) {es : Array Event} (hes : ∀ e ∈ es, ∃ ad wr sy, e = ⟨.cell ad, wr, sy⟩ ∧ ad.block = b) :
   DG p E Dn w ((((w.setCell ⟨b, 0, none⟩ v0).setCell ⟨b, 1, none⟩ v1).setCell ⟨b, 2, none⟩ v2).setCell ⟨b, 3, none⟩ v3) es :=
 dg_trans (dg_set h hE hD 0 v0 (by simp)) (dg_trans (dg_set (h.set 0 v0) hE hD 1 v1 (by simp)) (dg_trans (dg_set ((h.set 0 v0).set 1 v1) hE hD 2 v2 (by simp)) (dg_set (((h.set 0 v0).set 1 v1).set 2 v2) hE hD 3 v3 hes)))
def Told (p : Par) (told : Value) (n : Nat) (xs : List Value) (w : World) : Prop := w.ownsRow p.N0 p.ety 4 told n xs
theorem Told.rely {told : Value} {n : Nat} {xs : List Value} (h : Told p told n xs w) (r : RA p w w₁) : Told p told n xs w₁ := by
 refine ⟨h.1, h.2.imp id ?_⟩
 rintro ⟨g, cap, cur, h1, h2, h3, h4⟩
 exact ⟨g, cap, cur, h1, h2, (r.block g (Fb.fa (p := p) ⟨h2, h3⟩)).trans h3, h4⟩
theorem Told.alloc {told : Value} {n : Nat} {xs : List Value} (h : Told p told n xs w) (o : Obj) : Told p told n xs (w.alloc o) := World.ownsRow.alloc h o
theorem dg_grown (hg : w.grownBy w' none) (hN : p.N0 ≤ w.heap.size) (hE : E < p.N0) (hD : Dn < p.N0) {es : Array Event} (hes : ∀ e ∈ es, EvA p w' e) : DG p E Dn w w' es :=
 ⟨⟨hg.tape, hg.os, hg.output, ⟨hg.size, fun b f => by obtain ⟨x, o, ho, hi⟩ := f; exact ⟨x, o, by rw [hg.block b (Array.getElem?_eq_some_iff.1 ho).1 (by simp)]; exact ho, hi⟩,
   fun b hl hn f => hn (by obtain ⟨x, o, ho, hi⟩ := f; exact ⟨x, o, by rw [← hg.block b hl (by simp)]; exact ho, hi⟩)⟩, fun b hl _ _ _ => hg.block b hl (by simp)⟩,
  hg.block E (by omega) (by simp), hg.block Dn (by omega) (by simp), hes⟩
theorem Fb.grown (h : Fb p b cs w) (hg : w.grownBy w' none) : Fb p b cs w' := ⟨h.1, (hg.block b h.lt (by simp)).trans h.2⟩
theorem Told.app {P : Program} {t ty : TypeId} {i : TypeInfo} {z : Value} (ht : P.underlying t = some (.slice p.ety)) (hi : P.info? p.ety = some i) (hz : i.zero = some z) (hs : i.size = 4) (hb : i.bytes = 32) (hzs : z.cells.size = 4)
   (hE : E < p.N0) (hD : Dn < p.N0) (hN : p.N0 ≤ w.heap.size) {told : Value} {n : Nat} {xs : List Value} (h : Told p told n xs w) (hn : n < 10000) {nb : Nat} {v0 v1 v2 v3 : Value} (hnb : Fb p nb #[v0, v1, v2, v3] w) (h1 : ∀ u ∈ [v0, v1, v2, v3], u.oneCell' = true) :
   ∃ told' w', (Builtin.append_ #[t, t] ty #[told, .slice (some ⟨nb, 0, none⟩) 1 1]).run P w = .ok told' w' ∧ Told p told' (n + 1) (xs ++ [v0, v1, v2, v3]) w' ∧ p.N0 ≤ w'.heap.size ∧
     ∀ es : Array Event, (∀ e ∈ es, e ∈ (Builtin.append_ #[t, t] ty #[told, .slice (some ⟨nb, 0, none⟩) 1 1]).events P w #[]) → DG p E Dn w w' es := by
 have hnews : ∀ (j : Nat) (u : Value), [v0, v1, v2, v3][j]? = some u → w.cell? ((⟨nb, 0, none⟩ : Addr).add j) = some u := by
   intro j u hu
   have e : (⟨nb, 0, none⟩ : Addr).add j = ⟨nb, j, none⟩ := by unfold Addr.add; split <;> simp_all
   rw [e]
   exact hnb.cell (by simpa using hu)
 have hev := events_append_where (P := P) w p.N0 t ty p.ety i z 4 32 ht hi hz hs hb told n xs h ⟨nb, 0, none⟩ 1 1 [v0, v1, v2, v3] (by simp) hnews h1 (by simp [maxLen]; omega) (by omega)
 rcases h.2 with ⟨rfl, rfl⟩ | ⟨g, cap, cur, rfl, hbg, hgc, hnc, hcm, hcs, htake⟩
 · obtain ⟨v', w', hr, hown, hg, _⟩ := run_append_own (P := P) w p.N0 t ty p.ety i z 4 32 ht hi hz hs hb hzs (by decide) (.slice none 0 0) 0 xs h ⟨nb, 0, none⟩ 1 1 [v0, v1, v2, v3] (by simp) hnews h1 (by simp [maxLen]) (by decide) hN
   have hg' : w.grownBy w' none := hg
   refine ⟨v', w', hr, hown, Nat.le_trans hN hg'.size, fun es hes => dg_grown hg' hN hE hD fun e he => ?_⟩
   rcases hev e (hes e he) with ⟨ad, h2, h3⟩ | ⟨m, rfl, hm⟩
   · rcases h3 with ⟨_, hb⟩ | h3
     · obtain ⟨l, wr, sy⟩ := e
       simp only at h2
       subst h2
       exact evA_cell (hnb.grown hg') hb _ _
     · simp [Value.ownBlock] at h3
   · exact evA_mark hm
 · have hFg : Fb p g cur w := ⟨hbg, hgc⟩
   by_cases hroom : n + 1 ≤ cap
   · have hr := run_append_room (P := P) w t ty p.ety i ht hi g n cap cur hgc ⟨nb, 0, none⟩ 1 1 [v0, v1, v2, v3] (by simp [hs]) hnews h1 hroom (by rw [hs, hcs]; simp; omega)
     have hF' : Fb p g (cur.toList.take (n * i.size) ++ [v0, v1, v2, v3] ++ cur.toList.drop (n * i.size + [v0, v1, v2, v3].length)).toArray (w.setRow g (cur.toList.take (n * i.size) ++ [v0, v1, v2, v3] ++ cur.toList.drop (n * i.size + [v0, v1, v2, v3].length)).toArray) :=
       ⟨hbg, setRow_heap w g cur _ p.ety (0, 0) hgc⟩
     refine ⟨_, _, hr, ⟨by rw [List.length_append, h.1]; simp; omega, .inr ⟨g, cap, _, rfl, hbg, hF'.2, hroom, hcm, ?_, ?_⟩⟩, by rw [size_setRow]; exact hN, fun es hes => dg_turn hFg hF' rfl rfl rfl (by simp) (fun x hx => setRow_other w g x _ hx) hE hD fun e he => ?_⟩
     · simp [hs, hcs]; omega
     · rw [hs, List.append_assoc, htake, ← List.append_assoc]
       have e1 : (xs ++ [v0, v1, v2, v3]).length = (n + 1) * 4 := by rw [List.length_append, h.1]; simp; omega
       have e2 : ∀ (l r : List Value) (k : Nat), l.length = k → (l ++ r).take k = l := fun l r k hk => by subst hk; simp
       exact e2 _ _ _ e1
     · rcases hev e (hes e he) with ⟨ad, h2, h3⟩ | ⟨m, rfl, hm⟩
       · obtain ⟨l, wr, sy⟩ := e
         simp only at h2
         subst h2
         rcases h3 with ⟨_, hb⟩ | h3
         · by_cases hq : nb = g
           · exact evA_cell hF' (hb.trans hq) _ _
           · exact evA_cell (p := p) (b := nb) (cs := #[v0, v1, v2, v3]) ⟨hnb.1, by rw [setRow_other w g nb _ hq]; exact hnb.2⟩ hb _ _
         · exact evA_cell hF' (by simpa [Value.ownBlock] using h3) _ _
       · exact evA_mark hm
   · have holds : ∀ (j : Nat) (u : Value), xs[j]? = some u → w.cell? ((⟨g, 0, none⟩ : Addr).add j) = some u := World.ownsRow.cells (e := p.ety) (size := 4) (base := p.N0) h (g := g) rfl
     obtain ⟨v', w', hr, hown, hg⟩ := run_append_arg_grows (P := P) w t ty p.ety i z 4 32 ht hi hz hs hb hzs (by decide) ⟨g, 0, none⟩ n cap xs h.1 holds ⟨nb, 0, none⟩ 1 1 [v0, v1, v2, v3] (by simp) hnews (by omega) (by simp [maxLen]; omega) (by omega)
     refine ⟨v', w', hr, ?_, Nat.le_trans hN hg.size, fun es hes => dg_grown hg hN hE hD fun e he => ?_⟩
     · refine ⟨hown.1, hown.2.imp id ?_⟩
       rintro ⟨g', cap', cur', h1, h2, h3⟩
       exact ⟨g', cap', cur', h1, Nat.le_trans hN h2, h3⟩
     · rcases hev e (hes e he) with ⟨ad, h2, h3⟩ | ⟨m, rfl, hm⟩
       · obtain ⟨l, wr, sy⟩ := e
         simp only at h2
         subst h2
         rcases h3 with ⟨_, hb⟩ | h3
         · exact evA_cell (hnb.grown hg) hb _ _
         · exact evA_cell (hFg.grown hg) (by simpa [Value.ownBlock] using h3) _ _
       · exact evA_mark hm
end
end Go.Hx
namespace Go.Hx
open Go.Conc Go.RowKit
open Go.ConcX
section
variable [Payload] (P : Program) (ty : TypeId) (Wg C Low : Nat) [Shy Wg C] (vals : List Value) (Mine : Loc → Prop) (AnchW : Goroutine → World → Prop) (p : Par) (E Dn : Nat) (zE zD : Value) (PostB : World → Prop)
theorem rpa_trans : ∀ a b c : World, RPa ty Wg C vals a b → RPa ty Wg C vals b c → RPa ty Wg C vals a c := fun _ _ _ h k =>
 ⟨⟨k.aside.tape.trans h.aside.tape, k.aside.os.trans h.aside.os, k.aside.output.trans h.aside.output, k.aside.size.trans h.aside.size, fun x h1 h2 => (k.aside.block x h1 h2).trans (h.aside.block x h1 h2)⟩, fun x => k.ka (h.ka x), fun x => k.kc (h.kc x)⟩
theorem termsP : Terms (RPa ty Wg C vals) (DPi Mine Wg C Low) := ⟨rpa_trans ty Wg C vals, fun w => ⟨fun _ _ => rfl, by simp⟩⟩
def gF : Fam (Option (List Value)) where
 R := fun s => match s with | some _ => RA p | none => RPa ty Wg C vals
 D := fun s => match s with | some _ => DG p E Dn | none => DPi Mine Wg C Low
 Stop := fun s => match s with | some vs => StopG P p E Dn zE zD PostB (FinW P ty Wg C Low vals Mine AnchW) vs | none => AtKd P ty Wg C Low vals Mine AnchW
 terms := fun s => match s with | some _ => termsG p E Dn | none => termsP ty Wg C Low vals Mine
end
section
variable [Payload] {P : Program} {ty : TypeId} {Wg C Low : Nat} [Shy Wg C] {vals : List Value} {Mine : Loc → Prop} {AnchW : Goroutine → World → Prop} {p : Par} {E Dn : Nat} {zE zD : Value} {PostB : World → Prop} {fn : FuncId} {Q : Option (List Value) → Exit → Act → World → Prop} {a : Act} {w : World}
theorem opsX_sel {ops : Array Oper} {i : Nat} {rest : List Nat} {o : Oper} {n : Nat} {v : Value} {vs : List Value} (ho : ops[i]? = some o) (hw : Region.wanted o (yielded ops a.tmps) = true)
   (hrun : ∀ w₁, RA p w w₁ → (execOp a.eval o).run P w₁ = .ok (.comm (selCases E Dn zE zD) true .select) w₁ ∧ ∀ e ∈ listed P fn a o w₁, EvA p w₁ e)
   (hnext : ∀ w₂, RA p w w₂ → OpsX (gF P ty Wg C Low vals Mine AnchW p E Dn zE zD PostB) P true fn ops rest n (some vs) Q (a.put o.dst (commResult (selCases E Dn zE zD) .select 0 v true)) w₂) :
   OpsX (gF P ty Wg C Low vals Mine AnchW p E Dn zE zD PostB) P true fn ops (i :: rest) 0 (some (v :: vs)) Q a w := by
 intro b k cs m hb hk hc
 refine Goes.stop fun w₁ h₁ => ?_
 obtain ⟨hr, hev⟩ := hrun w₁ h₁
 refine (show AtSel P p E Dn zE zD (fun g₂ w₂ => Gathers P p E Dn zE zD PostB (FinW P ty Wg C Low vals Mine AnchW) vs (Conc.served g₂ (commResult (selCases E Dn zE zD) .select 0 v true)) w₂) _ w₁ from ⟨rfl, _, stepG_comm ho hw hk hr, by rw [hb]; exact hev, fun w₂ h₂ => ?_⟩)
 show Gathers P p E Dn zE zD PostB (FinW P ty Wg C Low vals Mine AnchW) vs (Conc.served (core (G (b.at a (.inRegion ops (i :: rest) :: k)) cs)) _) w₂
 rw [core_G, served_G, ho]
 exact (gathers_iff _ _ _ _ _ _ _ _ _ _ _).2 ⟨_, hnext w₂ (RA.trans _ _ _ h₁ h₂) b k cs m hb hk hc⟩
theorem opsX_sel0 {ops : Array Oper} {i : Nat} {rest : List Nat} {o : Oper} {n : Nat} (ho : ops[i]? = some o) (hw : Region.wanted o (yielded ops a.tmps) = true)
   (hrun : ∀ w₁, RA p w w₁ → (execOp a.eval o).run P w₁ = .ok (.comm (selCases E Dn zE zD) true .select) w₁ ∧ ∀ e ∈ listed P fn a o w₁, EvA p w₁ e)
   (hnext : ∀ w₂, RA p w w₂ → PostB w₂ → KPa ty Wg C vals w₂ → OpsX (gF P ty Wg C Low vals Mine AnchW p E Dn zE zD PostB) P true fn ops rest n none Q (a.put o.dst (commResult (selCases E Dn zE zD) .select 1 zD false)) w₂) :
   OpsX (gF P ty Wg C Low vals Mine AnchW p E Dn zE zD PostB) P true fn ops (i :: rest) 0 (some []) Q a w := by
 intro b k cs m hb hk hc
 refine Goes.stop fun w₁ h₁ => ?_
 obtain ⟨hr, hev⟩ := hrun w₁ h₁
 refine (show AtSel P p E Dn zE zD (fun g₂ w₂ => PostB w₂ → FinW P ty Wg C Low vals Mine AnchW (Conc.served g₂ (commResult (selCases E Dn zE zD) .select 1 zD false)) w₂) _ w₁ from ⟨rfl, _, stepG_comm ho hw hk hr, by rw [hb]; exact hev, fun w₂ h₂ hp hka => ?_⟩)
 show ∃ m, Goes P true (RPa ty Wg C vals) (DPi Mine Wg C Low) (AtKd P ty Wg C Low vals Mine AnchW) m (Conc.served (core (G (b.at a (.inRegion ops (i :: rest) :: k)) cs)) _) w₂
 rw [core_G, served_G, ho]
 exact ⟨_, hnext w₂ (RA.trans _ _ _ h₁ h₂) hp hka b k cs m hb hk hc⟩
end
end Go.Hx
namespace Go.Proofs
abbrev Tryz.link : Go.Conc.Lib.WgLink := { add := 30, done := 32, wait := 35, relMerge := 49, disable := 50, enable := 51, inBubble := 52, associate := 53, fatal := 54, uOr := 55, uAdd := 56, raceRead := 57, uLoad := 58, uStore := 59, disassociate := 60, semrelease := 61, acquire := 64, isAssociated := 65, uCas := 66, raceWrite := 67, semacquire := 68, orU64 := 76, addU64 := 77, loadU64 := 78, storeU64 := 79, casU64 := 87, tWgP := 117, tUP := 119, tAssoc := 120, tWg := 87, tAU := 84, tU64 := 82, tUint := 73, tU32 := 85, tPU32 := 124, tPAU := 159, tPU64 := 161, tNoCopy := 79, tANoCopy := 80, tAlign64 := 81 }
theorem Tryz.wgLib : Go.Conc.Lib.WgLib Tryz.prog Tryz.link :=
 ⟨Tryz.func30, Tryz.func32, Tryz.func35, Tryz.func49, Tryz.func50, Tryz.func51, Tryz.func52, Tryz.func53, Tryz.func54, Tryz.func55, Tryz.func56, Tryz.func57, Tryz.func58, Tryz.func59, Tryz.func60, Tryz.func61, Tryz.func64, Tryz.func65, Tryz.func66, Tryz.func67, Tryz.func68, Tryz.func76, Tryz.func77, Tryz.func78, Tryz.func79, Tryz.func87, Tryz.underlying117, Tryz.runUnderlying117, Tryz.sizeOf117, Tryz.isAgg117, Tryz.zeroValue117, Tryz.underlying119, Tryz.runUnderlying119, Tryz.sizeOf119, Tryz.isAgg119, Tryz.zeroValue119, Tryz.underlying120, Tryz.runUnderlying120, Tryz.sizeOf120, Tryz.isAgg120, Tryz.zeroValue120, Tryz.underlying87, Tryz.runUnderlying87, Tryz.sizeOf87, Tryz.isAgg87, Tryz.zeroValue87, Tryz.underlying84, Tryz.runUnderlying84, Tryz.sizeOf84, Tryz.isAgg84, Tryz.zeroValue84, Tryz.underlying82, Tryz.runUnderlying82, Tryz.sizeOf82, Tryz.isAgg82, Tryz.zeroValue82, Tryz.underlying73, Tryz.runUnderlying73, Tryz.sizeOf73, Tryz.isAgg73, Tryz.zeroValue73, Tryz.underlying85, Tryz.runUnderlying85, Tryz.sizeOf85, Tryz.isAgg85, Tryz.zeroValue85, Tryz.underlying124, Tryz.runUnderlying124, Tryz.sizeOf124, Tryz.isAgg124, Tryz.zeroValue124, Tryz.underlying159, Tryz.runUnderlying159, Tryz.sizeOf159, Tryz.isAgg159, Tryz.zeroValue159, Tryz.underlying161, Tryz.runUnderlying161, Tryz.sizeOf161, Tryz.isAgg161, Tryz.zeroValue161, Tryz.underlying0, Tryz.runUnderlying0, Tryz.sizeOf0, Tryz.isAgg0, Tryz.zeroValue0, Tryz.underlying3, Tryz.runUnderlying3, Tryz.sizeOf3, Tryz.isAgg3, Tryz.zeroValue3, Tryz.underlying4, Tryz.runUnderlying4, Tryz.sizeOf4, Tryz.isAgg4, Tryz.zeroValue4, Tryz.underlying9, Tryz.runUnderlying9, Tryz.sizeOf9, Tryz.isAgg9, Tryz.zeroValue9, Tryz.underlying20, Tryz.runUnderlying20, Tryz.sizeOf20, Tryz.isAgg20, Tryz.zeroValue20, Tryz.underlying21, Tryz.runUnderlying21, Tryz.sizeOf21, Tryz.isAgg21, Tryz.zeroValue21, (by kernel_rfl), (by kernel_rfl)⟩
end Go.Proofs
namespace Go.Proofs.YtejkelcaljmnoaaGreatDoor
open Go.Conc Go.ConcX Go.RowKit Go.Conc.Lib Go.ConcX.Gen Go.Hx
instance : Payload := ⟨3⟩
end Go.Proofs.YtejkelcaljmnoaaGreatDoor
