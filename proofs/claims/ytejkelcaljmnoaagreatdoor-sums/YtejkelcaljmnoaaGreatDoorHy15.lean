/-
  Part 15 of the proof.
  No condition but those that each statement names.
-/
import Derived.Test.YtejkelcaljmnoaaGreatDoorHy14
import Derived.Laws.Externs
import Derived.Stop.Asserts
import Derived.Test.YtejkelcaljmnoaaGreatDoorChecked
set_option maxRecDepth 100000
set_option linter.unusedVariables false
set_option linter.unusedSimpArgs false
set_option linter.unusedSectionVars false
namespace Go.Lo
open Go.Conc Go.Hx
section
variable {P : Program} {New : Obj → Prop} {L : Frag}
theorem wpS_callExt {f : FuncId} {fn : Func} {e : Array Value → Sem Value} {args : Array Value} {Q : Next → Frag → Prop} (hf : P.funcs[f]? = some fn) (hname : (fn.name == "runtime.NumGoroutine") = false) (hb : fn.body.isNone = true) (hn : Extern.findNext fn = none) (he : Extern.find fn = some e)
   (h : wpS P New (e args) (fun v L' => Q (.value v) L') L) : wpS P New (callFunc f args) Q L := by
 have h1 : fn.name ≠ "runtime.NumGoroutine" := by simpa using hname
 have h2 : fn.body = none := by simpa using hb
 show wpS P New (match P.funcs[f]? with | none => _ | some fn => _) Q L
 rw [hf]
 simp only [beq_iff_eq, h1, if_false, h2, Option.isNone_none, if_true]
 rw [wpS_bind]
 refine ⟨rfl, ?_⟩
 simp only [hn, he]
 rw [wpS_pure', wpS_bind]
 exact h
theorem wpQ_callExt {f : FuncId} {fn : Func} {e : Array Value → Sem Value} {args : Array Value} {K : Next → Prop} (hf : P.funcs[f]? = some fn) (hname : (fn.name == "runtime.NumGoroutine") = false) (hb : fn.body.isNone = true) (hn : Extern.findNext fn = none) (he : Extern.find fn = some e)
   (h : wpQ P (e args) (fun v => K (.value v)) L) : wpQ P (callFunc f args) K L := by
 have h1 : fn.name ≠ "runtime.NumGoroutine" := by simpa using hname
 have h2 : fn.body = none := by simpa using hb
 show wpQ P (match P.funcs[f]? with | none => _ | some fn => _) K L
 rw [hf]
 simp only [beq_iff_eq, h1, if_false, h2, Option.isNone_none, if_true]
 rw [wpQ_bind]
 refine ⟨rfl, ?_⟩
 simp only [hn, he]
 show wpQ P (e args >>= _) K L
 rw [wpQ_bind]
 exact h
theorem wpQ_callBody {f : FuncId} {fn : Func} {args : Array Value} {K : Next → Prop} (hf : P.funcs[f]? = some fn) (hname : (fn.name == "runtime.NumGoroutine") = false) (hb : fn.body.isNone = false) (h : K (.enter f args)) : wpQ P (callFunc f args) K L := by
 have h1 : fn.name ≠ "runtime.NumGoroutine" := by simpa using hname
 show wpQ P (match P.funcs[f]? with | none => _ | some fn => _) K L
 rw [hf]
 simp only [beq_iff_eq, h1, if_false, hb, Bool.false_eq_true]
 exact h
end
theorem eval_args {N : Nat} {ε : Env} {a : Act} (hf : Fits N ε a) : ∀ (l : List Operand) (vs : List Value), l.map (ev ε) = vs.map some → l.map a.eval = vs := by
 intro l
 induction l with
 | nil => intro vs h; cases vs <;> simp_all
 | cons x l ih =>
   intro vs h
   cases vs with
   | nil => simp at h
   | cons v vs =>
     simp only [List.map_cons, List.cons.injEq] at h ⊢
     exact ⟨hf.ev h.1, ih vs h.2⟩
section
variable {P : Program} {New : Obj → Prop} {N : Nat} {ε : Env} {L : Frag} {d : Option Tmp} {ty : TypeId} {ps : String} {af : Array Edge} {g : Option (Nat × Bool)} {args : Array Operand} {ats : Array TypeId} {vs : List Value}
theorem E_ext0 {f : FuncId} {fn : Func} {e : Array Value → Sem Value} {v : Value} (ha' : args.toList.map (ev ε) = vs.map some := by rfl) (hf : P.funcs[f]? = some fn) (he : Extern.find fn = some e) (hv : wpQ P (e vs.toArray) (· = v) L) (hname : (fn.name == "runtime.NumGoroutine") = false := by rfl) (hb : fn.body.isNone = true := by rfl) (hn : Extern.findNext fn = none := by kernel_rfl) :
   EY P N ε L ⟨d, .call ⟨.value (.func f), args, ats⟩, ty, ps, af, g⟩ v := by
 intro a ha
 have e1 : args.map a.eval = vs.toArray := by apply Array.ext'; simpa using eval_args ha _ _ ha'
 show wpQ P (callFunc f ((#[] ++ args.map a.eval) ++ #[])) _ L
 rw [e1]
 simp only [Array.empty_append, Array.append_empty]
 exact wpQ_callExt hf hname hb hn he (wpQ_mono (fun _ h => by rw [h]) (fun _ h => h) _ hv)
theorem O_ext {f : FuncId} {fn : Func} {e : Array Value → Sem Value} {post : Value → Frag → Prop} (ha' : args.toList.map (ev ε) = vs.map some := by rfl) (hf : P.funcs[f]? = some fn) (he : Extern.find fn = some e) (hv : wpS P New (e vs.toArray) post L) (hname : (fn.name == "runtime.NumGoroutine") = false := by rfl) (hb : fn.body.isNone = true := by rfl) (hn : Extern.findNext fn = none := by kernel_rfl) :
   EO P New N ε L ⟨d, .call ⟨.value (.func f), args, ats⟩, ty, ps, af, g⟩ post := by
 intro a ha
 have e1 : args.map a.eval = vs.toArray := by apply Array.ext'; simpa using eval_args ha _ _ ha'
 show wpS P New (callFunc f ((#[] ++ args.map a.eval) ++ #[])) _ L
 rw [e1]
 simp only [Array.empty_append, Array.append_empty]
 exact wpS_callExt hf hname hb hn he hv
theorem E_inv {x : Operand} {t : TypeId} {rv rc : Value} {nm : String} {f : FuncId} {fn : Func} {e : Array Value → Sem Value} {v : Value} (hx : ev ε x = some (.iface t rv) := by rfl) (ha' : args.toList.map (ev ε) = vs.map some := by rfl) (hm : wpQ P (method (P.types.size + Made.depth) t rv nm) (· = (f, rc)) L) (hf : P.funcs[f]? = some fn) (he : Extern.find fn = some e) (hv : wpQ P (e (rc :: vs).toArray) (· = v) L) (hname : (fn.name == "runtime.NumGoroutine") = false := by rfl) (hb : fn.body.isNone = true := by rfl) (hn : Extern.findNext fn = none := by kernel_rfl) :
   EY P N ε L ⟨d, .call ⟨.invoke x nm, args, ats⟩, ty, ps, af, g⟩ v := by
 intro a ha
 have e1 : args.map a.eval = vs.toArray := by apply Array.ext'; simpa using eval_args ha _ _ ha'
 show wpQ P (invoke (.fn (.method nm) #[]) (#[a.eval x] ++ args.map a.eval)) _ L
 rw [e1, ha.ev hx]
 unfold invoke
 have e2 : (#[Value.iface t rv] ++ vs.toArray)[0]? = some (.iface t rv) := by simp
 have e3 : (#[Value.iface t rv] ++ vs.toArray).extract 1 (#[Value.iface t rv] ++ vs.toArray).size = vs.toArray := by apply Array.ext'; simp
 simp only [e2, e3]
 show wpQ P (method (P.types.size + Made.depth) t rv nm >>= fun (p : FuncId × Value) => callFunc p.1 (#[p.2] ++ vs.toArray)) _ L
 rw [wpQ_bind]
 refine wpQ_mono ?_ (fun _ h => h) _ hm
 rintro _ rfl
 have e4 : #[rc] ++ vs.toArray = (rc :: vs).toArray := by apply Array.ext'; simp
 simp only [e4]
 exact wpQ_callExt hf hname hb hn he (wpQ_mono (fun _ h => by rw [h]) (fun _ h => h) _ hv)
end
section
variable {σ : Type} {F : Fam σ} {Δ : ∀ s, Dom (F.R s) (F.D s)} {P : Program} {main : Bool} {fn : FuncId} {s : σ} {a : Act} {L : Frag}
theorem opsL_dyn {Q : σ → Exit → Act → Frag → Prop} {ops : Array Oper} {i : Nat} {rest : List Nat} {o : Oper} {f : FuncId} {vals : Array Value} {nf n : Nat} {Post : σ → Value → Frag → Prop}
   (ho : ops[i]? = some o) (hw : Region.wanted o (yielded ops a.tmps) = true) (hE : wpQ P (execOp a.eval o) (· = .enter f vals) L) (hcall : CallsL Δ P main f vals nf s L Post) (hnext : ∀ s' v L', Post s' v L' → OpsL Δ P main fn ops rest n s' Q (a.put o.dst v) L') : OpsL Δ P main fn ops (i :: rest) (n + nf + 3) s Q a L := by
 intro w hO b k cs m hb hk hc
 obtain ⟨g, c, hf, hname, hbody, hwp⟩ := hcall w hO
 have hfin : ∀ v, (b.at a (.inRegion ops (i :: rest) :: k)).finish v = b.at (a.put o.dst v) (.inRegion ops rest :: k) := fun v => by rw [Frame.finish_at, ho]; rfl
 have hleave : ∀ (s' : σ) (a' : Act) (w' : World) (todo : List Item), (a'.defers = [] ∧ ∃ v, ResultsC P g a'.tmps v ∧ upV Δ Post s' v w') →
     Goes P main (F.R s') (F.D s') (F.Stop s') (m + n + 1) (G { (base f).at a' todo with mode := .returning } (b.at a (.inRegion ops (i :: rest) :: k) :: cs)) w' := by
   rintro s' a' w' todo ⟨hd, v, hr, L', hL, hp⟩
   refine Goes.step rfl fun w₁ h₁ => ?_
   rw [stepG_leave (b := base f) rfl hd hf (hr w₁).1 (hr w₁).2, hfin]
   exact ⟨(F.terms s').idle _, (hnext s' v L' hp w' hL b k cs m hb hk hc).rely (F.terms s').trans h₁⟩
 have hbodyG : Goes P main (F.R s) (F.D s) (F.Stop s) (m + n + 2 + nf) (G ((base f).at { tmps := vals ++ Array.replicate (g.ntmps - vals.size) undef, defers := [] } [.code c]) (b.at a (.inRegion ops (i :: rest) :: k) :: cs)) w := by
   refine hwp (base f) [] _ (m + n + 2) rfl (by simp [base]) fun s' e a' w' q => ?_
   cases e with
   | normal => exact Goes.step rfl fun w₁ h₁ => by rw [stepG_end]; exact ⟨(F.terms s').idle _, (hleave s' a' w' [] q).rely (F.terms s').trans h₁⟩
   | ret => exact fun todo => (hleave s' a' w' todo q).more
   | exit id => exact q.elim
   | goto l => exact q.elim
   | panic ch => exact q.elim
   | outgrown => exact q.elim
 have e : m + (n + nf + 3) = (m + n + 2 + nf) + 1 := by omega
 rw [e]
 refine Goes.step rfl fun w₁ h₁ => ?_
 obtain ⟨q1, q2⟩ := quiet' (Δ s) ((Δ s).rely hO h₁) hE
 rw [stepG_enter ho hw hk q1, enter_at _ hf hbody]
 exact ⟨(Δ s).dd ((Δ s).gr w₁) fun e he => q2 e (by rw [hb] at he; exact mem_listed he), hbodyG.rely (F.terms s).trans h₁⟩
end
section
variable {σ : Type} {F : Fam σ} {Δ : ∀ s, Dom (F.R s) (F.D s)} {P : Program} {main : Bool} {fn : FuncId} {N : Nat} {Q : σ → Exit → Env → Frag → Prop} {s : σ} {ε : Env} {L : Frag} {d : Option Tmp} {ps : String} {af : Array Edge} {g : Option (Nat × Bool)} {ot : TypeId} {args : Array Operand} {ats : Array TypeId} {vs : List Value}
theorem ov {ops : Array Oper} {i : Nat} {rest : List Nat} {x : Operand} {f : FuncId} {gf : Func} {c1 c2 : List Value} {nf n : Nat} {Post : σ → Value → Frag → Prop} (ho : ops[i]? = some ⟨d, .call ⟨.value x, args, ats⟩, ot, ps, af, g⟩) (hx : ev ε x = some (.func (.func f) c1.toArray c2.toArray) := by rfl) (ha' : args.toList.map (ev ε) = vs.map some := by rfl)
   (hf : P.funcs[f]? = some gf) (hname : (gf.name == "runtime.NumGoroutine") = false := by rfl) (hb : gf.body.isNone = false := by rfl) (hcall : CallsL Δ P main f (c1 ++ vs ++ c2).toArray nf s L Post) (hw : wantedE ops N ε g = some true := by rfl) (hd : dstOk N d = true := by rfl)
   (h : ∀ s' v L', Post s' v L' → OpsE Δ P main fn N ops rest n s' Q (putE d v ε) L') : OpsE Δ P main fn N ops (i :: rest) (n + nf + 3) s Q ε L := by
 intro a ha
 have e1 : args.map a.eval = vs.toArray := by apply Array.ext'; simpa using eval_args ha _ _ ha'
 refine opsL_dyn ho (ha.wanted hw) ?_ hcall fun s' v L' hp => h s' v L' hp _ (ha.put hd v)
 show wpQ P (resolve a.eval ⟨.value x, args, ats⟩ ot >>= fun d => invoke d.target d.args) _ L
 unfold resolve
 simp only [e1, ha.ev hx]
 show wpQ P (callFunc f ((c1.toArray ++ vs.toArray) ++ c2.toArray)) _ L
 have e4 : (c1.toArray ++ vs.toArray) ++ c2.toArray = (c1 ++ vs ++ c2).toArray := by apply Array.ext'; simp
 rw [e4]
 exact wpQ_callBody hf hname hb rfl
theorem oi {ops : Array Oper} {i : Nat} {rest : List Nat} {x : Operand} {t : TypeId} {rv rc : Value} {nm : String} {f : FuncId} {gf : Func} {nf n : Nat} {Post : σ → Value → Frag → Prop} (ho : ops[i]? = some ⟨d, .call ⟨.invoke x nm, args, ats⟩, ot, ps, af, g⟩) (hx : ev ε x = some (.iface t rv) := by rfl) (ha' : args.toList.map (ev ε) = vs.map some := by rfl)
   (hm : wpQ P (method (P.types.size + Made.depth) t rv nm) (· = (f, rc)) L) (hf : P.funcs[f]? = some gf) (hname : (gf.name == "runtime.NumGoroutine") = false := by rfl) (hb : gf.body.isNone = false := by rfl) (hcall : CallsL Δ P main f (rc :: vs).toArray nf s L Post) (hw : wantedE ops N ε g = some true := by rfl) (hd : dstOk N d = true := by rfl)
   (h : ∀ s' v L', Post s' v L' → OpsE Δ P main fn N ops rest n s' Q (putE d v ε) L') : OpsE Δ P main fn N ops (i :: rest) (n + nf + 3) s Q ε L := by
 intro a ha
 have e1 : args.map a.eval = vs.toArray := by apply Array.ext'; simpa using eval_args ha _ _ ha'
 refine opsL_dyn ho (ha.wanted hw) ?_ hcall fun s' v L' hp => h s' v L' hp _ (ha.put hd v)
 show wpQ P (invoke (.fn (.method nm) #[]) (#[a.eval x] ++ args.map a.eval)) _ L
 rw [e1, ha.ev hx]
 unfold invoke
 have e2 : (#[Value.iface t rv] ++ vs.toArray)[0]? = some (.iface t rv) := by simp
 have e3 : (#[Value.iface t rv] ++ vs.toArray).extract 1 (#[Value.iface t rv] ++ vs.toArray).size = vs.toArray := by apply Array.ext'; simp
 simp only [e2, e3]
 show wpQ P (method (P.types.size + Made.depth) t rv nm >>= fun (p : FuncId × Value) => callFunc p.1 (#[p.2] ++ vs.toArray)) _ L
 rw [wpQ_bind]
 refine wpQ_mono ?_ (fun _ h => h) _ hm
 rintro _ rfl
 have e4 : #[rc] ++ vs.toArray = (rc :: vs).toArray := by apply Array.ext'; simp
 simp only [e4]
 exact wpQ_callBody hf hname hb rfl
end
def evR {α : Type} (P : Program) : Sem α → List Value → Option (α × List Addr)
 | .pure a, vs => match vs with | [] => some (a, []) | _ :: _ => none
 | .load m a k, vs => match m, vs with | .plain, v :: vs => (evR P (k v) vs).map fun p => (p.1, a :: p.2) | _, _ => none
 | .program k, vs => evR P (k P) vs
 | .mark m k, vs => if okMark m then evR P k vs else none
 | .choose q k, vs => if q.forced then evR P (k 0) vs else none
 | .store .., _ | .new .., _ | .freeze .., _ | .setObj .., _ | .sys .., _ | .halt _, _ | .shape .., _ | .frozen .., _ | .getObj .., _ => none
section
variable {α : Type} {P : Program} {L : Frag}
def Red (L : Frag) : List Addr → List Value → Prop
 | a :: az, v :: vs => a.spot = none ∧ At L a.block a.off v ∧ Red L az vs
 | [], [] => True
 | _, _ => False
theorem wpQ_evR {K : α → Prop} : ∀ (s : Sem α) (vs : List Value) (r : α) (az : List Addr), evR P s vs = some (r, az) → Red L az vs → K r → wpQ P s K L := by
 intro s
 induction s with
 | pure a =>
   intro vs r az h hr hK
   cases vs with
   | nil => simp only [evR, Option.some.injEq, Prod.mk.injEq] at h; obtain ⟨rfl, rfl⟩ := h; exact hK
   | cons v vs => simp [evR] at h
 | load m a k ih =>
   intro vs r az h hr hK
   cases m with
   | plain =>
     cases vs with
     | nil => simp [evR] at h
     | cons v vs =>
       simp only [evR, Option.map_eq_some_iff, Prod.mk.injEq] at h
       obtain ⟨⟨r', az'⟩, h1, h2, h3⟩ := h
       subst h3
       obtain ⟨hs, ⟨fl, cs, ty, fr, hm, hv⟩, hr'⟩ := hr
       refine ⟨rfl, fl, _, v, hm, ?_, ih _ _ _ _ h1 hr' (by rw [show r' = r from h2]; exact hK)⟩
       obtain ⟨b, i, sp⟩ := a
       obtain rfl : sp = none := hs
       exact hv
   | _ => simp [evR] at h
 | program k ih => exact fun vs r az h hr hK => ih _ vs r az h hr hK
 | mark m k ih =>
   intro vs r az h hr hK
   simp only [evR] at h
   split at h
   · rename_i h1; exact ⟨h1, ih vs r az h hr hK⟩
   · simp at h
 | choose q k ih =>
   intro vs r az h hr hK
   simp only [evR] at h
   split at h
   · rename_i h1; exact ⟨h1, ih _ vs r az h hr hK⟩
   · simp at h
 | _ => intro vs r az h; simp [evR] at h
theorem wpQ_ev0 {K : α → Prop} {s : Sem α} {r : α} (h : evR P s [] = some (r, [])) (hK : K r) : wpQ P s K L := wpQ_evR s [] r [] h trivial hK
theorem wpQ_ev1 {K : α → Prop} {s : Sem α} {r : α} {v : Value} {b i : Nat} (h : evR P s [v] = some (r, [⟨b, i, none⟩])) (hv : At L b i v) (hK : K r) : wpQ P s K L := wpQ_evR s _ r _ h ⟨rfl, hv, trivial⟩ hK
end
section
variable {P : Program} {New : Obj → Prop} {N : Nat} {ε : Env} {L : Frag} {d : Option Tmp} {ty : TypeId} {ps : String} {af : Array Edge} {g : Option (Nat × Bool)}
theorem E_ta {x : Operand} {xt t : TypeId} {ok : Bool} {w v : Value} (hv : evR P (Instr.typeAssert w xt t ok) [] = some (v, [])) (hx : ev ε x = some w := by rfl) : EY P N ε L ⟨d, .typeAssert x xt t ok, ty, ps, af, g⟩ v := fun a ha => by
 refine y_of (fun _ => rfl) fun K hK => ?_
 rw [ha.ev hx]
 exact wpQ_ev0 hv hK
theorem E_tl {x : Operand} {xt t s : TypeId} {w z : Value} {want : Array (String × TypeId)} (hu : P.underlying t = some (.interface want)) (h : (P.info? s).map (fun i => (Go.lacking want i.methods).isEmpty) = some false) (hz : (P.info? t).map (·.zero) = some (some z)) (hx : ev ε x = some (.iface s w) := by rfl) : EY P N ε L ⟨d, .typeAssert x xt t true, ty, ps, af, g⟩ (.tuple #[z, .bool false]) := fun a ha => by
 refine y_of (fun _ => rfl) fun K hK => ?_
 rw [ha.ev hx]
 obtain ⟨i, hi, hl⟩ := Option.map_eq_some_iff.1 h
 obtain ⟨j, hj, hz'⟩ := Option.map_eq_some_iff.1 hz
 obtain ⟨m, hm⟩ := Go.missingMethod_some (want := want) (got := i.methods) (fun e => by rw [e] at hl; cases hl)
 unfold Instr.typeAssert
 rw [wpQ_bind, wpQ_underlying hu]
 show wpQ P (do match Instr.missingMethod want (← typeInfo s).methods with | none => _ | some m => _) K L
 have e1 : wpQ P (typeInfo s) (fun a => a = i) L := by
   unfold typeInfo
   rw [wpQ_bind]
   show wpQ P (match P.info? s with | some i => _ | none => _) _ L
   rw [hi]; exact rfl
 have e2 : wpQ P (zeroValue t) (fun a => a = z) L := by
   unfold zeroValue typeInfo
   rw [wpQ_bind, wpQ_bind]
   show wpQ P (match P.info? t with | some i => _ | none => _) _ L
   rw [hj]
   show wpQ P (match j.zero with | some z => _ | none => _) _ L
   have hz2 : j.zero = some z := hz'
   rw [hz2]
   exact rfl
 rw [wpQ_bind]
 refine wpQ_mono ?_ (fun _ h => h) _ e1
 rintro _ rfl
 simp only [hm]
 show wpQ P (do pure (.tuple #[← zeroValue t, .bool false])) K L
 rw [wpQ_bind]
 refine wpQ_mono ?_ (fun _ h => h) _ e2
 rintro _ rfl
 exact hK
theorem eqGuard_ifc {op : BinOp} {t s s' : TypeId} {x y : Operand} {a b : Value} : eqGuard op t x y (.iface s a) (.iface s' b) = pure () := by
 unfold eqGuard
 cases op <;> rfl
theorem y_ifc {ρ : Operand → Value} {t u s s' : TypeId} {x y : Operand} {a b : Value} {c : Bool} (hx : ρ x = .iface s a) (hy : ρ y = .iface s' b) (h : ∀ (K : Bool → Prop), K c → wpQ P (Op.equal t (.iface s a) (.iface s' b)) K L) : Yld P L (execOp ρ ⟨d, .binOp .eql t x y u, ty, ps, af, g⟩) (.bool c) := by
 refine y_of (fun _ => rfl) fun K hQ => ?_
 rw [hx, hy, eqGuard_ifc]
 show wpQ P (do pure (.bool (← Op.equal t (.iface s a) (.iface s' b)))) K L
 rw [wpQ_bind]
 exact h _ hQ
theorem E_ifd {t u s s' : TypeId} {x y : Operand} {a b : Value} (h : evR P (Op.equal t (.iface s a) (.iface s' b)) [] = some (false, [])) (hx : ev ε x = some (.iface s a) := by rfl) (hy : ev ε y = some (.iface s' b) := by rfl) : EY P N ε L ⟨d, .binOp .eql t x y u, ty, ps, af, g⟩ (.bool false) := fun _ ha =>
 y_ifc (ha.ev hx) (ha.ev hy) fun _ hK => wpQ_ev0 h hK
theorem wpQ_eqAddrIn {D t e n : TypeId} {b i b' i' : Nat} {cs cs' : Array Value} {ty1 ty1' : TypeId} {fl fl' : Bool} {K : Bool → Prop} (hu : P.underlying t = some (.pointer e)) (hs : sizeAt P e = some (n + 1))
   (h1 : (b, fl, .cells cs ty1) ∈ L) (h2 : (b', fl', .cells cs' ty1') ∈ L) (h : K (decide ((b, i) = (b', i')))) : wpQ P (Op.equalIn (D + 1) t (.pointer (some ⟨b, i, none⟩)) (.pointer (some ⟨b', i', none⟩))) K L := by
 have := wpQ_eqAddr (K := K) (i := i) (i' := i') hu hs h1 h2 h
 rw [equal_unf, Op.equalIn.eq_def, wpQ_bind, wpQ_underlying hu] at this
 rw [Op.equalIn.eq_def, wpQ_bind, wpQ_underlying hu]
 exact this
theorem E_ifp {t u s e n : TypeId} {x y : Operand} {b i b' i' : Nat} {cs cs' : Array Value} {ty1 ty1' : TypeId} {fl fl' : Bool} {ms : Array (String × TypeId)} (hx : ev ε x = some (.iface s (.pointer (some ⟨b, i, none⟩))) := by rfl) (hy : ev ε y = some (.iface s (.pointer (some ⟨b', i', none⟩))) := by rfl) (hu : P.underlying t = some (.interface ms)) (hi : (P.info? s).map (·.comparable) = some true) (hp : P.underlying s = some (.pointer e)) (hs : sizeAt P e = some (n + 1))
   (h1 : (b, fl, .cells cs ty1) ∈ L) (h2 : (b', fl', .cells cs' ty1') ∈ L) : EY P N ε L ⟨d, .binOp .eql t x y u, ty, ps, af, g⟩ (.bool (decide ((b, i) = (b', i')))) := fun _ ha =>
 y_ifc (ha.ev hx) (ha.ev hy) fun K hK => by
   obtain ⟨j, hj, hc⟩ := Option.map_eq_some_iff.1 hi
   rw [equal_unf, Op.equalIn.eq_def, wpQ_bind, wpQ_underlying hu]
   show wpQ P (if s ≠ s then pure false else (do let info ← typeInfo s; if !info.comparable then _ else Op.equalIn 9999 s _ _)) K L
   rw [if_neg (by simp), wpQ_bind]
   unfold typeInfo
   rw [wpQ_bind]
   show wpQ P (match P.info? s with | some i => _ | none => _) _ L
   rw [hj]
   show wpQ P (if !j.comparable then _ else _) K L
   have hc' : j.comparable = true := hc
   rw [hc']
   exact wpQ_eqAddrIn (D := 9998) hp hs h1 h2 hK
end
section
variable {σ : Type} {F : Fam σ} {Δ : ∀ s, Dom (F.R s) (F.D s)} {P : Program} {main : Bool} {fn : FuncId} {N : Nat} {Q : σ → Exit → Env → Frag → Prop} {s : σ} {ε : Env} {L : Frag}
theorem oeN {ops : Array Oper} {i : Nat} {rest : List Nat} {d : Option Tmp} {k : Op} {ot : TypeId} {ps : String} {af : Array Edge} {g : Option (Nat × Bool)} {n : Nat} {post : Value → Frag → Prop} (ho : ops[i]? = some ⟨d, k, ot, ps, af, g⟩) (hy : (L.map (·.1)).Nodup → EO P (Δ s).New N ε L ⟨d, k, ot, ps, af, g⟩ post) (hw : wantedE ops N ε g = some true := by rfl) (hd : dstOk N d = true := by rfl) (h : ∀ v L', post v L' → OpsE Δ P main fn N ops rest n s Q (putE d v ε) L') : OpsE Δ P main fn N ops (i :: rest) (n + 1) s Q ε L :=
 opsE_nd fun hnd => oe ho (hy hnd) hw hd h
end
section
variable {P : Program} {New : Obj → Prop} {N : Nat} {ε : Env} {L : Frag} {d : Option Tmp} {ty : TypeId} {ps : String} {af : Array Edge} {g : Option (Nat × Bool)}
theorem O_sa {t b i m : Nat} {x y : Operand} {vs : List Value} {cs : Array Value} {e : TypeId} (hx : ev ε x = some (.pointer (some ⟨b, i, none⟩)) := by rfl) (hy : ev ε y = some (.agg vs.toArray) := by rfl) (hp : vs.all plainV = true := by rfl) (hl : vs.length = m := by rfl) (hs : sizeAt P t = some m) (hnd : (L.map (·.1)).Nodup) (hm : (b, true, .cells cs e) ∈ L) (hi : i + vs.length ≤ cs.size) :
   EO P New N ε L ⟨d, .store t x y, ty, ps, af, g⟩ (fun r L'' => r = undef ∧ Upd L b (.cells (puts cs i vs) e) L'') := by
 intro a ha
 obtain ⟨n, hn⟩ := List.getElem?_of_mem hm
 exact e_storeAgg (ha.ev hx) (ha.ev hy) hs hl hn hi hp ⟨rfl, upd_set hnd hn⟩
end
end Go.Lo
namespace Go.Proofs.YtejkelcaljmnoaaGreatDoor
open Go.Lo
theorem sz_3 : sizeAt Tryz.prog 3 = some 1 := by kernel_rfl
theorem ag_3 : aggAt Tryz.prog 3 = some false := by kernel_rfl
theorem sz_5 : sizeAt Tryz.prog 5 = some 1 := by kernel_rfl
theorem ag_5 : aggAt Tryz.prog 5 = some false := by kernel_rfl
theorem sz_24 : sizeAt Tryz.prog 24 = some 3 := by kernel_rfl
theorem ag_24 : aggAt Tryz.prog 24 = some true := by kernel_rfl
theorem sz_26 : sizeAt Tryz.prog 26 = some 4 := by kernel_rfl
theorem ag_26 : aggAt Tryz.prog 26 = some true := by kernel_rfl
theorem fo_26_0 : fieldOff Tryz.prog 26 0 = some 0 := by kernel_rfl
theorem fo_26_1 : fieldOff Tryz.prog 26 1 = some 3 := by kernel_rfl
theorem sz_32 : sizeAt Tryz.prog 32 = some 1 := by kernel_rfl
theorem ag_32 : aggAt Tryz.prog 32 = some false := by kernel_rfl
theorem sz_44 : sizeAt Tryz.prog 44 = some 1 := by kernel_rfl
theorem ag_44 : aggAt Tryz.prog 44 = some false := by kernel_rfl
theorem sz_47 : sizeAt Tryz.prog 47 = some 8 := by kernel_rfl
theorem ag_47 : aggAt Tryz.prog 47 = some true := by kernel_rfl
theorem sz_49 : sizeAt Tryz.prog 49 = some 15 := by kernel_rfl
theorem ag_49 : aggAt Tryz.prog 49 = some true := by kernel_rfl
theorem fo_49_0 : fieldOff Tryz.prog 49 0 = some 0 := by kernel_rfl
theorem fo_49_1 : fieldOff Tryz.prog 49 1 = some 1 := by kernel_rfl
theorem fo_49_2 : fieldOff Tryz.prog 49 2 = some 2 := by kernel_rfl
theorem fo_49_3 : fieldOff Tryz.prog 49 3 = some 3 := by kernel_rfl
theorem fo_49_4 : fieldOff Tryz.prog 49 4 = some 4 := by kernel_rfl
theorem fo_49_5 : fieldOff Tryz.prog 49 5 = some 5 := by kernel_rfl
theorem fo_49_6 : fieldOff Tryz.prog 49 6 = some 6 := by kernel_rfl
theorem fo_49_7 : fieldOff Tryz.prog 49 7 = some 7 := by kernel_rfl
theorem sz_51 : sizeAt Tryz.prog 51 = some 4 := by kernel_rfl
theorem fo_51_1 : fieldOff Tryz.prog 51 1 = some 1 := by kernel_rfl
theorem fo_51_3 : fieldOff Tryz.prog 51 3 = some 3 := by kernel_rfl
theorem sz_91 : sizeAt Tryz.prog 91 = some 1 := by kernel_rfl
theorem ag_91 : aggAt Tryz.prog 91 = some false := by kernel_rfl
theorem sz_93 : sizeAt Tryz.prog 93 = some 1 := by kernel_rfl
theorem ag_93 : aggAt Tryz.prog 93 = some false := by kernel_rfl
theorem sz_94 : sizeAt Tryz.prog 94 = some 64 := by kernel_rfl
theorem ag_94 : aggAt Tryz.prog 94 = some true := by kernel_rfl
theorem sz_96 : sizeAt Tryz.prog 96 = some 2 := by kernel_rfl
theorem ag_96 : aggAt Tryz.prog 96 = some true := by kernel_rfl
theorem fo_96_0 : fieldOff Tryz.prog 96 0 = some 0 := by kernel_rfl
theorem fo_96_1 : fieldOff Tryz.prog 96 1 = some 1 := by kernel_rfl
theorem fp_96_1 : fieldPart Tryz.prog 96 1 = some (1, 1, false) := by kernel_rfl
theorem sz_97 : sizeAt Tryz.prog 97 = some 12 := by kernel_rfl
theorem ag_97 : aggAt Tryz.prog 97 = some true := by kernel_rfl
theorem sz_99 : sizeAt Tryz.prog 99 = some 92 := by kernel_rfl
theorem fo_99_0 : fieldOff Tryz.prog 99 0 = some 0 := by kernel_rfl
theorem fo_99_1 : fieldOff Tryz.prog 99 1 = some 15 := by kernel_rfl
theorem fo_99_2 : fieldOff Tryz.prog 99 2 = some 79 := by kernel_rfl
theorem fo_99_3 : fieldOff Tryz.prog 99 3 = some 91 := by kernel_rfl
theorem ag_108 : aggAt Tryz.prog 108 = some false := by kernel_rfl
theorem ag_110 : aggAt Tryz.prog 110 = some false := by kernel_rfl
theorem fo_115_0 : fieldOff Tryz.prog 115 0 = some 0 := by kernel_rfl
theorem fo_115_1 : fieldOff Tryz.prog 115 1 = some 4 := by kernel_rfl
theorem fo_115_2 : fieldOff Tryz.prog 115 2 = some 5 := by kernel_rfl
theorem fo_115_3 : fieldOff Tryz.prog 115 3 = some 6 := by kernel_rfl
theorem fo_115_4 : fieldOff Tryz.prog 115 4 = some 7 := by kernel_rfl
theorem fo_115_5 : fieldOff Tryz.prog 115 5 = some 10 := by kernel_rfl
theorem fo_115_6 : fieldOff Tryz.prog 115 6 = some 15 := by kernel_rfl
theorem fo_115_7 : fieldOff Tryz.prog 115 7 = some 16 := by kernel_rfl
theorem sz_158 : sizeAt Tryz.prog 158 = some 4 := by kernel_rfl
theorem ag_158 : aggAt Tryz.prog 158 = some true := by kernel_rfl
theorem fo_158_0 : fieldOff Tryz.prog 158 0 = some 0 := by kernel_rfl
theorem fo_158_1 : fieldOff Tryz.prog 158 1 = some 1 := by kernel_rfl
theorem fo_158_2 : fieldOff Tryz.prog 158 2 = some 2 := by kernel_rfl
theorem fo_158_3 : fieldOff Tryz.prog 158 3 = some 3 := by kernel_rfl
theorem ag_168 : aggAt Tryz.prog 168 = some false := by kernel_rfl
theorem sz_180 : sizeAt Tryz.prog 180 = some 1 := by kernel_rfl
theorem ag_180 : aggAt Tryz.prog 180 = some false := by kernel_rfl
theorem sz_196 : sizeAt Tryz.prog 196 = some 3 := by kernel_rfl
theorem ag_196 : aggAt Tryz.prog 196 = some true := by kernel_rfl
theorem ag_199 : aggAt Tryz.prog 199 = some false := by kernel_rfl
theorem fo_210_1 : fieldOff Tryz.prog 210 1 = some 1 := by kernel_rfl
theorem sz_275 : sizeAt Tryz.prog 275 = some 1 := by kernel_rfl
end Go.Proofs.YtejkelcaljmnoaaGreatDoor
namespace Go.Proofs.YtejkelcaljmnoaaGreatDoor
open Go.Lo Go.Extern Go.Extern.Rtype
abbrev hnd (t : TypeId) : Value := .pointer (some ⟨11, t, none⟩)
abbrev rty (t : TypeId) : Value := .iface 216 (.agg #[hnd t])
theorem mk182 (a : Addr) : evR Tryz.prog (ReflectliteValue.mk 182 a 0) [] = some (.agg #[hnd 182, .pointer (some a), .int .u64 150], []) := by kernel_rfl
theorem mk180 (a : Addr) : evR Tryz.prog (ReflectliteValue.mk 180 a 0) [] = some (.agg #[hnd 180, .pointer (some a), .int .u64 150], []) := by kernel_rfl
theorem type182 (a : Addr) : evR Tryz.prog (ReflectliteValue.methodAny (ReflectliteValue.valueError "reflectlite.Value.Type" 0) (fun t _ _ _ => ReflectliteType.toType t) #[.agg #[hnd 182, .pointer (some a), .int .u64 150]]) [] = some (rty 182, []) := by kernel_rfl
theorem kind182 : evR Tryz.prog ((ReflectliteType.abiMethod fun t => (fun a : Nat => Value.int IntKind.u8 (a : Int)) <$> Rtype.kind t) #[hnd 182]) [] = some (.int .u8 22, []) := by kernel_rfl
theorem kind180 : evR Tryz.prog ((ReflectliteType.abiMethod fun t => (fun a : Nat => Value.int IntKind.u8 (a : Int)) <$> Rtype.kind t) #[hnd 180]) [] = some (.int .u8 22, []) := by kernel_rfl
theorem elem182 : evR Tryz.prog (ReflectliteType.method ReflectliteType.elem #[.agg #[hnd 182]]) [] = some (rty 180, []) := by kernel_rfl
theorem implements180 : evR Tryz.prog (ReflectliteType.relation "Implements" ReflectliteType.implements_ #[.agg #[hnd 180], rty 168]) [] = some (.bool true, []) := by kernel_rfl
theorem typeOf255 (v : Value) : evR Tryz.prog (ReflectliteType.typeOf #[.iface 255 v]) [] = some (rty 255, []) := by kernel_rfl
theorem typeOf180 (v : Value) : evR Tryz.prog (ReflectliteType.typeOf #[.iface 180 v]) [] = some (rty 180, []) := by kernel_rfl
theorem assignable255 : evR Tryz.prog (ReflectliteType.relation "AssignableTo" ReflectliteType.assignableTo #[.agg #[hnd 255], rty 180]) [] = some (.bool false, []) := by kernel_rfl
theorem assignable180 : evR Tryz.prog (ReflectliteType.relation "AssignableTo" ReflectliteType.assignableTo #[.agg #[hnd 180], rty 180]) [] = some (.bool true, []) := by kernel_rfl
theorem isNil182 (a p : Addr) : evR Tryz.prog (ReflectliteValue.method (ReflectliteValue.valueError "reflectlite.Value.IsNil" 0) ReflectliteValue.isNil #[.agg #[hnd 182, .pointer (some a), .int .u64 150]]) [.pointer (some p)] = some (.bool false, [a]) := by kernel_rfl
theorem vElem182 (a p : Addr) : evR Tryz.prog (ReflectliteValue.method (ReflectliteValue.valueError "reflectlite.Value.Elem" 0) ReflectliteValue.elem #[.agg #[hnd 182, .pointer (some a), .int .u64 150]]) [.pointer (some p)] = some (.agg #[hnd 180, .pointer (some p), .int .u64 406], [a]) := by kernel_rfl
theorem parts180a (p : Addr) : evR Tryz.prog (ReflectliteValue.parts (.agg #[hnd 180, .pointer (some p), .int .u64 406])) [] = some (some (180, p, 406), []) := by kernel_rfl
theorem parts180 (p : Addr) : evR Tryz.prog (ReflectliteValue.parts (.agg #[hnd 180, .pointer (some p), .int .u64 150])) [] = some (some (180, p, 150), []) := by kernel_rfl
theorem comparable255 : evR Tryz.prog (ReflectliteType.method (fun t => do noPackHeld "Comparable" t; pure (.bool (← typeInfo t).comparable)) #[.agg #[hnd 255]]) [] = some (.bool true, []) := by kernel_rfl
theorem mKind (h : Value) : evR Tryz.prog (Go.method (Tryz.prog.types.size + Made.depth) 216 (.agg #[h]) "Kind") [] = some ((189, h), []) := by kernel_rfl
theorem mElem (h : Value) : evR Tryz.prog (Go.method (Tryz.prog.types.size + Made.depth) 216 (.agg #[h]) "Elem") [] = some ((200, .agg #[h]), []) := by kernel_rfl
theorem mImplements (h : Value) : evR Tryz.prog (Go.method (Tryz.prog.types.size + Made.depth) 216 (.agg #[h]) "Implements") [] = some ((201, .agg #[h]), []) := by kernel_rfl
theorem mAssignable (h : Value) : evR Tryz.prog (Go.method (Tryz.prog.types.size + Made.depth) 216 (.agg #[h]) "AssignableTo") [] = some ((198, .agg #[h]), []) := by kernel_rfl
theorem mComparable (h : Value) : evR Tryz.prog (Go.method (Tryz.prog.types.size + Made.depth) 216 (.agg #[h]) "Comparable") [] = some ((199, .agg #[h]), []) := by kernel_rfl
section
variable {N : Nat} {ε : Env} {L : Frag} {d : Option Tmp} {ty : TypeId} {ps : String} {af : Array Edge} {g : Option (Nat × Bool)} {x : Operand} {w : Value}
theorem la221 (hx : ev ε x = some (.iface 255 w) := by rfl) : EY Tryz.prog N ε L ⟨d, .typeAssert x 168 221 true, ty, ps, af, g⟩ (.tuple #[.nilIface, .bool false]) := E_tl (z := .nilIface) Tryz.underlying221 (by kernel_rfl) (by kernel_rfl) hx
theorem la224 (hx : ev ε x = some (.iface 255 w) := by rfl) : EY Tryz.prog N ε L ⟨d, .typeAssert x 168 224 true, ty, ps, af, g⟩ (.tuple #[.nilIface, .bool false]) := E_tl (z := .nilIface) Tryz.underlying224 (by kernel_rfl) (by kernel_rfl) hx
theorem la226 (hx : ev ε x = some (.iface 255 w) := by rfl) : EY Tryz.prog N ε L ⟨d, .typeAssert x 168 226 true, ty, ps, af, g⟩ (.tuple #[.nilIface, .bool false]) := E_tl (z := .nilIface) Tryz.underlying226 (by kernel_rfl) (by kernel_rfl) hx
theorem la240 (hx : ev ε x = some (.iface 255 w) := by rfl) : EY Tryz.prog N ε L ⟨d, .typeAssert x 168 240 true, ty, ps, af, g⟩ (.tuple #[.nilIface, .bool false]) := E_tl (z := .nilIface) Tryz.underlying240 (by kernel_rfl) (by kernel_rfl) hx
theorem lb240 (hx : ev ε x = some (.iface 180 w) := by rfl) : EY Tryz.prog N ε L ⟨d, .typeAssert x 168 240 true, ty, ps, af, g⟩ (.tuple #[.nilIface, .bool false]) := E_tl (z := .nilIface) Tryz.underlying240 (by kernel_rfl) (by kernel_rfl) hx
end
theorem tb224 (v : Value) : evR Tryz.prog (Instr.typeAssert (.iface 180 v) 168 224 true) [] = some (.tuple #[.iface 180 v, .bool true], []) := by kernel_rfl
theorem eq_180_255 (v w : Value) : evR Tryz.prog (Op.equal 168 (.iface 180 v) (.iface 255 w)) [] = some (false, []) := by kernel_rfl
end Go.Proofs.YtejkelcaljmnoaaGreatDoor
namespace Go.Proofs.YtejkelcaljmnoaaGreatDoor
open Go.Conc Go.Hx Go.Lo
theorem mixed : Tryz.prog.follows .mixedOrders = true := by first | rfl | kernel_rfl
def put {α : Type} (f : Nat → α) (i : Nat) (v : α) : Nat → α := fun j => if j = i then v else f j
structure PS where
 id : Nat
 par : Nat
 st : Nat
 stat : Int
 at_ : Nat
 lv : Nat
 used : Nat
 r : Nat → Int
 m : Nat → Int
 f : Nat → Nat × Nat
 til : Int
def pcells (x : PS) : Array Value := List.toArray
 ((.int .i64 x.id :: .int .i64 x.par :: .int .i64 x.st :: .int .i64 x.stat :: .int .i64 x.at_ :: .int .i64 x.lv :: .int .i64 x.used :: ((List.range 8).map (fun i => .int .u16 (x.r i)) ++ ((List.range 64).map (fun i => .int .u8 (x.m i)) ++
   ((List.range 6).flatMap (fun i => [.int .i64 (x.f i).1, .int .i64 (x.f i).2]) ++ [.int .i64 x.til])))) : List Value)
structure KS where
 sl : Nat → Int
 bo : Int
 prog : Value
 procs : Value
 last : Nat
 row : Nat → Value
 by_ : Nat → Value
 wt : Value
 now : Int
def kcells (k : KS) : Array Value :=
 List.toArray ([.int .i64 (k.sl 0), .int .i64 (k.sl 1), .int .i64 (k.sl 2), .int .i64 k.bo, k.prog, k.procs, .int .i64 k.last, k.row 0, k.row 1, k.row 2, k.by_ 0, k.by_ 1, k.by_ 2, k.by_ 3, k.by_ 4, k.wt, .int .i64 k.now] : List Value)
abbrev pb (b : Nat) (x : PS) : Nat × Bool × Obj := (b, true, .cells (pcells x) 99)
abbrev kb (b : Nat) (k : KS) : Nat × Bool × Obj := (b, true, .cells (kcells k) 115)
abbrev ptr (b : Nat) : Value := .pointer (some ⟨b, 0, none⟩)
section
variable (x : PS)
theorem pset_at (v : Nat) : (pcells x).setIfInBounds 4 (.int .i64 v) = pcells { x with at_ := v } := rfl
theorem pset_used (v : Nat) : (pcells x).setIfInBounds 6 (.int .i64 v) = pcells { x with used := v } := rfl
theorem pset_id (v : Nat) : (pcells x).setIfInBounds 0 (.int .i64 v) = pcells { x with id := v } := rfl
theorem psize : (pcells x).size = 92 := rfl
end
theorem ksize (k : KS) : (kcells k).size = 17 := rfl
end Go.Proofs.YtejkelcaljmnoaaGreatDoor
