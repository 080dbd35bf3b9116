/-
  Part 3 of the proof.
  No condition but those that each statement names.
-/
import Derived.Test.YtejkelcaljmnoaaGreatDoorHy02
import Derived.Laws.Externs
import Derived.Stop.Asserts
import Derived.Test.YtejkelcaljmnoaaGreatDoorChecked
import Derived.Test.YtejkelcaljmnoaaGreatDoorHy01
import Derived.Laws.StructEq
set_option maxRecDepth 100000
set_option maxHeartbeats 4000000
set_option linter.unusedVariables false
set_option linter.unusedSimpArgs false
set_option linter.unusedSectionVars false
namespace Go.Lo
open Go.Conc Go.Hx
def cutAt (o l m sz : Nat) : Nat := if m = l then o else o + l * sz
section
variable {P : Program} {L : Frag} {K : (Nat × Nat × Nat) → Prop}
theorem cG {k : IntKind} {i : Int} {y : Nat} {c : BoundsCode} {K : Nat → Prop} (h0 : 0 ≤ i) (h1 : i ≤ y) (h : K i.toNat) : wpQ P (Instr.sliceBound (.int k i) y c) K L := by
 unfold Instr.sliceBound;simp only [asIntOf, ar, bG, h0, h1, and_self, if_true];exact h
end
section
variable {P : Program} {N : Nat} {ε : Env} {L : Frag} {d : Option Tmp} {ty : TypeId} {ps : String} {af : Array Edge} {g : Option (Nat × Bool)} {t e : TypeId} {x y z u : Operand} {b o sz len cap : Nat} {k1 k2 k3 : IntKind} {l h m : Int}
theorem ir {v lo hi mx : Option Value} {l h m : Nat} {a : Value} (ha : a = .slice (some ⟨b, o, none⟩) len cap) (hu : P.underlying t = some (.slice e)) (hs : sizeAt P e = some sz) (hb : ∀ (K : Nat × Nat × Nat → Prop), K (l, h, m) → wpQ P (Instr.sliceBounds true len cap lo hi mx) K L) (K : Value → Prop)
   (hK : K (.slice (some ⟨b, cutAt o l m sz, none⟩) (h - l) (m - l))) : wpQ P (Instr.sliceAt t a lo hi mx) K L := by
 unfold Instr.sliceAt;rw [ar, aH hu];show wpQ P (Instr.slice t a lo hi mx) K L;unfold Instr.slice;rw [ar, aH hu, ha];show wpQ P (Instr.sliceBounds true len cap lo hi mx >>= _) K L;rw [ar];refine hb _ ?_;show wpQ P (sizeOf e >>= _) K L;rw [ar, cV hs];have e1 : (if m = l then some (⟨b, o, none⟩ : Addr) else (some (⟨b, o, none⟩ : Addr)).map (·.add (l * sz))) = some ⟨b, cutAt o l m sz, none⟩ := by
   unfold cutAt
   split
   · rfl
   · simp [dv]
 show K (.slice (if m = l then some (⟨b, o, none⟩ : Addr) else (some (⟨b, o, none⟩ : Addr)).map (·.add (l * sz))) (h - l) (m - l));rw [e1]; exact hK
theorem tK (hu : P.underlying t = some (.slice e)) (hs : sizeAt P e = some sz) (hx : ev ε x = some (.slice (some ⟨b, o, none⟩) len cap) := by rfl) (hy : ev ε y = some (.int k1 h) := by rfl) (h0 : 0 ≤ h := by first | decide | omega) (h1 : h ≤ cap := by first | decide | omega) :
   EY P N ε L ⟨d, .slice t x none (some y) none, ty, ps, af, g⟩ (.slice (some ⟨b, cutAt o 0 cap sz, none⟩) (h.toNat - 0) (cap - 0)) := fun _ ha => by
 refine cR (fun _ => rfl) fun K hK => ?_;refine ir (v := none) (ha.ev hx) hu hs (l := 0) (fun K hK => ?_) K hK;simp only [Option.map_some, Option.map_none, ha.ev hy, Instr.sliceBounds];simp only [ar, bG];exact cG h0 h1 hK
theorem tL (hu : P.underlying t = some (.slice e)) (hs : sizeAt P e = some sz) (hx : ev ε x = some (.slice (some ⟨b, o, none⟩) len cap) := by rfl) (hy : ev ε y = some (.int k1 l) := by rfl) (h0 : 0 ≤ l := by first | decide | omega) (h1 : l ≤ len := by first | decide | omega) :
   EY P N ε L ⟨d, .slice t x (some y) none none, ty, ps, af, g⟩ (.slice (some ⟨b, cutAt o l.toNat cap sz, none⟩) (len - l.toNat) (cap - l.toNat)) := fun _ ha => by
 refine cR (fun _ => rfl) fun K hK => ?_;refine ir (v := none) (ha.ev hx) hu hs (h := len) (fun K hK => ?_) K hK;simp only [Option.map_some, Option.map_none, ha.ev hy, Instr.sliceBounds];simp only [ar, bG];exact cG h0 h1 hK
theorem tM (hu : P.underlying t = some (.slice e)) (hs : sizeAt P e = some sz) (hx : ev ε x = some (.slice (some ⟨b, o, none⟩) len cap) := by rfl) (hy : ev ε y = some (.int k1 l) := by rfl) (hz : ev ε z = some (.int k2 h) := by rfl) (h0 : 0 ≤ l := by first | decide | omega) (h1 : l ≤ h := by first | decide | omega) (h2 : h ≤ cap := by first | decide | omega) :
   EY P N ε L ⟨d, .slice t x (some y) (some z) none, ty, ps, af, g⟩ (.slice (some ⟨b, cutAt o l.toNat cap sz, none⟩) (h.toNat - l.toNat) (cap - l.toNat)) := fun _ ha => by
 refine cR (fun _ => rfl) fun K hK => ?_;refine ir (v := none) (ha.ev hx) hu hs (fun K hK => ?_) K hK;simp only [Option.map_some, Option.map_none, ha.ev hy, ha.ev hz, Instr.sliceBounds];simp only [ar, bG];refine cG (by omega) h2 ?_;exact cG h0 (by omega) hK
theorem tN (hu : P.underlying t = some (.slice e)) (hs : sizeAt P e = some sz) (hx : ev ε x = some (.slice (some ⟨b, o, none⟩) len cap) := by rfl) (hy : ev ε y = some (.int k1 l) := by rfl) (hz : ev ε z = some (.int k2 h) := by rfl) (hw : ev ε u = some (.int k3 m) := by rfl) (h0 : 0 ≤ l := by first | decide | omega) (h1 : l ≤ h := by first | decide | omega) (h2 : h ≤ m := by first | decide | omega) (h3 : m ≤ cap := by first | decide | omega) :
   EY P N ε L ⟨d, .slice t x (some y) (some z) (some u), ty, ps, af, g⟩ (.slice (some ⟨b, cutAt o l.toNat m.toNat sz, none⟩) (h.toNat - l.toNat) (m.toNat - l.toNat)) := fun _ ha => by
 refine cR (fun _ => rfl) fun K hK => ?_;refine ir (v := none) (ha.ev hx) hu hs (fun K hK => ?_) K hK;simp only [Option.map_some, Option.map_none, ha.ev hy, ha.ev hz, ha.ev hw, Instr.sliceBounds];simp only [ar, bG, if_true, Option.isSome_some];refine cG (by omega) h3 ?_;refine cG (by omega) (by omega) ?_;exact cG h0 (by omega) hK
end
section
variable {P : Program} {L : Frag} {sz n b o len cap : Nat} {fl : Bool} {cs : Array Value} {e : TypeId} {fr : Nat × Nat}
theorem cB (hm : (b, fl, .cells cs e fr) ∈ L) (h : o + n * sz ≤ cs.size) : Reads P L sz n (.slice (some ⟨b, o, none⟩) len cap) (cs.extract o (o + n * sz)) := ⟨fun _ _ hQ => kY hm h hQ⟩
end
theorem co : ∀ (vs l : List Value) (o : Nat), o + vs.length ≤ l.length → puts l.toArray o vs = (l.take o ++ vs ++ l.drop (o + vs.length)).toArray
 | [], l, o, h => by simp [puts]
 | v :: vs, l, o, h => by
   simp only [List.length_cons] at h;rw [puts, List.setIfInBounds_toArray, co vs (l.set o v) (o + 1) (by simp; omega)];congr 1;have h1 : (l.set o v).take (o + 1) = l.take o ++ [v] := by
     rw [List.take_set, List.take_succ_eq_append_getElem (by omega), List.set_append_right _ _ (by simp; omega)];simp [Nat.min_eq_left (show o ≤ l.length by omega)]
   have h2 : (l.set o v).drop (o + 1 + vs.length) = l.drop (o + (v :: vs).length) := by
     rw [List.drop_set_of_lt (by omega)];simp only [List.length_cons];congr 1; omega
   rw [h1, h2];simp
section
variable {P : Program} {New : Obj → Prop} {N : Nat} {ε : Env} {L : Frag} {d : Option Tmp} {ty : TypeId} {ps : String} {af : Array Edge} {g : Option (Nat × Bool)} {t u e e2 : TypeId} {x y : Operand}
theorem jY {sz sLen sCap b o n : Nat} {yb : Option Addr} {yc : Nat} {vs cs : Array Value} {e' : TypeId} (hx : ev ε x = some (.slice (some ⟨b, o, none⟩) sLen sCap) := by rfl) (hy : ev ε y = some (.slice yb n yc) := by rfl) (hnd : (L.map (·.1)).Nodup) (hu : P.underlying t = some (.slice e)) (hv : P.underlying u = some (.slice e2)) (hs : sizeAt P e = some sz) (hr : Reads P L sz n (.slice yb n yc) vs) (hc : sLen + n ≤ sCap) (hm : (b, true, .cells cs e') ∈ L) (ho : o + sLen * sz + vs.size ≤ cs.size) (hp : vs.toList.all plainV = true)
     :
   EO P New N ε L ⟨d, .call ⟨.builtin .append, #[x, y], #[t, u]⟩, ty, ps, af, g⟩ (fun r L' => r = .slice (some ⟨b, o, none⟩) (sLen + n) sCap ∧ Upd L b (.cells (puts cs (o + sLen * sz) vs.toList) e') L') := by
 intro a ha;obtain ⟨m, hm'⟩ := List.getElem?_of_mem hm;exact o0 (ha.ev hx) (ha.ev hy) hu hv hs hr hc hm' ho hp ⟨rfl, cS hnd hm'⟩
theorem lq {sz by_ sLen sCap n : Nat} {xb yb : Option Addr} {yc : Nat} {ws vs : Array Value} {z : Value} (hx : ev ε x = some (.slice xb sLen sCap) := by rfl) (hy : ev ε y = some (.slice yb n yc) := by rfl) (hF : Fun L) (hu : P.underlying t = some (.slice e)) (hv : P.underlying u = some (.slice e2)) (hs : sizeAt P e = some sz) (hb : bytesAt P e = some (by_ + 1)) (hz0 : zeroAt P e = some z) (hw : Reads P L sz sLen (.slice xb sLen sCap) ws) (hr : Reads P L sz n (.slice yb n yc) vs) (hc : sCap < sLen + n) (hbig : (2 * (sLen + n) + 192) * (by_ + 1) ≤ 281474976710656) (hN : ∀ cs, New (.cells cs e))
     :
   EO P New N ε L ⟨d, .call ⟨.builtin .append, #[x, y], #[t, u]⟩, ty, ps, af, g⟩ (fun r L' => ∃ b cap, sLen + n ≤ cap ∧ cap < 9223372036854775808 ∧ r = .slice (some ⟨b, 0, none⟩) (sLen + n) cap ∧ Add L b (.cells (ws ++ vs ++ Builtin.zeroCells z.cells (cap - (sLen + n))) e) L') := by
 intro a ha;exact ni (ha.ev hx) (ha.ev hy) hu hv hs hb hz0 hw hr hc hbig hN fun b cap hb h1 h2 => ⟨b, cap, h1, h2, rfl, dx hF hb⟩
theorem tO {b o n cap : Nat} {cs : Array Value} {e' : TypeId} {z : Value} (hx : ev ε x = some (.slice (some ⟨b, o, none⟩) n cap) := by rfl) (hnd : (L.map (·.1)).Nodup) (hu : P.underlying t = some (.slice e)) (hz0 : zeroAt P e = some z) (hzp : plainV z = true) (hm : (b, true, .cells cs e') ∈ L) (ho : o + n ≤ cs.size)  :
   EO P New N ε L ⟨d, .call ⟨.builtin .clear, #[x], #[t]⟩, ty, ps, af, g⟩ (fun r L' => r = .tuple #[] ∧ Upd L b (.cells (puts cs o (List.replicate n z)) e') L') := by
 intro a ha;obtain ⟨m, hm'⟩ := List.getElem?_of_mem hm;refine cP (s := Builtin.clear_ #[t] ty #[.slice (some ⟨b, o, none⟩) n cap]) (fun _ => by simp [builtin, ha.ev hx]) ?_;unfold Builtin.clear_;simp only [List.getElem?_toArray, List.getElem?_cons_zero];rw [aj, aN hu];cases n with
 | zero =>
   simp only [aj, bm, List.replicate_zero, puts];refine ⟨trivial, ?_⟩;have := cS (o' := .cells cs e') hnd hm';have e0 : L.set m (b, true, .cells cs e') = L := by
     apply List.ext_getElem?;intro j;rw [List.getElem?_set]
     split
     · rename_i e; subst e; obtain ⟨hl, he⟩ := List.getElem?_eq_some_iff.1 hm'; simp [hl, he]
     · rfl
   rw [e0] at this;exact this
 | succ n =>
   have hzc : (Builtin.zeroCells z.cells (n + 1)).toList = List.replicate (n + 1) z := by
     rw [bv hzp];unfold Builtin.zeroCells;apply List.ext_getElem
     · simp
     · intro i h1 h2;simp [Nat.mod_one]
   simp only [aj, cv hz0, hzc];refine cC hm' (by simpa using ho) (by simp [hzp]) ?_;exact ⟨rfl, cS hnd hm'⟩
end
section
variable {σ : Type} {F : Fam σ} {Δ : ∀ s, Dom (F.R s) (F.D s)} {P : Program} {main : Bool} {fn : FuncId} {N : Nat} {Q : σ → Exit → Env → Frag → Prop} {s : σ} {ε : Env} {L : Frag}
theorem dZ {x y : Code} {n₁ n₂ : Nat} (M : σ → Env → Frag → Prop) (h1 : wpE Δ P main fn N x n₁ s (thenE M Q) ε L) (h2 : ∀ s' ε' L', M s' ε' L' → wpE Δ P main fn N y n₂ s' Q ε' L') : wpE Δ P main fn N (.seq x y) (n₁ + n₂ + 1) s Q ε L :=
 aq (nq h1 fun s' e ε' L' q => by
   cases e with
   | normal => exact h2 _ _ _ q
   | _ => exact q)
end
section
variable {P : Program} {New : Obj → Prop} {L : Frag}
theorem nw {f : FuncId} {fn : Func} {e : Array Value → Sem Value} {args : Array Value} {Q : Next → Frag → Prop} (hf : P.funcs[f]? = some fn) (hname : (fn.name == "runtime.NumGoroutine") = false) (hb : fn.body.isNone = true) (hn : Extern.findNext fn = none) (he : Extern.find fn = some e)
   (h : wpS P New (e args) (fun v L' => Q (.value v) L') L) : wpS P New (callFunc f args) Q L := by
 have h1 : fn.name ≠ "runtime.NumGoroutine" := by simpa using hname
 have h2 : fn.body = none := by simpa using hb
 show wpS P New (match P.funcs[f]? with | none => _ | some fn => _) Q L;rw [hf];simp only [beq_iff_eq, h1, if_false, h2, Option.isNone_none, if_true];rw [aj];refine ⟨rfl, ?_⟩;simp only [hn, he];rw [iV, aj];exact h
theorem jl {f : FuncId} {fn : Func} {e : Array Value → Sem Value} {args : Array Value} {K : Next → Prop} (hf : P.funcs[f]? = some fn) (hname : (fn.name == "runtime.NumGoroutine") = false) (hb : fn.body.isNone = true) (hn : Extern.findNext fn = none) (he : Extern.find fn = some e)
   (h : wpQ P (e args) (fun v => K (.value v)) L) : wpQ P (callFunc f args) K L := by
 have h1 : fn.name ≠ "runtime.NumGoroutine" := by simpa using hname
 have h2 : fn.body = none := by simpa using hb
 show wpQ P (match P.funcs[f]? with | none => _ | some fn => _) K L;rw [hf];simp only [beq_iff_eq, h1, if_false, h2, Option.isNone_none, if_true];rw [ar];refine ⟨rfl, ?_⟩;simp only [hn, he];show wpQ P (e args >>= _) K L;rw [ar];exact h
theorem iu {f : FuncId} {fn : Func} {args : Array Value} {K : Next → Prop} (hf : P.funcs[f]? = some fn) (hname : (fn.name == "runtime.NumGoroutine") = false) (hb : fn.body.isNone = false) (h : K (.enter f args)) : wpQ P (callFunc f args) K L := by
 have h1 : fn.name ≠ "runtime.NumGoroutine" := by simpa using hname
 show wpQ P (match P.funcs[f]? with | none => _ | some fn => _) K L;rw [hf];simp only [beq_iff_eq, h1, if_false, hb, Bool.false_eq_true];exact h
end
theorem eD {N : Nat} {ε : Env} {a : Act} (hf : Fits N ε a) : ∀ (l : List Operand) (vs : List Value), l.map (ev ε) = vs.map some → l.map a.eval = vs := by
 intro l
 induction l with
 | nil => intro vs h; cases vs <;> simp_all
 | cons x l ih =>
   intro vs h;cases vs with
   | nil => simp at h
   | cons v vs =>
     simp only [List.map_cons, List.cons.injEq] at h ⊢;exact ⟨hf.ev h.1, ih vs h.2⟩
section
variable {P : Program} {New : Obj → Prop} {N : Nat} {ε : Env} {L : Frag} {d : Option Tmp} {ty : TypeId} {ps : String} {af : Array Edge} {g : Option (Nat × Bool)} {args : Array Operand} {ats : Array TypeId} {vs : List Value}
theorem jZ {f : FuncId} {fn : Func} {e : Array Value → Sem Value} {v : Value} (ha' : args.toList.map (ev ε) = vs.map some := by rfl) (hf : P.funcs[f]? = some fn) (he : Extern.find fn = some e) (hv : wpQ P (e vs.toArray) (· = v) L) (hname : (fn.name == "runtime.NumGoroutine") = false := by rfl) (hb : fn.body.isNone = true := by rfl) (hn : Extern.findNext fn = none := by kernel_rfl) :
   EY P N ε L ⟨d, .call ⟨.value (.func f), args, ats⟩, ty, ps, af, g⟩ v := by
 intro a ha;have e1 : args.map a.eval = vs.toArray := by apply Array.ext'; simpa using eD ha _ _ ha'
 show wpQ P (callFunc f ((#[] ++ args.map a.eval) ++ #[])) _ L;rw [e1];simp only [Array.empty_append, Array.append_empty];exact jl hf hname hb hn he (da (fun _ h => by rw [h]) (fun _ h => h) _ hv)
theorem tP {f : FuncId} {fn : Func} {e : Array Value → Sem Value} {post : Value → Frag → Prop} (ha' : args.toList.map (ev ε) = vs.map some := by rfl) (hf : P.funcs[f]? = some fn) (he : Extern.find fn = some e) (hv : wpS P New (e vs.toArray) post L) (hname : (fn.name == "runtime.NumGoroutine") = false := by rfl) (hb : fn.body.isNone = true := by rfl) (hn : Extern.findNext fn = none := by kernel_rfl) :
   EO P New N ε L ⟨d, .call ⟨.value (.func f), args, ats⟩, ty, ps, af, g⟩ post := by
 intro a ha;have e1 : args.map a.eval = vs.toArray := by apply Array.ext'; simpa using eD ha _ _ ha'
 show wpS P New (callFunc f ((#[] ++ args.map a.eval) ++ #[])) _ L;rw [e1];simp only [Array.empty_append, Array.append_empty];exact nw hf hname hb hn he hv
theorem j0 {x : Operand} {t : TypeId} {rv rc : Value} {nm : String} {f : FuncId} {fn : Func} {e : Array Value → Sem Value} {v : Value} (hx : ev ε x = some (.iface t rv) := by rfl) (ha' : args.toList.map (ev ε) = vs.map some := by rfl) (hm : wpQ P (method (P.types.size + Made.depth) t rv nm) (· = (f, rc)) L) (hf : P.funcs[f]? = some fn) (he : Extern.find fn = some e) (hv : wpQ P (e (rc :: vs).toArray) (· = v) L) (hname : (fn.name == "runtime.NumGoroutine") = false := by rfl) (hb : fn.body.isNone = true := by rfl) (hn : Extern.findNext fn = none := by kernel_rfl) :
   EY P N ε L ⟨d, .call ⟨.invoke x nm, args, ats⟩, ty, ps, af, g⟩ v := by
 intro a ha;have e1 : args.map a.eval = vs.toArray := by apply Array.ext'; simpa using eD ha _ _ ha'
 show wpQ P (invoke (.fn (.method nm) #[]) (#[a.eval x] ++ args.map a.eval)) _ L;rw [e1, ha.ev hx];unfold invoke;have e2 : (#[Value.iface t rv] ++ vs.toArray)[0]? = some (.iface t rv) := by simp
 have e3 : (#[Value.iface t rv] ++ vs.toArray).extract 1 (#[Value.iface t rv] ++ vs.toArray).size = vs.toArray := by apply Array.ext'; simp
 simp only [e2, e3];show wpQ P (method (P.types.size + Made.depth) t rv nm >>= fun (p : FuncId × Value) => callFunc p.1 (#[p.2] ++ vs.toArray)) _ L;rw [ar];refine da ?_ (fun _ h => h) _ hm;rintro _ rfl;have e4 : #[rc] ++ vs.toArray = (rc :: vs).toArray := by apply Array.ext'; simp
 simp only [e4];exact jl hf hname hb hn he (da (fun _ h => by rw [h]) (fun _ h => h) _ hv)
end
section
variable {σ : Type} {F : Fam σ} {Δ : ∀ s, Dom (F.R s) (F.D s)} {P : Program} {main : Bool} {fn : FuncId} {s : σ} {a : Act} {L : Frag}
theorem ny {Q : σ → Exit → Act → Frag → Prop} {ops : Array Oper} {i : Nat} {rest : List Nat} {o : Oper} {f : FuncId} {vals : Array Value} {nf n : Nat} {Post : σ → Value → Frag → Prop}
   (ho : ops[i]? = some o) (hw : Region.wanted o (yielded ops a.tmps) = true) (hE : wpQ P (execOp a.eval o) (· = .enter f vals) L) (hcall : CallsL Δ P main f vals nf s L Post) (hnext : ∀ s' v L', Post s' v L' → OpsL Δ P main fn ops rest n s' Q (a.put o.dst v) L') : OpsL Δ P main fn ops (i :: rest) (n + nf + 3) s Q a L := by
 intro w hO b k cs m hb hk hc;obtain ⟨g, c, hf, hname, hbody, hwp⟩ := hcall w hO;have hfin : ∀ v, (b.at a (.inRegion ops (i :: rest) :: k)).finish v = b.at (a.put o.dst v) (.inRegion ops rest :: k) := fun v => by rw [Frame.finish_at, ho]; rfl
 have hleave : ∀ (s' : σ) (a' : Act) (w' : World) (todo : List Item), (a'.defers = [] ∧ ∃ v, ResultsC P g a'.tmps v ∧ upV Δ Post s' v w') →
     Goes P main (F.R s') (F.D s') (F.Stop s') (m + n + 1) (G { (base f).at a' todo with mode := .returning } (b.at a (.inRegion ops (i :: rest) :: k) :: cs)) w' := by
   rintro s' a' w' todo ⟨hd, v, hr, L', hL, hp⟩;refine Goes.step rfl fun w₁ h₁ => ?_;rw [stepG_leave (b := base f) rfl hd hf (hr w₁).1 (hr w₁).2, hfin];exact ⟨(F.terms s').idle _, (hnext s' v L' hp w' hL b k cs m hb hk hc).rely (F.terms s').trans h₁⟩
 have hbodyG : Goes P main (F.R s) (F.D s) (F.Stop s) (m + n + 2 + nf) (G ((base f).at { tmps := vals ++ Array.replicate (g.ntmps - vals.size) undef, defers := [] } [.code c]) (b.at a (.inRegion ops (i :: rest) :: k) :: cs)) w := by
   refine hwp (base f) [] _ (m + n + 2) rfl (by simp [base]) fun s' e a' w' q => ?_;cases e with
   | normal => exact Goes.step rfl fun w₁ h₁ => by rw [stepG_end]; exact ⟨(F.terms s').idle _, (hleave s' a' w' [] q).rely (F.terms s').trans h₁⟩
   | ret => exact fun todo => (hleave s' a' w' todo q).more
   | exit id => exact q.elim
   | goto l => exact q.elim
   | panic ch => exact q.elim
   | outgrown => exact q.elim
 have e : m + (n + nf + 3) = (m + n + 2 + nf) + 1 := by omega
 rw [e];refine Goes.step rfl fun w₁ h₁ => ?_;obtain ⟨q1, q2⟩ := lX (Δ s) ((Δ s).rely hO h₁) hE;rw [stepG_enter ho hw hk q1, enter_at _ hf hbody];exact ⟨(Δ s).dd ((Δ s).gr w₁) fun e he => q2 e (by rw [hb] at he; exact mem_listed he), hbodyG.rely (F.terms s).trans h₁⟩
end
section
variable {σ : Type} {F : Fam σ} {Δ : ∀ s, Dom (F.R s) (F.D s)} {P : Program} {main : Bool} {fn : FuncId} {N : Nat} {Q : σ → Exit → Env → Frag → Prop} {s : σ} {ε : Env} {L : Frag} {d : Option Tmp} {ps : String} {af : Array Edge} {g : Option (Nat × Bool)} {ot : TypeId} {args : Array Operand} {ats : Array TypeId} {vs : List Value}
theorem ov {ops : Array Oper} {i : Nat} {rest : List Nat} {x : Operand} {f : FuncId} {gf : Func} {c1 c2 : List Value} {nf n : Nat} {Post : σ → Value → Frag → Prop} (ho : ops[i]? = some ⟨d, .call ⟨.value x, args, ats⟩, ot, ps, af, g⟩) (hx : ev ε x = some (.func (.func f) c1.toArray c2.toArray) := by rfl) (ha' : args.toList.map (ev ε) = vs.map some := by rfl)
   (hf : P.funcs[f]? = some gf) (hname : (gf.name == "runtime.NumGoroutine") = false := by rfl) (hb : gf.body.isNone = false := by rfl) (hcall : CallsL Δ P main f (c1 ++ vs ++ c2).toArray nf s L Post) (hw : wantedE ops N ε g = some true := by rfl) (hd : dstOk N d = true := by rfl)
   (h : ∀ s' v L', Post s' v L' → OpsE Δ P main fn N ops rest n s' Q (putE d v ε) L') : OpsE Δ P main fn N ops (i :: rest) (n + nf + 3) s Q ε L := by
 intro a ha;have e1 : args.map a.eval = vs.toArray := by apply Array.ext'; simpa using eD ha _ _ ha'
 refine ny ho (ha.wanted hw) ?_ hcall fun s' v L' hp => h s' v L' hp _ (ha.put hd v);show wpQ P (resolve a.eval ⟨.value x, args, ats⟩ ot >>= fun d => invoke d.target d.args) _ L;unfold resolve;simp only [e1, ha.ev hx];show wpQ P (callFunc f ((c1.toArray ++ vs.toArray) ++ c2.toArray)) _ L;have e4 : (c1.toArray ++ vs.toArray) ++ c2.toArray = (c1 ++ vs ++ c2).toArray := by apply Array.ext'; simp
 rw [e4];exact iu hf hname hb rfl
theorem oi {ops : Array Oper} {i : Nat} {rest : List Nat} {x : Operand} {t : TypeId} {rv rc : Value} {nm : String} {f : FuncId} {gf : Func} {nf n : Nat} {Post : σ → Value → Frag → Prop} (ho : ops[i]? = some ⟨d, .call ⟨.invoke x nm, args, ats⟩, ot, ps, af, g⟩) (hx : ev ε x = some (.iface t rv) := by rfl) (ha' : args.toList.map (ev ε) = vs.map some := by rfl)
   (hm : wpQ P (method (P.types.size + Made.depth) t rv nm) (· = (f, rc)) L) (hf : P.funcs[f]? = some gf) (hname : (gf.name == "runtime.NumGoroutine") = false := by rfl) (hb : gf.body.isNone = false := by rfl) (hcall : CallsL Δ P main f (rc :: vs).toArray nf s L Post) (hw : wantedE ops N ε g = some true := by rfl) (hd : dstOk N d = true := by rfl)
   (h : ∀ s' v L', Post s' v L' → OpsE Δ P main fn N ops rest n s' Q (putE d v ε) L') : OpsE Δ P main fn N ops (i :: rest) (n + nf + 3) s Q ε L := by
 intro a ha;have e1 : args.map a.eval = vs.toArray := by apply Array.ext'; simpa using eD ha _ _ ha'
 refine ny ho (ha.wanted hw) ?_ hcall fun s' v L' hp => h s' v L' hp _ (ha.put hd v);show wpQ P (invoke (.fn (.method nm) #[]) (#[a.eval x] ++ args.map a.eval)) _ L;rw [e1, ha.ev hx];unfold invoke;have e2 : (#[Value.iface t rv] ++ vs.toArray)[0]? = some (.iface t rv) := by simp
 have e3 : (#[Value.iface t rv] ++ vs.toArray).extract 1 (#[Value.iface t rv] ++ vs.toArray).size = vs.toArray := by apply Array.ext'; simp
 simp only [e2, e3];show wpQ P (method (P.types.size + Made.depth) t rv nm >>= fun (p : FuncId × Value) => callFunc p.1 (#[p.2] ++ vs.toArray)) _ L;rw [ar];refine da ?_ (fun _ h => h) _ hm;rintro _ rfl;have e4 : #[rc] ++ vs.toArray = (rc :: vs).toArray := by apply Array.ext'; simp
 simp only [e4];exact iu hf hname hb rfl
end
def evR {α : Type} (P : Program) : Sem α → List Value → Option (α × List Addr)
 | .pure a, vs => match vs with | [] => some (a, []) | _ :: _ => none
 | .load m a k, vs => match m, vs with | .plain, v :: vs => (evR P (k v) vs).map fun p => (p.1, a :: p.2) | _, _ => none
 | .program k, vs => evR P (k P) vs
 | .mark m k, vs => if okMark m then evR P k vs else none
 | .choose q k, vs => if q.forced then evR P (k 0) vs else none
 | .store .., _ | .new .., _ | .freeze .., _ | .setObj .., _ | .sys .., _ | .halt _, _ | .shape .., _ | .frozen .., _ | .getObj .., _ => none
section
variable {α : Type} {P : Program} {L : Frag}
def Red (L : Frag) : List Addr → List Value → Prop
 | a :: az, v :: vs => a.spot = none ∧ At L a.block a.off v ∧ Red L az vs
 | [], [] => True
 | _, _ => False
theorem qg {K : α → Prop} : ∀ (s : Sem α) (vs : List Value) (r : α) (az : List Addr), evR P s vs = some (r, az) → Red L az vs → K r → wpQ P s K L := by
 intro s
 induction s with
 | pure a =>
   intro vs r az h hr hK;cases vs with
   | nil => simp only [evR, Option.some.injEq, Prod.mk.injEq] at h; obtain ⟨rfl, rfl⟩ := h; exact hK
   | cons v vs => simp [evR] at h
 | load m a k ih =>
   intro vs r az h hr hK;cases m with
   | plain =>
     cases vs with
     | nil => simp [evR] at h
     | cons v vs =>
       simp only [evR, Option.map_eq_some_iff, Prod.mk.injEq] at h;obtain ⟨⟨r', az'⟩, h1, h2, h3⟩ := h;subst h3;obtain ⟨hs, ⟨fl, cs, ty, fr, hm, hv⟩, hr'⟩ := hr;refine ⟨rfl, fl, _, v, hm, ?_, ih _ _ _ _ h1 hr' (by rw [show r' = r from h2]; exact hK)⟩;obtain ⟨b, i, sp⟩ := a;obtain rfl : sp = none := hs;exact hv
   | _ => simp [evR] at h
 | program k ih => exact fun vs r az h hr hK => ih _ vs r az h hr hK
 | mark m k ih =>
   intro vs r az h hr hK;simp only [evR] at h
   split at h
   · rename_i h1; exact ⟨h1, ih vs r az h hr hK⟩
   · simp at h
 | choose q k ih =>
   intro vs r az h hr hK;simp only [evR] at h
   split at h
   · rename_i h1; exact ⟨h1, ih _ vs r az h hr hK⟩
   · simp at h
 | _ => intro vs r az h; simp [evR] at h
theorem bj {K : α → Prop} {s : Sem α} {r : α} (h : evR P s [] = some (r, [])) (hK : K r) : wpQ P s K L := qg s [] r [] h trivial hK
theorem mb {K : α → Prop} {s : Sem α} {r : α} {v : Value} {b i : Nat} (h : evR P s [v] = some (r, [⟨b, i, none⟩])) (hv : At L b i v) (hK : K r) : wpQ P s K L := qg s _ r _ h ⟨rfl, hv, trivial⟩ hK
end
section
variable {P : Program} {New : Obj → Prop} {N : Nat} {ε : Env} {L : Frag} {d : Option Tmp} {ty : TypeId} {ps : String} {af : Array Edge} {g : Option (Nat × Bool)}
theorem By {x : Operand} {xt t : TypeId} {ok : Bool} {w v : Value} (hv : evR P (Instr.typeAssert w xt t ok) [] = some (v, [])) (hx : ev ε x = some w := by rfl) : EY P N ε L ⟨d, .typeAssert x xt t ok, ty, ps, af, g⟩ v := fun a ha => by
 refine cR (fun _ => rfl) fun K hK => ?_;rw [ha.ev hx];exact bj hv hK
theorem tQ {x : Operand} {xt t s : TypeId} {w z : Value} {want : Array (String × TypeId)} (hu : P.underlying t = some (.interface want)) (h : (P.info? s).map (fun i => (Go.lacking want i.methods).isEmpty) = some false) (hz : (P.info? t).map (·.zero) = some (some z)) (hx : ev ε x = some (.iface s w) := by rfl) : EY P N ε L ⟨d, .typeAssert x xt t true, ty, ps, af, g⟩ (.tuple #[z, .bool false]) := fun a ha => by
 refine cR (fun _ => rfl) fun K hK => ?_;rw [ha.ev hx];obtain ⟨i, hi, hl⟩ := Option.map_eq_some_iff.1 h;obtain ⟨j, hj, hz'⟩ := Option.map_eq_some_iff.1 hz;obtain ⟨m, hm⟩ := Go.missingMethod_some (want := want) (got := i.methods) (fun e => by rw [e] at hl; cases hl);unfold Instr.typeAssert;rw [ar, aH hu];show wpQ P (do match Instr.missingMethod want (← typeInfo s).methods with | none => _ | some m => _) K L;have e1 : wpQ P (typeInfo s) (fun a => a = i) L := by
   unfold typeInfo;rw [ar];show wpQ P (match P.info? s with | some i => _ | none => _) _ L;rw [hi]; exact rfl
 have e2 : wpQ P (zeroValue t) (fun a => a = z) L := by
   unfold zeroValue typeInfo;rw [ar, ar];show wpQ P (match P.info? t with | some i => _ | none => _) _ L;rw [hj];show wpQ P (match j.zero with | some z => _ | none => _) _ L;have hz2 : j.zero = some z := hz';rw [hz2];exact rfl
 rw [ar];refine da ?_ (fun _ h => h) _ e1;rintro _ rfl;simp only [hm];show wpQ P (do pure (.tuple #[← zeroValue t, .bool false])) K L;rw [ar];refine da ?_ (fun _ h => h) _ e2;rintro _ rfl;exact hK
theorem nz {op : BinOp} {t s s' : TypeId} {x y : Operand} {a b : Value} : eqGuard op t x y (.iface s a) (.iface s' b) = pure () := by
 unfold eqGuard;cases op <;> rfl
theorem ye {ρ : Operand → Value} {t u s s' : TypeId} {x y : Operand} {a b : Value} {c : Bool} (hx : ρ x = .iface s a) (hy : ρ y = .iface s' b) (h : ∀ (K : Bool → Prop), K c → wpQ P (Op.equal t (.iface s a) (.iface s' b)) K L) : Yld P L (execOp ρ ⟨d, .binOp .eql t x y u, ty, ps, af, g⟩) (.bool c) := by
 refine cR (fun _ => rfl) fun K hQ => ?_;rw [hx, hy, nz];show wpQ P (do pure (.bool (← Op.equal t (.iface s a) (.iface s' b)))) K L;rw [ar];exact h _ hQ
theorem Al {t u s s' : TypeId} {x y : Operand} {a b : Value} (h : evR P (Op.equal t (.iface s a) (.iface s' b)) [] = some (false, [])) (hx : ev ε x = some (.iface s a) := by rfl) (hy : ev ε y = some (.iface s' b) := by rfl) : EY P N ε L ⟨d, .binOp .eql t x y u, ty, ps, af, g⟩ (.bool false) := fun _ ha =>
 ye (ha.ev hx) (ha.ev hy) fun _ hK => bj h hK
theorem mf {D t e n : TypeId} {b i b' i' : Nat} {cs cs' : Array Value} {ty1 ty1' : TypeId} {fl fl' : Bool} {K : Bool → Prop} (hu : P.underlying t = some (.pointer e)) (hs : sizeAt P e = some (n + 1))
   (h1 : (b, fl, .cells cs ty1) ∈ L) (h2 : (b', fl', .cells cs' ty1') ∈ L) (h : K (decide ((b, i) = (b', i')))) : wpQ P (Op.equalIn (D + 1) t (.pointer (some ⟨b, i, none⟩)) (.pointer (some ⟨b', i', none⟩))) K L := by
 have := jT (K := K) (i := i) (i' := i') hu hs h1 h2 h;rw [dL, Op.equalIn.eq_def, ar, aH hu] at this;rw [Op.equalIn.eq_def, ar, aH hu];exact this
theorem Am {t u s e n : TypeId} {x y : Operand} {b i b' i' : Nat} {cs cs' : Array Value} {ty1 ty1' : TypeId} {fl fl' : Bool} {ms : Array (String × TypeId)} (hx : ev ε x = some (.iface s (.pointer (some ⟨b, i, none⟩))) := by rfl) (hy : ev ε y = some (.iface s (.pointer (some ⟨b', i', none⟩))) := by rfl) (hu : P.underlying t = some (.interface ms)) (hi : (P.info? s).map (·.comparable) = some true) (hp : P.underlying s = some (.pointer e)) (hs : sizeAt P e = some (n + 1))
   (h1 : (b, fl, .cells cs ty1) ∈ L) (h2 : (b', fl', .cells cs' ty1') ∈ L) : EY P N ε L ⟨d, .binOp .eql t x y u, ty, ps, af, g⟩ (.bool (decide ((b, i) = (b', i')))) := fun _ ha =>
 ye (ha.ev hx) (ha.ev hy) fun K hK => by
   obtain ⟨j, hj, hc⟩ := Option.map_eq_some_iff.1 hi;rw [dL, Op.equalIn.eq_def, ar, aH hu];show wpQ P (if s ≠ s then pure false else (do let info ← typeInfo s; if !info.comparable then _ else Op.equalIn 9999 s _ _)) K L;rw [if_neg (by simp), ar];unfold typeInfo;rw [ar];show wpQ P (match P.info? s with | some i => _ | none => _) _ L;rw [hj];show wpQ P (if !j.comparable then _ else _) K L;have hc' : j.comparable = true := hc;rw [hc'];exact mf (D := 9998) hp hs h1 h2 hK
end
section
variable {σ : Type} {F : Fam σ} {Δ : ∀ s, Dom (F.R s) (F.D s)} {P : Program} {main : Bool} {fn : FuncId} {N : Nat} {Q : σ → Exit → Env → Frag → Prop} {s : σ} {ε : Env} {L : Frag}
theorem oeN {ops : Array Oper} {i : Nat} {rest : List Nat} {d : Option Tmp} {k : Op} {ot : TypeId} {ps : String} {af : Array Edge} {g : Option (Nat × Bool)} {n : Nat} {post : Value → Frag → Prop} (ho : ops[i]? = some ⟨d, k, ot, ps, af, g⟩) (hy : (L.map (·.1)).Nodup → EO P (Δ s).New N ε L ⟨d, k, ot, ps, af, g⟩ post) (hw : wantedE ops N ε g = some true := by rfl) (hd : dstOk N d = true := by rfl) (h : ∀ v L', post v L' → OpsE Δ P main fn N ops rest n s Q (putE d v ε) L') : OpsE Δ P main fn N ops (i :: rest) (n + 1) s Q ε L :=
 jA fun hnd => oe ho (hy hnd) hw hd h
end
section
variable {P : Program} {New : Obj → Prop} {N : Nat} {ε : Env} {L : Frag} {d : Option Tmp} {ty : TypeId} {ps : String} {af : Array Edge} {g : Option (Nat × Bool)}
theorem fH {t b i m : Nat} {x y : Operand} {vs : List Value} {cs : Array Value} {e : TypeId} (hx : ev ε x = some (.pointer (some ⟨b, i, none⟩)) := by rfl) (hy : ev ε y = some (.agg vs.toArray) := by rfl) (hp : vs.all plainV = true := by rfl) (hl : vs.length = m := by rfl) (hs : sizeAt P t = some m) (hnd : (L.map (·.1)).Nodup) (hm : (b, true, .cells cs e) ∈ L) (hi : i + vs.length ≤ cs.size) :
   EO P New N ε L ⟨d, .store t x y, ty, ps, af, g⟩ (fun r L'' => r = undef ∧ Upd L b (.cells (puts cs i vs) e) L'') := by
 intro a ha;obtain ⟨n, hn⟩ := List.getElem?_of_mem hm;exact oY (ha.ev hx) (ha.ev hy) hs hl hn hi hp ⟨rfl, cS hnd hn⟩
end
end Go.Lo
namespace Go.Proofs.YtejkelcaljmnoaaGreatDoor
open Go.Lo
theorem U3 : Tryz.prog.underlying 3 = some (.int .i64) := Tryz.underlying3
theorem U5 : Tryz.prog.underlying 5 = some (.int .u8) := Tryz.underlying5
theorem U9 : Tryz.prog.underlying 9 = some (.string) := Tryz.underlying9
theorem U32 : Tryz.prog.underlying 32 = some (.int .u16) := Tryz.underlying32
theorem U38 : Tryz.prog.underlying 38 = some (.slice 51) := Tryz.underlying38
theorem U44 : Tryz.prog.underlying 44 = some (.slice 5) := Tryz.underlying44
theorem U47 : Tryz.prog.underlying 47 = some (.array 8 32) := Tryz.underlying47
theorem U54 : Tryz.prog.underlying 54 = some (.slice 3) := Tryz.underlying54
theorem U91 : Tryz.prog.underlying 91 = some (.slice 93) := Tryz.underlying91
theorem U93 : Tryz.prog.underlying 93 = some (.pointer 99) := Tryz.underlying93
theorem mg : Tryz.prog.underlying 108 = some (.slice 158) := Tryz.underlying108
theorem mh : Tryz.prog.underlying 112 = some (.array 3 91) := Tryz.underlying112
theorem o7 : Tryz.prog.underlying 113 = some (.array 5 44) := Tryz.underlying113
theorem o8 : Tryz.prog.underlying 180 = some (.pointer 210) := Tryz.underlying180
theorem de : sizeAt Tryz.prog 3 = some 1 := by kernel_rfl
theorem aY : aggAt Tryz.prog 3 = some false := by kernel_rfl
theorem eJ : sizeAt Tryz.prog 5 = some 1 := by kernel_rfl
theorem fI : aggAt Tryz.prog 5 = some false := by kernel_rfl
theorem An : sizeAt Tryz.prog 24 = some 3 := by kernel_rfl
theorem Ao : aggAt Tryz.prog 24 = some true := by kernel_rfl
theorem nC : sizeAt Tryz.prog 26 = some 4 := by kernel_rfl
theorem qh : aggAt Tryz.prog 26 = some true := by kernel_rfl
theorem qi : fieldOff Tryz.prog 26 0 = some 0 := by kernel_rfl
theorem gh : fieldOff Tryz.prog 26 1 = some 3 := by kernel_rfl
theorem aZ : sizeAt Tryz.prog 32 = some 1 := by kernel_rfl
theorem cH : aggAt Tryz.prog 32 = some false := by kernel_rfl
theorem gK : sizeAt Tryz.prog 44 = some 1 := by kernel_rfl
theorem qj : aggAt Tryz.prog 44 = some false := by kernel_rfl
theorem Ap : sizeAt Tryz.prog 47 = some 8 := by kernel_rfl
theorem Aq : aggAt Tryz.prog 47 = some true := by kernel_rfl
theorem dT : fieldOff Tryz.prog 49 0 = some 0 := by kernel_rfl
theorem qk : fieldOff Tryz.prog 49 1 = some 1 := by kernel_rfl
theorem cZ : fieldOff Tryz.prog 49 2 = some 2 := by kernel_rfl
theorem ql : fieldOff Tryz.prog 49 3 = some 3 := by kernel_rfl
theorem cQ : fieldOff Tryz.prog 49 4 = some 4 := by kernel_rfl
theorem ee : fieldOff Tryz.prog 49 5 = some 5 := by kernel_rfl
theorem gn : fieldOff Tryz.prog 49 6 = some 6 := by kernel_rfl
theorem aS : fieldOff Tryz.prog 49 7 = some 7 := by kernel_rfl
theorem fJ : sizeAt Tryz.prog 51 = some 4 := by kernel_rfl
theorem Ar : aggAt Tryz.prog 51 = some true := by kernel_rfl
theorem qm : fieldOff Tryz.prog 51 1 = some 1 := by kernel_rfl
theorem qn : fieldOff Tryz.prog 51 2 = some 2 := by kernel_rfl
theorem mi : fieldOff Tryz.prog 51 3 = some 3 := by kernel_rfl
theorem eK : sizeAt Tryz.prog 91 = some 1 := by kernel_rfl
theorem dp : aggAt Tryz.prog 91 = some false := by kernel_rfl
theorem bN : sizeAt Tryz.prog 93 = some 1 := by kernel_rfl
theorem dz : aggAt Tryz.prog 93 = some false := by kernel_rfl
theorem As : sizeAt Tryz.prog 94 = some 64 := by kernel_rfl
theorem Au : aggAt Tryz.prog 94 = some true := by kernel_rfl
theorem bh : sizeAt Tryz.prog 96 = some 2 := by kernel_rfl
theorem bM : aggAt Tryz.prog 96 = some true := by kernel_rfl
theorem dU : fieldOff Tryz.prog 96 0 = some 0 := by kernel_rfl
theorem iv : fieldOff Tryz.prog 96 1 = some 1 := by kernel_rfl
theorem wG : fieldPart Tryz.prog 96 1 = some (1, 1, false) := by kernel_rfl
theorem tR : sizeAt Tryz.prog 97 = some 12 := by kernel_rfl
theorem tS : aggAt Tryz.prog 97 = some true := by kernel_rfl
theorem yf : sizeAt Tryz.prog 99 = some 92 := by kernel_rfl
theorem aC : fieldOff Tryz.prog 99 0 = some 0 := by kernel_rfl
theorem gp : fieldOff Tryz.prog 99 1 = some 15 := by kernel_rfl
theorem eg : fieldOff Tryz.prog 99 2 = some 79 := by kernel_rfl
theorem qo : fieldOff Tryz.prog 99 3 = some 91 := by kernel_rfl
theorem gR : aggAt Tryz.prog 108 = some false := by kernel_rfl
theorem dN : aggAt Tryz.prog 110 = some false := by kernel_rfl
theorem fK : fieldOff Tryz.prog 115 0 = some 0 := by kernel_rfl
theorem eL : fieldOff Tryz.prog 115 1 = some 4 := by kernel_rfl
theorem bO : fieldOff Tryz.prog 115 2 = some 5 := by kernel_rfl
theorem j5 : fieldOff Tryz.prog 115 3 = some 6 := by kernel_rfl
theorem dA : fieldOff Tryz.prog 115 4 = some 7 := by kernel_rfl
theorem eM : fieldOff Tryz.prog 115 5 = some 10 := by kernel_rfl
theorem cI : fieldOff Tryz.prog 115 6 = some 15 := by kernel_rfl
theorem bZ : fieldOff Tryz.prog 115 7 = some 16 := by kernel_rfl
theorem dm : sizeAt Tryz.prog 158 = some 4 := by kernel_rfl
theorem gS : aggAt Tryz.prog 158 = some true := by kernel_rfl
theorem iw : fieldOff Tryz.prog 158 0 = some 0 := by kernel_rfl
theorem j6 : fieldOff Tryz.prog 158 1 = some 1 := by kernel_rfl
theorem nD : fieldOff Tryz.prog 158 2 = some 2 := by kernel_rfl
theorem j7 : fieldOff Tryz.prog 158 3 = some 3 := by kernel_rfl
theorem ci : aggAt Tryz.prog 168 = some false := by kernel_rfl
theorem yV : sizeAt Tryz.prog 180 = some 1 := by kernel_rfl
theorem yW : aggAt Tryz.prog 180 = some false := by kernel_rfl
theorem ft : sizeAt Tryz.prog 196 = some 3 := by kernel_rfl
theorem gT : aggAt Tryz.prog 196 = some true := by kernel_rfl
theorem tT : aggAt Tryz.prog 199 = some false := by kernel_rfl
theorem tU : fieldOff Tryz.prog 210 1 = some 1 := by kernel_rfl
theorem yX : sizeAt Tryz.prog 275 = some 1 := by kernel_rfl
end Go.Proofs.YtejkelcaljmnoaaGreatDoor
namespace Go.Proofs.YtejkelcaljmnoaaGreatDoor
open Go.Lo Go.Extern Go.Extern.Rtype
abbrev hnd (t : TypeId) : Value := .pointer (some ⟨11, t, none⟩)
abbrev rty (t : TypeId) : Value := .iface 216 (.agg #[hnd t])
theorem Av (a : Addr) : evR Tryz.prog (ReflectliteValue.mk 182 a 0) [] = some (.agg #[hnd 182, .pointer (some a), .int .u64 150], []) := by kernel_rfl
theorem Aw (a : Addr) : evR Tryz.prog (ReflectliteValue.mk 180 a 0) [] = some (.agg #[hnd 180, .pointer (some a), .int .u64 150], []) := by kernel_rfl
theorem wH (a : Addr) : evR Tryz.prog (ReflectliteValue.methodAny (ReflectliteValue.valueError "reflectlite.Value.Type" 0) (fun t _ _ _ => ReflectliteType.toType t) #[.agg #[hnd 182, .pointer (some a), .int .u64 150]]) [] = some (rty 182, []) := by kernel_rfl
theorem wI : evR Tryz.prog ((ReflectliteType.abiMethod fun t => (fun a : Nat => Value.int IntKind.u8 (a : Int)) <$> Rtype.kind t) #[hnd 182]) [] = some (.int .u8 22, []) := by kernel_rfl
theorem wJ : evR Tryz.prog ((ReflectliteType.abiMethod fun t => (fun a : Nat => Value.int IntKind.u8 (a : Int)) <$> Rtype.kind t) #[hnd 180]) [] = some (.int .u8 22, []) := by kernel_rfl
theorem wK : evR Tryz.prog (ReflectliteType.method ReflectliteType.elem #[.agg #[hnd 182]]) [] = some (rty 180, []) := by kernel_rfl
theorem k6 : evR Tryz.prog (ReflectliteType.relation "Implements" ReflectliteType.implements_ #[.agg #[hnd 180], rty 168]) [] = some (.bool true, []) := by kernel_rfl
theorem rL (v : Value) : evR Tryz.prog (ReflectliteType.typeOf #[.iface 255 v]) [] = some (rty 255, []) := by kernel_rfl
theorem rM (v : Value) : evR Tryz.prog (ReflectliteType.typeOf #[.iface 180 v]) [] = some (rty 180, []) := by kernel_rfl
theorem k7 : evR Tryz.prog (ReflectliteType.relation "AssignableTo" ReflectliteType.assignableTo #[.agg #[hnd 255], rty 180]) [] = some (.bool false, []) := by kernel_rfl
theorem k8 : evR Tryz.prog (ReflectliteType.relation "AssignableTo" ReflectliteType.assignableTo #[.agg #[hnd 180], rty 180]) [] = some (.bool true, []) := by kernel_rfl
theorem tV (a p : Addr) : evR Tryz.prog (ReflectliteValue.method (ReflectliteValue.valueError "reflectlite.Value.IsNil" 0) ReflectliteValue.isNil #[.agg #[hnd 182, .pointer (some a), .int .u64 150]]) [.pointer (some p)] = some (.bool false, [a]) := by kernel_rfl
theorem tW (a p : Addr) : evR Tryz.prog (ReflectliteValue.method (ReflectliteValue.valueError "reflectlite.Value.Elem" 0) ReflectliteValue.elem #[.agg #[hnd 182, .pointer (some a), .int .u64 150]]) [.pointer (some p)] = some (.agg #[hnd 180, .pointer (some p), .int .u64 406], [a]) := by kernel_rfl
theorem rN (p : Addr) : evR Tryz.prog (ReflectliteValue.parts (.agg #[hnd 180, .pointer (some p), .int .u64 406])) [] = some (some (180, p, 406), []) := by kernel_rfl
theorem tX (p : Addr) : evR Tryz.prog (ReflectliteValue.parts (.agg #[hnd 180, .pointer (some p), .int .u64 150])) [] = some (some (180, p, 150), []) := by kernel_rfl
theorem k9 : evR Tryz.prog (ReflectliteType.method (fun t => do noPackHeld "Comparable" t; pure (.bool (← typeInfo t).comparable)) #[.agg #[hnd 255]]) [] = some (.bool true, []) := by kernel_rfl
theorem yg (h : Value) : evR Tryz.prog (Go.method (Tryz.prog.types.size + Made.depth) 216 (.agg #[h]) "Kind") [] = some ((189, h), []) := by kernel_rfl
theorem Ax (h : Value) : evR Tryz.prog (Go.method (Tryz.prog.types.size + Made.depth) 216 (.agg #[h]) "Elem") [] = some ((200, .agg #[h]), []) := by kernel_rfl
theorem nE (h : Value) : evR Tryz.prog (Go.method (Tryz.prog.types.size + Made.depth) 216 (.agg #[h]) "Implements") [] = some ((201, .agg #[h]), []) := by kernel_rfl
theorem jm (h : Value) : evR Tryz.prog (Go.method (Tryz.prog.types.size + Made.depth) 216 (.agg #[h]) "AssignableTo") [] = some ((198, .agg #[h]), []) := by kernel_rfl
theorem nF (h : Value) : evR Tryz.prog (Go.method (Tryz.prog.types.size + Made.depth) 216 (.agg #[h]) "Comparable") [] = some ((199, .agg #[h]), []) := by kernel_rfl
section
variable {N : Nat} {ε : Env} {L : Frag} {d : Option Tmp} {ty : TypeId} {ps : String} {af : Array Edge} {g : Option (Nat × Bool)} {x : Operand} {w : Value}
theorem Ay (hx : ev ε x = some (.iface 255 w) := by rfl) : EY Tryz.prog N ε L ⟨d, .typeAssert x 168 221 true, ty, ps, af, g⟩ (.tuple #[.nilIface, .bool false]) := tQ (z := .nilIface) Tryz.underlying221 (by kernel_rfl) (by kernel_rfl) hx
theorem yh (hx : ev ε x = some (.iface 255 w) := by rfl) : EY Tryz.prog N ε L ⟨d, .typeAssert x 168 224 true, ty, ps, af, g⟩ (.tuple #[.nilIface, .bool false]) := tQ (z := .nilIface) Tryz.underlying224 (by kernel_rfl) (by kernel_rfl) hx
theorem yi (hx : ev ε x = some (.iface 255 w) := by rfl) : EY Tryz.prog N ε L ⟨d, .typeAssert x 168 226 true, ty, ps, af, g⟩ (.tuple #[.nilIface, .bool false]) := tQ (z := .nilIface) Tryz.underlying226 (by kernel_rfl) (by kernel_rfl) hx
theorem Az (hx : ev ε x = some (.iface 255 w) := by rfl) : EY Tryz.prog N ε L ⟨d, .typeAssert x 168 240 true, ty, ps, af, g⟩ (.tuple #[.nilIface, .bool false]) := tQ (z := .nilIface) Tryz.underlying240 (by kernel_rfl) (by kernel_rfl) hx
theorem AA (hx : ev ε x = some (.iface 180 w) := by rfl) : EY Tryz.prog N ε L ⟨d, .typeAssert x 168 240 true, ty, ps, af, g⟩ (.tuple #[.nilIface, .bool false]) := tQ (z := .nilIface) Tryz.underlying240 (by kernel_rfl) (by kernel_rfl) hx
end
theorem AB (v : Value) : evR Tryz.prog (Instr.typeAssert (.iface 180 v) 168 224 true) [] = some (.tuple #[.iface 180 v, .bool true], []) := by kernel_rfl
theorem o9 (v w : Value) : evR Tryz.prog (Op.equal 168 (.iface 180 v) (.iface 255 w)) [] = some (false, []) := by kernel_rfl
end Go.Proofs.YtejkelcaljmnoaaGreatDoor
namespace Go.Proofs.YtejkelcaljmnoaaGreatDoor
open Go.Conc Go.Hx Go.Lo
theorem aT : Tryz.prog.follows .mixedOrders = true := by first | rfl | kernel_rfl
def put {α : Type} (f : Nat → α) (i : Nat) (v : α) : Nat → α := fun j => if j = i then v else f j
structure PS where
 id : Nat
 par : Nat
 st : Nat
 stat : Int
 at_ : Nat
 lv : Nat
 used : Nat
 r : Nat → Int
 m : Nat → Int
 f : Nat → Nat × Nat
 til : Int
def pcells (x : PS) : Array Value := List.toArray
 ((.int .i64 x.id :: .int .i64 x.par :: .int .i64 x.st :: .int .i64 x.stat :: .int .i64 x.at_ :: .int .i64 x.lv :: .int .i64 x.used :: ((List.range 8).map (fun i => .int .u16 (x.r i)) ++ ((List.range 64).map (fun i => .int .u8 (x.m i)) ++
   ((List.range 6).flatMap (fun i => [.int .i64 (x.f i).1, .int .i64 (x.f i).2]) ++ [.int .i64 x.til])))) : List Value)
structure KS where
 sl : Nat → Int
 bo : Int
 prog : Value
 procs : Value
 last : Nat
 row : Nat → Value
 by_ : Nat → Value
 wt : Value
 now : Int
def kcells (k : KS) : Array Value :=
 List.toArray ([.int .i64 (k.sl 0), .int .i64 (k.sl 1), .int .i64 (k.sl 2), .int .i64 k.bo, k.prog, k.procs, .int .i64 k.last, k.row 0, k.row 1, k.row 2, k.by_ 0, k.by_ 1, k.by_ 2, k.by_ 3, k.by_ 4, k.wt, .int .i64 k.now] : List Value)
abbrev pb (b : Nat) (x : PS) : Nat × Bool × Obj := (b, true, .cells (pcells x) 99)
abbrev kb (b : Nat) (k : KS) : Nat × Bool × Obj := (b, true, .cells (kcells k) 115)
abbrev ptr (b : Nat) : Value := .pointer (some ⟨b, 0, none⟩)
section
variable (x : PS)
theorem qp (v : Nat) : (pcells x).setIfInBounds 4 (.int .i64 v) = pcells { x with at_ := v } := rfl
theorem rO (v : Nat) : (pcells x).setIfInBounds 6 (.int .i64 v) = pcells { x with used := v } := rfl
theorem wL (v : Nat) : (pcells x).setIfInBounds 0 (.int .i64 v) = pcells { x with id := v } := rfl
theorem bf : (pcells x).size = 92 := rfl
end
theorem bC (k : KS) : (kcells k).size = 17 := rfl
end Go.Proofs.YtejkelcaljmnoaaGreatDoor
set_option maxRecDepth 100000
namespace Go.Proofs.YtejkelcaljmnoaaGreatDoor
open Go.Lo Go.Extern Go.Extern.Rtype
section
variable {New : Obj → Prop} {N : Nat} {ε : Env} {L : Frag} {d : Option Tmp} {ty : TypeId} {ps : String} {af : Array Edge} {g : Option (Nat × Bool)} {args : Array Operand} {ats : Array TypeId}
theorem yj {v : Value} (hx : args.toList.map (ev ε) = [Value.iface 255 v].map some := by rfl) : EY Tryz.prog N ε L ⟨d, .call ⟨.value (.func 142), args, ats⟩, ty, ps, af, g⟩ (rty 255) :=
 jZ (e := ReflectliteType.typeOf) hx Tryz.func142 (by kernel_rfl) (bj (rL v) rfl)
theorem AC {v : Value} (hx : args.toList.map (ev ε) = [Value.iface 180 v].map some := by rfl) : EY Tryz.prog N ε L ⟨d, .call ⟨.value (.func 142), args, ats⟩, ty, ps, af, g⟩ (rty 180) :=
 jZ (e := ReflectliteType.typeOf) hx Tryz.func142 (by kernel_rfl) (bj (rM v) rfl)
abbrev rval (t : TypeId) (a : Nat) (fl : Int) : Value := .agg #[hnd t, ptr a, .int .u64 fl]
theorem AD {a : Nat} (hx : args.toList.map (ev ε) = [rval 182 a 150].map some := by rfl) : EY Tryz.prog N ε L ⟨d, .call ⟨.value (.func 120), args, ats⟩, ty, ps, af, g⟩ (rty 182) :=
 jZ (e := ReflectliteValue.methodAny (ReflectliteValue.valueError "reflectlite.Value.Type" 0) (fun t _ _ _ => ReflectliteType.toType t)) hx Tryz.func120 (by kernel_rfl) (bj (wH _) rfl)
theorem AE {a p : Nat} (hp : At L a 0 (ptr p)) (hx : args.toList.map (ev ε) = [rval 182 a 150].map some := by rfl) : EY Tryz.prog N ε L ⟨d, .call ⟨.value (.func 121), args, ats⟩, ty, ps, af, g⟩ (.bool false) :=
 jZ (e := ReflectliteValue.method (ReflectliteValue.valueError "reflectlite.Value.IsNil" 0) ReflectliteValue.isNil) hx Tryz.func121 (by kernel_rfl) (mb (tV _ _) hp rfl)
theorem Bz {a p : Nat} (hp : At L a 0 (ptr p)) (hx : args.toList.map (ev ε) = [rval 182 a 150].map some := by rfl) : EY Tryz.prog N ε L ⟨d, .call ⟨.value (.func 143), args, ats⟩, ty, ps, af, g⟩ (rval 180 p 406) :=
 jZ (e := ReflectliteValue.method (ReflectliteValue.valueError "reflectlite.Value.Elem" 0) ReflectliteValue.elem) hx Tryz.func143 (by kernel_rfl) (mb (tW _ _) hp rfl)
theorem nG {x : Operand} (hx : ev ε x = some (rty 182) := by rfl) : EY Tryz.prog N ε L ⟨d, .call ⟨.invoke x "Kind", #[], ats⟩, ty, ps, af, g⟩ (.int .u8 22) :=
 j0 (vs := []) (f := 189) (rc := hnd 182) (e := ReflectliteType.abiMethod fun t => (fun a : Nat => Value.int IntKind.u8 (a : Int)) <$> Rtype.kind t) hx (by rfl) (bj (yg _) rfl) Tryz.func189 (by kernel_rfl) (bj wI rfl)
theorem nH {x : Operand} (hx : ev ε x = some (rty 180) := by rfl) : EY Tryz.prog N ε L ⟨d, .call ⟨.invoke x "Kind", #[], ats⟩, ty, ps, af, g⟩ (.int .u8 22) :=
 j0 (vs := []) (f := 189) (rc := hnd 180) (e := ReflectliteType.abiMethod fun t => (fun a : Nat => Value.int IntKind.u8 (a : Int)) <$> Rtype.kind t) hx (by rfl) (bj (yg _) rfl) Tryz.func189 (by kernel_rfl) (bj wJ rfl)
theorem nI {x : Operand} (hx : ev ε x = some (rty 182) := by rfl) : EY Tryz.prog N ε L ⟨d, .call ⟨.invoke x "Elem", #[], ats⟩, ty, ps, af, g⟩ (rty 180) :=
 j0 (vs := []) (f := 200) (rc := .agg #[hnd 182]) (e := ReflectliteType.method ReflectliteType.elem) hx (by rfl) (bj (Ax _) rfl) Tryz.func200 (by kernel_rfl) (bj wK rfl)
theorem yk {x : Operand} (hx : ev ε x = some (rty 180) := by rfl) (ha : args.toList.map (ev ε) = [rty 168].map some := by rfl) : EY Tryz.prog N ε L ⟨d, .call ⟨.invoke x "Implements", args, ats⟩, ty, ps, af, g⟩ (.bool true) :=
 j0 (f := 201) (rc := .agg #[hnd 180]) (e := ReflectliteType.relation "Implements" ReflectliteType.implements_) hx ha (bj (nE _) rfl) Tryz.func201 (by kernel_rfl) (bj k6 rfl)
theorem wM {x : Operand} (hx : ev ε x = some (rty 255) := by rfl) (ha : args.toList.map (ev ε) = [rty 180].map some := by rfl) : EY Tryz.prog N ε L ⟨d, .call ⟨.invoke x "AssignableTo", args, ats⟩, ty, ps, af, g⟩ (.bool false) :=
 j0 (f := 198) (rc := .agg #[hnd 255]) (e := ReflectliteType.relation "AssignableTo" ReflectliteType.assignableTo) hx ha (bj (jm _) rfl) Tryz.func198 (by kernel_rfl) (bj k7 rfl)
theorem wN {x : Operand} (hx : ev ε x = some (rty 180) := by rfl) (ha : args.toList.map (ev ε) = [rty 180].map some := by rfl) : EY Tryz.prog N ε L ⟨d, .call ⟨.invoke x "AssignableTo", args, ats⟩, ty, ps, af, g⟩ (.bool true) :=
 j0 (f := 198) (rc := .agg #[hnd 180]) (e := ReflectliteType.relation "AssignableTo" ReflectliteType.assignableTo) hx ha (bj (jm _) rfl) Tryz.func198 (by kernel_rfl) (bj k8 rfl)
theorem BA {x : Operand} (hx : ev ε x = some (rty 255) := by rfl) : EY Tryz.prog N ε L ⟨d, .call ⟨.invoke x "Comparable", #[], ats⟩, ty, ps, af, g⟩ (.bool true) :=
 j0 (vs := []) (f := 199) (rc := .agg #[hnd 255]) (e := ReflectliteType.method (fun t => do noPackHeld "Comparable" t; pure (.bool (← typeInfo t).comparable))) hx (by rfl) (bj (nF _) rfl) Tryz.func199 (by kernel_rfl) (bj k9 rfl)
theorem jB {α : Type} {Q : α → Frag → Prop} {s : Sem α} {r : α} (h : evR Tryz.prog s [] = some (r, [])) (hK : Q r L) : wpS Tryz.prog New s Q L := bJ (K := (· = r)) (fun _ e => by rw [e]; exact hK) s (bj h rfl)
theorem wO {α : Type} {Q : α → Frag → Prop} {s : Sem α} {r : α} {v : Value} {b i : Nat} (h : evR Tryz.prog s [v] = some (r, [⟨b, i, none⟩])) (hv : At L b i v) (hK : Q r L) : wpS Tryz.prog New s Q L := bJ (K := (· = r)) (fun _ e => by rw [e]; exact hK) s (mb h hv rfl)
theorem qq {t : TypeId} {p : Option Addr} (ht : ∀ a, evR Tryz.prog (ReflectliteValue.mk t a 0) [] = some (.agg #[hnd t, .pointer (some a), .int .u64 150], [])) (hN : New (.cells #[.pointer p] t)) : wpS Tryz.prog New (ReflectliteValue.unpack (.iface t (.pointer p))) (fun r L'' => ∃ b, (∀ t ∈ L, t.1 ≠ b) ∧ r = rval t b 150 ∧ L'' = (b, true, .cells #[.pointer p] t) :: L) L := by
 show wpS Tryz.prog New (newVar t (.pointer p) >>= fun a => ReflectliteValue.mk t a 0) _ L;rw [aj];show wpS Tryz.prog New (newObj (.cells #[.pointer p] t) >>= fun b => pure (⟨b, 0, none⟩ : Addr)) _ L;rw [aj];refine bY hN fun b hb => ?_;rw [bm];exact jB (ht _) ⟨b, hb, rfl, rfl⟩
theorem ym {p : Option Addr} (hN : New (.cells #[.pointer p] 182)) (hx : args.toList.map (ev ε) = [Value.iface 182 (.pointer p)].map some := by rfl) : EO Tryz.prog New N ε L ⟨d, .call ⟨.value (.func 119), args, ats⟩, ty, ps, af, g⟩ (fun r L'' => ∃ b, (∀ t ∈ L, t.1 ≠ b) ∧ r = rval 182 b 150 ∧ L'' = (b, true, .cells #[.pointer p] 182) :: L) :=
 tP (e := fun args => ReflectliteValue.unpack (args.getD 0 (.tuple #[]))) hx Tryz.func119 (by kernel_rfl) (qq Av hN)
theorem AF {p : Option Addr} (hN : New (.cells #[.pointer p] 180)) (hx : args.toList.map (ev ε) = [Value.iface 180 (.pointer p)].map some := by rfl) : EO Tryz.prog New N ε L ⟨d, .call ⟨.value (.func 119), args, ats⟩, ty, ps, af, g⟩ (fun r L'' => ∃ b, (∀ t ∈ L, t.1 ≠ b) ∧ r = rval 180 b 150 ∧ L'' = (b, true, .cells #[.pointer p] 180) :: L) :=
 tP (e := fun args => ReflectliteValue.unpack (args.getD 0 (.tuple #[]))) hx Tryz.func119 (by kernel_rfl) (qq Aw hN)
theorem AG : evR Tryz.prog (directlyAssignable 180 180) [] = some (true, []) := by kernel_rfl
theorem AH (a : Addr) (v : Value) : evR Tryz.prog (loadVar 180 a) [v] = some (v, [a]) := by kernel_rfl
theorem BB {a b : Nat} {p : Option Addr} {cs : Array Value} {e : TypeId} (hnd : (L.map (·.1)).Nodup) (hv : At L b 0 (.pointer p)) (hm : (a, true, .cells cs e) ∈ L) (hi : 0 < cs.size) (hx : args.toList.map (ev ε) = [rval 180 a 406, rval 180 b 150].map some := by rfl) : EO Tryz.prog New N ε L ⟨d, .call ⟨.value (.func 144), args, ats⟩, ty, ps, af, g⟩ (fun r L'' => r = .tuple #[] ∧ Upd L a (.cells (cs.setIfInBounds 0 (.pointer p)) e) L'') := by
 refine tP (e := ReflectliteValue.set) hx Tryz.func144 (by kernel_rfl) ?_;obtain ⟨n, hn⟩ := List.getElem?_of_mem hm;show wpS Tryz.prog New (ReflectliteValue.parts (rval 180 a 406) >>= fun v => _) _ L;rw [aj];refine jB (rN _) ?_;show wpS Tryz.prog New (ReflectliteValue.parts (rval 180 b 150) >>= fun v => _) _ L;rw [aj];refine jB (tX _) ?_;show wpS Tryz.prog New (loadVar 180 ⟨b, 0, none⟩ >>= fun v => _) _ L;rw [aj];refine wO (AH _ _) hv ?_;show wpS Tryz.prog New (directlyAssignable 180 180 >>= fun v => _) _ L;rw [aj];refine jB AG ?_;show wpS Tryz.prog New (storeVar 180 ⟨a, 0, none⟩ (.pointer p) >>= fun v => _) _ L;rw [aj];unfold storeVar;rw [aj, bI yV];show wpS Tryz.prog New (storeCells ⟨a, 0, none⟩ [.pointer p]) _ L;refine cC hn (by simp; omega) rfl ?_;exact ⟨rfl, cS hnd hn⟩
end
end Go.Proofs.YtejkelcaljmnoaaGreatDoor
namespace Go.Proofs.YtejkelcaljmnoaaGreatDoor
open Go.Conc Go.Hx Go.Lo
structure Sl where
 b : Option Nat
 junk : List Value
def slv (a : Sl) (n : Nat) : Value := match a.b with
 | none => .slice none 0 0
 | some b => .slice (some ⟨b, 0, none⟩) n (n + a.junk.length)
def slOk (a : Sl) (xs : List Value) (e : TypeId) (L : Frag) : Prop := match a.b with
 | none => xs = [] ∧ a.junk = []
 | some b => (b, true, Obj.cells (xs ++ a.junk).toArray e) ∈ L
structure St where
 sl : Nat → Int
 bo : Int
 pn : Nat
 pg : Nat → Nat → Int
 ps : List (Nat × PS)
 last : Nat
 rows : Nat → List Nat
 by_ : Nat → List Int
 wt : List ((Nat × Nat) × List Nat)
 now : Nat
structure Lay where
 g : Nat
 gcap : Nat
 gc : Array Value
 a : Nat → Sl
 y : Nat → Sl
 wt : Nat
 born : List Nat
 clock : Nat
def slot (k : Nat × Nat) : Nat := 100 + 10 * k.1 + k.2
def kst (A : Lay) (S : St) : KS := ⟨S.sl, S.bo, .slice (some ⟨A.g, 0, none⟩) S.pn A.gcap, slv (A.a 0) S.ps.length, S.last, fun l => slv (A.a (l + 1)) (S.rows l).length, fun i => slv (A.y i) (S.by_ i).length, .map (some A.wt), S.now⟩
def keyv (k : Nat × Nat) : Value := .agg #[.int .i64 k.1, .int .i64 k.2]
def went (A : Lay) (e : ((Nat × Nat) × List Nat) × Nat) : MapEntry := ⟨keyv e.1.1, slv (A.a (slot e.1.1)) e.1.2.length, e.2⟩
def wobj (A : Lay) (S : St) : Obj := .map ((S.wt.zip A.born).map (went A)).toArray A.clock
structure Rep (K : Nat) (A : Lay) (S : St) (F : Frag) (L : Frag) : Prop where
 fn : Fun L
 k : kb K (kst A S) ∈ L
 g : (A.g, true, Obj.cells A.gc 158) ∈ L
 gv : ∀ i j, i < S.pn → j < 4 → A.gc[4 * i + j]? = some (.int .u8 (S.pg i j))
 p : ∀ q ∈ S.ps, pb q.1 q.2 ∈ L
 pn : (S.ps.map (·.1)).Nodup
 p8 : S.ps.length ≤ 8
 pa : slOk (A.a 0) (S.ps.map fun q => ptr q.1) 93 L
 rw : ∀ l, l < 3 → slOk (A.a (l + 1)) ((S.rows l).map ptr) 93 L
 ya : ∀ i, i < 5 → slOk (A.y i) ((S.by_ i).map fun v => .int .u8 v) 5 L
 w : (A.wt, true, wobj A S) ∈ L
 wl : A.born.length = S.wt.length
 bn : A.born.Nodup
 bc : ∀ x ∈ A.born, x < A.clock
 wa : ∀ e ∈ S.wt, slOk (A.a (slot e.1)) (e.2.map ptr) 93 L
 d : ∀ i j, i ≠ j → (A.a i).b ≠ none → (A.a i).b ≠ (A.a j).b
 dy : ∀ i j, i ≠ j → (A.y i).b ≠ none → (A.y i).b ≠ (A.y j).b
 al : ∀ i c, (A.a i).b = some c → ∃ xs, (c, true, Obj.cells xs 93) ∈ L
 yl : ∀ i c, (A.y i).b = some c → ∃ xs, (c, true, Obj.cells xs 5) ∈ L
 fr : ∀ t ∈ F, t ∈ L
 fd : ∀ t ∈ F, t.1 ≠ K ∧ (∀ q ∈ S.ps, t.1 ≠ q.1) ∧ (∀ i, (A.a i).b ≠ some t.1) ∧ (∀ i, (A.y i).b ≠ some t.1) ∧ t.1 ≠ A.wt
def St.setP (S : St) (b : Nat) (x : PS) : St := { S with ps := S.ps.map fun q => if q.1 = b then (b, x) else q }
section
variable {K : Nat} {A : Lay} {S : St} {F L L' : Frag}
theorem _root_.Go.Lo.Fun.ne {L : Frag} {b b' : Nat} {fl fl' : Bool} {o o' : Obj} (h : Fun L) (h1 : (b, fl, o) ∈ L) (h2 : (b', fl', o') ∈ L) (hne : o ≠ o') : b ≠ b' := by
 rintro rfl;exact hne (h _ _ _ _ _ h1 h2).2
theorem aE {c c' : Array Value} {t t' : TypeId} {f f' : Nat × Nat} (h : t ≠ t') : Obj.cells c t f ≠ Obj.cells c' t' f' := by
 intro e; cases e; exact h rfl
theorem slOk.mono {a : Sl} {xs : List Value} {e : TypeId} (h : slOk a xs e L) (hs : ∀ b, a.b = some b → ∀ o, (b, true, o) ∈ L → (b, true, o) ∈ L') : slOk a xs e L' := by
 unfold slOk at *
 split
 · rename_i hb; rw [hb] at h; exact h
 · rename_i b hb; rw [hb] at h; exact hs b hb _ h
theorem slOk.mem {a : Sl} {xs : List Value} {e : TypeId} (h : slOk a xs e L) {b : Nat} (hb : a.b = some b) : (b, true, Obj.cells (xs ++ a.junk).toArray e) ∈ L := by
 unfold slOk at h; rw [hb] at h; exact h
theorem bw {a : Sl} {xs : List Value} {e : TypeId} (h : slOk a xs e L) : ∃ base cap, slv a xs.length = .slice base xs.length cap ∧ ∀ i v, xs[i]? = some v → ∃ b, a.b = some b ∧ base = some ⟨b, 0, none⟩ ∧ At L b i v := by
 unfold slv;cases hb : a.b with
 | none =>
   unfold slOk at h;rw [hb] at h;obtain ⟨rfl, _⟩ := h;exact ⟨none, 0, rfl, fun i v hv => by simp at hv⟩
 | some b =>
   refine ⟨some ⟨b, 0, none⟩, _, rfl, fun i v hv => ⟨b, rfl, rfl, true, _, _, _, h.mem hb, ?_⟩⟩;have hlt := (List.getElem?_eq_some_iff.1 hv).1;rw [List.getElem?_toArray, List.getElem?_append_left hlt]; exact hv
theorem Rep.of (h : Rep K A S F L) (hf : Fun L') (hs : ∀ t ∈ L, t ∈ L') : Rep K A S F L' :=
 { h with
   fn := hf, k := hs _ h.k, g := hs _ h.g, p := fun q hq => hs _ (h.p q hq), w := hs _ h.w, fr := fun t ht => hs _ (h.fr t ht)
   pa := h.pa.mono fun _ _ _ x => hs _ x, rw := fun l hl => (h.rw l hl).mono fun _ _ _ x => hs _ x, ya := fun i hi => (h.ya i hi).mono fun _ _ _ x => hs _ x, wa := fun e he => (h.wa e he).mono fun _ _ _ x => hs _ x
   al := fun i c hc => (h.al i c hc).imp fun _ x => hs _ x, yl := fun i c hc => (h.yl i c hc).imp fun _ x => hs _ x }
theorem Rep.add (h : Rep K A S F L) {b : Nat} {o : Obj} (u : Add L b o L') : Rep K A S F L' := h.of u.fn u.sub
theorem Rep.less (h : Rep K A S F L) {F' : Frag} (hs : ∀ t ∈ F', t ∈ F) : Rep K A S F' L := { h with fr := fun t ht => h.fr t (hs t ht), fd := fun t ht => h.fd t (hs t ht) }
theorem bp {l : List (Nat × PS)} (h : (l.map (·.1)).Nodup) {b : Nat} {x y : PS} (h1 : (b, x) ∈ l) (h2 : (b, y) ∈ l) : x = y := by
 obtain ⟨i, hi⟩ := List.getElem?_of_mem h1;obtain ⟨j, hj⟩ := List.getElem?_of_mem h2;have e1 : (l.map (·.1))[i]? = some b := by simp [hi]
 have e2 : (l.map (·.1))[j]? = some b := by simp [hj]
 obtain ⟨hl1, he1⟩ := List.getElem?_eq_some_iff.1 e1;obtain ⟨hl2, he2⟩ := List.getElem?_eq_some_iff.1 e2;have hij : i = j := by
   rcases Nat.lt_trichotomy i j with g | g | g
   · exact absurd (he1.trans he2.symm) (List.pairwise_iff_getElem.1 h i j hl1 hl2 g)
   · exact g
   · exact absurd (he2.trans he1.symm) (List.pairwise_iff_getElem.1 h j i hl2 hl1 g)
 subst hij;rw [hi] at hj;simpa using hj
theorem aW (S : St) (b : Nat) (x : PS) : (S.setP b x).ps.map (·.1) = S.ps.map (·.1) := by
 simp only [St.setP, List.map_map];apply List.map_congr_left;intro q _;simp only [Function.comp]
 split
 · rename_i e; exact e.symm
 · rfl
theorem d7 (S : St) (b : Nat) (x : PS) : (S.setP b x).ps.length = S.ps.length := by simp [St.setP]
theorem aU {S : St} {b : Nat} {x : PS} {q : Nat × PS} (h : q ∈ (S.setP b x).ps) : q = (b, x) ∨ (q ∈ S.ps ∧ q.1 ≠ b) := by
 simp only [St.setP, List.mem_map] at h;obtain ⟨r, hr, e⟩ := h
 split at e
 · exact .inl e.symm
 · rename_i hne; exact .inr ⟨e ▸ hr, e ▸ hne⟩
theorem av {S : St} {b : Nat} {x y : PS} (h : (b, y) ∈ S.ps) : (b, x) ∈ (S.setP b x).ps := by
 simp only [St.setP, List.mem_map];exact ⟨(b, y), h, by simp⟩
theorem tY (S : St) (b : Nat) (x : PS) : (S.setP b x).ps.map (fun q => ptr q.1) = S.ps.map fun q => ptr q.1 := by
 have := congrArg (List.map ptr) (aW S b x);rw [List.map_map, List.map_map] at this;exact this
theorem tZ (A : Lay) (S : St) (b : Nat) (x : PS) : kst A (S.setP b x) = kst A S := by unfold kst; rw [d7]; rfl
theorem Rep.setP (h : Rep K A S F L) {b : Nat} {x x' : PS} (hb : (b, x) ∈ S.ps) (u : Upd L b (.cells (pcells x') 99) L') : Rep K A (S.setP b x') F L' := by
 have hbm := h.p _ hb;have hk : K ≠ b := h.fn.ne h.k hbm (aE (by decide));have arr : ∀ (a : Sl) (xs : List Value) (e : TypeId), e ≠ 99 → slOk a xs e L → slOk a xs e L' := fun a xs e he ha => by
   refine ha.mono fun c hc o ho => u.ne _ ho ?_;exact h.fn.ne (ha.mem hc) hbm (aE he)
 exact { h with
   fn := u.fn
   k := by rw [tZ]; exact u.ne _ h.k hk
   g := u.ne _ h.g (h.fn.ne h.g hbm (aE (by decide)))
   p := fun q hq => by
     rcases aU hq with rfl | ⟨h1, h2⟩
     · exact u.self
     · exact u.ne _ (h.p q h1) h2
   pn := by rw [aW]; exact h.pn
   p8 := by rw [d7]; exact h.p8
   pa := by rw [tY]; exact arr _ _ _ (by decide) h.pa
   rw := fun l hl => arr _ _ _ (by decide) (h.rw l hl)
   ya := fun i hi => arr _ _ _ (by decide) (h.ya i hi)
   w := u.ne _ h.w (h.fn.ne h.w hbm (by simp [wobj]))
   wa := fun e he => arr _ _ _ (by decide) (h.wa e he)
   al := fun i c hc => by obtain ⟨xs, hx⟩ := h.al i c hc; exact ⟨xs, u.ne _ hx (h.fn.ne hx hbm (aE (by decide)))⟩
   yl := fun i c hc => by obtain ⟨xs, hx⟩ := h.yl i c hc; exact ⟨xs, u.ne _ hx (h.fn.ne hx hbm (aE (by decide)))⟩
   fr := fun t ht => u.ne _ (h.fr t ht) ((h.fd t ht).2.1 _ hb)
   fd := fun t ht => ⟨(h.fd t ht).1, fun q hq => by
     rcases aU hq with rfl | ⟨h1, h2⟩
     · exact (h.fd t ht).2.1 (b, x) hb
     · exact (h.fd t ht).2.1 q h1, (h.fd t ht).2.2⟩ }
theorem Rep.setK (h : Rep K A S F L) {S' : St} (hps : S'.ps = S.ps) (hrw : S'.rows = S.rows) (hby : S'.by_ = S.by_) (hwt : S'.wt = S.wt) (hpn : S'.pn = S.pn) (hpg : S'.pg = S.pg) (u : Upd L K (.cells (kcells (kst A S')) 115) L') : Rep K A S' F L' := by
 have arr : ∀ (a : Sl) (xs : List Value) (e : TypeId), e ≠ 115 → slOk a xs e L → slOk a xs e L' := fun a xs e he ha => by
   refine ha.mono fun c hc o ho => u.ne _ ho ?_;exact h.fn.ne (ha.mem hc) h.k (aE he)
 exact { h with
   fn := u.fn
   k := u.self
   g := u.ne _ h.g (h.fn.ne h.g h.k (aE (by decide)))
   gv := by rw [hpn, hpg]; exact h.gv
   p := fun q hq => u.ne _ (h.p q (hps ▸ hq)) (h.fn.ne (h.p q (hps ▸ hq)) h.k (aE (by decide)))
   pn := by rw [hps]; exact h.pn
   p8 := by rw [hps]; exact h.p8
   pa := by rw [hps]; exact arr _ _ _ (by decide) h.pa
   rw := fun l hl => by rw [hrw]; exact arr _ _ _ (by decide) (h.rw l hl)
   ya := fun i hi => by rw [hby]; exact arr _ _ _ (by decide) (h.ya i hi)
   w := by
     have : wobj A S' = wobj A S := by unfold wobj; rw [hwt]
     rw [this];exact u.ne _ h.w (h.fn.ne h.w h.k (by simp [wobj]))
   wl := by rw [hwt]; exact h.wl
   wa := fun e he => arr _ _ _ (by decide) (h.wa e (hwt ▸ he))
   al := fun i c hc => by obtain ⟨xs, hx⟩ := h.al i c hc; exact ⟨xs, u.ne _ hx (h.fn.ne hx h.k (aE (by decide)))⟩
   yl := fun i c hc => by obtain ⟨xs, hx⟩ := h.yl i c hc; exact ⟨xs, u.ne _ hx (h.fn.ne hx h.k (aE (by decide)))⟩
   fr := fun t ht => u.ne _ (h.fr t ht) (h.fd t ht).1
   fd := fun t ht => ⟨(h.fd t ht).1, fun q hq => (h.fd t ht).2.1 q (hps ▸ hq), (h.fd t ht).2.2⟩ }
def Lay.setA (A : Lay) (i : Nat) (a : Sl) : Lay := { A with a := put A.a i a }
structure LRel (A A' : Lay) : Prop where
 a : ∀ i, i = 0 ∨ 3 < i → A'.a i = A.a i
 y : A'.y = A.y
 w : A'.wt = A.wt ∧ A'.born = A.born ∧ A'.clock = A.clock
 g : A'.g = A.g ∧ A'.gcap = A.gcap ∧ A'.gc = A.gc
theorem LRel.refl (A : Lay) : LRel A A := ⟨fun _ _ => rfl, rfl, ⟨rfl, rfl, rfl⟩, ⟨rfl, rfl, rfl⟩⟩
theorem LRel.trans {A B C : Lay} (h : LRel A B) (k : LRel B C) : LRel A C := ⟨fun i hi => (k.a i hi).trans (h.a i hi), k.y.trans h.y, ⟨k.w.1.trans h.w.1, k.w.2.1.trans h.w.2.1, k.w.2.2.trans h.w.2.2⟩, ⟨k.g.1.trans h.g.1, k.g.2.1.trans h.g.2.1, k.g.2.2.trans h.g.2.2⟩⟩
theorem LRel.set (A : Lay) {l : Nat} (hl : l < 3) (a : Sl) : LRel A (A.setA (l + 1) a) := ⟨fun i hi => by simp [Lay.setA, put]; intro e; omega, rfl, ⟨rfl, rfl, rfl⟩, ⟨rfl, rfl, rfl⟩⟩
def St.setRow (S : St) (l : Nat) (xs : List Nat) : St := { S with rows := put S.rows l xs }
theorem Rep.setRow (h : Rep K A S F L) {l : Nat} (hl : l < 3) {a' : Sl} {xs : List Nat} (hf : Fun L') (hk : kb K (kst (A.setA (l + 1) a') (S.setRow l xs)) ∈ L') (hs : ∀ t ∈ L, t.1 ≠ K → (A.a (l + 1)).b ≠ some t.1 → t ∈ L') (ha : slOk a' (xs.map ptr) 93 L')
   (hd : ∀ b, a'.b = some b → (A.a (l + 1)).b = some b ∨ ((∀ i, (A.a i).b ≠ some b) ∧ ∀ t ∈ F, t.1 ≠ b)) (hw : ∀ e ∈ S.wt, slot e.1 ≠ l + 1) : Rep K (A.setA (l + 1) a') (S.setRow l xs) F L' := by
 have hal : ∀ b, (A.a (l + 1)).b = some b → (b, true, Obj.cells ((S.rows l).map ptr ++ (A.a (l + 1)).junk).toArray 93) ∈ L := fun b hb => (h.rw l hl).mem hb;have ty : ∀ {b : Nat} {fl : Bool} {o : Obj}, (b, fl, o) ∈ L → (∀ c, o ≠ Obj.cells c 93) → (A.a (l + 1)).b ≠ some b := fun hm ho hb => ho _ (h.fn _ _ _ _ _ hm (hal _ hb)).2;have arr : ∀ (a : Sl) (xs : List Value) (e : TypeId), e ≠ 115 → (∀ b, a.b = some b → (A.a (l + 1)).b ≠ some b) → slOk a xs e L → slOk a xs e L' := fun a xs e he hne ha => by
   refine ha.mono fun c hc o ho => hs _ ho ?_ (hne c hc);exact h.fn.ne (ha.mem hc) h.k (aE he)
 have hdn : ∀ i, i ≠ l + 1 → ∀ b, (A.a i).b = some b → (A.a (l + 1)).b ≠ some b := fun i hi b hb e => h.d i (l + 1) hi (by rw [hb]; simp) (by rw [hb, e]);have pm : ∀ q ∈ S.ps, pb q.1 q.2 ∈ L' := fun q hq => hs _ (h.p q hq) (h.fn.ne (h.p q hq) h.k (aE (by decide))) (ty (h.p q hq) fun c => aE (by decide));have pA : ∀ i, i ≠ l + 1 → (A.setA (l + 1) a').a i = A.a i := fun i hi => by simp [Lay.setA, put, hi]
 exact { h with
   fn := hf
   k := hk
   g := hs _ h.g (h.fn.ne h.g h.k (aE (by decide))) (ty h.g fun c => aE (by decide))
   p := pm
   pa := by rw [pA 0 (by omega)]; exact arr _ _ _ (by decide) (hdn 0 (by omega)) h.pa
   rw := fun l' hl' => by
     by_cases e : l' = l
     · subst e;have e1 : (A.setA (l' + 1) a').a (l' + 1) = a' := by simp [Lay.setA, put]
       have e2 : (S.setRow l' xs).rows l' = xs := by simp [St.setRow, put]
       rw [e1, e2]; exact ha
     · have e2 : (S.setRow l xs).rows l' = S.rows l' := by simp [St.setRow, put, e]
       rw [pA _ (by omega), e2];exact arr _ _ _ (by decide) (hdn _ (by omega)) (h.rw l' hl')
   ya := fun i hi => arr _ _ _ (by decide) (fun b hb => ty ((h.ya i hi).mem hb) fun c => aE (by decide)) (h.ya i hi)
   w := by
     have : wobj (A.setA (l + 1) a') (S.setRow l xs) = wobj A S := by
       have e0 : (S.wt.zip A.born).map (went (A.setA (l + 1) a')) = (S.wt.zip A.born).map (went A) := by
         apply List.map_congr_left;intro e he;unfold went;rw [pA _ (hw e.1 (List.of_mem_zip he).1)]
       show Obj.map ((S.wt.zip A.born).map (went (A.setA (l + 1) a'))).toArray A.clock = _;rw [e0]; rfl
     rw [this];exact hs _ h.w (h.fn.ne h.w h.k (by simp [wobj])) (ty h.w fun c => by simp [wobj])
   wa := fun e he => by rw [pA _ (hw e he)]; exact arr _ _ _ (by decide) (hdn _ (hw e he)) (h.wa e he)
   al := fun i c hc => by
     by_cases ei : i = l + 1
     · subst ei;have e1 : (A.setA (l + 1) a').a (l + 1) = a' := by simp [Lay.setA, put]
       rw [e1] at hc;exact ⟨_, ha.mem hc⟩
     · rw [pA i ei] at hc;obtain ⟨xs, hx⟩ := h.al i c hc;exact ⟨xs, hs _ hx (h.fn.ne hx h.k (aE (by decide))) (hdn i ei c hc)⟩
   yl := fun i c hc => by
     obtain ⟨xs, hx⟩ := h.yl i c hc;exact ⟨xs, hs _ hx (h.fn.ne hx h.k (aE (by decide))) (ty hx fun c => aE (by decide))⟩
   d := fun i j hij hi => by
     by_cases ei : i = l + 1
     · subst ei;have e1 : (A.setA (l + 1) a').a (l + 1) = a' := by simp [Lay.setA, put]
       rw [pA j (by omega), e1];rw [e1] at hi;intro e;cases hb : a'.b with
       | none => exact hi hb
       | some b =>
         rcases hd b hb with h1 | h1
         · exact h.d (l + 1) j (by omega) (by rw [h1]; simp) (by rw [h1, ← e, hb])
         · exact h1.1 j (by rw [← e, hb])
     · rw [pA i ei];rw [pA i ei] at hi;by_cases ej : j = l + 1
       · subst ej;have e1 : (A.setA (l + 1) a').a (l + 1) = a' := by simp [Lay.setA, put]
         rw [e1];intro e;cases hb : a'.b with
         | none => rw [hb] at e; exact hi e
         | some b =>
           rcases hd b hb with h1 | h1
           · exact h.d i (l + 1) ei hi (by rw [h1, e, hb])
           · exact h1.1 i (by rw [e, hb])
       · rw [pA j ej]; exact h.d i j hij hi
   fr := fun t ht => hs _ (h.fr t ht) (h.fd t ht).1 ((h.fd t ht).2.2.1 _)
   fd := fun t ht => by
     refine ⟨(h.fd t ht).1, (h.fd t ht).2.1, fun i => ?_, (h.fd t ht).2.2.2⟩;by_cases ei : i = l + 1
     · subst ei;have e1 : (A.setA (l + 1) a').a (l + 1) = a' := by simp [Lay.setA, put]
       rw [e1];intro e;rcases hd _ e with h1 | h1
       · exact (h.fd t ht).2.2.1 _ h1
       · exact h1.2 t ht rfl
     · rw [pA i ei]; exact (h.fd t ht).2.2.1 i }
end
abbrev ptq (a : Nat × Nat) : Value := .pointer (some ⟨a.1, a.2, none⟩)
theorem BC : ∃ n, ∀ {σ} {F : Fam σ} {Δ : DM F} {main s} (L : Frag) (e : Nat × Nat) (t vp : Nat), (∀ cs, (Δ s).New (.cells cs 196)) →
   CallsL Δ Tryz.prog main 122 [.iface 255 (ptq e), .iface 182 (ptr t), rval 182 vp 150, rty 180].toArray n s L (fun s' v L' => s = s' ∧ v = .bool false ∧ Fun L' ∧ ∀ t ∈ L, t ∈ L') := by
 apply Exists.intro;intro σ F Δ main s L e t vp hN;co_applyP aB 62 Tryz.func122 Tryz.ntmps122;co_applyP aa;co_applyP bT rfl (cn (hN _));intro nb L1 hA;co_applyP oan rfl;co_applyP aI;co_applyP bK (fun k s' ε' L' => s' = s ∧ k = 1 ∧ L' = L1 ∧ kn ε' [(0, .iface 255 (ptq e)), (1, .iface 182 (ptr t)), (3, rty 180), (6, ptr nb)]) 1
 · exact ⟨rfl, rfl, rfl, rfl⟩
 rintro k s' ε' L' ⟨rfl, rfl, rfl, he⟩;co_applyP aV he;co_applyP aI;co_applyP aq;co_applyP aa;co_applyP om rfl rfl rfl (yj);co_applyP om rfl rfl rfl (wM);co_applyP ah;co_applyP ai rfl;co_applyP aD;co_applyP aq;co_applyP aa;co_applyP om rfl rfl rfl (Ay);co_applyP om rfl rfl rfl bW;co_applyP oy rfl bW;co_applyP oy rfl bL;co_applyP oan rfl;co_applyP aa;co_applyP om rfl rfl rfl ae;co_applyP ou rfl;co_applyP ou rfl;co_applyP ou rfl;co_applyP oy rfl aP;co_applyP ah;co_applyP ai rfl;co_applyP aD;co_applyP aa;co_applyP oy rfl ae;co_applyP ah;co_applyP aI;co_applyP aa;co_applyP oy rfl (yh);co_applyP oy rfl bW;co_applyP oy rfl bW;co_applyP ah;co_applyP ai rfl;co_applyP aa;co_applyP oy rfl (yi);co_applyP oy rfl bW;co_applyP oy rfl bW;co_applyP ah;co_applyP ai rfl;co_applyP aa;co_applyP oan rfl;co_applyP aa;co_applyP oan rfl;co_applyP aK;change ∃ v, resE .. = some v ∧ _;exact ⟨_, rfl, rfl, rfl, hA.fn, hA.sub⟩
theorem BD : ∃ n, ∀ {σ} {F : Fam σ} {Δ : DM F} {main s} (L : Frag) (r t vp : Nat) (v0 : Value), (∀ cs, (Δ s).New (.cells cs 196)) → (∀ cs, (Δ s).New (.cells cs 180)) → At L vp 0 (ptr t) → (t, true, Obj.cells #[v0] 180) ∈ L →
   CallsL Δ Tryz.prog main 122 [.iface 180 (ptr r), .iface 182 (ptr t), rval 182 vp 150, rty 180].toArray n s L (fun s' v L' => s = s' ∧ v = .bool true ∧ ∃ L1, Fun L1 ∧ (∀ t ∈ L, t ∈ L1) ∧ Upd L1 t (.cells #[ptr r] 180) L') := by
 apply Exists.intro;intro σ F Δ main s L r t vp v0 hN hN2 hv ht;co_applyP aB 62 Tryz.func122 Tryz.ntmps122;co_applyP aa;co_applyP bT rfl (cn (hN _));intro nb L1 hA;co_applyP oan rfl;co_applyP aI;co_applyP bK (fun k s' ε' L' => s' = s ∧ k = 1 ∧ L' = L1 ∧ kn ε' [(0, .iface 180 (ptr r)), (1, .iface 182 (ptr t)), (3, rty 180), (6, ptr nb)]) 1
 · exact ⟨rfl, rfl, rfl, rfl⟩
 rintro k s' ε' L' ⟨rfl, rfl, rfl, he⟩;co_applyP aV he;have hv1 : At L' vp 0 (ptr t) := let ⟨a, b, c, d, e, f⟩ := hv; ⟨a, b, c, d, hA.sub _ e, f⟩;co_applyP aI;co_applyP aq (n₂ := 0);co_applyP aa;co_applyP om rfl rfl rfl (AC);co_applyP om rfl rfl rfl (wN);co_applyP ah;co_applyP aQ rfl;co_applyP aa;co_applyP oy rfl (ba (ht := gT) (hs := ft) (hm := hA.self) (hi := Nat.le_refl _));co_applyP oy rfl (Bz hv1);co_applyP oy rfl ae;co_applyP bT rfl (AF (hN2 _));intro nb2 L2 hA2;have hat2 : At L2 nb2 0 (ptr r) := ⟨true, _, _, _, hA2.self, rfl⟩;co_applyP oeN rfl (fun hnd => BB hnd hat2 (hA2.sub _ (hA.sub _ ht)) (Nat.one_pos));rintro _ L3 ⟨rfl, hU⟩;co_applyP ah;co_applyP aa;co_applyP oan rfl;co_applyP aK;change ∃ v, resE .. = some v ∧ _;exact ⟨_, rfl, rfl, rfl, L2, hA2.fn, fun x hx => hA2.sub _ (hA.sub _ hx), hU⟩
theorem BE : ∃ n, ∀ {σ} {F : Fam σ} {Δ : DM F} {main s} (L : Frag) (e : Nat × Nat) (t : Nat), (∀ cs, (Δ s).New (.cells cs 196)) → (∀ cs, (Δ s).New (.cells cs 182)) → At L 2 0 (rty 168) →
   CallsL Δ Tryz.prog main 103 [.iface 255 (ptq e), .iface 182 (ptr t)].toArray n s L (fun s' v L' => s = s' ∧ v = .bool false ∧ Fun L' ∧ ∀ t ∈ L, t ∈ L') := by
 obtain ⟨n1, g1⟩ := BC;apply Exists.intro;intro σ F Δ main s L e t hN hN2 hg;co_applyP aB 42 Tryz.func103 Tryz.ntmps103;co_applyP aa;co_applyP oan rfl;co_applyP aq;co_applyP aa;co_applyP om rfl rfl rfl (dH (v := .iface 255 (ptq e)) (c := false) (hv := .inr ⟨_, _, rfl, rfl⟩) (hu := Tryz.underlying168));co_applyP ah;co_applyP ai rfl;co_applyP aD;co_applyP aq;co_applyP aa;co_applyP om rfl rfl rfl (dH (v := .iface 182 (ptr t)) (c := false) (hv := .inr ⟨_, _, rfl, rfl⟩) (hu := Tryz.underlying20));co_applyP ah;co_applyP ai rfl;co_applyP aD;co_applyP aa;co_applyP oy rfl ae;co_applyP bT rfl (ym (hN2 _));intro vp L1 hA;co_applyP bT rfl (eV (z := .agg #[.pointer none, .pointer none, .int .u64 0]) (hN _));intro nb L2 hA2;co_applyP oeN rfl (fun hnd => fH (hs := ft) (vs := [.pointer (some ⟨11, 182, none⟩), ptr vp, .int .u64 150]) (hnd := hnd) (hm := hA2.self) (hi := Nat.le_refl _));rintro _ L3 ⟨rfl, hU⟩;have hb3 := hU.self;have hv3 : (vp, true, Obj.cells #[ptr t] 182) ∈ L3 := hU.ne _ (hA2.sub _ hA.self) (fun h => hA2.new _ hA.self h);have hvp : At L3 vp 0 (ptr t) := ⟨true, _, _, _, hv3, rfl⟩;have hL3 : ∀ x ∈ L, x ∈ L3 := fun x hx => hU.ne _ (hA2.sub _ (hA.sub _ hx)) (fun h => hA2.new _ (hA.sub _ hx) h);have hg3 : At L3 2 0 (rty 168) := let ⟨a, b, c, d, e, f⟩ := hg; ⟨a, b, c, d, hL3 _ e, f⟩;co_applyP ah;co_applyP aa;co_applyP oy rfl (ba (ht := gT) (hs := ft) (hm := hb3) (hi := Nat.le_refl _));co_applyP oy rfl (AD);co_applyP oan rfl;co_applyP aq;co_applyP aa;co_applyP om rfl rfl rfl (nG);co_applyP oy rfl fy;co_applyP om rfl rfl rfl (ba (ht := gT) (hs := ft) (hm := hb3) (hi := Nat.le_refl _));co_applyP oy rfl (AE hvp);co_applyP oy rfl aP;co_applyP ah;co_applyP ai rfl;co_applyP aD;co_applyP aa;co_applyP om rfl rfl rfl (nI);co_applyP oan rfl;co_applyP aq;co_applyP aa;co_applyP om rfl rfl rfl (nH);co_applyP oy rfl fy;co_applyP om rfl rfl rfl (ae);co_applyP oy rfl ((aF (ht := tT)));co_applyP oy rfl (yk);co_applyP oy rfl (cN);co_applyP oy rfl aP;co_applyP ah;co_applyP ai rfl;co_applyP aD;co_applyP aa;co_applyP om rfl rfl rfl ae;co_applyP oy rfl (ba (ht := gT) (hs := ft) (hm := hb3) (hi := Nat.le_refl _));co_applyP oy rfl ae;co_applyP oc rfl rfl rfl (g1 L3 e t vp hN);rintro _ _ _ ⟨rfl, rfl, hF, hs⟩;co_applyP oan rfl;co_applyP aK
 change ∃ v, resE .. = some v ∧ _;exact ⟨_, rfl, rfl, rfl, hF, fun x hx => hs _ (hL3 _ hx)⟩
theorem BF : ∃ n, ∀ {σ} {F : Fam σ} {Δ : DM F} {main s} (L : Frag) (e t : Nat) (v0 : Value), (∀ cs, (Δ s).New (.cells cs 196)) → (∀ cs, (Δ s).New (.cells cs 182)) → At L 2 0 (rty 168) → (∀ cs, (Δ s).New (.cells cs 180)) → (t, true, Obj.cells #[v0] 180) ∈ L →
   CallsL Δ Tryz.prog main 103 [.iface 180 (ptr e), .iface 182 (ptr t)].toArray n s L (fun s' v L' => s = s' ∧ v = .bool true ∧ ∃ L1, Fun L1 ∧ (∀ t ∈ L, t ∈ L1) ∧ Upd L1 t (.cells #[ptr e] 180) L') := by
 obtain ⟨n1, g1⟩ := BD;apply Exists.intro;intro σ F Δ main s L e t v0 hN hN2 hg hN3 ht;co_applyP aB 42 Tryz.func103 Tryz.ntmps103;co_applyP aa;co_applyP oan rfl;co_applyP aq;co_applyP aa;co_applyP om rfl rfl rfl (dH (v := .iface 180 (ptr e)) (c := false) (hv := .inr ⟨_, _, rfl, rfl⟩) (hu := Tryz.underlying168));co_applyP ah;co_applyP ai rfl;co_applyP aD;co_applyP aq;co_applyP aa;co_applyP om rfl rfl rfl (dH (v := .iface 182 (ptr t)) (c := false) (hv := .inr ⟨_, _, rfl, rfl⟩) (hu := Tryz.underlying20));co_applyP ah;co_applyP ai rfl;co_applyP aD;co_applyP aa;co_applyP oy rfl ae;co_applyP bT rfl (ym (hN2 _));intro vp L1 hA;co_applyP bT rfl (eV (z := .agg #[.pointer none, .pointer none, .int .u64 0]) (hN _));intro nb L2 hA2;co_applyP oeN rfl (fun hnd => fH (hs := ft) (vs := [.pointer (some ⟨11, 182, none⟩), ptr vp, .int .u64 150]) (hnd := hnd) (hm := hA2.self) (hi := Nat.le_refl _));rintro _ L3 ⟨rfl, hU⟩;have hb3 := hU.self;have hv3 : (vp, true, Obj.cells #[ptr t] 182) ∈ L3 := hU.ne _ (hA2.sub _ hA.self) (fun h => hA2.new _ hA.self h);have hvp : At L3 vp 0 (ptr t) := ⟨true, _, _, _, hv3, rfl⟩;have hL3 : ∀ x ∈ L, x ∈ L3 := fun x hx => hU.ne _ (hA2.sub _ (hA.sub _ hx)) (fun h => hA2.new _ (hA.sub _ hx) h);have hg3 : At L3 2 0 (rty 168) := let ⟨a, b, c, d, e, f⟩ := hg; ⟨a, b, c, d, hL3 _ e, f⟩;co_applyP ah;co_applyP aa;co_applyP oy rfl (ba (ht := gT) (hs := ft) (hm := hb3) (hi := Nat.le_refl _));co_applyP oy rfl (AD);co_applyP oan rfl;co_applyP aq;co_applyP aa;co_applyP om rfl rfl rfl (nG);co_applyP oy rfl fy;co_applyP om rfl rfl rfl (ba (ht := gT) (hs := ft) (hm := hb3) (hi := Nat.le_refl _));co_applyP oy rfl (AE hvp);co_applyP oy rfl aP;co_applyP ah;co_applyP ai rfl;co_applyP aD;co_applyP aa;co_applyP om rfl rfl rfl (nI);co_applyP oan rfl;co_applyP aq;co_applyP aa;co_applyP om rfl rfl rfl (nH);co_applyP oy rfl fy;co_applyP om rfl rfl rfl (ae);co_applyP oy rfl ((aF (ht := tT)));co_applyP oy rfl (yk);co_applyP oy rfl (cN);co_applyP oy rfl aP;co_applyP ah;co_applyP ai rfl;co_applyP aD;co_applyP aa;co_applyP om rfl rfl rfl ae;co_applyP oy rfl (ba (ht := gT) (hs := ft) (hm := hb3) (hi := Nat.le_refl _));co_applyP oy rfl ae;co_applyP oc rfl rfl rfl (g1 L3 e t vp v0 hN hN3 hvp (hL3 _ ht));rintro _ _ _ ⟨rfl, rfl, L4, hF, hs, hU4⟩;co_applyP oan rfl
 co_applyP aK;change ∃ v, resE .. = some v ∧ _;exact ⟨_, rfl, rfl, rfl, L4, hF, fun x hx => hs _ (hL3 _ hx), hU4⟩
end Go.Proofs.YtejkelcaljmnoaaGreatDoor
namespace Go.Lo
open Go.Conc Go.Hx
section
variable {σ : Type} {F : Fam σ} {Δ : ∀ s, Dom (F.R s) (F.D s)} {P : Program} {main : Bool} {fn : FuncId} {N : Nat} {Q : σ → Exit → Env → Frag → Prop} {s : σ} {ε : Env} {L : Frag}
theorem jn {f : FuncId} {vs : Array Value} {n n' : Nat} {Post : σ → Value → Frag → Prop} (h : CallsL Δ P main f vs n s L Post) (hn : n ≤ n') : CallsL Δ P main f vs n' s L Post := fun w hO => by
 obtain ⟨g, c, hf, hname, hbody, hwp⟩ := h w hO;exact ⟨g, c, hf, hname, hbody, fun b k cs m hb hk hc => (hwp b k cs m hb hk hc).mono (by omega)⟩
theorem bR (p : Prop) {c : Code} {n₁ n₂ : Nat} (h1 : p → wpE Δ P main fn N c n₁ s Q ε L) (h2 : ¬ p → wpE Δ P main fn N c n₂ s Q ε L) : wpE Δ P main fn N c (n₁ + n₂) s Q ε L := by
 by_cases h : p
 · exact il (h1 h) (by omega)
 · exact il (h2 h) (by omega)
theorem qr (p : Prop) {ops : Array Oper} {todo : List Nat} {n₁ n₂ : Nat} (h1 : p → OpsE Δ P main fn N ops todo n₁ s Q ε L) (h2 : ¬ p → OpsE Δ P main fn N ops todo n₂ s Q ε L) : OpsE Δ P main fn N ops todo (n₁ + n₂) s Q ε L := by
 by_cases h : p
 · exact lp (h1 h) (by omega)
 · exact lp (h2 h) (by omega)
theorem aM (p : Prop) {f : FuncId} {vs : Array Value} {n₁ n₂ : Nat} {Post : σ → Value → Frag → Prop} (h1 : p → CallsL Δ P main f vs n₁ s L Post) (h2 : ¬ p → CallsL Δ P main f vs n₂ s L Post) : CallsL Δ P main f vs (n₁ + n₂) s L Post := by
 by_cases h : p
 · exact jn (h1 h) (by omega)
 · exact jn (h2 h) (by omega)
theorem aO {f : FuncId} {vs : Array Value} {n : Nat} {Post Post' : σ → Value → Frag → Prop} (h : CallsL Δ P main f vs n s L Post) (hp : ∀ s v L, Post s v L → Post' s v L) : CallsL Δ P main f vs n s L Post' := fun w hO => by
 obtain ⟨g, c, hf, hname, hbody, hwp⟩ := h w hO;refine ⟨g, c, hf, hname, hbody, fun b k cs m hb hk hc => hwp b k cs m hb hk fun s' e a' w' q => hc s' e a' w' ?_⟩;cases e with
 | normal => obtain ⟨h1, v, h2, L', h3, h4⟩ := q; exact ⟨h1, v, h2, L', h3, hp _ _ _ h4⟩
 | ret => obtain ⟨h1, v, h2, L', h3, h4⟩ := q; exact ⟨h1, v, h2, L', h3, hp _ _ _ h4⟩
 | _ => exact q
end
section
variable {P : Program} {New : Obj → Prop} {N : Nat} {ε : Env} {L : Frag} {d : Option Tmp} {ty : TypeId} {ps : String} {af : Array Edge} {g : Option (Nat × Bool)}
theorem bt {t : TypeId} {fs : Array (Nat × Operand)} {ws : List (Nat × Value)} {v : Value} (hv : evR P (Instr.build t ws.toArray) [] = some (v, [])) (hx : fs.toList.map (fun p => (p.1, ev ε p.2)) = ws.map (fun p => (p.1, some p.2)) := by rfl) : EY P N ε L ⟨d, .build t fs, ty, ps, af, g⟩ v := fun a ha => by
 have hw : fs.map (fun p => (p.1, a.eval p.2)) = ws.toArray := by
   apply Array.ext';have : ∀ (l : List (Nat × Operand)) (ws : List (Nat × Value)), l.map (fun p => (p.1, ev ε p.2)) = ws.map (fun p => (p.1, some p.2)) → l.map (fun p => (p.1, a.eval p.2)) = ws := by
     intro l
     induction l with
     | nil => intro vs h; cases vs <;> simp_all
     | cons x l ih =>
       intro vs h;cases vs with
       | nil => simp at h
       | cons v vs =>
         simp only [List.map_cons, List.cons.injEq, Prod.mk.injEq] at h ⊢;exact ⟨Prod.ext h.1.1 (ha.ev h.1.2), ih vs h.2⟩
   simpa using this _ _ hx
 refine cR (fun _ => rfl) fun K hK => ?_;show wpQ P (Instr.build t (fs.map fun p => (p.1, a.eval p.2))) K L;rw [hw];exact bj hv hK
end
end Go.Lo
namespace Go.Proofs.YtejkelcaljmnoaaGreatDoor
open Go.Conc Go.Hx Go.Lo
theorem wQ (r : Nat) : evR Tryz.prog (Go.method (Tryz.prog.types.size + Made.depth) 180 (ptr r) "Unwrap") [] = some ((193, ptr r), []) := by kernel_rfl
theorem yY : (Tryz.prog.info? 255).map (·.comparable) = some true := by kernel_rfl
theorem ua : ∃ n, ∀ {σ} {F : Fam σ} {Δ : DM F} {main s} (L : Frag) (r : Nat) (v : Value), At L r 1 v →
   CallsL Δ Tryz.prog main 193 [ptr r].toArray n s L (fun s' v' L' => s = s' ∧ L = L' ∧ v = v') := by
 apply Exists.intro;intro σ F Δ main s L r v hv;co_applyP aB 7 Tryz.func193 Tryz.ntmps193;co_applyP aa;co_applyP oan rfl;co_applyP aa;co_applyP om rfl rfl rfl aJ;co_applyP oy rfl (au (hf := tU));co_applyP oy rfl (aF (ht := ci));co_applyP oan rfl;co_applyP aK;change ∃ v, resE .. = some v ∧ _;exact ⟨_, rfl, rfl, rfl, rfl⟩
theorem BG : ∃ n, ∀ {σ} {F : Fam σ} {Δ : DM F} {main s} (L : Frag) (r : Nat) (e t : Nat × Nat) (fl fl' : Bool) (cs cs' : Array Value) (ty ty' : TypeId), At L r 1 (.iface 255 (ptq e)) → (e.1, fl, Obj.cells cs ty) ∈ L → (t.1, fl', Obj.cells cs' ty') ∈ L →
   CallsL Δ Tryz.prog main 145 [.iface 180 (ptr r), .iface 255 (ptq t), .bool true].toArray n s L (fun s' v L' => s = s' ∧ L = L' ∧ v = .bool (decide (e = t))) := by
 obtain ⟨n1, g1⟩ := ua;apply Exists.intro;intro σ F Δ main s L r e t fl fl' cs cs' ty ty' hr he ht;co_applyP aB 54 Tryz.func145 Tryz.ntmps145;co_applyP aa;co_applyP oan rfl;co_applyP aI;co_applyP bK (fun k s' ε' L' => s' = s ∧ L' = L ∧ ((k = 2 ∧ kn ε' [(0, .iface 180 (ptr r)), (1, .iface 255 (ptq t)), (2, .bool true)]) ∨ (k = 1 ∧ kn ε' [(0, .iface 255 (ptq e)), (1, .iface 255 (ptq t)), (2, .bool true)]))) 2
 · exact ⟨rfl, rfl, .inl ⟨rfl, rfl⟩⟩
 rintro k s' ε' L' ⟨rfl, rfl, hk⟩;co_applyP bR (k = 2);intro h2
 · have hε : kn ε' [(0, .iface 180 (ptr r)), (1, .iface 255 (ptq t)), (2, .bool true)] := by
     rcases hk with ⟨_, h⟩ | ⟨h, _⟩
     · exact h
     · omega
   co_applyP aV hε;co_applyP aI;co_applyP aq;co_applyP aa;co_applyP om rfl rfl rfl ae;co_applyP om rfl rfl rfl (ae);co_applyP oy rfl (Al (o9 _ _));co_applyP oy rfl aP;co_applyP ah;co_applyP ai rfl;co_applyP aD;co_applyP aq;co_applyP aa;co_applyP om rfl rfl rfl (AA);co_applyP om rfl rfl rfl bW;co_applyP oy rfl bW;co_applyP oy rfl bL;co_applyP oan rfl;co_applyP aa;co_applyP om rfl rfl rfl ae;co_applyP ou rfl;co_applyP ou rfl;co_applyP ou rfl;co_applyP oy rfl aP;co_applyP ah;co_applyP ai rfl;co_applyP aD;co_applyP aa;co_applyP oy rfl ae;co_applyP ah;co_applyP aI;co_applyP aa;co_applyP oy rfl (By (AB _));co_applyP oy rfl bW;co_applyP oy rfl bW;co_applyP ah;co_applyP aQ rfl;co_applyP aa;co_applyP oan rfl;co_applyP aa;co_applyP oy rfl ae;co_applyP oi rfl (vs := []) (rc := ptr r) (hm := bj (wQ r) rfl) (hf := Tryz.func193) (hcall := g1 L' r (.iface 255 (ptq e)) hr);rintro _ _ _ ⟨rfl, rfl, rfl⟩;co_applyP oan rfl;co_applyP aa;co_applyP om rfl rfl rfl (dH (v := .iface 255 (ptq e)) (c := false) (hv := .inr ⟨_, _, rfl, rfl⟩) (hu := Tryz.underlying168));co_applyP ah;co_applyP ai rfl;co_applyP aD;change ∃ k', k' < _ ∧ _;exact ⟨1, by omega, rfl, rfl, .inr ⟨rfl, rfl⟩⟩
 intro h2;co_applyP aI;co_applyP aq;co_applyP aq;have hε : kn ε' [(0, .iface 255 (ptq e)), (1, .iface 255 (ptq t)), (2, .bool true)] := by
   rcases hk with ⟨h, _⟩ | ⟨_, h⟩
   · omega
   · exact h
 co_applyP aV hε;co_applyP ax;co_applyP om rfl rfl rfl ae;co_applyP om rfl rfl rfl (ae);co_applyP oy rfl (Am (hu := Tryz.underlying168) (hi := yY) (hp := Tryz.underlying255) (hs := yX) (h1 := he) (h2 := ht));co_applyP oy rfl aP;co_applyP ah;co_applyP bk rfl;intro hc;co_applyP aa;co_applyP oan rfl;co_applyP aK;change ∃ v, resE .. = some v ∧ _
 · have e1 : e = t := by simpa [Prod.ext_iff] using hc
   exact ⟨_, rfl, rfl, rfl, by simp [e1]⟩
 intro hc;co_applyP aD;co_applyP aq;co_applyP aa;co_applyP oy rfl ae;have e1 : ¬ e = t := by simpa [Prod.ext_iff] using hc
 co_applyP oy rfl (Az);co_applyP om rfl rfl rfl bW;co_applyP oy rfl bW;co_applyP oy rfl bL;co_applyP oan rfl;co_applyP aa;co_applyP om rfl rfl rfl ae;co_applyP ou rfl;co_applyP ou rfl;co_applyP ou rfl;co_applyP oy rfl aP;co_applyP ah;co_applyP ai rfl;co_applyP aD;co_applyP aa;co_applyP oy rfl ae;co_applyP ah;co_applyP aI;co_applyP aa;co_applyP oy rfl (yh);co_applyP oy rfl bW;co_applyP oy rfl bW;co_applyP ah;co_applyP ai rfl;co_applyP aa;co_applyP oy rfl (yi);co_applyP oy rfl bW;co_applyP oy rfl bW;co_applyP ah;co_applyP ai rfl;co_applyP aa;co_applyP oan rfl;co_applyP aa;co_applyP oan rfl;co_applyP aK;change ∃ v, resE .. = some v ∧ _;exact ⟨_, rfl, rfl, rfl, by simp [e1]⟩
theorem BH : ∃ n, ∀ {σ} {F : Fam σ} {Δ : DM F} {main s} (L : Frag) (r : Nat) (e t : Nat × Nat) (fl fl' : Bool) (cs cs' : Array Value) (ty ty' : TypeId), At L r 1 (.iface 255 (ptq e)) → (e.1, fl, Obj.cells cs ty) ∈ L → (t.1, fl', Obj.cells cs' ty') ∈ L →
   CallsL Δ Tryz.prog main 123 [.iface 180 (ptr r), .iface 255 (ptq t)].toArray n s L (fun s' v L' => s = s' ∧ L = L' ∧ v = .bool (decide (e = t))) := by
 obtain ⟨n1, g1⟩ := BG;apply Exists.intro;intro σ F Δ main s L r e t fl fl' cs cs' ty ty' hr he ht;co_applyP aB 22 Tryz.func123 Tryz.ntmps123;co_applyP aa;co_applyP oan rfl;co_applyP aq;co_applyP aa;co_applyP om rfl rfl rfl (dH (v := .iface 180 (ptr r)) (c := false) (hv := .inr ⟨_, _, rfl, rfl⟩) (hu := Tryz.underlying168));co_applyP om rfl rfl rfl (ae);co_applyP oy rfl (dH (v := .iface 255 (ptq t)) (c := false) (hv := .inr ⟨_, _, rfl, rfl⟩) (hu := Tryz.underlying168));co_applyP oy rfl aP;co_applyP ah;co_applyP ai rfl;co_applyP aD;co_applyP aa;co_applyP om rfl rfl rfl (yj);co_applyP oy rfl (BA);co_applyP oan rfl;co_applyP aa;co_applyP om rfl rfl rfl ae;co_applyP oy rfl ae;co_applyP oc rfl rfl rfl (g1 L r e t fl fl' cs cs' ty ty' hr he ht);rintro _ _ _ ⟨rfl, rfl, rfl⟩;co_applyP oan rfl;co_applyP aK;change ∃ v, resE .. = some v ∧ _;exact ⟨_, rfl, rfl, rfl, rfl⟩
structure Ers (eb : Nat → Nat × Nat) (L : Frag) : Prop where
 g : ∀ i, i < 11 → i ≠ 2 → At L i 0 (.iface 255 (ptq (eb i)))
 t : At L 2 0 (rty 168)
 b : ∀ i, i < 11 → i ≠ 2 → ∃ fl cs ty, ((eb i).1, fl, Obj.cells cs ty) ∈ L
 d : ∀ i j, i < 11 → j < 11 → i ≠ 2 → j ≠ 2 → eb i = eb j → i = j
theorem jC {L L' : Frag} {b i : Nat} {v : Value} (h : At L b i v) (hs : ∀ t ∈ L, t ∈ L') : At L' b i v := let ⟨a, b, c, d, e, f⟩ := h; ⟨a, b, c, d, hs _ e, f⟩
theorem Ers.mono {eb : Nat → Nat × Nat} {L L' : Frag} (h : Ers eb L) (hs : ∀ t ∈ L, t ∈ L') : Ers eb L' :=
 ⟨fun i h1 h2 => jC (h.g i h1 h2) hs, jC h.t hs, fun i h1 h2 => let ⟨a, b, c, d⟩ := h.b i h1 h2; ⟨a, b, c, hs _ d⟩, h.d⟩
def ansOf (i : Nat) : Int := if i = 3 then 65535 else if i = 4 then 65534 else if i = 5 then 65533 else if i = 6 then 65532 else if i = 7 then 65531 else if i = 8 then 65530 else 65529
theorem ub : ∃ n, ∀ {σ} {F : Fam σ} {Δ : DM F} {main s} (L : Frag) (eb : Nat → Nat × Nat) (r i : Nat), Ers eb L → i < 11 → i ≠ 2 → At L r 1 (.iface 255 (ptq (eb i))) →
   CallsL Δ Tryz.prog main 104 [ptr r].toArray n s L (fun s' v L' => s = s' ∧ L = L' ∧ v = .int .u16 (ansOf i)) := by
 obtain ⟨n1, g1⟩ := BH;apply Exists.intro;intro σ F Δ main s L eb r i hE hi hi2 hr;have hi180 : ∀ ms : Array (String × TypeId), TypeDesc.pointer 210 ≠ .interface ms := fun _ => by simp
 obtain ⟨fl, cs, ty, hb⟩ := hE.b i hi hi2;obtain ⟨f3, c3, t3, h3⟩ := hE.b 3 (by decide) (by decide);obtain ⟨f4, c4, t4, h4⟩ := hE.b 4 (by decide) (by decide);obtain ⟨f5, c5, t5, h5⟩ := hE.b 5 (by decide) (by decide);obtain ⟨f6, c6, t6, h6⟩ := hE.b 6 (by decide) (by decide);obtain ⟨f7, c7, t7, h7⟩ := hE.b 7 (by decide) (by decide);obtain ⟨f8, c8, t8, h8⟩ := hE.b 8 (by decide) (by decide);have g3 := hE.g 3 (by decide) (by decide);have g4 := hE.g 4 (by decide) (by decide);have g5 := hE.g 5 (by decide) (by decide);have g6 := hE.g 6 (by decide) (by decide);have g7 := hE.g 7 (by decide) (by decide);have g8 := hE.g 8 (by decide) (by decide);have d : ∀ j, j < 11 → j ≠ 2 → ¬ eb i = eb j → i ≠ j := fun j _ _ h e => h (by rw [e]);co_applyP aB 33 Tryz.func104 Tryz.ntmps104;co_applyP aa;co_applyP oan rfl;co_applyP aI;co_applyP aa;co_applyP om rfl rfl rfl (io hi180 (ht := o8));co_applyP oy rfl (aF (ht := ci));co_applyP oc rfl rfl rfl (g1 L r (eb i) (eb 3) fl f3 cs c3 ty t3 hr hb h3);rintro _ _ _ ⟨rfl, rfl, rfl⟩;co_applyP oan rfl;co_applyP bk rfl;intro hc;co_applyP aa;co_applyP oan rfl;co_applyP aK;change ∃ v, resE .. = some v ∧ _
 · have e : i = 3 := hE.d i 3 hi (by decide) hi2 (by decide) (by simpa using hc);exact ⟨_, rfl, rfl, rfl, by simp [ansOf, e]⟩
 intro hc;co_applyP aa;co_applyP oy rfl ae;have e3 := d 3 (by decide) (by decide) (by simpa using hc);co_applyP oy rfl (io hi180 (ht := o8));co_applyP oy rfl (aF (ht := ci));co_applyP oc rfl rfl rfl (g1 L r (eb i) (eb 4) fl f4 cs c4 ty t4 hr hb h4);rintro _ _ _ ⟨rfl, rfl, rfl⟩;co_applyP oan rfl;co_applyP bk rfl;intro hc;co_applyP aa;co_applyP oan rfl;co_applyP aK;change ∃ v, resE .. = some v ∧ _
 · have e : i = 4 := hE.d i 4 hi (by decide) hi2 (by decide) (by simpa using hc);exact ⟨_, rfl, rfl, rfl, by simp [ansOf, e]⟩
 intro hc;co_applyP aa;co_applyP oy rfl ae;have e4 := d 4 (by decide) (by decide) (by simpa using hc);co_applyP oy rfl (io hi180 (ht := o8));co_applyP oy rfl (aF (ht := ci));co_applyP oc rfl rfl rfl (g1 L r (eb i) (eb 5) fl f5 cs c5 ty t5 hr hb h5);rintro _ _ _ ⟨rfl, rfl, rfl⟩;co_applyP oan rfl;co_applyP bk rfl;intro hc;co_applyP aa;co_applyP oan rfl;co_applyP aK;change ∃ v, resE .. = some v ∧ _
 · have e : i = 5 := hE.d i 5 hi (by decide) hi2 (by decide) (by simpa using hc);exact ⟨_, rfl, rfl, rfl, by simp [ansOf, e]⟩
 intro hc;co_applyP aa;co_applyP oy rfl ae;have e5 := d 5 (by decide) (by decide) (by simpa using hc);co_applyP oy rfl (io hi180 (ht := o8));co_applyP oy rfl (aF (ht := ci));co_applyP oc rfl rfl rfl (g1 L r (eb i) (eb 6) fl f6 cs c6 ty t6 hr hb h6);rintro _ _ _ ⟨rfl, rfl, rfl⟩;co_applyP oan rfl;co_applyP bk rfl;intro hc;co_applyP aa;co_applyP oan rfl;co_applyP aK;change ∃ v, resE .. = some v ∧ _
 · have e : i = 6 := hE.d i 6 hi (by decide) hi2 (by decide) (by simpa using hc);exact ⟨_, rfl, rfl, rfl, by simp [ansOf, e]⟩
 intro hc;co_applyP aa;co_applyP oy rfl ae;have e6 := d 6 (by decide) (by decide) (by simpa using hc);co_applyP oy rfl (io hi180 (ht := o8));co_applyP oy rfl (aF (ht := ci));co_applyP oc rfl rfl rfl (g1 L r (eb i) (eb 7) fl f7 cs c7 ty t7 hr hb h7);rintro _ _ _ ⟨rfl, rfl, rfl⟩;co_applyP oan rfl;co_applyP bk rfl;intro hc;co_applyP aa;co_applyP oan rfl;co_applyP aK;change ∃ v, resE .. = some v ∧ _
 · have e : i = 7 := hE.d i 7 hi (by decide) hi2 (by decide) (by simpa using hc);exact ⟨_, rfl, rfl, rfl, by simp [ansOf, e]⟩
 intro hc;co_applyP aa;co_applyP oy rfl ae;have e7 := d 7 (by decide) (by decide) (by simpa using hc);co_applyP oy rfl (io hi180 (ht := o8));co_applyP oy rfl (aF (ht := ci));co_applyP oc rfl rfl rfl (g1 L r (eb i) (eb 8) fl f8 cs c8 ty t8 hr hb h8);rintro _ _ _ ⟨rfl, rfl, rfl⟩;co_applyP oan rfl;co_applyP bk rfl;intro hc;co_applyP aa;co_applyP oan rfl;co_applyP aK;change ∃ v, resE .. = some v ∧ _
 · have e : i = 8 := hE.d i 8 hi (by decide) hi2 (by decide) (by simpa using hc);exact ⟨_, rfl, rfl, rfl, by simp [ansOf, e]⟩
 intro hc;co_applyP aa;co_applyP oan rfl;co_applyP aK;change ∃ v, resE .. = some v ∧ _;have e8 := d 8 (by decide) (by decide) (by simpa using hc);exact ⟨_, rfl, rfl, rfl, by simp [ansOf, e3, e4, e5, e6, e7, e8]⟩
section
variable {K : Nat} {A : Lay} {S : St} {Fr L : Frag}
theorem Rep.kat (h : Rep K A S Fr L) {i : Nat} {v : Value} (hv : (kcells (kst A S))[i]? = some v) : At L K i v := ⟨true, _, _, _, h.k, hv⟩
theorem Rep.pat (h : Rep K A S Fr L) {b : Nat} {x : PS} (hb : (b, x) ∈ S.ps) {i : Nat} {v : Value} (hv : (pcells x)[i]? = some v) : At L b i v := ⟨true, _, _, _, h.p _ hb, hv⟩
end
theorem AI : ∃ n, ∀ {σ} {F : Fam σ} {Δ : DM F} {main s} (K : Nat) (A : Lay) (S : St) (Fr L : Frag), Rep K A S Fr L →
   CallsL Δ Tryz.prog main 36 [ptr K].toArray n s L (fun s' v L' => s = s' ∧ L = L' ∧ v = slv (A.a 0) S.ps.length) := by
 apply Exists.intro;intro σ F Δ main s K A S Fr L hR;have h1 : At L K 5 _ := hR.kat rfl;co_applyP aB 9 Tryz.func36 Tryz.ntmps36;co_applyP aa;co_applyP oan rfl;co_applyP aq;co_applyP aa;co_applyP om rfl rfl rfl (jj (hu := Tryz.underlying35));co_applyP ah;co_applyP ai rfl;co_applyP aD;co_applyP aa;co_applyP om rfl rfl rfl aJ;co_applyP oy rfl (au (hf := bO));co_applyP oy rfl (aF (ht := dp));co_applyP oan rfl;co_applyP aK;change ∃ v, resE .. = some v ∧ _;exact ⟨_, rfl, rfl, rfl, rfl⟩
def St.find (S : St) (id : Int) : Option (Nat × PS) := S.ps.find? fun q => (q.2.id : Int) == id
def optPtr : Option Nat → Value
 | none => .pointer none
 | some b => ptr b
theorem wR {S : St} {id : Int} {l1 l2 : List (Nat × PS)} {q : Nat × PS} (hl : S.ps = l1 ++ q :: l2) (hn : ∀ q ∈ l1, ((q.2.id : Int) == id) = false) (hq : ((q.2.id : Int) == id) = true) : S.find id = some q := by
 unfold St.find;rw [hl, List.find?_append, List.find?_cons, hq];have : l1.find? (fun q => (q.2.id : Int) == id) = none := List.find?_eq_none.2 fun r hr => by simp [hn r hr]
 rw [this]; rfl
theorem rP {S : St} {id : Int} (hn : ∀ q ∈ S.ps, ((q.2.id : Int) == id) = false) : S.find id = none := List.find?_eq_none.2 fun r hr => by simp [hn r hr]
theorem mj : ∃ n, ∀ {σ} {F : Fam σ} {Δ : DM F} {main s} (K : Nat) (A : Lay) (S : St) (Fr L : Frag) (id : Int), Rep K A S Fr L →
   CallsL Δ Tryz.prog main 37 [ptr K, .int .i64 id].toArray n s L (fun s' v L' => s = s' ∧ L = L' ∧ v = optPtr ((S.find id).map (·.1))) := by
 obtain ⟨n1, g1⟩ := AI;apply Exists.intro;intro σ F Δ main s K A S Fr L id hR;obtain ⟨base, cap, hv, hat⟩ := bw hR.pa;simp only [List.length_map] at hv;co_applyP aB 23 Tryz.func37 Tryz.ntmps37;co_applyP aa;co_applyP oan rfl;co_applyP aq;co_applyP aa;co_applyP oy rfl ae;co_applyP oc rfl rfl rfl (g1 K A S Fr L hR);rintro _ _ _ ⟨rfl, rfl, rfl⟩;rw [hv];co_applyP oy rfl (bB (hu := U91));co_applyP oy rfl ae;co_applyP ah;co_applyP aI;co_applyP bK (fun k s' ε' L' => s' = s ∧ L' = L ∧ ∃ l1 l2, S.ps = l1 ++ l2 ∧ (∀ q ∈ l1, ((q.2.id : Int) == id) = false) ∧ k + l1.length = 8 ∧ kn ε' [(10, .int .i64 l1.length), (9, .int .i64 S.ps.length), (8, .slice base S.ps.length cap), (1, .int .i64 id), (0, ptr K)]) 8
 · exact ⟨rfl, rfl, [], S.ps, rfl, by simp, rfl, rfl⟩
 rintro k s' ε' L' ⟨rfl, rfl, l1, l2, hl, hn, hk, he⟩;co_applyP aV he;have hlen := congrArg List.length hl;simp only [List.length_append] at hlen;have h8 := hR.p8;co_applyP aa;co_applyP oy rfl cF;co_applyP ah;co_applyP aq;co_applyP bk rfl;intro hc
 · cases l2 with
   | nil => simp at hc hlen; omega
   | cons q l2 =>
     obtain ⟨b, hb, hbs, hbv⟩ := hat l1.length (ptr q.1) (by rw [hl]; simp);subst hbs;have hq := hR.pat (b := q.1) (x := q.2) (by rw [hl]; simp) (i := 0) rfl;simp at hlen;co_applyP aD;co_applyP aq;co_applyP aI;co_applyP aa;co_applyP oy rfl (bH U91 bN);co_applyP oy rfl (aF (ht := dz));co_applyP oan rfl;co_applyP aa;co_applyP om rfl rfl rfl aJ;co_applyP oy rfl (au (hf := aC));co_applyP oy rfl (au (hf := dT));co_applyP oy rfl (aF (ht := aY));co_applyP om rfl rfl rfl aA;co_applyP ah;co_applyP bk rfl;intro hid;co_applyP aa;co_applyP oy rfl ae;co_applyP oan rfl;co_applyP aK;change ∃ v, resE .. = some v ∧ _;exact ⟨_, rfl, rfl, rfl, by rw [wR hl hn hid]; rfl⟩;intro hid;co_applyP aD;co_applyP ax;co_applyP oy rfl aR;co_applyP oy rfl ae;co_applyP ah;change ∃ k', k' < _ ∧ _;refine ⟨k - 1, by omega, rfl, rfl, l1 ++ [q], l2, by simp [hl], ?_, by simp; omega, ?_⟩
     · intro r hr;rcases List.mem_append.1 hr with h | h
       · exact hn r h
       · simp at h; rw [h]; exact hid
     · have e : IntKind.i64.wrap ((l1.length : Int) + 1) = ((l1 ++ [q]).length : Int) := by simp [IntKind.wrap_i64]; omega
       rw [← e]; rfl
 intro hc;co_applyP bS;co_applyP aa;co_applyP oan rfl;co_applyP aK;change ∃ v, resE .. = some v ∧ _;cases l2 with
 | nil => exact ⟨_, rfl, rfl, rfl, by rw [rP (by rw [hl]; simpa using hn)]; rfl⟩
 | cons q l2 => simp at hc hlen; omega
theorem yZ : ∃ n, ∀ {σ} {F : Fam σ} {Δ : DM F} {main s} (K : Nat) (A : Lay) (S : St) (Fr L : Frag) (b : Nat) (x : PS), Rep K A S Fr L → S.find 1 = some (b, x) →
   CallsL Δ Tryz.prog main 62 [ptr K].toArray n s L (fun s' v L' => s = s' ∧ L = L' ∧ v = .bool ((x.st : Int) == 6)) := by
 obtain ⟨n1, g1⟩ := mj;apply Exists.intro;intro σ F Δ main s K A S Fr L b x hR hf;have hb : (b, x) ∈ S.ps := List.mem_of_find?_eq_some hf;have h1 := hR.pat hb (i := 2) rfl;co_applyP aB 16 Tryz.func62 Tryz.ntmps62;co_applyP aa;co_applyP oan rfl;co_applyP aa;co_applyP oy rfl ae;co_applyP oc rfl rfl rfl (g1 K A S Fr L 1 hR);rintro _ _ _ ⟨rfl, rfl, rfl⟩;rw [hf];co_applyP oan rfl;co_applyP aa;co_applyP om rfl rfl rfl (jj (hu := U93));co_applyP om rfl rfl rfl (ae);co_applyP oy rfl (aJ);co_applyP oy rfl ((au (hf := aC)));co_applyP oy rfl ((au (hf := cZ)));co_applyP oy rfl ((aF (ht := aY)));co_applyP oy rfl (aA);co_applyP oy rfl aP;co_applyP oan rfl;co_applyP aK;change ∃ v, resE .. = some v ∧ _;exact ⟨_, rfl, rfl, rfl, rfl⟩
theorem j8 (k : KS) {l : Nat} (hl : l < 3) : (kcells k)[7 + l]? = some (k.row l) := by
 rcases l with _ | _ | _ | l
 · rfl
 · rfl
 · rfl
 · omega
def St.first (S : St) : Option Nat := (S.rows 0 ++ (S.rows 1 ++ S.rows 2)).head?
theorem qt : ∃ n, ∀ {σ} {F : Fam σ} {Δ : DM F} {main s} (K : Nat) (A : Lay) (S : St) (Fr L : Frag), Rep K A S Fr L →
   CallsL Δ Tryz.prog main 82 [.pointer (some ⟨K, 7, none⟩)].toArray n s L (fun s' v L' => s = s' ∧ L = L' ∧ v = optPtr S.first) := by
 apply Exists.intro;intro σ F Δ main s K A S Fr L hR;co_applyP aB 19 Tryz.func82 Tryz.ntmps82;co_applyP aa;co_applyP oan rfl;co_applyP aq;co_applyP aa;co_applyP om rfl rfl rfl aJ;co_applyP oy rfl ae;co_applyP ah;co_applyP aI;co_applyP bK (fun k s' ε' L' => s' = s ∧ L' = L ∧ ∃ i : Nat, k + i = 3 ∧ (∀ j, j < i → S.rows j = []) ∧ kn ε' [(7, .int .i64 i), (5, .pointer (some ⟨K, 7, none⟩)), (0, .pointer (some ⟨K, 7, none⟩))]) 3
 · exact ⟨rfl, rfl, 0, rfl, by simp, rfl⟩
 rintro k s' ε' L' ⟨rfl, rfl, i, hk, hn, he⟩;co_applyP aV he;co_applyP aa;co_applyP oy rfl cF;co_applyP ah;co_applyP aq;co_applyP bk rfl;intro hc
 · have hi : i < 3 := by simp at hc; omega
   obtain ⟨base, cap, hv, hat⟩ := bw (hR.rw i hi);simp only [List.length_map] at hv;have hrow : At L' K (7 + i) (.slice base (S.rows i).length cap) := by
     rw [← hv]; exact hR.kat (j8 _ hi)
   co_applyP aD;co_applyP aq;co_applyP aI;co_applyP aa;co_applyP oy rfl aJ;co_applyP oy rfl (aX mh eK);co_applyP oy rfl (aF (ht := dp));co_applyP oan rfl;co_applyP aa;co_applyP om rfl rfl rfl (bB (hu := U91));co_applyP oy rfl dn;co_applyP ah;co_applyP bk rfl;intro hz;cases hxs : S.rows i with
   | nil => rw [hxs] at hz; simp at hz
   | cons b bs =>
     obtain ⟨c, hc1, hc2, hc3⟩ := hat 0 (ptr b) (by rw [hxs]; rfl);subst hc2;have hb0 : 0 < ((S.rows i).length : Int) := by rw [hxs]; simp
     co_applyP aa;co_applyP om rfl rfl rfl (bH U91 bN);co_applyP oy rfl (aF (ht := dz));co_applyP oan rfl;co_applyP aK;change ∃ v, resE .. = some v ∧ _;refine ⟨_, rfl, rfl, rfl, ?_⟩;have : S.first = some b := by
       unfold St.first
       rcases i with _ | _ | _ | i
       · rw [hxs]; rfl
       · rw [hn 0 (by omega), hxs]; rfl
       · rw [hn 0 (by omega), hn 1 (by omega), hxs]; rfl
       · omega
     rw [this]; rfl
   intro hz;co_applyP aD;co_applyP ax;co_applyP oy rfl aR;co_applyP oy rfl ae;co_applyP ah;change ∃ k', k' < _ ∧ _;refine ⟨k - 1, by omega, rfl, rfl, i + 1, by omega, fun j hj => ?_, ?_⟩
   · rcases Nat.lt_succ_iff_lt_or_eq.1 hj with h | rfl
     · exact hn j h
     · simpa using hz
   · have e : IntKind.i64.wrap ((i : Int) + 1) = ((i + 1 : Nat) : Int) := by simp [IntKind.wrap_i64]; omega
     rw [← e]; rfl
 intro hc;co_applyP bS;co_applyP aa;co_applyP oan rfl;co_applyP aK;change ∃ v, resE .. = some v ∧ _;have h3 : 3 ≤ i := by simp at hc; omega
 refine ⟨_, rfl, rfl, rfl, ?_⟩;have : S.first = none := by unfold St.first; rw [hn 0 (by omega), hn 1 (by omega), hn 2 (by omega)]; rfl
 rw [this]; rfl
def idx (xs : List Nat) (b : Nat) : Int := match xs.findIdx? (· == b) with
 | some i => i
 | none => -1
theorem pc {xs l1 l2 : List Nat} {q b : Nat} (hl : xs = l1 ++ q :: l2) (hn : ∀ c ∈ l1, c ≠ b) (hq : q = b) : idx xs b = l1.length := by
 have : xs.findIdx? (· == b) = some l1.length := by
   rw [hl, List.findIdx?_append, List.findIdx?_cons];have h1 : l1.findIdx? (· == b) = none := List.findIdx?_eq_none_iff.2 fun c hc => by simpa using hn c hc
   simp [h1, hq]
 unfold idx; rw [this]
theorem nJ {xs : List Nat} {b : Nat} (hn : ∀ c ∈ xs, c ≠ b) : idx xs b = -1 := by
 have : xs.findIdx? (· == b) = none := List.findIdx?_eq_none_iff.2 fun c hc => by simpa using hn c hc
 unfold idx; rw [this]
theorem qu : ∃ n, ∀ {σ} {F : Fam σ} {Δ : DM F} {main s} (L : Frag) (a : Sl) (xs : List Nat) (b : Nat), xs.length ≤ 8 → slOk a (xs.map ptr) 93 L → (∀ c ∈ xs, ∃ x, pb c x ∈ L) → (∃ x, pb b x ∈ L) →
   CallsL Δ Tryz.prog main 115 [slv a xs.length, ptr b].toArray n s L (fun s' v L' => s = s' ∧ L = L' ∧ v = .int .i64 (idx xs b)) := by
 apply Exists.intro;intro σ F Δ main s L a xs b h8 ha hxs hb;obtain ⟨base, cap, hv, hat⟩ := bw ha;simp only [List.length_map] at hv;rw [hv];obtain ⟨xb, hxb⟩ := hb;co_applyP aB 19 Tryz.func115 Tryz.ntmps115;co_applyP aa;co_applyP oan rfl;co_applyP aq;co_applyP aa;co_applyP om rfl rfl rfl (bB (hu := U91));co_applyP oy rfl ae;co_applyP ah;co_applyP aI;co_applyP bK (fun k s' ε' L' => s' = s ∧ L' = L ∧ ∃ l1 l2, xs = l1 ++ l2 ∧ (∀ c ∈ l1, c ≠ b) ∧ k + l1.length = 8 ∧ kn ε' [(8, .int .i64 l1.length), (7, .int .i64 xs.length), (1, ptr b), (0, .slice base xs.length cap)]) 8
 · exact ⟨rfl, rfl, [], xs, rfl, by simp, rfl, rfl⟩
 rintro k s' ε' L' ⟨rfl, rfl, l1, l2, hl, hn, hk, he⟩;co_applyP aV he;have hlen := congrArg List.length hl;simp only [List.length_append] at hlen;co_applyP aa;co_applyP oy rfl cF;co_applyP ah;co_applyP aq;co_applyP bk rfl;intro hc
 · cases l2 with
   | nil => simp at hc hlen; omega
   | cons q l2 =>
     obtain ⟨c, hc1, hc2, hc3⟩ := hat l1.length (ptr q) (by rw [hl]; simp);subst hc2;simp at hlen;obtain ⟨xq, hxq⟩ := hxs q (by rw [hl]; simp);co_applyP aD;co_applyP aq;co_applyP aI;co_applyP aa;co_applyP oy rfl ae;co_applyP oan rfl;co_applyP aa;co_applyP om rfl rfl rfl ae;co_applyP om rfl rfl rfl (bH U91 bN);co_applyP oy rfl (aF (ht := dz));co_applyP oy rfl (yd hxb hxq (hu := U93) (hs := yf));co_applyP ah;co_applyP bk rfl;intro hq;co_applyP aa;co_applyP oy rfl ae;co_applyP oan rfl;co_applyP aK;change ∃ v, resE .. = some v ∧ _
     · refine ⟨_, rfl, rfl, rfl, ?_⟩;have : q = b := by simp at hq; exact hq.symm
       rw [pc hl hn this]
     intro hq;co_applyP aD;co_applyP ax;co_applyP oy rfl aR;co_applyP oy rfl ae;co_applyP ah;change ∃ k', k' < _ ∧ _;refine ⟨k - 1, by omega, rfl, rfl, l1 ++ [q], l2, by simp [hl], ?_, by simp; omega, ?_⟩
     · intro r hr;rcases List.mem_append.1 hr with h | h
       · exact hn r h
       · simp at h hq; rw [h]; exact fun e => hq e.symm
     · have e : IntKind.i64.wrap ((l1.length : Int) + 1) = ((l1 ++ [q]).length : Int) := by simp [IntKind.wrap_i64]; omega
       rw [← e]; rfl
 intro hc;co_applyP bS;co_applyP aa;co_applyP oan rfl;co_applyP aK;change ∃ v, resE .. = some v ∧ _;cases l2 with
 | nil => exact ⟨_, rfl, rfl, rfl, by rw [nJ (by rw [hl]; simpa using hn)]⟩
 | cons q l2 => simp at hc hlen; omega
theorem iy : zeroAt Tryz.prog 93 = some (.pointer none) := by kernel_rfl
theorem uc {xs junk : List Value} {i : Nat} (hi : i < xs.length) : ((xs ++ junk).toArray.extract (cutAt 0 ((i : Int) + 1).toNat (xs.length + junk.length) 1) (cutAt 0 ((i : Int) + 1).toNat (xs.length + junk.length) 1 + (xs.length - ((i : Int) + 1).toNat) * 1)).toList = xs.drop (i + 1) := by
 have h1 : ((i : Int) + 1).toNat = i + 1 := by omega
 rw [h1];simp only [Array.toList_extract, List.extract_eq_take_drop];unfold cutAt
 split
 · rename_i e;have : xs.length = i + 1 := by omega
   simp [this]
 · have e1 : 0 + (i + 1) * 1 + (xs.length - (i + 1)) * 1 - (0 + (i + 1) * 1) = xs.length - (i + 1) := by omega
   have e2 : 0 + (i + 1) * 1 = i + 1 := by omega
   rw [e1, e2, List.drop_append_of_le_length (by omega), List.take_append_of_le_length (by simp)];rw [List.take_of_length_le (by simp)]
theorem rQ {xs junk : List Value} {i : Nat} (hi : i < xs.length) :
   puts (xs ++ junk).toArray (0 + ((i : Int).toNat - 0) * 1) ((xs ++ junk).toArray.extract (cutAt 0 ((i : Int) + 1).toNat (xs.length + junk.length) 1) (cutAt 0 ((i : Int) + 1).toNat (xs.length + junk.length) 1 + (xs.length - ((i : Int) + 1).toNat) * 1)).toList = (xs.eraseIdx i ++ (xs.drop (xs.length - 1) ++ junk)).toArray := by
 have h2 : 0 + ((i : Int).toNat - 0) * 1 = i := by omega
 rw [h2, uc hi, co _ _ _ (by simp; omega)];congr 1;rw [List.take_append_of_le_length (by omega), List.length_drop, show i + (xs.length - (i + 1)) = xs.length - 1 by omega, List.drop_append_of_le_length (by omega), List.eraseIdx_eq_take_drop_succ]
theorem pd {xs junk : List Value} {i : Nat} (hi : i < xs.length) : puts (xs.eraseIdx i ++ (xs.drop (xs.length - 1) ++ junk)).toArray (xs.length - 1) (List.replicate 1 (.pointer none)) = (xs.eraseIdx i ++ .pointer none :: junk).toArray := by
 have hl : (xs.eraseIdx i).length = xs.length - 1 := by rw [List.length_eraseIdx]; simp [hi]
 rw [co _ _ _ (by simp [hl]; omega)];congr 1;rw [List.take_append_of_le_length (by omega), List.take_of_length_le (by omega)];have : (xs.eraseIdx i ++ (xs.drop (xs.length - 1) ++ junk)).drop (xs.length - 1 + (List.replicate 1 (Value.pointer none)).length) = junk := by
   rw [← List.append_assoc, List.drop_append_of_le_length (by simp [hl]; omega), List.drop_of_length_le (by simp [hl]; omega)]; rfl
 rw [this]; simp
theorem nK : ∃ n, ∀ {σ} {F : Fam σ} {Δ : DM F} {main s} (L : Frag) (b : Nat) (xs junk : List Value) (i : Nat), i < xs.length → xs.length < 1000000 → xs.all plainV = true → (b, true, Obj.cells (xs ++ junk).toArray 93) ∈ L →
   CallsL Δ Tryz.prog main 116 [.slice (some ⟨b, 0, none⟩) xs.length (xs.length + junk.length), .int .i64 i, .int .i64 ((i : Int) + 1)].toArray n s L (fun s' v L' => s = s' ∧ v = .slice (some ⟨b, 0, none⟩) (xs.length - 1) (xs.length + junk.length) ∧ Upd L b (.cells (xs.eraseIdx i ++ .pointer none :: junk).toArray 93) L') := by
 apply Exists.intro;intro σ F Δ main s L b xs junk i hi hxs hpl hb;co_applyP aB 33 Tryz.func116 Tryz.ntmps116;co_applyP aa;co_applyP oan rfl;co_applyP aa;co_applyP om rfl rfl rfl ae;co_applyP om rfl rfl rfl ae;co_applyP oy rfl (bB (hu := U91));co_applyP oy rfl (tN U91 bN);co_applyP ah;co_applyP aq;co_applyP aa;co_applyP om rfl rfl rfl ae;co_applyP oy rfl aA;co_applyP ah;change wpE ..;have e0 : ((i : Int) == (i : Int) + 1) = false := by simp; omega
 rw [e0];co_applyP ai rfl;co_applyP aD;co_applyP aa;co_applyP om rfl rfl rfl (bB (hu := U91));co_applyP oan rfl;co_applyP aq;have hsz : (xs ++ junk).toArray.size = xs.length + junk.length := by simp
 have hcut : cutAt 0 ((i : Int) + 1).toNat (xs.length + junk.length) 1 + (xs.length - ((i : Int) + 1).toNat) * 1 ≤ (xs ++ junk).toArray.size := by unfold cutAt; rw [hsz]; split <;> omega
 co_applyP bi [] 6 (nf := 0) aT;co_applyP tr 0 rfl ae pN;co_applyP tr 1 rfl ae pN;co_applyP tr 2 rfl (tK U91 bN) pN;co_applyP tr 3 rfl ae pN;co_applyP tr 4 rfl ae pN;co_applyP tr 5 rfl (tL U91 bN) pN;co_applyP a0;intro hnd;co_applyP te (i := 6) rfl (jY (hnd := hnd) (hu := U91) (hv := U91) (hs := bN) (hr := cB hb hcut) (hc := by omega) (hm := hb) (ho := by simp; unfold cutAt; split <;> split <;> omega) (hp := by rw [uc hi]; rw [List.all_eq_true] at hpl ⊢; exact fun v hv => hpl v (List.mem_of_mem_drop hv)));rintro _ _ ⟨rfl, hU⟩;refine ⟨ay (by simp), ?_⟩;co_applyP to 7 rfl (bL) (ay (by simp));have ec : cutAt 0 0 (xs.length + junk.length) 1 = 0 := by unfold cutAt; split <;> omega
 have el : (i : Int).toNat - 0 + (xs.length - ((i : Int) + 1).toNat) = xs.length - 1 := by omega
 have ek : xs.length + junk.length - 0 = xs.length + junk.length := rfl;rw [ec, rQ hi] at hU;rw [ec, el, ek];co_applyP td (by kernel_rfl);co_applyP aa;co_applyP om rfl rfl rfl ae;co_applyP oy rfl (bB (hu := U91));co_applyP om rfl rfl rfl (tM U91 bN);co_applyP jA;intro hnd';co_applyP oe rfl (tO (hnd := hnd') (hu := U91) (hz0 := iy) (hzp := rfl) (hm := hU.self) (ho := by have hl : (xs.eraseIdx i).length = xs.length - 1 := (by rw [List.length_eraseIdx]; simp [hi]); simp [hl]; unfold cutAt; split <;> omega));rintro _ _ ⟨rfl, hU'⟩;co_applyP ah;co_applyP aa;co_applyP oy rfl ae;co_applyP oan rfl;co_applyP aK;change ∃ v, resE .. = some v ∧ _;have e3 : cutAt 0 (((xs.length - 1 : Nat) : Int)).toNat (xs.length + junk.length) 1 = xs.length - 1 := by unfold cutAt; split <;> omega
 have e4 : (xs.length : Int).toNat - ((xs.length - 1 : Nat) : Int).toNat = 1 := by omega
 rw [e3, e4, pd hi] at hU';exact ⟨_, rfl, rfl, rfl, hU'.self, fun t ht hne => hU'.ne t (hU.ne t ht hne) hne, hU'.fn⟩
theorem pe : bytesAt Tryz.prog 93 = some 8 := by kernel_rfl
theorem fi (a : Sl) (n : Nat) : plainV (slv a n) = true := by unfold slv; split <;> rfl
theorem eN {z : Value} (h : plainV z = true) (n : Nat) : Builtin.zeroCells z.cells n = (List.replicate n z).toArray := by
 rw [bv h];unfold Builtin.zeroCells;apply Array.ext';apply List.ext_getElem
 · simp
 · intro i h1 h2; simp [Nat.mod_one]
structure Ap1 (L : Frag) (a : Sl) (xs : List Nat) (c : Nat) (a' : Sl) (L' : Frag) : Prop where
 ok : slOk a' ((xs ++ [c]).map ptr) 93 L'
 fn : Fun L'
 sub : ∀ t ∈ L, a.b ≠ some t.1 → t ∈ L'
 d : ∀ b, a'.b = some b → a.b = some b ∨ ∀ t ∈ L, t.1 ≠ b
section
variable {New : Obj → Prop} {N : Nat} {ε : Env} {L : Frag} {d : Option Tmp} {ty : TypeId} {ps : String} {af : Array Edge} {g : Option (Nat × Bool)} {x y : Operand}
theorem qv {a : Sl} {xs : List Nat} {c nb : Nat} (hx : ev ε x = some (slv a xs.length) := by rfl) (hy : ev ε y = some (.slice (some ⟨nb, 0, none⟩) 1 1) := by rfl) (hnd : (L.map (·.1)).Nodup) (hN : ∀ cs, New (.cells cs 93)) (ha : slOk a (xs.map ptr) 93 L) (h8 : xs.length ≤ 1000) (hnb : (nb, true, .cells #[ptr c] 93) ∈ L) :
   EO Tryz.prog New N ε L ⟨d, .call ⟨.builtin .append, #[x, y], #[91, 91]⟩, ty, ps, af, g⟩ (fun r L' => ∃ a', r = slv a' (xs.length + 1) ∧ Ap1 L a xs c a' L') := by
 have hr : Reads Tryz.prog L 1 1 (.slice (some ⟨nb, 0, none⟩) 1 1) #[ptr c] := by
   have := cB (P := Tryz.prog) (sz := 1) (n := 1) (len := 1) (cap := 1) (o := 0) hnb (by simp);simpa using this
 have grow : ∀ (ws : Array Value) (cap0 : Nat), Reads Tryz.prog L 1 xs.length (slv a xs.length) ws → ws = (xs.map ptr).toArray → (∃ base, slv a xs.length = .slice base xs.length cap0) → cap0 < xs.length + 1 →
     EO Tryz.prog New N ε L ⟨d, .call ⟨.builtin .append, #[x, y], #[91, 91]⟩, ty, ps, af, g⟩ (fun r L' => ∃ a', r = slv a' (xs.length + 1) ∧ Ap1 L a xs c a' L') := by
   rintro ws cap0 hws rfl ⟨base, hb⟩ hc;rw [hb] at hws hx;intro ac hac;refine bV ?_ _ _ (lq (by_ := 7) (New := New) hx hy (bF hnd) U91 U91 bN pe iy hws hr hc (by omega) hN ac hac);intro r L' q;cases r <;> try exact q.elim
   · obtain ⟨b, cap, h1, h2, rfl, hA⟩ := q;rw [eN rfl] at hA;refine ⟨⟨some b, List.replicate (cap - (xs.length + 1)) (.pointer none)⟩, ?_, ?_, hA.fn, fun t ht _ => hA.sub t ht, fun b' hb' => .inr ?_⟩
     · unfold slv; simp; omega
     · have e5 : (xs.map ptr).toArray ++ #[ptr c] ++ (List.replicate (cap - (xs.length + 1)) (Value.pointer none)).toArray = ((xs ++ [c]).map ptr ++ List.replicate (cap - (xs.length + 1)) (Value.pointer none)).toArray := by
         apply Array.ext'; simp
       rw [e5] at hA;exact hA.self
     · obtain rfl : b = b' := by simpa using hb'
       exact hA.new
   · obtain ⟨b, cap, _, _, e, _⟩ := q; cases e
 cases hab : a.b with
 | none =>
   have h2 := ha;unfold slOk at h2;rw [hab] at h2;obtain ⟨e1, e2⟩ := h2;obtain rfl : xs = [] := by simpa using e1
   have e3 : slv a 0 = .slice none 0 0 := by unfold slv; rw [hab]
   exact grow #[] 0 (by rw [List.length_nil, e3]; exact dM) rfl ⟨none, e3⟩ (by simp)
 | some b =>
   have hm := ha.mem hab;have e3 : slv a xs.length = .slice (some ⟨b, 0, none⟩) xs.length (xs.length + a.junk.length) := by unfold slv; rw [hab]
   cases hj : a.junk with
   | nil =>
     rw [hj] at e3 hm;refine grow _ xs.length ?_ rfl ⟨_, e3⟩ (by omega);rw [e3];have := cB (P := Tryz.prog) (sz := 1) (n := xs.length) (len := xs.length) (cap := xs.length + ([] : List Value).length) (o := 0) hm (by simp);have e7 : (xs.map ptr).take xs.length = xs.map ptr := List.take_of_length_le (by simp);simpa [e7] using this
   | cons u junk =>
     rw [hj] at e3 hm;intro ac hac;rw [e3] at hx;refine bV ?_ _ _ (jY (New := New) hx hy hnd U91 U91 bN hr (by simp) hm (by simp) (by simp [plainV]) ac hac);intro r L' q;cases r <;> try exact q.elim
     · obtain ⟨rfl, hU⟩ := q;have e4 : puts (xs.map ptr ++ u :: junk).toArray (0 + xs.length * 1) #[ptr c].toList = ((xs ++ [c]).map ptr ++ junk).toArray := by
         rw [co _ _ _ (by simp)];have e6 : (xs.map ptr ++ u :: junk).drop (xs.length + 1) = junk := by
           rw [List.drop_append]; simp
         simp [e6]
       rw [e4] at hU;refine ⟨⟨some b, junk⟩, ?_, hU.self, hU.fn, fun t ht hne => hU.ne t ht fun e => hne (by rw [hab, e]), fun b' hb' => .inl (by rw [hab]; exact hb')⟩;unfold slv; simp; omega
     · exact absurd q.1 (by simp [undef])
end
theorem Rep.row_ne {K : Nat} {A : Lay} {S : St} {Fr L : Frag} (h : Rep K A S Fr L) {l : Nat} (hl : l < 3) {t : Nat × Bool × Obj} (ht : t ∈ L) (ho : ∀ c, t.2.2 ≠ .cells c 93) : (A.a (l + 1)).b ≠ some t.1 := fun e =>
 ho _ (h.fn _ _ _ _ _ ht ((h.rw l hl).mem e)).2
theorem fj {c : Array Value} {t : TypeId} (h : t ≠ 93) : ∀ c', Obj.cells c t ≠ .cells c' 93 := fun _ => aE h
theorem iz (k : KS) {l : Nat} (hl : l < 3) (v : Value) : (kcells k).setIfInBounds (7 + l) v = kcells { k with row := put k.row l v } := by
 rcases l with _ | _ | _ | l
 · rfl
 · rfl
 · rfl
 · omega
theorem jD (A : Lay) (S : St) (l : Nat) (a' : Sl) (xs : List Nat) (h0 : l + 1 ≠ 0) : kst (A.setA (l + 1) a') (S.setRow l xs) = { kst A S with row := put (kst A S).row l (slv a' xs.length) } := by
 unfold kst Lay.setA St.setRow;simp only [KS.mk.injEq, true_and];refine ⟨by simp [put], ?_, ?_⟩
 · funext l'
   unfold put;by_cases e : l' = l
   · subst e; simp
   · simp [e]
 · simp
theorem pi : ∃ n, ∀ {σ} {F : Fam σ} {Δ : DM F} {main s} (K : Nat) (A : Lay) (S : St) (Fr L : Frag) (b : Nat) (x : PS), (∀ cs, (Δ s).New (.cells cs 93)) → Rep K A S Fr L → (b, x) ∈ S.ps → x.lv < 3 → (S.rows x.lv).length ≤ 8 → (∀ e ∈ S.wt, slot e.1 ≠ x.lv + 1) →
   CallsL Δ Tryz.prog main 91 [.pointer (some ⟨K, 7, none⟩), ptr b].toArray n s L (fun s' v L' => s = s' ∧ v = .tuple #[] ∧ ∃ A', LRel A A' ∧ Rep K A' (S.setRow x.lv (S.rows x.lv ++ [b])) Fr L') := by
 apply Exists.intro;intro σ F Δ main s K A S Fr L b x hN hR hb hlv h8 hw;have hx5 := hR.pat hb (i := 5) rfl;have hx5' : At L b 5 (.int .i64 (x.lv : Int)) := hx5;have hrow : At L K (7 + x.lv) (slv (A.a (x.lv + 1)) (S.rows x.lv).length) := hR.kat (j8 _ hlv);clear hx5;co_applyP aB 24 Tryz.func91 Tryz.ntmps91;co_applyP bi [pb b x] 17 (nf := 0) aT;co_applyP tr 0 rfl ae (ak (by simpa using hR.p _ hb));co_applyP tr 1 rfl ae (ak (by simpa using hR.p _ hb));co_applyP tr 2 rfl aJ (ak (by simpa using hR.p _ hb));co_applyP tr 3 rfl (au (hf := aC)) (ak (by simpa using hR.p _ hb));co_applyP tr 4 rfl (au (hf := ee)) (ak (by simpa using hR.p _ hb));co_applyP tr 5 rfl (aF (ht := aY)) (ak (by simpa using hR.p _ hb));co_applyP tr 6 rfl ae (ak (by simpa using hR.p _ hb));co_applyP tr 7 rfl ae (ak (by simpa using hR.p _ hb));co_applyP tr 8 rfl aJ (ak (by simpa using hR.p _ hb));co_applyP tr 9 rfl (au (hf := aC)) (ak (by simpa using hR.p _ hb));co_applyP tr 10 rfl (au (hf := ee)) (ak (by simpa using hR.p _ hb));co_applyP t0 11 rfl (aF (ht := aY)) (ak (by simpa using hR.p _ hb));co_applyP tr 12 rfl aJ (ak (by simpa using hR.p _ hb));co_applyP tr 13 rfl (aX mh eK) (ak (by simpa using hR.p _ hb));co_applyP t0 14 rfl (aF (ht := dp)) (ak (by simpa using hR.p _ hb));co_applyP tr 15 rfl ae (ak (by simpa using hR.p _ hb));co_applyP tr 18 rfl aJ (ak (by simpa using hR.p _ hb));co_applyP te (i := 16) rfl (ip (hN _) (hx := rfl) (hu := U91) (hs := bN) (hz := iy));rintro _ _ ⟨nb, hnb, rfl, rfl⟩;refine ⟨dY (by simpa using hR.p _ hb) (fun t ht => List.mem_cons_of_mem _ ht), ?_⟩;co_applyP a0;intro hnd;have hA := dx (o := .cells #[ptr b] 93) hR.fn hnb;have hR1 := hR.add hA;have hpne : (A.a (x.lv + 1)).b ≠ some b := hR1.row_ne hlv (hR1.p _ hb) (fj (by decide));have hkne : (A.a (x.lv + 1)).b ≠ some K := hR1.row_ne hlv hR1.k (fj (by decide));co_applyP te (i := 17) rfl (qv (c := b) (hnd := hnd) (hN := hN) (ha := hR1.rw _ hlv) (h8 := by omega) (hnb := hA.self));rintro _ _ ⟨a', rfl, hp⟩;refine ⟨ay (by simpa using hp.sub _ (hR1.p _ hb) hpne), ?_⟩;co_applyP to 19 rfl ((aX mh eK)) (ay (by simpa using hp.sub _ (hR1.p _ hb) hpne));co_applyP a0;intro hnd';co_applyP te (i := 20) rfl (fq (hnd := hnd') (hm := hp.sub _ hR1.k hkne) (hi := by rw [bC]; omega) (hp := fi _ _) (hs := eK));rintro _ _ ⟨rfl, hU⟩;refine ⟨ay (by simpa using hU.ne _ (hp.sub _ (hR1.p _ hb) hpne) (hR1.fn.ne (hR1.p _ hb) hR1.k (aE (by decide)))), ?_⟩;co_applyP td (by kernel_rfl);change ∃ v, resE .. = some v ∧ _;refine ⟨_, rfl, rfl, rfl, A.setA (x.lv + 1) a', LRel.set A hlv a', ?_⟩;refine hR1.setRow hlv hU.fn ?_ (fun t ht h1 h2 => hU.ne t (hp.sub t ht h2) h1) ?_ ?_ hw
 · rw [jD _ _ _ _ _ (by omega)];have := hU.self;rw [iz _ hlv] at this;simpa using this
 · exact hp.ok.mono fun c hc o ho => hU.ne _ ho fun e => by
     have h1 := hp.ok.mem hc;have e' : c = K := e;rw [e'] at h1;exact aE (by decide) (hp.fn _ _ _ _ _ h1 (hp.sub _ hR1.k hkne)).2
 · intro c hc;rcases hp.d c hc with h1 | h1
   · exact .inl h1
   · refine .inr ⟨fun i hi => ?_, fun t ht => h1 t (hR1.fr t ht)⟩;obtain ⟨ys, hy⟩ := hR1.al i c hi;exact h1 _ hy rfl
theorem nL (S : St) (l : Nat) : S.setRow l (S.rows l) = S := by
 have : put S.rows l (S.rows l) = S.rows := by funext j; unfold put; split <;> simp_all
 unfold St.setRow; rw [this]
theorem ud {l1 l2 : List Nat} {b : Nat} (hn : ∀ c ∈ l1, c ≠ b) : (l1 ++ b :: l2).erase b = l1 ++ l2 := by
 rw [List.erase_append_right _ (fun h => hn b h rfl)]; simp
theorem ml {α : Type} {l1 l2 : List α} {b : α} : (l1 ++ b :: l2).eraseIdx l1.length = l1 ++ l2 := by rw [List.eraseIdx_append_of_length_le (Nat.le_refl _)]; simp
theorem iA {α β : Type} (f : α → β) (l : List α) (i : Nat) : (l.eraseIdx i).map f = (l.map f).eraseIdx i := by
 rw [List.eraseIdx_eq_take_drop_succ, List.eraseIdx_eq_take_drop_succ]; simp
theorem mm : ∃ n, ∀ {σ} {F : Fam σ} {Δ : DM F} {main s} (K : Nat) (A : Lay) (S : St) (Fr L : Frag) (b : Nat) (x : PS), Rep K A S Fr L → (b, x) ∈ S.ps → x.lv < 3 → (S.rows x.lv).length ≤ 8 → (∀ c ∈ S.rows x.lv, ∃ y, (c, y) ∈ S.ps) → (∀ e ∈ S.wt, slot e.1 ≠ x.lv + 1) →
   CallsL Δ Tryz.prog main 97 [.pointer (some ⟨K, 7, none⟩), ptr b].toArray n s L (fun s' v L' => s = s' ∧ v = .tuple #[] ∧ ∃ A', LRel A A' ∧ Rep K A' (S.setRow x.lv ((S.rows x.lv).erase b)) Fr L') := by
 obtain ⟨n1, g1⟩ := qu;obtain ⟨n2, g2⟩ := nK;apply Exists.intro;intro σ F Δ main s K A S Fr L b x hR hb hlv h8 hm hw;have hx5 : At L b 5 (.int .i64 (x.lv : Int)) := hR.pat hb (i := 5) rfl;have hrow : At L K (7 + x.lv) (slv (A.a (x.lv + 1)) (S.rows x.lv).length) := hR.kat (j8 _ hlv);co_applyP aB 33 Tryz.func97 Tryz.ntmps97;co_applyP aq;co_applyP bq aT;co_applyP tr 0 rfl ae pI;co_applyP tr 1 rfl ae pI;co_applyP tr 2 rfl aJ pI;co_applyP tr 3 rfl (au (hf := aC)) pI;co_applyP tr 4 rfl (au (hf := ee)) pI;co_applyP tr 5 rfl (aF (ht := aY)) pI;co_applyP tr 6 rfl aJ pI;co_applyP tr 7 rfl (aX mh eK) pI;co_applyP tr 8 rfl (aF (ht := dp)) pI;co_applyP tr 9 rfl bL pI;co_applyP td (by kernel_rfl);co_applyP aa;co_applyP om rfl rfl rfl ae;co_applyP oc rfl rfl rfl (g1 L (A.a (x.lv + 1)) (S.rows x.lv) b h8 (hR.rw _ hlv) (fun c hc => by obtain ⟨y, hy⟩ := hm c hc; exact ⟨y, hR.p _ hy⟩) ⟨x, hR.p _ hb⟩);rintro _ _ _ ⟨rfl, rfl, rfl⟩;co_applyP oan rfl;co_applyP aa;co_applyP om rfl rfl rfl fh;co_applyP ah;co_applyP bk rfl;intro hi
 · by_cases hin : b ∈ S.rows x.lv
   · obtain ⟨l1, l2, hl, hn⟩ := List.eq_append_cons_of_mem hin;have hn' : ∀ c ∈ l1, c ≠ b := fun c hc e => hn (e ▸ hc);have hix : idx (S.rows x.lv) b = (l1.length : Int) := pc hl hn' rfl;have hll : l1.length < (S.rows x.lv).length := by rw [hl]; simp
     have hwr : IntKind.i64.wrap ((l1.length : Int) + 1) = (l1.length : Int) + 1 := by simp [IntKind.wrap_i64]; omega
     cases hQ : (A.a (x.lv + 1)).b with
     | none =>
       have := hR.rw _ hlv;unfold slOk at this;rw [hQ] at this;rw [hl] at this; simp at this
     | some Q =>
       have hQm := (hR.rw _ hlv).mem hQ;have hsv : slv (A.a (x.lv + 1)) (S.rows x.lv).length = .slice (some ⟨Q, 0, none⟩) ((S.rows x.lv).map ptr).length (((S.rows x.lv).map ptr).length + (A.a (x.lv + 1)).junk.length) := by unfold slv; rw [hQ]; simp
       have hpQ : b ≠ Q := fun e => hR.row_ne hlv (hR.p _ hb) (fj (by decide)) (by rw [hQ, e]);have hkQ : K ≠ Q := fun e => hR.row_ne hlv hR.k (fj (by decide)) (by rw [hQ, e]);rw [hix, hsv];co_applyP bi [pb b x] 10 aT;co_applyP tr 0 rfl ae (ak (by simpa using hR.p _ hb));co_applyP tr 1 rfl ae (ak (by simpa using hR.p _ hb));co_applyP tr 2 rfl aJ (ak (by simpa using hR.p _ hb));co_applyP tr 3 rfl (au (hf := aC)) (ak (by simpa using hR.p _ hb));co_applyP tr 4 rfl (au (hf := ee)) (ak (by simpa using hR.p _ hb));co_applyP tr 5 rfl (aF (ht := aY)) (ak (by simpa using hR.p _ hb));co_applyP tr 6 rfl ae (ak (by simpa using hR.p _ hb));co_applyP tr 7 rfl ae (ak (by simpa using hR.p _ hb));co_applyP tr 8 rfl ae (ak (by simpa using hR.p _ hb));co_applyP tr 9 rfl aR (ak (by simpa using hR.p _ hb));co_applyP tr 11 rfl aJ (ak (by simpa using hR.p _ hb));rw [hwr];co_applyP tc 10 rfl rfl rfl (g2 L Q ((S.rows x.lv).map ptr) (A.a (x.lv + 1)).junk l1.length (by simpa using hll) (by simp; omega) (by simp [plainV]) hQm);rintro _ _ _ ⟨rfl, rfl, hU⟩;refine ⟨ay (by simpa using hU.ne _ (hR.p _ hb) hpQ), ?_⟩;co_applyP to 12 rfl ((aX mh eK)) (ay (by simpa using hU.ne _ (hR.p _ hb) hpQ));co_applyP a0;intro hnd;co_applyP te (i := 13) rfl (fq (hnd := hnd) (hm := hU.ne _ hR.k hkQ) (hi := by rw [bC]; omega) (hs := eK));rintro _ _ ⟨rfl, hU'⟩;refine ⟨ay (by simpa using hU'.ne _ (hU.ne _ (hR.p _ hb) hpQ) (hR.fn.ne (hR.p _ hb) hR.k (aE (by decide)))), ?_⟩;co_applyP td (by kernel_rfl);change ∃ v, resE .. = some v ∧ _;have her : (S.rows x.lv).erase b = (S.rows x.lv).eraseIdx l1.length := by rw [hl, ud hn', ml]
       have hlen' : ((S.rows x.lv).eraseIdx l1.length).length = (S.rows x.lv).length - 1 := by rw [List.length_eraseIdx]; simp [hll]
       refine ⟨_, rfl, rfl, rfl, A.setA (x.lv + 1) ⟨some Q, .pointer none :: (A.a (x.lv + 1)).junk⟩, LRel.set A hlv _, ?_⟩;rw [her];refine hR.setRow hlv hU'.fn ?_ (fun t ht h1 h2 => hU'.ne t (hU.ne t ht fun e => h2 (by rw [hQ, e])) h1) ?_ (fun c hc => .inl (by rw [hQ]; exact hc)) hw
       · rw [jD _ _ _ _ _ (by omega)];have := hU'.self;rw [iz _ hlv] at this;have e9 : slv ⟨some Q, .pointer none :: (A.a (x.lv + 1)).junk⟩ ((S.rows x.lv).eraseIdx l1.length).length = .slice (some ⟨Q, 0, none⟩) (((S.rows x.lv).map ptr).length - 1) (((S.rows x.lv).map ptr).length + (A.a (x.lv + 1)).junk.length) := by
           unfold slv; simp [hlen']; omega
         rw [e9]; exact this
       · have := hU'.ne _ hU.self (Ne.symm hkQ);show (Q, true, _) ∈ _;rw [iA];exact this
   · rw [nJ (fun c hc e => hin (by rw [← e]; exact hc))] at hi;simp at hi
 intro hi;co_applyP aD;change ∃ v, resE .. = some v ∧ _;refine ⟨_, rfl, rfl, rfl, A, LRel.refl A, ?_⟩;have hni : b ∉ S.rows x.lv := fun hin => by
   obtain ⟨l1, l2, hl, hn⟩ := List.eq_append_cons_of_mem hin;rw [pc hl (fun c hc e => hn (by rw [← e]; exact hc)) rfl] at hi;simp at hi
 rw [List.erase_of_not_mem hni, nL];exact hR
theorem dO (S : St) (b : Nat) (x y : PS) : (S.setP b x).setP b y = S.setP b y := by
 unfold St.setP;simp only [List.map_map];congr 1;apply List.map_congr_left;intro q _;simp only [Function.comp]
 split <;> simp_all
theorem jo {S : St} {b c : Nat} {x : PS} (h : ∃ y, (c, y) ∈ S.ps) : ∃ y, (c, y) ∈ (S.setP b x).ps := by
 obtain ⟨y, hy⟩ := h;simp only [St.setP, List.mem_map];by_cases e : c = b
 · exact ⟨x, (c, y), hy, by simp [e]⟩
 · exact ⟨y, (c, y), hy, by simp [e]⟩
theorem j9 : ∃ n, ∀ {σ} {F : Fam σ} {Δ : DM F} {main s} (K : Nat) (A : Lay) (S : St) (Fr L : Frag) (b : Nat) (x : PS), (∀ cs, (Δ s).New (.cells cs 93)) → Rep K A S Fr L → (b, x) ∈ S.ps → x.lv < 3 → (S.rows x.lv).length ≤ 8 → (∀ e ∈ S.wt, slot e.1 ≠ x.lv + 1) →
   CallsL Δ Tryz.prog main 75 [ptr K, ptr b].toArray n s L (fun s' v L' => s = s' ∧ v = .tuple #[] ∧ ∃ A', LRel A A' ∧ Rep K A' ((S.setP b { x with st := 1, used := 0 }).setRow x.lv (S.rows x.lv ++ [b])) Fr L') := by
 obtain ⟨n1, g1⟩ := pi;apply Exists.intro;intro σ F Δ main s K A S Fr L b x hN hR hb hlv h8 hw;co_applyP aB 17 Tryz.func75 Tryz.ntmps75;co_applyP aa;co_applyP om rfl rfl rfl aJ;co_applyP oy rfl (au (hf := aC));co_applyP oy rfl (au (hf := cZ));co_applyP osm rfl (hs := de) (hm := hR.p _ hb) (hi := by first | decide | (rw [bf]; omega) | (rw [bC]; omega));intro L1 hU;have hR1 := hR.setP (x' := { x with st := 1 }) hb hU;co_applyP ah;co_applyP aa;co_applyP om rfl rfl rfl aJ;co_applyP oy rfl (au (hf := aC));co_applyP oy rfl (au (hf := gn));co_applyP osm rfl (hs := de) (hm := hR1.p _ (av hb)) (hi := by first | decide | (rw [bf]; omega) | (rw [bC]; omega));intro L2 hU2;have hR2 := hR1.setP (x' := { x with st := 1, used := 0 }) (av hb) hU2;rw [dO] at hR2;co_applyP ah;co_applyP ax;co_applyP om rfl rfl rfl aJ;co_applyP oy rfl (au (hf := dA));co_applyP oy rfl ae;co_applyP oc rfl rfl rfl (g1 K A _ Fr L2 b _ hN hR2 (av hb) hlv h8 hw);rintro _ _ _ ⟨rfl, rfl, A', hr, hR3⟩;co_applyP ah;change ∃ v, resE .. = some v ∧ _;exact ⟨_, rfl, rfl, rfl, A', hr, hR3⟩
theorem kf : ∃ n, ∀ {σ} {F : Fam σ} {Δ : DM F} {main s} (K : Nat) (A : Lay) (S : St) (Fr L : Frag) (b : Nat) (x : PS) (st : Nat), Rep K A S Fr L → (b, x) ∈ S.ps → x.lv < 3 → (S.rows x.lv).length ≤ 8 → (∀ c ∈ S.rows x.lv, ∃ y, (c, y) ∈ S.ps) → (∀ e ∈ S.wt, slot e.1 ≠ x.lv + 1) →
   CallsL Δ Tryz.prog main 107 [ptr K, ptr b, .int .i64 st].toArray n s L (fun s' v L' => s = s' ∧ v = .tuple #[] ∧ ∃ A', LRel A A' ∧ Rep K A' ((S.setP b { x with st := st }).setRow x.lv ((S.rows x.lv).erase b)) Fr L') := by
 obtain ⟨n1, g1⟩ := mm;apply Exists.intro;intro σ F Δ main s K A S Fr L b x st hR hb hlv h8 hm hw;co_applyP aB 16 Tryz.func107 Tryz.ntmps107;co_applyP aa;co_applyP om rfl rfl rfl aJ;co_applyP oy rfl (au (hf := dA));co_applyP oy rfl ae;co_applyP oc rfl rfl rfl (g1 K A S Fr L b x hR hb hlv h8 hm hw);rintro _ _ _ ⟨rfl, rfl, A', hr, hR1⟩;co_applyP ah;co_applyP ax;co_applyP om rfl rfl rfl ae;co_applyP oy rfl aJ;co_applyP oy rfl (au (hf := aC));co_applyP oy rfl (au (hf := cZ));co_applyP osm rfl (hs := de) (hm := hR1.p _ hb) (hi := by first | decide | (rw [bf]; omega) | (rw [bC]; omega));intro L2 hU2;have hR2 := hR1.setP (x' := { x with st := st }) hb hU2;co_applyP ah;change ∃ v, resE .. = some v ∧ _;exact ⟨_, rfl, rfl, rfl, A', hr, hR2⟩
def St.turn (S : St) (b : Nat) (x : PS) : St :=
 if (x.used : Int) < S.sl x.lv then S
 else
   let lv := min (x.lv + 1) 2
   let S1 := (S.setRow x.lv ((S.rows x.lv).erase b)).setP b { x with lv := lv, used := 0 }
   S1.setRow lv (S1.rows lv ++ [b])
theorem AJ (k : KS) {l : Nat} (hl : l < 3) : (kcells k)[l]? = some (.int .i64 (k.sl l)) := by
 rcases l with _ | _ | _ | l
 · rfl
 · rfl
 · rfl
 · omega
theorem y0 : ∃ n, ∀ {σ} {F : Fam σ} {Δ : DM F} {main s} (K : Nat) (A : Lay) (S : St) (Fr L : Frag) (b : Nat) (x : PS), (∀ cs, (Δ s).New (.cells cs 93)) → Rep K A S Fr L → (b, x) ∈ S.ps → x.lv < 3 → (∀ l, l < 3 → (S.rows l).length ≤ 8) → (∀ c ∈ S.rows x.lv, ∃ y, (c, y) ∈ S.ps) → (∀ e ∈ S.wt, ∀ l, l < 3 → slot e.1 ≠ l + 1) →
   CallsL Δ Tryz.prog main 86 [ptr K, ptr b].toArray n s L (fun s' v L' => s = s' ∧ v = .tuple #[] ∧ ∃ A', LRel A A' ∧ Rep K A' (S.turn b x) Fr L') := by
 obtain ⟨n1, g1⟩ := mm;obtain ⟨n2, g2⟩ := pi;apply Exists.intro;intro σ F Δ main s K A S Fr L b x hN hR hb hlv h8 hm hw;have hx5 : At L b 5 (.int .i64 (x.lv : Int)) := hR.pat hb (i := 5) rfl;have hx6 : At L b 6 (.int .i64 (x.used : Int)) := hR.pat hb (i := 6) rfl;have hsl : At L K x.lv (.int .i64 (S.sl x.lv)) := hR.kat (AJ _ hlv);co_applyP aB 46 Tryz.func86 Tryz.ntmps86;co_applyP aq;co_applyP aq;co_applyP bq aT;co_applyP tr 0 rfl ae pI;co_applyP tr 1 rfl aJ pI;co_applyP tr 2 rfl (au (hf := aC)) pI;co_applyP tr 3 rfl (au (hf := gn)) pI;co_applyP tr 4 rfl (aF (ht := aY)) pI;co_applyP tr 5 rfl ae pI;co_applyP tr 6 rfl ae pI;co_applyP tr 7 rfl aJ pI;co_applyP tr 8 rfl (au (hf := aC)) pI;co_applyP tr 9 rfl (au (hf := ee)) pI;co_applyP tr 10 rfl (aF (ht := aY)) pI;co_applyP tr 11 rfl aJ pI;co_applyP tr 12 rfl (au (hf := fK)) pI;co_applyP tr 13 rfl (au (hf := qi)) pI;co_applyP tr 14 rfl (aX Tryz.underlying24 de) pI;co_applyP tr 15 rfl (aF (ht := aY)) pI;co_applyP tr 16 rfl cF pI;co_applyP td (by kernel_rfl);co_applyP bk rfl;intro hc;co_applyP aK;change ∃ v, resE .. = some v ∧ _
 · refine ⟨_, rfl, rfl, rfl, A, LRel.refl A, ?_⟩;have : (x.used : Int) < S.sl x.lv := by simpa using hc
   unfold St.turn; rw [if_pos this]; exact hR
 intro hc;have hnl : ¬ (x.used : Int) < S.sl x.lv := by simpa using hc
 have emin : (if (2 : Int) < IntKind.i64.wrap ((x.lv : Int) + 1) then (2 : Int) else IntKind.i64.wrap ((x.lv : Int) + 1)) = ((min (x.lv + 1) 2 : Nat) : Int) := by
   have : IntKind.i64.wrap ((x.lv : Int) + 1) = (x.lv : Int) + 1 := by simp [IntKind.wrap_i64]; omega
   rw [this]; split <;> omega
 co_applyP aD;co_applyP aa;co_applyP om rfl rfl rfl aJ;co_applyP oy rfl (au (hf := dA));co_applyP oy rfl ae;co_applyP oc rfl rfl rfl (g1 K A S Fr L b x hR hb hlv (h8 _ hlv) hm (fun e he => hw e he _ hlv));rintro _ _ _ ⟨rfl, rfl, A1, hr1, hR1⟩;have hx5' := hR1.pat hb (i := 5) rfl;have hx5'' : At _ b 5 (.int .i64 (x.lv : Int)) := hx5';clear hx5' hx5 hx6 hsl;co_applyP ah;co_applyP aa;co_applyP om rfl rfl rfl ae;co_applyP oy rfl aJ;co_applyP oy rfl (au (hf := aC));co_applyP oy rfl (au (hf := ee));co_applyP oy rfl (aF (ht := aY));co_applyP oy rfl aR;co_applyP oy rfl Ak;co_applyP oy rfl aJ;co_applyP oy rfl (au (hf := aC));co_applyP oy rfl (au (hf := ee));rw [emin];co_applyP osm rfl (hs := de) (hm := hR1.p _ hb) (hi := by first | decide | (rw [bf]; omega) | (rw [bC]; omega));intro L1 hU;have hR2 := hR1.setP (x' := { x with lv := min (x.lv + 1) 2 }) hb hU;co_applyP ah;co_applyP aa;co_applyP om rfl rfl rfl aJ;co_applyP oy rfl (au (hf := aC));co_applyP oy rfl (au (hf := gn));co_applyP osm rfl (hs := de) (hm := hR2.p _ (av hb)) (hi := by first | decide | (rw [bf]; omega) | (rw [bC]; omega));intro L2 hU2;have hR3 := hR2.setP (x' := { x with lv := min (x.lv + 1) 2, used := 0 }) (av hb) hU2;rw [dO] at hR3;have hmin : min (x.lv + 1) 2 < 3 := by omega
 co_applyP ah;co_applyP ax;co_applyP om rfl rfl rfl aJ;co_applyP oy rfl (au (hf := dA));co_applyP oy rfl ae;co_applyP oc rfl rfl rfl (g2 K A1 _ Fr L2 b _ hN hR3 (av hb) hmin (by show (put S.rows x.lv ((S.rows x.lv).erase b) (min (x.lv + 1) 2)).length ≤ 8; unfold put; split; exact Nat.le_trans (List.length_erase_le) (h8 _ hlv); exact h8 _ hmin) (fun e he => hw e he _ hmin));rintro _ _ _ ⟨rfl, rfl, A3, hr3, hR4⟩;co_applyP ah;change ∃ v, resE .. = some v ∧ _;refine ⟨_, rfl, rfl, rfl, A3, hr1.trans hr3, ?_⟩;unfold St.turn; rw [if_neg hnl]; exact hR4
theorem iY : ∀ {l m : List Nat}, l.Nodup → (∀ x ∈ l, x ∈ m) → l.length ≤ m.length
 | [], _, _, _ => by simp
 | x :: l, m, hn, hs => by
   have hx := hs x List.mem_cons_self;have h1 := iY (l := l) (m := m.erase x) (List.nodup_cons.1 hn).2 fun y hy => (List.mem_erase_of_ne fun e => (List.nodup_cons.1 hn).1 (by rw [← e]; exact hy)).2 (hs y (List.mem_cons_of_mem _ hy));have h2 := List.length_erase_of_mem hx;have h3 := List.length_pos_of_mem hx;simp only [List.length_cons];omega
def St.get (S : St) (b : Nat) : Option PS := (S.ps.find? fun q => q.1 == b).map (·.2)
structure Good (S : St) : Prop where
 pn : (S.ps.map (·.1)).Nodup
 p8 : S.ps.length ≤ 8
 lv : ∀ q ∈ S.ps, q.2.lv < 3
 rn : ∀ l, l < 3 → (S.rows l).Nodup
 rm : ∀ l, l < 3 → ∀ c ∈ S.rows l, ∃ y, (c, y) ∈ S.ps ∧ y.lv = l ∧ y.st = 1
 rr : ∀ q ∈ S.ps, q.2.st = 1 → q.1 ∈ S.rows q.2.lv
section
variable {S : St}
theorem bl {b : Nat} {x : PS} (hn : (S.ps.map (·.1)).Nodup) (h : (b, x) ∈ S.ps) : S.get b = some x := by
 unfold St.get;cases hf : S.ps.find? fun q => q.1 == b with
 | none =>
   have := List.find?_eq_none.1 hf (b, x) h;simp at this
 | some q =>
   have h1 := List.mem_of_find?_eq_some hf;have h2 := List.find?_some hf;obtain ⟨c, y⟩ := q;have e : c = b := by simpa using h2
   subst e;simp [bp hn h1 h]
theorem bz {b : Nat} {x : PS} (h : S.get b = some x) : (b, x) ∈ S.ps := by
 unfold St.get at h;obtain ⟨q, hq, rfl⟩ := Option.map_eq_some_iff.1 h;have h2 := List.find?_some hq;have e : q.1 = b := by simpa using h2
 subst e;exact List.mem_of_find?_eq_some hq
theorem Good.r8 (h : Good S) {l : Nat} (hl : l < 3) : (S.rows l).length ≤ 8 := by
 have := iY (m := S.ps.map (·.1)) (h.rn l hl) fun c hc => by
   obtain ⟨y, hy, _⟩ := h.rm l hl c hc;exact List.mem_map.2 ⟨_, hy, rfl⟩
 have h8 := h.p8;simp at this;omega
theorem Good.ex (h : Good S) {l : Nat} (hl : l < 3) : ∀ c ∈ S.rows l, ∃ y, (c, y) ∈ S.ps := fun c hc => by
 obtain ⟨y, hy, _⟩ := h.rm l hl c hc;exact ⟨y, hy⟩
theorem cT (k : Nat × Nat) {l : Nat} (hl : l < 3) : slot k ≠ l + 1 := by unfold slot; omega
def St.wake1 (S : St) (b : Nat) (x : PS) : St := (S.setP b { x with st := 1, used := 0 }).setRow x.lv (S.rows x.lv ++ [b])
theorem Good.wake1 (h : Good S) {b : Nat} {x : PS} (hb : (b, x) ∈ S.ps) (hs : x.st ≠ 1) : Good (S.wake1 b x) := by
 have hlv := h.lv _ hb;have hnr : ∀ l, l < 3 → b ∉ S.rows l := fun l hl hm => by
   obtain ⟨y, hy, _, h1⟩ := h.rm l hl b hm;rw [bp h.pn hb hy] at hs;exact hs h1
 have rows : ∀ l, (S.wake1 b x).rows l = if l = x.lv then S.rows x.lv ++ [b] else S.rows l := fun l => rfl;refine ⟨by unfold St.wake1 St.setRow; rw [aW]; exact h.pn, by unfold St.wake1 St.setRow; rw [d7]; exact h.p8, fun q hq => ?_, fun l hl => ?_, fun l hl c hc => ?_, fun q hq h1 => ?_⟩
 · rcases aU hq with rfl | ⟨h1, _⟩
   · exact hlv
   · exact h.lv q h1
 · rw [rows]
   split
   · rename_i e;refine List.nodup_append.2 ⟨h.rn _ hlv, by simp, fun a ha c hc => ?_⟩;simp at hc;subst hc;exact fun e => hnr _ hlv (e ▸ ha)
   · exact h.rn l hl
 · rw [rows] at hc;have old : ∀ l', l' < 3 → c ∈ S.rows l' → ∃ y, (c, y) ∈ (S.setP b { x with st := 1, used := 0 }).ps ∧ y.lv = l' ∧ y.st = 1 := fun l' hl' hc' => by
     obtain ⟨y, hy, h1, h2⟩ := h.rm l' hl' c hc';refine ⟨y, ?_, h1, h2⟩;simp only [St.setP, List.mem_map];refine ⟨(c, y), hy, ?_⟩;rw [if_neg];rintro rfl;exact hnr l' hl' hc'
   split at hc
   · rename_i e;subst e;rcases List.mem_append.1 hc with h1 | h1
     · exact old _ hl h1
     · simp at h1;subst h1;exact ⟨_, av hb, rfl, rfl⟩
   · exact old l hl hc
 · rw [rows];rcases aU hq with rfl | ⟨h2, h3⟩
   · simp
   · have := h.rr q h2 h1
     split
     · rename_i e; rw [e] at this; exact List.mem_append_left _ this
     · exact this
end
def St.wakes (S : St) : List Nat → St
 | [] => S
 | b :: bs => St.wakes (match S.get b with
   | some x => if x.st = 3 ∧ x.til = S.now then S.wake1 b x else S
   | none => S) bs
theorem mn (S : St) (l m : List Nat) : S.wakes (l ++ m) = (S.wakes l).wakes m := by
 induction l generalizing S with
 | nil => rfl
 | cons b l ih => simp only [List.cons_append, St.wakes]; exact ih _
structure WRel (S S' : St) : Prop where
 f : S'.ps.map (·.1) = S.ps.map (·.1)
 now : S'.now = S.now
theorem WRel.refl (S : St) : WRel S S := ⟨rfl, rfl⟩
theorem lr (S : St) (b : Nat) (x : PS) : WRel S (S.wake1 b x) := ⟨aW S b _, rfl⟩
theorem fL : ∃ n, ∀ {σ} {F : Fam σ} {Δ : DM F} {main s} (K : Nat) (A : Lay) (S : St) (Fr L : Frag), (∀ cs, (Δ s).New (.cells cs 93)) → Rep K A S Fr L → Good S →
   CallsL Δ Tryz.prog main 80 [ptr K].toArray n s L (fun s' v L' => s = s' ∧ v = .tuple #[] ∧ Good (S.wakes (S.ps.map (·.1))) ∧ WRel S (S.wakes (S.ps.map (·.1))) ∧ ∃ A', LRel A A' ∧ Rep K A' (S.wakes (S.ps.map (·.1))) Fr L') := by
 obtain ⟨n1, g1⟩ := j9;apply Exists.intro;intro σ F Δ main s K A S Fr L hN hR hG;obtain ⟨base, cap, hv, hat0⟩ := bw hR.pa;simp only [List.length_map] at hv;have h5 : At L K 5 (.slice base S.ps.length cap) := by rw [← hv]; exact hR.kat rfl
 co_applyP aB 34 Tryz.func80 Tryz.ntmps80;co_applyP aa;co_applyP om rfl rfl rfl aJ;co_applyP oy rfl (au (hf := bO));co_applyP oy rfl (aF (ht := dp));co_applyP oy rfl (bB (hu := U91));co_applyP oy rfl ae;co_applyP ah;co_applyP aI;co_applyP bK (fun k s' ε' L' => s' = s ∧ ∃ l1 l2 A', S.ps = l1 ++ l2 ∧ LRel A A' ∧ Rep K A' (S.wakes (l1.map (·.1))) Fr L' ∧ Good (S.wakes (l1.map (·.1))) ∧ WRel S (S.wakes (l1.map (·.1))) ∧ k + l1.length = 8 ∧ kn ε' [(9, .int .i64 l1.length), (8, .int .i64 S.ps.length), (7, .slice base S.ps.length cap), (0, ptr K)]) 8
 · exact ⟨rfl, [], S.ps, A, rfl, LRel.refl A, hR, hG, WRel.refl S, rfl, rfl⟩
 rintro k s' ε' L' ⟨rfl, l1, l2, A', hl, hr, hR', hG', hW', hk, he⟩;co_applyP aV he;have hlen := congrArg List.length hl;simp only [List.length_append] at hlen;have h8 := hR.p8;co_applyP aa;co_applyP oy rfl cF;co_applyP ah;co_applyP aq;co_applyP bk rfl;intro hc
 · cases l2 with
   | nil => simp at hc hlen; omega
   | cons q l2 =>
     have hat : ∃ b, base = some ⟨b, 0, none⟩ ∧ At L' b l1.length (ptr q.1) := by
       obtain ⟨b, hb1, hb2, _⟩ := hat0 l1.length (ptr q.1) (by rw [hl]; simp);have hpa := hR'.pa;obtain ⟨base', cap', _, hat'⟩ := bw hpa;have e1 : (S.wakes (l1.map (·.1))).ps.map (fun q => ptr q.1) = S.ps.map fun q => ptr q.1 := by
         have := congrArg (List.map ptr) hW'.f;rw [List.map_map, List.map_map] at this;exact this
       obtain ⟨b', hb1', _, hv'⟩ := hat' l1.length (ptr q.1) (by rw [e1, hl]; simp);rw [hr.a 0 (.inl rfl), hb1] at hb1';obtain rfl : b = b' := by simpa using hb1'
       exact ⟨b, hb2, hv'⟩
     obtain ⟨ab, rfl, hav⟩ := hat;simp at hlen;have hmem : q.1 ∈ (S.wakes (l1.map (·.1))).ps.map (·.1) := by rw [hW'.f, hl]; simp
     obtain ⟨⟨b, x⟩, hbx, hbq⟩ := List.mem_map.1 hmem;have hbq' : b = q.1 := hbq;subst hbq';have hx2 : At L' q.1 2 (.int .i64 (x.st : Int)) := hR'.pat hbx (i := 2) rfl;have hx91 : At L' q.1 91 (.int .i64 x.til) := hR'.pat hbx (i := 91) rfl;have hk16 : At L' K 16 (.int .i64 ((S.wakes (l1.map (·.1))).now : Int)) := hR'.kat rfl;have hget := bl hG'.pn hbx;co_applyP aD;co_applyP aq;co_applyP aI;co_applyP aa;co_applyP oy rfl (bH U91 bN);co_applyP oy rfl (aF (ht := dz));co_applyP oan rfl;co_applyP aq;co_applyP nr ([(29, .bool (decide (x.st = 3 ∧ x.til = (S.wakes (l1.map (·.1))).now))), (3, ptr q.1), (9, .int .i64 l1.length), (8, .int .i64 S.ps.length), (7, .slice (some ⟨ab, 0, none⟩) S.ps.length cap), (0, ptr K)]);co_applyP bq aT;co_applyP tr 0 rfl ae pI;co_applyP tr 1 rfl aJ pI;co_applyP tr 2 rfl (au (hf := aC)) pI;co_applyP tr 3 rfl (au (hf := cZ)) pI;co_applyP tr 4 rfl (aF (ht := aY)) pI;co_applyP tr 5 rfl aA pI;co_applyP tr 6 rfl ae pI
     · by_cases h3 : x.st = 3
       · have e3 : ((x.st : Int) == 3) = true := by simp [h3]
         rw [e3];co_applyP tr 7 rfl (ae) pI;co_applyP tr 8 rfl (aJ) pI;co_applyP tr 9 rfl ((au (hf := qo))) pI;co_applyP tr 10 rfl ((aF (ht := aY))) pI;co_applyP tr 11 rfl (ae) pI;co_applyP tr 12 rfl (aJ) pI;co_applyP tr 13 rfl ((au (hf := bZ))) pI;co_applyP tr 14 rfl ((aF (ht := aY))) pI;co_applyP tr 15 rfl (aA) pI;co_applyP tr 16 rfl aP pI;co_applyP td (by kernel_rfl);change _ = _ ∧ _ = _ ∧ kn _ _;refine ⟨rfl, rfl, ?_⟩;have e4 : (x.til == ((S.wakes (l1.map (·.1))).now : Int)) = decide (x.st = 3 ∧ x.til = (S.wakes (l1.map (·.1))).now) := by rw [Bool.eq_iff_iff]; simp [h3]
         rw [← e4]; rfl
       · have e3 : ((x.st : Int) == 3) = false := by simp; omega
         rw [e3];co_applyP tu 7 rfl pI;co_applyP tu 8 rfl pI;co_applyP tu 9 rfl pI;co_applyP tu 10 rfl pI;co_applyP tu 11 rfl pI;co_applyP tu 12 rfl pI;co_applyP tu 13 rfl pI;co_applyP tu 14 rfl pI;co_applyP tu 15 rfl pI;co_applyP tr 16 rfl aP pI;co_applyP td (by kernel_rfl);change _ = _ ∧ _ = _ ∧ kn _ _;refine ⟨rfl, rfl, ?_⟩;have e4 : false = decide (x.st = 3 ∧ x.til = (S.wakes (l1.map (·.1))).now) := by simp [h3]
         rw [← e4]; rfl
     have hnext : S.wakes ((l1 ++ [q]).map (·.1)) = if x.st = 3 ∧ x.til = (S.wakes (l1.map (·.1))).now then (S.wakes (l1.map (·.1))).wake1 q.1 x else S.wakes (l1.map (·.1)) := by
       rw [List.map_append, mn];show St.wakes (match (S.wakes (l1.map (·.1))).get q.1 with | some x => _ | none => _) [] = _;rw [hget]; rfl
     have elen : IntKind.i64.wrap ((l1.length : Int) + 1) = ((l1 ++ [q]).length : Int) := by simp [IntKind.wrap_i64]; omega
     co_applyP bk rfl;intro hw;co_applyP ax;co_applyP om rfl rfl rfl ae;co_applyP oc rfl rfl rfl (g1 K A' _ Fr L' q.1 x hN hR' hbx (hG'.lv _ hbx) (hG'.r8 (hG'.lv _ hbx)) (fun e _ => cT _ (hG'.lv _ hbx)));rintro _ _ _ ⟨rfl, rfl, A2, hr2, hR2⟩;co_applyP ah;co_applyP ax;co_applyP oy rfl aR;co_applyP oy rfl ae;co_applyP ah;change ∃ k', k' < _ ∧ _;have hw' : x.st = 3 ∧ x.til = (S.wakes (l1.map (·.1))).now := by simpa using hw
     rw [if_pos hw'] at hnext;refine ⟨k - 1, by omega, rfl, l1 ++ [q], l2, A2, by simp [hl], hr.trans hr2, ?_, ?_, ?_, by simp; omega, ?_⟩
     · rw [hnext]; exact hR2
     · rw [hnext]; exact hG'.wake1 hbx (by omega)
     · rw [hnext]; exact ⟨(lr _ _ _).f.trans hW'.f, (lr _ _ _).now.trans hW'.now⟩
     · rw [← elen]; rfl
     intro hw;co_applyP aD;co_applyP ax;co_applyP oy rfl aR;co_applyP oy rfl ae;co_applyP ah;change ∃ k', k' < _ ∧ _;have hw' : ¬ (x.st = 3 ∧ x.til = (S.wakes (l1.map (·.1))).now) := by simpa using hw
     rw [if_neg hw'] at hnext;refine ⟨k - 1, by omega, rfl, l1 ++ [q], l2, A', by simp [hl], hr, ?_, ?_, ?_, by simp; omega, ?_⟩
     · rw [hnext]; exact hR'
     · rw [hnext]; exact hG'
     · rw [hnext]; exact hW'
     · rw [← elen]; rfl
 intro hc;co_applyP bS;change ∃ v, resE .. = some v ∧ _;cases l2 with
 | nil =>
   have e : l1 = S.ps := by rw [hl]; simp
   subst e;exact ⟨_, rfl, rfl, rfl, hG', hW', A', hr, hR'⟩
 | cons q l2 => simp at hc hlen; omega
theorem qw {α : Type} (A : List α) (n : Nat) (f : Nat → α) (C : List α) {i : Nat} (hi : i < n) (v : α) : (A ++ ((List.range n).map f ++ C)).set (A.length + i) v = A ++ ((List.range n).map (put f i v) ++ C) := by
 rw [List.set_append_right _ _ (Nat.le_add_right _ _), Nat.add_sub_cancel_left, List.set_append_left _ _ (by simpa using hi)];congr 2;apply List.ext_getElem
 · simp
 · intro j h1 h2;simp only [List.getElem_set, List.getElem_map, List.getElem_range, put]
   split
   · rename_i e; simp [e]
   · rename_i e; simp [Ne.symm e]
theorem qx {α : Type} (A : List α) (n : Nat) (f : Nat → α) (C : List α) {i : Nat} (hi : i < n) : (A ++ ((List.range n).map f ++ C))[A.length + i]? = some (f i) := by
 rw [List.getElem?_append_right (Nat.le_add_right _ _), Nat.add_sub_cancel_left, List.getElem?_append_left (by simpa using hi)];simp [hi]
section
variable (x : PS)
def pHead : List Value := [.int .i64 x.id, .int .i64 x.par, .int .i64 x.st, .int .i64 x.stat, .int .i64 x.at_, .int .i64 x.lv, .int .i64 x.used]
def pFiles : List Value := (List.range 6).flatMap (fun i => [.int .i64 (x.f i).1, .int .i64 (x.f i).2]) ++ [.int .i64 x.til]
theorem kg : pcells x = (pHead x ++ ((List.range 8).map (fun i => Value.int .u16 (x.r i)) ++ ((List.range 64).map (fun i => Value.int .u8 (x.m i)) ++ pFiles x))).toArray := rfl
theorem kh : pcells x = ((pHead x ++ (List.range 8).map (fun i => Value.int .u16 (x.r i))) ++ ((List.range 64).map (fun i => Value.int .u8 (x.m i)) ++ pFiles x)).toArray := by rw [kg, List.append_assoc]
theorem bg {i : Nat} (hi : i < 8) : (pcells x)[7 + i]? = some (.int .u16 (x.r i)) := by
 rw [kg, List.getElem?_toArray];exact qx (pHead x) 8 _ _ hi
theorem ue {i : Nat} (hi : i < 64) : (pcells x)[15 + i]? = some (.int .u8 (x.m i)) := by
 rw [kh, List.getElem?_toArray];exact qx (pHead x ++ (List.range 8).map (fun i => Value.int .u16 (x.r i))) 64 _ _ hi
theorem dP {i : Nat} (hi : i < 8) (v : Int) : (pcells x).setIfInBounds (7 + i) (.int .u16 v) = pcells { x with r := put x.r i v } := by
 rw [kg, List.setIfInBounds_toArray];have h := qw (pHead x) 8 (fun i => Value.int .u16 (x.r i)) ((List.range 64).map (fun i => Value.int .u8 (x.m i)) ++ pFiles x) hi (.int .u16 v);have e : put (fun i => Value.int .u16 (x.r i)) i (.int .u16 v) = fun j => Value.int .u16 (put x.r i v j) := by funext j; unfold put; split <;> rfl
 rw [e] at h;exact congrArg List.toArray h
theorem ug {i : Nat} (hi : i < 64) (v : Int) : (pcells x).setIfInBounds (15 + i) (.int .u8 v) = pcells { x with m := put x.m i v } := by
 rw [kh, List.setIfInBounds_toArray];have h := qw (pHead x ++ (List.range 8).map (fun i => Value.int .u16 (x.r i))) 64 (fun i => Value.int .u8 (x.m i)) (pFiles x) hi (.int .u8 v);have e : put (fun i => Value.int .u8 (x.m i)) i (.int .u8 v) = fun j => Value.int .u8 (put x.m i v j) := by funext j; unfold put; split <;> rfl
 rw [e] at h;rw [kh];exact congrArg List.toArray h
end
structure WF (x : PS) : Prop where
 r : ∀ i, i < 8 → 0 ≤ x.r i ∧ x.r i < 65536
 m : ∀ i, i < 64 → 0 ≤ x.m i ∧ x.m i < 256
theorem cW (n : Int) : IntKind.u16.wrap n = n % 65536 := by simp [IntKind.wrap, IntKind.bits, IntKind.signed]
theorem mo (n : Int) : IntKind.u8.wrap n = n % 256 := by simp [IntKind.wrap, IntKind.bits, IntKind.signed]
def PS.do (x : PS) (op a b c : Int) : Except Nat PS :=
 let ra := (a % 8).toNat
 let rb := (b % 8).toNat
 let k := (b + 256 * c) % 65536
 let y := { x with at_ := x.at_ + 1 }
 if op = 1 then .ok { y with r := put x.r ra k }
 else if op = 2 then .ok { y with r := put x.r ra (x.r rb) }
 else if op = 3 then .ok { y with r := put x.r ra ((x.r ra + x.r rb) % 65536) }
 else if op = 4 then .ok { y with r := put x.r ra ((x.r ra - x.r rb) % 65536) }
 else if op = 5 then .ok { y with at_ := if x.r ra = 0 then k.toNat else x.at_ + 1 }
 else if op = 6 then .ok { y with at_ := k.toNat }
 else if op = 7 then if x.r rb + c < 64 then .ok { y with r := put x.r ra (x.m (x.r rb + c).toNat) } else .error 10
 else if op = 8 then if x.r rb + c < 64 then .ok { y with m := put x.m (x.r rb + c).toNat (x.r ra % 256) } else .error 10
 else .error 1
abbrev insnv (op a b c : Int) : Value := .agg #[.int .u8 op, .int .u8 a, .int .u8 b, .int .u8 c]
theorem k_s : ∃ n, ∀ {σ} {F : Fam σ} {Δ : DM F} {main s} (L : Frag) (op a b c : Int), (∀ cs, (Δ s).New (.cells cs 158)) → 0 ≤ b ∧ b < 256 → 0 ≤ c ∧ c < 256 →
   CallsL Δ Tryz.prog main 113 [insnv op a b c].toArray n s L (fun s' v L' => s = s' ∧ v = .int .u16 ((b + 256 * c) % 65536) ∧ Fun L' ∧ ∀ t ∈ L, t ∈ L') := by
 apply Exists.intro;intro σ F Δ main s L op a b c hN hb hc;co_applyP aB 11 Tryz.func113 Tryz.ntmps113;co_applyP iq;intro hF;co_applyP aa;co_applyP oe rfl (cn (hN _));rintro _ _ ⟨nb, hnb, rfl, rfl⟩;co_applyP oan rfl;co_applyP aa;co_applyP oy rfl (au (hf := nD));co_applyP oy rfl (aF (ht := fI));co_applyP oy rfl (cp (hs := U5) (ht := U32));co_applyP oy rfl (au (hf := j7));co_applyP oy rfl (aF (ht := fI));co_applyP oy rfl (cp (hs := U5) (ht := U32));co_applyP oy rfl nt;co_applyP oy rfl aR;co_applyP oan rfl;co_applyP aK;change ∃ v, resE .. = some v ∧ _;have hA := dx (o := .cells #[.int .u8 op, .int .u8 a, .int .u8 b, .int .u8 c] 158) hF hnb;refine ⟨_, rfl, rfl, ?_, hA.fn, hA.sub⟩;simp only [cW];congr 1; omega
theorem wS : ∃ n, ∀ {σ} {F : Fam σ} {Δ : DM F} {main s} (L : Frag) (p : Value) (b c : Int) (e10 : Value), 0 ≤ b ∧ b < 65536 → 0 ≤ c ∧ c < 256 → At L 10 0 e10 →
   CallsL Δ Tryz.prog main 114 [p, .int .u16 b, .int .u8 c].toArray n s L (fun s' v L' => s = s' ∧ L = L' ∧ v = .tuple #[.int .i64 (if b + c < 64 then b + c else 0), if b + c < 64 then .nilIface else e10]) := by
 apply Exists.intro;intro σ F Δ main s L p b c e10 hb hc h10;have w1 : IntKind.i64.wrap b = b := by simp [IntKind.wrap_i64]; omega
 have w2 : IntKind.i64.wrap c = c := by simp [IntKind.wrap_i64]; omega
 have w3 : IntKind.i64.wrap (b + c) = b + c := by simp [IntKind.wrap_i64]; omega
 co_applyP aB 18 Tryz.func114 Tryz.ntmps114;co_applyP aa;co_applyP oy rfl bL;co_applyP oan rfl;co_applyP aa;co_applyP om rfl rfl rfl (cp (hs := U32) (ht := U3));co_applyP om rfl rfl rfl (cp (hs := U5) (ht := U3));co_applyP oy rfl aR;co_applyP oan rfl;co_applyP aq;co_applyP aa;co_applyP om rfl rfl rfl fh;co_applyP ah;change wpE ..;simp only [w1, w2, w3];co_applyP bk rfl;intro hc;co_applyP aq;co_applyP bq aT;co_applyP tr 0 rfl (aF (ht := ci)) pI;co_applyP tr 1 rfl bL pI;co_applyP tr 2 rfl bL pI;co_applyP td (by kernel_rfl);co_applyP aK;change ∃ v, resE .. = some v ∧ _
 · refine ⟨_, rfl, rfl, rfl, ?_⟩;have : ¬ b + c < 64 := by simp at hc; omega
   rw [if_neg this, if_neg this]
 intro hc;co_applyP aD;co_applyP aa;co_applyP om rfl rfl rfl bL;co_applyP oan rfl;co_applyP aK;change ∃ v, resE .. = some v ∧ _;refine ⟨_, rfl, rfl, rfl, ?_⟩;have : b + c < 64 := by simp at hc; omega
 rw [if_pos this, if_pos this]
theorem lu {S : St} {b : Nat} {x : PS} (hn : (S.ps.map (·.1)).Nodup) (h : (b, x) ∈ S.ps) : S.setP b x = S := by
 have : (S.ps.map fun q => if q.1 = b then (b, x) else q) = S.ps := by
   conv => rhs; rw [← List.map_id S.ps]
   apply List.map_congr_left;rintro ⟨c, y⟩ hq;by_cases e : c = b
   · subst e; simp [bp hn h hq]
   · simp [e]
 unfold St.setP; rw [this]
def errv (e0 e1 e10 : Value) : Nat → Value
 | 0 => e0
 | 1 => e1
 | _ => e10
theorem BJ : ∃ n, ∀ {σ} {F : Fam σ} {Δ : DM F} {main s} (K : Nat) (A : Lay) (S : St) (Fr L : Frag) (b : Nat) (x : PS) (op ia ib ic : Int) (e0 e1 e10 : Value), (∀ cs, (Δ s).New (.cells cs 158)) → Rep K A S Fr L → (b, x) ∈ S.ps → WF x → x.at_ < 256 → 0 ≤ ia ∧ ia < 256 → 0 ≤ ib ∧ ib < 256 → 0 ≤ ic ∧ ic < 256 → (∀ i ∈ [0, 1, 10], ∃ fl cs ty fr, (i, fl, Obj.cells cs ty fr) ∈ Fr ∧ cs[0]? = some (errv e0 e1 e10 i)) → (∃ t w, e10 = .iface t w) →
   CallsL Δ Tryz.prog main 96 [ptr b, insnv op ia ib ic].toArray n s L (fun s' v L' => s = s' ∧ match x.do op ia ib ic with
     | .ok x' => v = .nilIface ∧ Rep K A (S.setP b x') Fr L'
     | .error e => v = errv e0 e1 e10 e ∧ Rep K A S Fr L') := by
 obtain ⟨n1, g1⟩ := k_s;obtain ⟨n2, g2⟩ := wS;apply Exists.intro;intro σ F Δ main s K A S Fr L b x op ia ib ic e0 e1 e10 hN hR hb hx hat ha hib hic hg hi10;have gl : ∀ (L : Frag), Rep K A S Fr L → ∀ i ∈ [0, 1, 10], At L i 0 (errv e0 e1 e10 i) := fun L h i hi => by
   obtain ⟨fl, cs, ty, fr, h1, h2⟩ := hg i hi;exact ⟨fl, cs, ty, fr, h.fr _ h1, h2⟩
 obtain ⟨ra, hra⟩ : ∃ ra, ra = (ia % 8).toNat := ⟨_, rfl⟩;obtain ⟨rb, hrb⟩ : ∃ rb, rb = (ib % 8).toNat := ⟨_, rfl⟩;have hra8 : ra < 8 := by omega
 have hrb8 : rb < 8 := by omega
 have ea : (IntKind.i64.wrap ia).tmod 8 = (ra : Int) := by
   have : IntKind.i64.wrap ia = ia := by simp [IntKind.wrap_i64]; omega
   rw [this, Int.tmod_eq_emod_of_nonneg (by omega)]; omega
 have eb : (IntKind.i64.wrap ib).tmod 8 = (rb : Int) := by
   have : IntKind.i64.wrap ib = ib := by simp [IntKind.wrap_i64]; omega
   rw [this, Int.tmod_eq_emod_of_nonneg (by omega)]; omega
 have en : IntKind.i64.wrap ((x.at_ : Int) + 1) = ((x.at_ + 1 : Nat) : Int) := by simp [IntKind.wrap_i64]; omega
 have wra := hx.r ra hra8;have wrb := hx.r rb hrb8;co_applyP aB 130 Tryz.func96 Tryz.ntmps96;co_applyP aa;co_applyP bT rfl (cn (hN _));intro nb L1 hA;have hR1 := hR.add hA;have hbm := hA.self;have hb0 : ∀ i v, (#[Value.int .u8 op, .int .u8 ia, .int .u8 ib, .int .u8 ic])[i]? = some v → At L1 nb i v := fun i v h => ⟨true, _, _, _, hbm, h⟩;have hc0 := hb0 0 _ rfl;have hc1 := hb0 1 _ rfl;have hc2 := hb0 2 _ rfl;have hc3 := hb0 3 _ rfl;have hb1 : At L1 b (7 + ((IntKind.i64.wrap ib).tmod 8).toNat) (.int .u16 (x.r rb)) := by
   rw [eb]; exact hR1.pat hb (bg x hrb8)
 have hb4 : At L1 b 4 (.int .i64 (x.at_ : Int)) := hR1.pat hb (i := 4) rfl;co_applyP oan rfl;co_applyP aq;co_applyP bq aT;co_applyP tr 0 rfl ae pI;co_applyP tr 1 rfl (au (hf := j6)) pI;co_applyP tr 2 rfl (aF (ht := fI)) pI;co_applyP tr 3 rfl (cp (hs := U5) (ht := U3)) pI;co_applyP tr 4 rfl ji pI;co_applyP tr 5 rfl aJ pI;co_applyP tr 6 rfl (au (hf := aC)) pI;co_applyP tr 7 rfl (au (hf := aS)) pI;co_applyP tr 8 rfl (aX U47 aZ) pI;co_applyP tr 9 rfl bL pI;co_applyP td (by kernel_rfl);co_applyP aq;co_applyP bq aT;co_applyP tr 0 rfl ae pI;co_applyP tr 1 rfl (au (hf := nD)) pI;co_applyP tr 2 rfl (aF (ht := fI)) pI;co_applyP tr 3 rfl (cp (hs := U5) (ht := U3)) pI;co_applyP tr 4 rfl ji pI;co_applyP tr 5 rfl aJ pI;co_applyP tr 6 rfl (au (hf := aC)) pI;co_applyP tr 7 rfl (au (hf := aS)) pI;co_applyP tr 8 rfl (aX U47 aZ) pI;co_applyP tr 9 rfl (aF (ht := cH)) pI;co_applyP tr 10 rfl bL pI;co_applyP td (by kernel_rfl);co_applyP aa;co_applyP om rfl rfl rfl aJ;co_applyP oy rfl (au (hf := aC));co_applyP oy rfl (au (hf := cQ));co_applyP oy rfl (aF (ht := aY));co_applyP oy rfl aR;co_applyP oan rfl;co_applyP aV (ε' := [(0, ptr b), (3, ptr nb), (5, .pointer (some ⟨b, 7 + ra, none⟩)), (6, .int .u16 (x.r rb)), (7, .int .i64 ((x.at_ + 1 : Nat) : Int))]) (by rw [← en]; unfold kn; simp only [ea, eb, Int.toNat_natCast]; rfl);clear hb1 hb4;have har : At L1 b (7 + ra) (.int .u16 (x.r ra)) := hR1.pat hb (bg x hra8);have ek : IntKind.i64.wrap ((ib + 256 * ic) % 65536) = ((((ib + 256 * ic) % 65536).toNat : Nat) : Int) := by simp [IntKind.wrap_i64]; omega
 have hself : S.setP b x = S := lu hR.pn hb;co_applyP dZ (fun s' ε' L' => s = s' ∧ ∃ (y : PS) (nx : Nat), Rep K A (S.setP b y) Fr L' ∧ kn ε' [(0, ptr b), (7, .int .i64 (nx : Int))] ∧ x.do op ia ib ic = .ok { y with at_ := nx });co_applyP aa;co_applyP oy rfl (au (hf := iw));co_applyP oy rfl (aF (ht := fI));co_applyP ah;co_applyP aI;co_applyP aa;co_applyP oy rfl aA;co_applyP oan rfl;co_applyP bk rfl;intro c1;co_applyP ax;co_applyP oy rfl ae
 · have h1 : op = 1 := by simpa using c1
   co_applyP oy rfl (ba (ht := gS) (hs := dm) (hm := hbm) (hi := Nat.le_refl _));co_applyP oc rfl rfl rfl (g1 L1 op ia ib ic hN hib hic);rintro _ _ _ ⟨rfl, rfl, hF2, hs2⟩;have hR2 := hR1.of hF2 hs2;co_applyP oy rfl aJ;co_applyP osm rfl (hs := aZ) (hm := hR2.p _ hb) (hi := by first | decide | (rw [bf]; omega) | (rw [bC]; omega));intro L2 hU2;rw [dP x hra8] at hU2;have hRr := hR2.setP (x' := { x with r := put x.r ra ((ib + 256 * ic) % 65536) }) hb hU2;co_applyP ah;change _ = _ ∧ ∃ (y : PS) (nx : Nat), _;exact ⟨rfl, { x with r := put x.r ra ((ib + 256 * ic) % 65536) }, x.at_ + 1, hRr, rfl, by unfold PS.do; simp [h1, hra, hrb]⟩
 intro c1;co_applyP aa;co_applyP oy rfl aA;co_applyP oan rfl;change wpE ..;have n1 : ¬ op = 1 := by simpa using c1
 co_applyP bk rfl;intro c2;co_applyP ax;co_applyP om rfl rfl rfl ae;co_applyP oy rfl aJ
 · have h2 : op = 2 := by simpa using c2
   co_applyP osm rfl (hs := aZ) (hm := hR1.p _ hb) (hi := by first | decide | (rw [bf]; omega) | (rw [bC]; omega));intro L2 hU2;rw [dP x hra8] at hU2;have hRr := hR1.setP (x' := { x with r := put x.r ra (x.r rb) }) hb hU2;co_applyP ah;change _ = _ ∧ ∃ (y : PS) (nx : Nat), _;exact ⟨rfl, { x with r := put x.r ra (x.r rb) }, x.at_ + 1, hRr, rfl, by unfold PS.do; simp [h2, hra, hrb]⟩
 intro c2;co_applyP aa;co_applyP oy rfl aA;co_applyP oan rfl;change wpE ..;have n2 : ¬ op = 2 := by simpa using c2
 co_applyP bk rfl;intro c3;co_applyP ax;co_applyP om rfl rfl rfl aJ;co_applyP oy rfl (aF (ht := cH));co_applyP om rfl rfl rfl aR;co_applyP oy rfl aJ
 · have h3 : op = 3 := by simpa using c3
   co_applyP osm rfl (hs := aZ) (hm := hR1.p _ hb) (hi := by first | decide | (rw [bf]; omega) | (rw [bC]; omega));intro L2 hU2;rw [cW, dP x hra8] at hU2;have hRr := hR1.setP (x' := { x with r := put x.r ra ((x.r ra + x.r rb) % 65536) }) hb hU2;co_applyP ah;change _ = _ ∧ ∃ (y : PS) (nx : Nat), _;exact ⟨rfl, { x with r := put x.r ra ((x.r ra + x.r rb) % 65536) }, x.at_ + 1, hRr, rfl, by unfold PS.do; simp [h3, hra, hrb]⟩
 intro c3;co_applyP aa;co_applyP oy rfl aA;co_applyP oan rfl;change wpE ..;have n3 : ¬ op = 3 := by simpa using c3
 co_applyP bk rfl;intro c4;co_applyP ax;co_applyP om rfl rfl rfl aJ;co_applyP oy rfl (aF (ht := cH));co_applyP om rfl rfl rfl qf;co_applyP oy rfl aJ
 · have h4 : op = 4 := by simpa using c4
   co_applyP osm rfl (hs := aZ) (hm := hR1.p _ hb) (hi := by first | decide | (rw [bf]; omega) | (rw [bC]; omega));intro L2 hU2;rw [cW, dP x hra8] at hU2;have hRr := hR1.setP (x' := { x with r := put x.r ra ((x.r ra - x.r rb) % 65536) }) hb hU2;co_applyP ah;change _ = _ ∧ ∃ (y : PS) (nx : Nat), _;exact ⟨rfl, { x with r := put x.r ra ((x.r ra - x.r rb) % 65536) }, x.at_ + 1, hRr, rfl, by unfold PS.do; simp [h4, hra, hrb]⟩
 intro c4;co_applyP aa;co_applyP oy rfl aA;co_applyP oan rfl;change wpE ..;have n4 : ¬ op = 4 := by simpa using c4
 co_applyP bk rfl;intro c5;co_applyP aa;co_applyP om rfl rfl rfl aJ;co_applyP oy rfl (aF (ht := cH));co_applyP oy rfl aA;co_applyP ah;change wpE ..
 · have h5 : op = 5 := by simpa using c5
   co_applyP bk rfl;intro cz;co_applyP ax;co_applyP oy rfl (ba (ht := gS) (hs := dm) (hm := hbm) (hi := Nat.le_refl _));co_applyP oc rfl rfl rfl (g1 L1 op ia ib ic hN hib hic);rintro _ _ _ ⟨rfl, rfl, hF2, hs2⟩;have hR2 := hR1.of hF2 hs2;co_applyP oy rfl (cp (hs := U32) (ht := U3));co_applyP oan rfl;change _ = _ ∧ ∃ (y : PS) (nx : Nat), _;rw [ek];exact ⟨rfl, x, ((ib + 256 * ic) % 65536).toNat, by rw [hself]; exact hR2, rfl, by unfold PS.do; simp [h5, hra, hrb, show x.r (ia % 8).toNat = 0 from by rw [← hra]; simpa using cz]⟩;intro cz;co_applyP aD;change _ = _ ∧ ∃ (y : PS) (nx : Nat), _;exact ⟨rfl, x, x.at_ + 1, by rw [hself]; exact hR1, rfl, by unfold PS.do; simp [h5, hra, hrb, show ¬ x.r (ia % 8).toNat = 0 from by rw [← hra]; simpa using cz]⟩
 intro c5;co_applyP aa;co_applyP oy rfl aA;co_applyP oan rfl;change wpE ..;have n5 : ¬ op = 5 := by simpa using c5
 co_applyP bk rfl;intro c6;co_applyP ax
 · have h6 : op = 6 := by simpa using c6
   co_applyP oy rfl (ba (ht := gS) (hs := dm) (hm := hbm) (hi := Nat.le_refl _));co_applyP oc rfl rfl rfl (g1 L1 op ia ib ic hN hib hic);rintro _ _ _ ⟨rfl, rfl, hF2, hs2⟩;have hR2 := hR1.of hF2 hs2;co_applyP oy rfl (cp (hs := U32) (ht := U3));co_applyP oan rfl;change _ = _ ∧ ∃ (y : PS) (nx : Nat), _;rw [ek];exact ⟨rfl, x, ((ib + 256 * ic) % 65536).toNat, by rw [hself]; exact hR2, rfl, by unfold PS.do; simp [h6, hra, hrb]⟩
 intro c6;co_applyP aa;co_applyP oy rfl aA;co_applyP oan rfl;change wpE ..;have n6 : ¬ op = 6 := by simpa using c6
 co_applyP bk rfl;intro c7;co_applyP aa;co_applyP om rfl rfl rfl ae;co_applyP oy rfl (au (hf := j7));co_applyP oy rfl (aF (ht := fI))
 · have h7 : op = 7 := by simpa using c7
   co_applyP oc rfl rfl rfl (g2 L1 (ptr b) (x.r rb) ic e10 wrb hic (gl L1 hR1 10 (by simp)));rintro _ _ _ ⟨rfl, rfl, rfl⟩;co_applyP om rfl rfl rfl bW;co_applyP oy rfl bW;co_applyP oy rfl bL;co_applyP oan rfl;co_applyP aq;co_applyP aa;co_applyP om rfl rfl rfl (dH (v := if x.r rb + ic < 64 then .nilIface else e10) (c := decide (x.r rb + ic < 64)) (hv := by by_cases hm : x.r rb + ic < 64; exact .inl ⟨by rw [if_pos hm], by simp [hm]⟩; obtain ⟨t, w, e⟩ := hi10; exact .inr ⟨t, w, by rw [if_neg hm, e], by simp [hm]⟩) (hu := Tryz.underlying168));co_applyP ah;co_applyP bk rfl;intro cm;co_applyP aa;co_applyP oy rfl ae;co_applyP oan rfl;co_applyP aK;change ∃ v, resE .. = some v ∧ _;have hm : ¬ x.r rb + ic < 64 := by simpa using cm
   refine ⟨_, rfl, rfl, ?_⟩;have hdo : x.do op ia ib ic = .error 10 := by unfold PS.do; simp [h7, hra, hrb, show ¬ x.r (ib % 8).toNat + ic < 64 from by rw [← hrb]; exact hm]
   rw [hdo];refine ⟨?_, hR1⟩;show (if x.r rb + ic < 64 then Value.nilIface else e10) = e10;rw [if_neg hm];intro cm;have hm : x.r rb + ic < 64 := by simpa using cm
   have hm' : x.r (ib % 8).toNat + ic < 64 := by rw [← hrb]; exact hm
   simp only [if_pos hm];have hmm : At L1 b (15 + (x.r rb + ic).toNat) (.int .u8 (x.m (x.r rb + ic).toNat)) := hR1.pat hb (ue x (by omega));have hmw := hx.m (x.r rb + ic).toNat (by omega);have e16 : IntKind.u16.wrap (x.m (x.r rb + ic).toNat) = x.m (x.r rb + ic).toNat := by rw [cW]; omega
   co_applyP aD;co_applyP ax;co_applyP om rfl rfl rfl ae;co_applyP om rfl rfl rfl aJ;co_applyP oy rfl (au (hf := gp));co_applyP oy rfl (aX Tryz.underlying94 eJ);co_applyP oy rfl (aF (ht := fI));co_applyP oy rfl (cp (hs := U5) (ht := U32));co_applyP oy rfl aJ;rw [e16];co_applyP osm rfl (hs := aZ) (hm := hR1.p _ hb) (hi := by first | decide | (rw [bf]; omega) | (rw [bC]; omega));intro L2 hU2;rw [dP x hra8] at hU2;have hRr := hR1.setP (x' := { x with r := put x.r ra (x.m (x.r rb + ic).toNat) }) hb hU2;co_applyP ah;change _ = _ ∧ ∃ (y : PS) (nx : Nat), _;exact ⟨rfl, { x with r := put x.r ra (x.m (x.r rb + ic).toNat) }, x.at_ + 1, hRr, rfl, by unfold PS.do; simp [h7, hra, hrb, hm']⟩
 intro c7;co_applyP aa;co_applyP oy rfl aA;co_applyP oan rfl;change wpE ..;have n7 : ¬ op = 7 := by simpa using c7
 co_applyP bk rfl;intro c8;co_applyP aa;co_applyP om rfl rfl rfl ae;co_applyP oy rfl (au (hf := j7));co_applyP oy rfl (aF (ht := fI))
 · have h8 : op = 8 := by simpa using c8
   co_applyP oc rfl rfl rfl (g2 L1 (ptr b) (x.r rb) ic e10 wrb hic (gl L1 hR1 10 (by simp)));rintro _ _ _ ⟨rfl, rfl, rfl⟩;co_applyP om rfl rfl rfl bW;co_applyP oy rfl bW;co_applyP oy rfl bL;co_applyP oan rfl;co_applyP aq;co_applyP aa;co_applyP om rfl rfl rfl (dH (v := if x.r rb + ic < 64 then .nilIface else e10) (c := decide (x.r rb + ic < 64)) (hv := by by_cases hm : x.r rb + ic < 64; exact .inl ⟨by rw [if_pos hm], by simp [hm]⟩; obtain ⟨t, w, e⟩ := hi10; exact .inr ⟨t, w, by rw [if_neg hm, e], by simp [hm]⟩) (hu := Tryz.underlying168));co_applyP ah;co_applyP bk rfl;intro cm;co_applyP aa;co_applyP oy rfl ae;co_applyP oan rfl;co_applyP aK;change ∃ v, resE .. = some v ∧ _;have hm : ¬ x.r rb + ic < 64 := by simpa using cm
   refine ⟨_, rfl, rfl, ?_⟩;have hdo : x.do op ia ib ic = .error 10 := by unfold PS.do; simp [h8, hra, hrb, show ¬ x.r (ib % 8).toNat + ic < 64 from by rw [← hrb]; exact hm]
   rw [hdo];refine ⟨?_, hR1⟩;show (if x.r rb + ic < 64 then Value.nilIface else e10) = e10;rw [if_neg hm];intro cm;have hm : x.r rb + ic < 64 := by simpa using cm
   have hm' : x.r (ib % 8).toNat + ic < 64 := by rw [← hrb]; exact hm
   simp only [if_pos hm];co_applyP aD;co_applyP bi [] 9 (nf := 0) aT;co_applyP tr 0 rfl ae pN;co_applyP tr 1 rfl ae pN;co_applyP tr 2 rfl ae pN;co_applyP tr 3 rfl aJ pN;co_applyP t0 4 rfl (aF (ht := cH)) pN;co_applyP tr 5 rfl (cp (hs := U32) (ht := U5)) pN;co_applyP tr 6 rfl aJ pN;co_applyP tr 7 rfl (au (hf := gp)) pN;co_applyP tr 8 rfl (aX Tryz.underlying94 eJ) pN;co_applyP a0;intro hnd;co_applyP te (i := 9) rfl (fq (hnd := hnd) (hm := hR1.p _ hb) (hi := by rw [bf]; omega) (hs := eJ));rintro _ _ ⟨rfl, hU2⟩;refine ⟨ay (by simp), ?_⟩;rw [mo, ug x (by omega)] at hU2;have hRr := hR1.setP (x' := { x with m := put x.m (x.r rb + ic).toNat (x.r ra % 256) }) hb hU2;co_applyP td (by kernel_rfl);change _ = _ ∧ ∃ (y : PS) (nx : Nat), _;exact ⟨rfl, { x with m := put x.m (x.r rb + ic).toNat (x.r ra % 256) }, x.at_ + 1, hRr, rfl, by unfold PS.do; simp [h8, hra, hrb, hm']⟩
 intro c8;have n8 : ¬ op = 8 := by simpa using c8
 have h1g := gl L1 hR1 1 (by simp);co_applyP aa;co_applyP oy rfl (aF (ht := ci));co_applyP oan rfl;co_applyP aK;change ∃ v, resE .. = some v ∧ _;refine ⟨_, rfl, rfl, ?_⟩;have hdo : x.do op ia ib ic = .error 1 := by unfold PS.do; simp [n1, n2, n3, n4, n5, n6, n7, n8]
 rw [hdo];exact ⟨rfl, hR1⟩;rintro s' ε' L' ⟨rfl, y, nx, hRy, hk, hdo⟩;co_applyP aV hk;co_applyP aa;co_applyP om rfl rfl rfl ae;co_applyP oy rfl aJ;co_applyP oy rfl (au (hf := aC));co_applyP oy rfl (au (hf := cQ));co_applyP osm rfl (hs := de) (hm := hRy.p _ (av hb)) (hi := by first | decide | (rw [bf]; omega) | (rw [bC]; omega));intro L3 hU3;have hR3 := hRy.setP (x' := { y with at_ := nx }) (av hb) hU3;rw [dO] at hR3;co_applyP ah;co_applyP aa;co_applyP oan rfl;co_applyP aK;change ∃ v, resE .. = some v ∧ _;refine ⟨_, rfl, rfl, ?_⟩;rw [hdo];exact ⟨rfl, hR3⟩
theorem y5 (k : Int) (e : Nat × Nat) : evR Tryz.prog (Instr.build 210 [(0, .int .i64 k), (1, .iface 255 (ptq e))].toArray) [] = some (.agg #[.int .i64 k, .iface 255 (ptq e)], []) := by kernel_rfl
abbrev erv (eb : Nat → Nat × Nat) (i : Nat) : Value := .iface 255 (ptq (eb i))
structure NewE {R : World → World → Prop} {D : World → World → Array Event → Prop} (Δ : Dom R D) : Prop where
 a : ∀ cs, Δ.New (.cells cs 180)
 b : ∀ cs, Δ.New (.cells cs 182)
 c : ∀ cs, Δ.New (.cells cs 196)
 d : ∀ cs, Δ.New (.cells cs 210)
theorem pj : ∃ n, ∀ {σ} {F : Fam σ} {Δ : DM F} {main s} (L : Frag) (eb : Nat → Nat × Nat) (b : Nat) (e : Nat × Nat), NewE (Δ s) → Ers eb L →
   CallsL Δ Tryz.prog main 93 [ptr b, .iface 255 (ptq e)].toArray n s L (fun s' v L' => s = s' ∧ v = .bool false ∧ Fun L' ∧ ∀ t ∈ L, t ∈ L') := by
 obtain ⟨n1, g1⟩ := BE;apply Exists.intro;intro σ F Δ main s L eb b e hN hE;have hi182 : ∀ ms : Array (String × TypeId), TypeDesc.pointer 180 ≠ .interface ms := fun _ => by simp
 co_applyP aB 17 Tryz.func93 Tryz.ntmps93;co_applyP aa;co_applyP oan rfl;co_applyP aa;co_applyP bT rfl (eV (z := .pointer none) (hN.a _));intro t L1 hA;co_applyP ah;co_applyP aq (n₂ := 0);co_applyP aa;co_applyP om rfl rfl rfl (io hi182 (ht := Tryz.underlying182));co_applyP oc rfl rfl rfl (g1 L1 e t hN.c hN.b (hE.mono hA.sub).t);rintro _ _ _ ⟨rfl, rfl, hF, hs⟩;co_applyP oy rfl cN;co_applyP ah;co_applyP aQ rfl;co_applyP aa;co_applyP oan rfl;co_applyP aK;change ∃ v, resE .. = some v ∧ _;exact ⟨_, rfl, rfl, rfl, hF, fun x hx => hs _ (hA.sub _ hx)⟩
theorem ki : ∃ n, ∀ {σ} {F : Fam σ} {Δ : DM F} {main s} (K : Nat) (A : Lay) (S : St) (Fr L : Frag) (eb : Nat → Nat × Nat) (b : Nat) (x : PS) (r i : Nat), NewE (Δ s) → Rep K A S Fr L → Ers eb Fr → (b, x) ∈ S.ps → At L r 1 (erv eb i) → i < 11 → i ≠ 2 →
   CallsL Δ Tryz.prog main 93 [ptr b, .iface 180 (ptr r)].toArray n s L (fun s' v L' => s = s' ∧ v = .bool true ∧ Rep K A (S.setP b { x with r := put x.r 0 (ansOf i) }) Fr L') := by
 obtain ⟨n1, g1⟩ := BF;obtain ⟨n2, g2⟩ := ub;apply Exists.intro;intro σ F Δ main s K A S Fr L eb b x r i hN hR hE hb hr hi hi2;have hi182 : ∀ ms : Array (String × TypeId), TypeDesc.pointer 180 ≠ .interface ms := fun _ => by simp
 co_applyP aB 17 Tryz.func93 Tryz.ntmps93;co_applyP aa;co_applyP oan rfl;co_applyP aa;co_applyP bT rfl (eV (z := .pointer none) (hN.a _));intro t L1 hA;co_applyP ah;co_applyP aq;co_applyP aa;co_applyP om rfl rfl rfl (io hi182 (ht := Tryz.underlying182));co_applyP oc rfl rfl rfl (g1 L1 r t (.pointer none) hN.c hN.b ((hE.mono hR.fr).mono hA.sub).t hN.a hA.self);rintro _ _ _ ⟨rfl, rfl, L2, hF, hs, hU⟩;co_applyP oy rfl cN;co_applyP ah;change wpE ..;rename_i L3;have hs3 : ∀ x ∈ L, x ∈ L3 := fun x hx => hU.ne _ (hs _ (hA.sub _ hx)) (hA.new _ hx);have hR3 := hR.of hU.fn hs3;have hE3 := hE.mono hR3.fr;have hr3 := jC hr hs3;have ht3 : At L3 t 0 (ptr r) := ⟨true, _, _, _, hU.self, rfl⟩;co_applyP ai rfl;co_applyP aD;co_applyP aq;co_applyP bi [] 2 aT;co_applyP tr 0 rfl ae pN;co_applyP t0 1 rfl (aF (ht := yW)) pN;co_applyP tr 3 rfl aJ pN;co_applyP tr 4 rfl (au (hf := aC)) pN;co_applyP tr 5 rfl (au (hf := aS)) pN;co_applyP tc 2 rfl rfl rfl (g2 L3 eb r i hE3 hi hi2 hr3);rintro _ _ _ ⟨rfl, rfl, rfl⟩;refine ⟨ay (by simp), ?_⟩;co_applyP to 6 rfl ((aX U47 aZ)) (ay (by simp));co_applyP a0;intro hnd;co_applyP te (i := 7) rfl (fq (hnd := hnd) (hm := hR3.p _ hb) (hi := by rw [bf]; omega) (hs := aZ));rintro _ _ ⟨rfl, hU4⟩;refine ⟨ay (by simp), ?_⟩;co_applyP td (by kernel_rfl);co_applyP aa;co_applyP oan rfl;co_applyP aK;change ∃ v, resE .. = some v ∧ _;refine ⟨_, rfl, rfl, rfl, ?_⟩;have h7 : (pcells x).setIfInBounds (7 + 0) (.int .u16 (ansOf i)) = pcells { x with r := put x.r 0 (ansOf i) } := dP x (by omega) _;exact hR3.setP hb (x' := { x with r := put x.r 0 (ansOf i) }) (h7 ▸ hU4)
theorem uh : ∃ n, ∀ {σ} {F : Fam σ} {Δ : DM F} {main s} (L : Frag) (k : Int),
   CallsL Δ Tryz.prog main 111 [.int .i64 k, .nilIface].toArray n s L (fun s' v L' => s = s' ∧ L = L' ∧ v = .nilIface) := by
 apply Exists.intro;intro σ F Δ main s L k;co_applyP aB 12 Tryz.func111 Tryz.ntmps111;co_applyP aa;co_applyP oan rfl;co_applyP aq (n₂ := 0);co_applyP aa;co_applyP om rfl rfl rfl (dH (v := .nilIface) (c := true) (hv := .inl ⟨rfl, rfl⟩) (hu := Tryz.underlying168));co_applyP ah;co_applyP aQ rfl;co_applyP aa;co_applyP oan rfl;co_applyP aK;change ∃ v, resE .. = some v ∧ _;exact ⟨_, rfl, rfl, rfl, rfl⟩
theorem nM : ∃ n, ∀ {σ} {F : Fam σ} {Δ : DM F} {main s} (L : Frag) (k : Int) (e : Nat × Nat), (∀ cs, (Δ s).New (.cells cs 210)) →
   CallsL Δ Tryz.prog main 111 [.int .i64 k, .iface 255 (ptq e)].toArray n s L (fun s' v L' => s = s' ∧ ∃ r, v = .iface 180 (ptr r) ∧ Add L r (.cells #[.int .i64 k, .iface 255 (ptq e)] 210) L') := by
 apply Exists.intro;intro σ F Δ main s L k e hN;have hi180 : ∀ ms : Array (String × TypeId), TypeDesc.pointer 210 ≠ .interface ms := fun _ => by simp
 co_applyP aB 12 Tryz.func111 Tryz.ntmps111;co_applyP aa;co_applyP oan rfl;co_applyP aq;co_applyP aa;co_applyP om rfl rfl rfl (dH (v := .iface 255 (ptq e)) (c := false) (hv := .inr ⟨_, _, rfl, rfl⟩) (hu := Tryz.underlying168));co_applyP ah;co_applyP ai rfl;co_applyP aD;co_applyP aa;co_applyP om rfl rfl rfl ae;co_applyP oy rfl (bt (y5 k e));co_applyP bT rfl (cn (hN _));intro r L1 hA;co_applyP oy rfl (io hi180 (ht := o8));co_applyP oan rfl;co_applyP aK;change ∃ v, resE .. = some v ∧ _;exact ⟨_, rfl, rfl, r, rfl, hA⟩
end Go.Proofs.YtejkelcaljmnoaaGreatDoor
namespace Go.Hx
open Go.Conc
theorem mq {P : Program} {main : Bool} {b : Frame} {a : Act} {cs : List Frame} {w : World} {fn : Func} {todo : List Item} {c : Frame} {v : Value} (hn : b.kind = .normal) (hd : a.defers = []) (hf : P.funcs[b.fn]? = some fn)
   (hr : (results fn a.tmps).run P w = .ok v w) : ∃ es, stepG P main (G { b.at a todo with mode := .returning } (c :: cs)) w = .go (G (c.finish v) cs) w es ∧ ∀ e ∈ es, e ∈ (results fn a.tmps).events P w #[] :=
 ⟨_, by simp [G, stepG, unwind, doReturn, Frame.at, hn, hd, hf, hr, GStep.after]; rfl, fun _ he => mem_seen he⟩
end Go.Hx
namespace Go.Lo
open Go.Conc Go.Hx
def bodyLM {σ : Type} (P : Program) (g : Func) (Post : σ → Value → Frag → Prop) : σ → Exit → Act → Frag → Prop
 | s, .normal, a, L | s, .ret, a, L => a.defers = [] ∧ ∃ v, wpQ P (results g a.tmps) (· = v) L ∧ Post s v L
 | _, _, _, _ => False
def CallsM {σ : Type} {F : Fam σ} (Δ : ∀ s, Dom (F.R s) (F.D s)) (P : Program) (main : Bool) (f : FuncId) (args : Array Value) (n : Nat) (s : σ) (L : Frag) (Post : σ → Value → Frag → Prop) : Prop :=
 ∃ g c, P.funcs[f]? = some g ∧ (g.name == "runtime.NumGoroutine") = false ∧ g.body = some c ∧ wpL Δ P main f c n s (bodyLM P g Post) { tmps := args ++ Array.replicate (g.ntmps - args.size) undef, defers := [] } L
section
variable {σ : Type} {F : Fam σ} {Δ : ∀ s, Dom (F.R s) (F.D s)} {P : Program} {main : Bool} {fn : FuncId} {s : σ} {a : Act} {L : Frag}
theorem pk {Q : σ → Exit → Act → Frag → Prop} {ops : Array Oper} {i : Nat} {rest : List Nat} {o : Oper} {f : FuncId} {args : Array Operand} {ats : Array TypeId} {nf n : Nat} {Post : σ → Value → Frag → Prop}
   (ho : ops[i]? = some o) (hw : Region.wanted o (yielded ops a.tmps) = true) (hop : o.op = .call { callee := .value (.func f), args, argTypes := ats }) (hcall : CallsM Δ P main f (args.map a.eval) nf s L Post) (hnext : ∀ s' v L', Post s' v L' → OpsL Δ P main fn ops rest n s' Q (a.put o.dst v) L') : OpsL Δ P main fn ops (i :: rest) (n + nf + 3) s Q a L := by
 intro w hO b k cs m hb hk hc;obtain ⟨g, c, hf, hname, hbody, hwp⟩ := hcall;have hfin : ∀ v, (b.at a (.inRegion ops (i :: rest) :: k)).finish v = b.at (a.put o.dst v) (.inRegion ops rest :: k) := fun v => by rw [Frame.finish_at, ho]; rfl
 have hleave : ∀ (s' : σ) (a' : Act) (w' : World) (todo : List Item), (∃ L', (Δ s').Own L' w' ∧ a'.defers = [] ∧ ∃ v, wpQ P (results g a'.tmps) (· = v) L' ∧ Post s' v L') →
     Goes P main (F.R s') (F.D s') (F.Stop s') (m + n + 1) (G { (base f).at a' todo with mode := .returning } (b.at a (.inRegion ops (i :: rest) :: k) :: cs)) w' := by
   rintro s' a' w' todo ⟨L', hL, hd, v, hr, hp⟩;refine Goes.step rfl fun w₁ h₁ => ?_;obtain ⟨q1, q2⟩ := lX (Δ s') ((Δ s').rely hL h₁) hr;obtain ⟨es, hes, hm⟩ := mq (main := main) (cs := cs) (todo := todo) (c := b.at a (.inRegion ops (i :: rest) :: k)) (b := base f) rfl hd hf q1;rw [hes, hfin];exact ⟨(Δ s').dd ((Δ s').gr w₁) fun e he => q2 e (hm e he), (hnext s' v L' hp w' hL b k cs m hb hk hc).rely (F.terms s').trans h₁⟩
 have hbodyG : Goes P main (F.R s) (F.D s) (F.Stop s) (m + n + 2 + nf) (G ((base f).at { tmps := args.map a.eval ++ Array.replicate (g.ntmps - (args.map a.eval).size) undef, defers := [] } [.code c]) (b.at a (.inRegion ops (i :: rest) :: k) :: cs)) w := by
   refine hwp w hO (base f) [] _ (m + n + 2) rfl (by simp [base]) fun s' e a' w' q => ?_;obtain ⟨L', hL, q⟩ := q;cases e with
   | normal => exact Goes.step rfl fun w₁ h₁ => by rw [stepG_end]; exact ⟨(F.terms s').idle _, (hleave s' a' w' [] ⟨L', hL, q⟩).rely (F.terms s').trans h₁⟩
   | ret => exact fun todo => (hleave s' a' w' todo ⟨L', hL, q⟩).more
   | exit id => exact q.elim
   | goto l => exact q.elim
   | panic ch => exact q.elim
   | outgrown => exact q.elim
 have e : m + (n + nf + 3) = (m + n + 2 + nf) + 1 := by omega
 rw [e];exact Goes.step rfl fun w₁ h₁ => goes_call ho hw hk hop hf hname hbody ⟨(F.terms s).idle _, hbodyG.rely (F.terms s).trans h₁⟩
end
def resM (P : Program) (g : Func) (ε : Env) (L : Frag) (v : Value) : Prop := ∃ t ty b i n fl cs e, g.results.toList = [.cell t ty] ∧ look ε t = some (.pointer (some ⟨b, i, none⟩)) ∧ aggAt P ty = some true ∧ sizeAt P ty = some n ∧ (b, fl, Obj.cells cs e) ∈ L ∧ i + n ≤ cs.size ∧ v = .agg (cs.extract i (i + n))
def bodyM {σ : Type} (P : Program) (g : Func) (Post : σ → Value → Frag → Prop) : σ → Exit → Env → Frag → Prop
 | s, .normal, ε, L | s, .ret, ε, L => ∃ v, resM P g ε L v ∧ Post s v L
 | _, _, _, _ => False
section
variable {σ : Type} {F : Fam σ} {Δ : ∀ s, Dom (F.R s) (F.D s)} {P : Program} {main : Bool} {fn : FuncId} {N : Nat} {Q : σ → Exit → Env → Frag → Prop} {s : σ} {ε : Env} {L : Frag}
theorem wT {g : Func} {a : Act} {v : Value} (hf : Fits N ε a) (h : resM P g ε L v) : wpQ P (results g a.tmps) (· = v) L := by
 obtain ⟨t, ty, b, i, n, fl, cs, e, h1, h2, h3, h4, h5, h6, rfl⟩ := h;have h1' : g.results = #[.cell t ty] := Array.ext' h1;have e1 := (hf.at_ _ _ h2).2;have e0 : results g a.tmps = (asAddr (a.tmps.getD t undef) >>= fun x => loadVar ty x) := by simp [results, h1']
 rw [e0, e1, ar];show wpQ P (loadVar ty ⟨b, i, none⟩) _ L;unfold loadVar;rw [ar, gb h3];simp only [if_true];rw [ar, cV h4, ar];exact eZ h5 h6 rfl
theorem mr (N : Nat) {f : FuncId} {g : Func} {c : Code} {vs : List Value} {n : Nat} {Post : σ → Value → Frag → Prop} (hf : P.funcs[f]? = some g) (hN : g.ntmps = N)  (hname : (g.name == "runtime.NumGoroutine") = false := by rfl) (hb : g.body = some c := by rfl) (hl : Nat.ble vs.length N = true := by rfl) (h : wpE Δ P main f N c n s (bodyM P g Post) (args vs) L) : CallsM Δ P main f vs.toArray n s L Post := by
 have hl := Nat.le_of_ble_eq_true hl;subst hN;refine ⟨g, c, hf, hname, hb, dt (h _ ⟨by simp; omega, rfl, fun t v ht => ?_⟩) fun s' e a' L' ⟨ε', hf, q⟩ => ?_⟩
 · obtain ⟨_, h2⟩ := ge vs 0 t v ht;have hlt := (List.getElem?_eq_some_iff.1 h2).1;simp only [Nat.sub_zero] at h2 hlt;refine ⟨by omega, ?_⟩;simp only [Array.getD_eq_getD_getElem?, Array.getElem?_append, List.size_toArray, hlt, if_true, List.getElem?_toArray, h2, Option.getD_some]
 · cases e <;> first | exact ⟨hf.df, q.choose, wT hf q.choose_spec.1, q.choose_spec.2⟩ | exact q
theorem ocm {ops : Array Oper} {i : Nat} {rest : List Nat} {d : Option Tmp} {k : Op} {ot : TypeId} {ps : String} {af : Array Edge} {g : Option (Nat × Bool)} {f : FuncId} {args : Array Operand} {ats : Array TypeId} {vs : List Value} {nf n : Nat} {Post : σ → Value → Frag → Prop}
   (ho : ops[i]? = some ⟨d, k, ot, ps, af, g⟩) (hop : k = .call { callee := .value (.func f), args, argTypes := ats }) (ha : args.toList.map (ev ε) = vs.map some) (hcall : CallsM Δ P main f vs.toArray nf s L Post)
    (hw : wantedE ops N ε g = some true := by rfl) (hd : dstOk N d = true := by rfl) (h : ∀ s' v L', Post s' v L' → OpsE Δ P main fn N ops rest n s' Q (putE d v ε) L') : OpsE Δ P main fn N ops (i :: rest) (n + nf + 3) s Q ε L := by
 intro a hfa;have e1 : args.map a.eval = vs.toArray := by apply Array.ext'; simpa using eD hfa _ _ ha
 subst hop;exact pk ho (hfa.wanted hw) rfl (by rw [e1]; exact hcall) fun s' v L' hp => h s' v L' hp _ (hfa.put hd v)
end
end Go.Lo
namespace Go.Proofs.YtejkelcaljmnoaaGreatDoor
open Go.Conc Go.Hx Go.Lo
theorem pl (x : PS) {i : Nat} (hi : i < 6) : (pcells x).extract (79 + 2 * i) (79 + 2 * i + 2) = #[.int .i64 (x.f i).1, .int .i64 (x.f i).2] := by
 have : i = 0 ∨ i = 1 ∨ i = 2 ∨ i = 3 ∨ i = 4 ∨ i = 5 := by omega
 rcases this with rfl | rfl | rfl | rfl | rfl | rfl <;> rfl
theorem po (x : PS) {i : Nat} (hi : i < 6) (k : Nat × Nat) : puts (pcells x) (79 + 2 * i) [.int .i64 k.1, .int .i64 k.2] = pcells { x with f := put x.f i k } := by
 have : i = 0 ∨ i = 1 ∨ i = 2 ∨ i = 3 ∨ i = 4 ∨ i = 5 := by omega
 rcases this with rfl | rfl | rfl | rfl | rfl | rfl <;> rfl
def PS.file (x : PS) (n : Int) : Nat × Nat := if n < 6 then x.f n.toNat else (0, 0)
theorem ui : evR Tryz.prog (Instr.build 96 ([] : List (Nat × Value)).toArray) [] = some (keyv (0, 0), []) := by kernel_rfl
theorem kj : ∃ n, ∀ {σ} {F : Fam σ} {Δ : DM F} {main s} (K : Nat) (A : Lay) (S : St) (Fr L : Frag) (b : Nat) (x : PS) (k : Int), (∀ cs, (Δ s).New (.cells cs 96)) → Rep K A S Fr L → (b, x) ∈ S.ps → 0 ≤ k ∧ k < 65536 →
   CallsM Δ Tryz.prog main 106 [ptr b, .int .u16 k].toArray n s L (fun s' v L' => s = s' ∧ v = keyv (x.file k) ∧ Fun L' ∧ ∀ t ∈ L, t ∈ L') := by
 apply Exists.intro;intro σ F Δ main s K A S Fr L b x k hN hR hb hk;have hw : IntKind.i64.wrap k = k := by simp [IntKind.wrap_i64]; omega
 co_applyP mr 15 Tryz.func106 Tryz.ntmps106;co_applyP aa;co_applyP bT rfl (eV (z := keyv (0, 0)) (hN _));intro nb L1 hA;have hR1 := hR.add hA;co_applyP ah;co_applyP aq;co_applyP aa;co_applyP om rfl rfl rfl (cp (hs := U32) (ht := U3));co_applyP oy rfl fh;co_applyP ah;change wpE ..;simp only [hw];co_applyP bk rfl;intro hc;co_applyP aa
 · have h6 : ¬ k < 6 := by simpa using hc
   co_applyP oy rfl (bt ui);co_applyP oeN rfl (fun hnd => fH (hs := bh) (vs := [.int .i64 (0 : Nat), .int .i64 (0 : Nat)]) (hnd := hnd) (hm := hA.self) (hi := Nat.le_refl _));rintro _ L2 ⟨rfl, hU⟩;co_applyP ah;co_applyP aK;change ∃ v, resM _ _ _ _ v ∧ _;refine ⟨_, ⟨_, _, nb, 0, 2, true, _, _, rfl, rfl, bM, bh, hU.self, Nat.le_refl _, rfl⟩, rfl, by simp [PS.file, h6]; rfl, hU.fn, fun t ht => hU.ne _ (hA.sub _ ht) (hA.new _ ht)⟩
 intro hc;have h6 : k < 6 := by simpa using hc
 co_applyP aD;co_applyP aa;co_applyP om rfl rfl rfl ae;co_applyP oy rfl aJ;co_applyP oy rfl (au (hf := eg));co_applyP oy rfl (aX Tryz.underlying97 bh);co_applyP oy rfl (ba (ht := bM) (hs := bh) (hm := hR1.p _ hb) (hi := by rw [bf]; omega));co_applyP oeN rfl (fun hnd => fH (hs := bh) (vs := [.int .i64 (x.f k.toNat).1, .int .i64 (x.f k.toNat).2]) (hy := by rw [show 0 + 79 + k.toNat * 2 = 79 + 2 * k.toNat by omega, pl x (by omega)]; rfl) (hnd := hnd) (hm := hA.self) (hi := Nat.le_refl _));rintro _ L2 ⟨rfl, hU⟩;co_applyP ah;co_applyP aK;change ∃ v, resM _ _ _ _ v ∧ _;refine ⟨_, ⟨_, _, nb, 0, 2, true, _, _, rfl, rfl, bM, bh, hU.self, Nat.le_refl _, rfl⟩, rfl, by simp [PS.file, h6]; rfl, hU.fn, fun t ht => hU.ne _ (hA.sub _ ht) (hA.new _ ht)⟩
end Go.Proofs.YtejkelcaljmnoaaGreatDoor
namespace Go.Lo
open Go.Conc Go.Hx
section
variable {P : Program} {New : Obj → Prop} {L : Frag}
theorem gU {d : Nat} {t : TypeId} {xs ys : Array Value} {fs : Array Field} {K : Bool → Prop} (ht : P.underlying t = some (.struct fs)) (hp : P.stoodInHeld t = false) (h : wpQ P (Op.eqFields d xs ys fs.toList) K L) : wpQ P (Op.equalIn (d + 1) t (.agg xs) (.agg ys)) K L := by
 rw [Op.equalIn.eq_def];rw [ar, aH ht];simp only;rw [ar];show wpQ P (if P.stoodInHeld t = true then _ else _) K L;rw [hp];simp only [Bool.false_eq_true, if_false];rw [← Array.forIn_toList];generalize fs.toList = l at h ⊢;clear ht
 induction l with
 | nil => exact h
 | cons f l ih =>
   simp only [Op.eqFields] at h;simp only [List.forIn_cons, ar]
   split
   · rename_i hn;rw [if_pos hn] at h;simp only [ar] at h ⊢;refine da ?_ (fun _ h => h) _ h;intro a h;refine da ?_ (fun _ h => h) _ h;intro b h;refine da ?_ (fun _ h => h) _ h;intro r h;cases r with
     | false => exact h
     | true =>
       have := ih h;simpa [ar, bG] using this
   · rename_i hn;rw [if_neg hn] at h;have := ih h;simpa [ar, bG] using this
theorem fA {d : Nat} {t : TypeId} {k k' : IntKind} {a b : Int} {K : Bool → Prop} (h : P.underlying t = some (.int k')) (hK : K (a == b)) : wpQ P (Op.equalIn (d + 1) t (.int k a) (.int k b)) K L := by
 rw [Op.equalIn.eq_def, ar, aH h];simpa [bG] using hK
abbrev kv (k : Nat × Nat) : Value := .agg #[.int .i64 k.1, .int .i64 k.2]
structure FldAt (P : Program) (f : Field) (off : Nat) : Prop where
 n : f.name ≠ "_"
 o : f.offset = off
 a : aggAt P f.type = some false
 u : ∃ k, P.underlying f.type = some (.int k)
structure Key2 (P : Program) (t : TypeId) : Prop where
 ex : ∃ f0 f1, P.underlying t = some (.struct #[f0, f1]) ∧ FldAt P f0 0 ∧ FldAt P f1 1
 hp : P.stoodInHeld t = false
 ck : ∀ e a b, evR P (Instr.checkKey e 10000 t (.agg #[.int .i64 a, .int .i64 b])) [] = some ((), [])
theorem lw {t : TypeId} (H : Key2 P t) {k k' : Nat × Nat} {K : Bool → Prop} (hK : K (decide (k = k'))) : wpQ P (Op.equal t (kv k) (kv k')) K L := by
 obtain ⟨f0, f1, hu, h0, h1⟩ := H.ex;obtain ⟨k0, u0⟩ := h0.u;obtain ⟨k1, u1⟩ := h1.u;rw [dL];refine gU hu H.hp ?_;simp only [Op.eqFields, if_pos h0.n, if_pos h1.n, ar];refine fg h0.a (v := .int .i64 k.1) (by rw [h0.o]; rfl) ?_;refine fg h0.a (v := .int .i64 k'.1) (by rw [h0.o]; rfl) ?_;refine fA (d := 9998) u0 ?_;by_cases e0 : k.1 = k'.1
 · simp only [e0, beq_self_eq_true, Bool.not_true, Bool.false_eq_true, if_false, ar];refine fg h1.a (v := .int .i64 k.2) (by rw [h1.o]; rfl) ?_;refine fg h1.a (v := .int .i64 k'.2) (by rw [h1.o]; rfl) ?_;refine fA (d := 9998) u1 ?_;by_cases e1 : k.2 = k'.2
   · have e : k = k' := Prod.ext e0 e1;simpa [e, bG] using hK
   · have e : ¬ k = k' := fun e => e1 (by rw [e]);have e2 : ((k.2 : Int) == (k'.2 : Int)) = false := by simp; omega
     rw [e2];simpa [e, bG] using hK
 · have e : ¬ k = k' := fun e => e0 (by rw [e]);have e2 : ((k.1 : Int) == (k'.1 : Int)) = false := by simp; omega
   rw [e2];simpa [e, bG] using hK
abbrev Ents := List ((Nat × Nat) × Value × Nat)
def ent (e : (Nat × Nat) × Value × Nat) : MapEntry := ⟨kv e.1, e.2.1, e.2.2⟩
def mapO (l : Ents) (clock : Nat) : Obj := .map (l.map ent).toArray clock
def lk (k : Nat × Nat) : Ents → Nat → Option (Nat × Value)
 | [], _ => none
 | e :: l, i => if k = e.1 then some (i, e.2.1) else lk k l (i + 1)
theorem kl {t : TypeId} (H : Key2 P t) {k : Nat × Nat} {K : Option (Nat × Value) → Prop} : ∀ (l : Ents) (i : Nat), K (lk k l i) → wpQ P (Instr.findAsking t (kv k) (l.map ent) i) K L := by
 intro l
 induction l with
 | nil => exact fun i h => h
 | cons e l ih =>
   intro i h;simp only [List.map_cons, Instr.findAsking, ar];refine lw H ?_;simp only [lk] at h;by_cases e1 : k = e.1
   · rw [if_pos e1] at h;simp only [decide_eq_true e1, if_true];exact h
   · rw [if_neg e1] at h;simp only [decide_eq_false e1, Bool.false_eq_true, if_false];exact ih _ h
theorem d8 {t : TypeId} (H : Key2 P t) {k : Nat × Nat} {K : Option (Nat × Value) → Prop} (l : Ents) (h : K (lk k l 0)) : wpQ P (Instr.findKey t (kv k) (l.map ent)) K L := by
 obtain ⟨f0, f1, hu, h0, h1⟩ := H.ex;unfold Instr.findKey;rw [ar, aH hu];cases l with
 | nil => exact h
 | cons e l => exact kl H (e :: l) 0 h
def upk (k : Nat × Nat) (v : Value) (l : Ents) (clock : Nat) : Obj := match lk k l 0 with
 | some (i, _) => mapO (l.modify i fun e => (k, v, e.2.2)) clock
 | none => mapO (l ++ [(k, v, clock)]) (clock + 1)
def dlk (k : Nat × Nat) (l : Ents) : Ents := match lk k l 0 with
 | some (i, _) => l.eraseIdx i
 | none => l
theorem uj {k : Nat × Nat} : ∀ {l : Ents} {j i : Nat} {v : Value}, lk k l j = some (i, v) → ∃ e, j ≤ i ∧ l[i - j]? = some e ∧ e.1 = k ∧ e.2.1 = v
 | [], _, _, _, h => by cases h
 | e :: l, j, i, v, h => by
   simp only [lk] at h
   split at h
   · rename_i e1;simp only [Option.some.injEq, Prod.mk.injEq] at h;obtain ⟨rfl, rfl⟩ := h;exact ⟨e, Nat.le_refl _, by simp, e1.symm, rfl⟩
   · obtain ⟨e', h1, h2, h3⟩ := uj h;refine ⟨e', by omega, ?_, h3⟩;rw [show i - j = (i - (j + 1)) + 1 by omega];simpa using h2
end
section
variable {P : Program} {New : Obj → Prop} {N : Nat} {ε : Env} {L : Frag} {d : Option Tmp} {ty : TypeId} {ps : String} {af : Array Edge} {g : Option (Nat × Bool)}
theorem nN {x ix : Operand} {t kt et : TypeId} {r clock : Nat} {k : Nat × Nat} {l : Ents} {z : Value} {fl : Bool} (H : Key2 P kt) (hu : P.underlying t = some (.map kt et)) (hz : zeroAt P et = some z) (hm : (r, fl, mapO l clock) ∈ L) (hx : ev ε x = some (.map (some r)) := by rfl) (hi : ev ε ix = some (kv k) := by rfl) :
   EY P N ε L ⟨d, .lookup t x ix false, ty, ps, af, g⟩ (match lk k l 0 with | some (_, v) => v | none => z) := fun a ha => by
 refine cR (fun _ => rfl) fun K hK => ?_;rw [ha.ev hx, ha.ev hi];unfold Instr.lookup;rw [ar, aH hu];simp only [ar];refine oV hm rfl ?_;simp only [mapO];rw [ar, bG, ar];refine bj (H.ck _ _ _) ?_;rw [ar];refine d8 H l ?_;cases hl : lk k l 0 with
 | some p =>
   rw [hl] at hK;exact hK
 | none =>
   rw [hl] at hK;simp only [ar, gI hz];exact hK
theorem BK {x ix y : Operand} {t kt et : TypeId} {r clock : Nat} {k : Nat × Nat} {v : Value} {l : Ents} (hnd : (L.map (·.1)).Nodup) (H : Key2 P kt) (hu : P.underlying t = some (.map kt et)) (hm : (r, true, mapO l clock) ∈ L) (hx : ev ε x = some (.map (some r)) := by rfl) (hi : ev ε ix = some (kv k) := by rfl) (hy : ev ε y = some v := by rfl) :
   EO P New N ε L ⟨d, .mapUpdate t x ix y, ty, ps, af, g⟩ (fun r' L'' => r' = undef ∧ Upd L r (upk k v l clock) L'') := by
 intro a ha;obtain ⟨n, hn⟩ := List.getElem?_of_mem hm;show wpS P New (Instr.mapUpdate t (a.eval x) (a.eval ix) (a.eval y) >>= fun _ => pure Next.skip) _ L;rw [ha.ev hx, ha.ev hi, ha.ev hy, aj];unfold Instr.mapUpdate;rw [aj, aN hu];simp only [aj];refine eI hm rfl ?_;simp only [mapO, aj];refine bJ (K := (· = ())) (fun _ _ => ?_) _ (bj (H.ck _ _ _) rfl);refine bJ (K := (· = lk k l 0)) (fun _ e => ?_) _ (d8 H l rfl);subst e;cases hl : lk k l 0 with
 | some p =>
   obtain ⟨i, w⟩ := p;obtain ⟨e, _, h2, h3, _⟩ := uj hl;simp only [Nat.sub_zero] at h2;have hkey : ((((l.map ent).toArray[i]?).map (·.key)).getD (kv k)) = kv k := by simp [h2, ent, h3]
   simp only [aj, hkey];have hs : Instr.keyThatStays (kv k) (kv k) = pure (kv k) := by
     unfold Instr.keyThatStays;have : Instr.sameBits 10000 (kv k) (kv k) = true := by simp [Instr.sameBits]
     rw [this]; rfl
   rw [hs, bm];refine dk hn rfl rfl ⟨trivial, ?_⟩;have he : (l.map ent).toArray.modify i (fun e => { e with key := kv k, val := v }) = ((l.modify i fun e => (k, v, e.2.2)).map ent).toArray := by
     apply Array.ext';simp only [Array.toList_modify];apply List.ext_getElem?;intro j;simp only [List.getElem?_modify, List.getElem?_map];cases l[j]? with
     | none => rfl
     | some e => simp only [Option.map_some]; split <;> rfl
   rw [he];have hu : upk k v l clock = mapO (l.modify i fun e => (k, v, e.2.2)) clock := by unfold upk; rw [hl]
   rw [hu];exact cS hnd hn
 | none =>
   refine dk hn rfl rfl ⟨trivial, ?_⟩;have he : (l.map ent).toArray.push ⟨kv k, v, clock⟩ = ((l ++ [(k, v, clock)]).map ent).toArray := by apply Array.ext'; simp [ent]
   rw [he];have hu : upk k v l clock = mapO (l ++ [(k, v, clock)]) (clock + 1) := by unfold upk; rw [hl]
   rw [hu];exact cS hnd hn
theorem yn {x ix : Operand} {ats : Array TypeId} {t kt et : TypeId} {r clock : Nat} {k : Nat × Nat} {l : Ents} (hnd : (L.map (·.1)).Nodup) (H : Key2 P kt) (hu : P.underlying t = some (.map kt et)) (hm : (r, true, mapO l clock) ∈ L) (hx : ev ε x = some (.map (some r)) := by rfl) (hi : ev ε ix = some (kv k) := by rfl) (ha' : ats[0]? = some t := by rfl) :
   EO P New N ε L ⟨d, .call ⟨.builtin .delete, #[x, ix], ats⟩, ty, ps, af, g⟩ (fun r' L'' => r' = .tuple #[] ∧ Upd L r (mapO (dlk k l) clock) L'') := by
 intro a ha;obtain ⟨n, hn⟩ := List.getElem?_of_mem hm;refine cP (s := Builtin.delete_ ats ty #[.map (some r), kv k]) (fun _ => by simp [builtin, ha.ev hx, ha.ev hi]) ?_;unfold Builtin.delete_;simp only [ha', List.getElem?_toArray, List.getElem?_cons_zero, List.getElem?_cons_succ];rw [aj, aN hu];simp only [aj];refine eI hm rfl ?_;simp only [mapO, aj];refine bJ (K := (· = ())) (fun _ _ => ?_) _ (bj (H.ck _ _ _) rfl);refine bJ (K := (· = lk k l 0)) (fun _ e => ?_) _ (d8 H l rfl);subst e;cases hl : lk k l 0 with
 | some p =>
   obtain ⟨i, w⟩ := p;obtain ⟨e, _, h2, h3, _⟩ := uj hl;simp only [Nat.sub_zero] at h2;simp only [aj];refine dk hn rfl rfl ?_;refine ⟨by first | rfl | trivial, ?_⟩;have hlt := (List.getElem?_eq_some_iff.1 h2).1;have he : (l.map ent).toArray.eraseIdxIfInBounds i = ((dlk k l).map ent).toArray := by
     unfold dlk; rw [hl];apply Array.ext';simp [Array.eraseIdxIfInBounds, hlt, List.eraseIdx_eq_take_drop_succ]
   rw [he];exact cS hnd hn
 | none =>
   simp only [aj];refine dk hn rfl rfl ?_;refine ⟨by first | rfl | trivial, ?_⟩;have he : dlk k l = l := by unfold dlk; rw [hl]
   rw [he];exact cS hnd hn
end
end Go.Lo
namespace Go.Proofs.YtejkelcaljmnoaaGreatDoor
open Go.Conc Go.Hx Go.Lo
structure Ext (L L' : Frag) : Prop where
 f : Fun L'
 s : ∀ t ∈ L, t ∈ L'
theorem Ext.trans {L L' L'' : Frag} (h : Ext L L') (k : Ext L' L'') : Ext L L'' := ⟨k.f, fun t ht => k.s t (h.s t ht)⟩
theorem Ext.at {L L' : Frag} (h : Ext L L') {b i : Nat} {v : Value} (ha : At L b i v) : At L' b i v := jC ha h.s
theorem Rep.ext {K : Nat} {A : Lay} {S : St} {F L L' : Frag} (h : Rep K A S F L) (e : Ext L L') : Rep K A S F L' := h.of e.f e.s
def idxF (test : Nat → Bool) (xs : List Nat) : Int := match xs.findIdx? test with
 | some i => i
 | none => -1
theorem eW (nf : Nat) : ∃ n, ∀ {σ} {F : Fam σ} {Δ : DM F} {main s} (L0 : Frag) (f : FuncId) (gf : Func) (c1 c2 : List Value) (xs : List Nat) (test : Nat → Bool) (base : Option Addr) (cap : Nat),
   (∀ i v, (xs.map ptr)[i]? = some v → ∃ b, base = some ⟨b, 0, none⟩ ∧ At L0 b i v) → xs.length ≤ 8 → Tryz.prog.funcs[f]? = some gf → (gf.name == "runtime.NumGoroutine") = false → gf.body.isNone = false →
   (∀ c ∈ xs, ∀ L, Ext L0 L → CallsL Δ Tryz.prog main f (c1 ++ [ptr c] ++ c2).toArray nf s L (fun s' v L' => s = s' ∧ v = .bool (test c) ∧ Ext L L')) →
   CallsL Δ Tryz.prog main 146 [.slice base xs.length cap, .func (.func f) c1.toArray c2.toArray].toArray n s L0 (fun s' v L' => s = s' ∧ v = .int .i64 (idxF test xs) ∧ Ext L0 L') := by
 apply Exists.intro;intro σ F Δ main s L0 f gf c1 c2 xs test base cap hat h8 hf hname hb hc;co_applyP aB 19 Tryz.func146 Tryz.ntmps146;co_applyP iq;intro hF0;co_applyP aa;co_applyP oan rfl;co_applyP aq;co_applyP aa;co_applyP om rfl rfl rfl (bB (hu := U91));co_applyP oy rfl ae;co_applyP ah;co_applyP aI;co_applyP bK (fun k s' ε' L' => s' = s ∧ Ext L0 L' ∧ ∃ l1 l2, xs = l1 ++ l2 ∧ (∀ q ∈ l1, test q = false) ∧ k + l1.length = 8 ∧ kn ε' [(8, .int .i64 l1.length), (7, .int .i64 xs.length), (0, .slice base xs.length cap), (1, .func (.func f) c1.toArray c2.toArray)]) 8
 · exact ⟨rfl, ⟨hF0, fun _ h => h⟩, [], xs, rfl, by simp, rfl, rfl⟩
 rintro k s' ε' L' ⟨rfl, hE, l1, l2, hl, hn, hk, he⟩;co_applyP aV he;have hlen := congrArg List.length hl;simp only [List.length_append] at hlen;co_applyP aa;co_applyP oy rfl cF;co_applyP ah;co_applyP aq;co_applyP bk rfl;intro hlt
 · cases l2 with
   | nil => simp at hlt hlen; omega
   | cons q l2 =>
     simp at hlen;obtain ⟨b, rfl, hav⟩ := hat l1.length (ptr q) (by rw [hl]; simp);have hav' := hE.at hav;co_applyP aD;co_applyP aq;co_applyP aI;co_applyP aa;co_applyP oy rfl ae;co_applyP oan rfl;co_applyP aa;co_applyP om rfl rfl rfl ae;co_applyP om rfl rfl rfl (bH U91 bN);co_applyP oy rfl (aF (ht := dz));co_applyP ov rfl (vs := [ptr q]) (hf := hf) (hname := hname) (hb := hb) (hcall := hc q (by rw [hl]; simp) L' hE);rintro _ _ _ ⟨rfl, rfl, hE2⟩;co_applyP ah;co_applyP bk rfl;intro ht;co_applyP aa;co_applyP oy rfl ae;co_applyP oan rfl;co_applyP aK;change ∃ v, resE .. = some v ∧ _
     · have e1 : idxF test xs = l1.length := by
         unfold idxF;have : xs.findIdx? test = some l1.length := by
           rw [hl, List.findIdx?_append, List.findIdx?_eq_none_iff.2 (fun x hx => by simpa using hn x hx)];have ht' : test q = true := by simpa using ht
           simp [List.findIdx?_cons, ht']
         rw [this]
       refine ⟨_, rfl, rfl, by rw [e1], hE.trans hE2⟩
     intro ht;co_applyP aD;co_applyP ax;co_applyP oy rfl aR;co_applyP oy rfl ae;co_applyP ah;change ∃ k', k' < _ ∧ _;have elen : IntKind.i64.wrap ((l1.length : Int) + 1) = ((l1 ++ [q]).length : Int) := by simp [IntKind.wrap_i64]; omega
     refine ⟨k - 1, by omega, rfl, hE.trans hE2, l1 ++ [q], l2, by simp [hl], ?_, by simp; omega, ?_⟩
     · intro x hx;rcases List.mem_append.1 hx with h | h
       · exact hn x h
       · simp at h; subst h; simpa using ht
     · rw [← elen]; rfl
 intro hlt;co_applyP bS;co_applyP aa;co_applyP oan rfl;co_applyP aK;change ∃ v, resE .. = some v ∧ _;cases l2 with
 | nil =>
   have e : l1 = xs := by rw [hl]; simp
   subst e;have e1 : idxF test l1 = -1 := by
     unfold idxF;rw [List.findIdx?_eq_none_iff.2 (fun x hx => by simpa using hn x hx)]
   exact ⟨_, rfl, rfl, by rw [e1], hE⟩
 | cons q l2 => simp at hlt hlen; omega
end Go.Proofs.YtejkelcaljmnoaaGreatDoor
