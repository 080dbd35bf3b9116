/-
  Closed facts on the model's entries for internal/reflectlite, at this program's types: 124: *refusal, 126: **refusal, 120: error, 151: rtype, 168: *errors.errorString.
  No condition but those that each statement names.
-/
import Derived.Test.YtbnaccilnilcmaaDoorChecked
import Derived.WalkKit
import Derived.LaidEql
import Derived.Stop.Asserts
import Derived.RowKitTokens
import Derived.Conc.EventLaws2
import Derived.Test.YtbnaccilnilcmaaDoorHx09
import Derived.Conc.EntryLaws
import Derived.Test.YtbnaccilnilcmaaDoorHx16
set_option linter.unusedVariables false
set_option linter.unusedSimpArgs false
set_option linter.unusedSectionVars false
namespace Go.Proofs.YtbnaccilnilcmaaDoor
open Go.RowKit Go.Extern.Stop Go.Stop Go.Extern

theorem valueOf126 (t : Addr) (w : World) : (ReflectliteValue.unpack (.iface 126 (.pointer (some t)))).run Tryd.prog w
    = .ok (.agg #[.pointer (some ⟨5, 126, none⟩), .pointer (some ⟨w.heap.size, 0, none⟩), .int .u64 150]) (w.alloc (.cells #[.pointer (some t)] 126)) := by kernel_rfl
theorem valueOf126e (t : Addr) (w : World) (es : Array Event) : (ReflectliteValue.unpack (.iface 126 (.pointer (some t)))).events Tryd.prog w es = es := by kernel_rfl
theorem type126 (a : Addr) (w : World) : (ReflectliteValue.methodAny (ReflectliteValue.valueError "reflectlite.Value.Type" 0) (fun t _ _ _ => ReflectliteType.toType t) #[.agg #[.pointer (some ⟨5, 126, none⟩), .pointer (some a), .int .u64 150]]).run Tryd.prog w
    = .ok (.iface 151 (.agg #[.pointer (some ⟨5, 126, none⟩)])) w := by kernel_rfl
theorem kind126 (w : World) : ((ReflectliteType.abiMethod fun t => (fun a : Nat => Value.int IntKind.u8 (a : Int)) <$> Rtype.kind t) #[.pointer (some ⟨5, 126, none⟩)]).run Tryd.prog w = .ok (.int .u8 22) w := by kernel_rfl
theorem kind124 (w : World) : ((ReflectliteType.abiMethod fun t => (fun a : Nat => Value.int IntKind.u8 (a : Int)) <$> Rtype.kind t) #[.pointer (some ⟨5, 124, none⟩)]).run Tryd.prog w = .ok (.int .u8 22) w := by kernel_rfl
theorem elem126 (w : World) : (ReflectliteType.method ReflectliteType.elem #[.agg #[.pointer (some ⟨5, 126, none⟩)]]).run Tryd.prog w = .ok (.iface 151 (.agg #[.pointer (some ⟨5, 124, none⟩)])) w := by kernel_rfl
theorem implements124 (w : World) : (ReflectliteType.relation "Implements" ReflectliteType.implements_ #[.agg #[.pointer (some ⟨5, 124, none⟩)], .iface 151 (.agg #[.pointer (some ⟨5, 120, none⟩)])]).run Tryd.prog w = .ok (.bool true) w := by kernel_rfl
theorem typeOf168 (v : Value) (w : World) : (ReflectliteType.typeOf #[.iface 168 v]).run Tryd.prog w = .ok (.iface 151 (.agg #[.pointer (some ⟨5, 168, none⟩)])) w := by kernel_rfl
theorem assignable168 (w : World) : (ReflectliteType.relation "AssignableTo" ReflectliteType.assignableTo #[.agg #[.pointer (some ⟨5, 168, none⟩)], .iface 151 (.agg #[.pointer (some ⟨5, 124, none⟩)])]).run Tryd.prog w = .ok (.bool false) w := by kernel_rfl
theorem type126e (a : Addr) (w : World) (es : Array Event) : (ReflectliteValue.methodAny (ReflectliteValue.valueError "reflectlite.Value.Type" 0) (fun t _ _ _ => ReflectliteType.toType t) #[.agg #[.pointer (some ⟨5, 126, none⟩), .pointer (some a), .int .u64 150]]).events Tryd.prog w es = es := by kernel_rfl
theorem kind126e (w : World) (es : Array Event) : ((ReflectliteType.abiMethod fun t => (fun a : Nat => Value.int IntKind.u8 (a : Int)) <$> Rtype.kind t) #[.pointer (some ⟨5, 126, none⟩)]).events Tryd.prog w es = es := by kernel_rfl
theorem kind124e (w : World) (es : Array Event) : ((ReflectliteType.abiMethod fun t => (fun a : Nat => Value.int IntKind.u8 (a : Int)) <$> Rtype.kind t) #[.pointer (some ⟨5, 124, none⟩)]).events Tryd.prog w es = es := by kernel_rfl
theorem elem126e (w : World) (es : Array Event) : (ReflectliteType.method ReflectliteType.elem #[.agg #[.pointer (some ⟨5, 126, none⟩)]]).events Tryd.prog w es = es := by kernel_rfl
theorem implements124e (w : World) (es : Array Event) : (ReflectliteType.relation "Implements" ReflectliteType.implements_ #[.agg #[.pointer (some ⟨5, 124, none⟩)], .iface 151 (.agg #[.pointer (some ⟨5, 120, none⟩)])]).events Tryd.prog w es = es := by kernel_rfl
theorem typeOf168e (v : Value) (w : World) (es : Array Event) : (ReflectliteType.typeOf #[.iface 168 v]).events Tryd.prog w es = es := by kernel_rfl
theorem assignable168e (w : World) (es : Array Event) : (ReflectliteType.relation "AssignableTo" ReflectliteType.assignableTo #[.agg #[.pointer (some ⟨5, 168, none⟩)], .iface 151 (.agg #[.pointer (some ⟨5, 124, none⟩)])]).events Tryd.prog w es = es := by kernel_rfl
theorem ev_lacks {P : Program} {w : World} {t xT asserted : TypeId} {v z : Value} {want : Array (String × TypeId)} (es : Array Event) (hu : P.underlying asserted = some (.interface want)) (h : (P.info? t).map (fun i => (lacking want i.methods).isEmpty) = some false) (hz : (P.info? asserted).map (·.zero) = some (some z)) :
    (Instr.typeAssert (.iface t v) xT asserted true).events P w es = es := by
  obtain ⟨i, hi, hl⟩ := Option.map_eq_some_iff.1 h
  obtain ⟨j, hj, hz'⟩ := Option.map_eq_some_iff.1 hz
  obtain ⟨m, hm⟩ := missingMethod_some (want := want) (got := i.methods) (fun e => by rw [e] at hl; cases hl)
  simp [Instr.typeAssert, run_underlying hu, typeInfo, hi, hm, zeroValue, hj, hz']
theorem asr156 (v : Value) (w : World) : (Instr.typeAssert (.iface 168 v) 120 156 true).run Tryd.prog w = .ok (.tuple #[.nilIface, .bool false]) w := run_typeAssert_lacksB Tryd.underlying156 (by kernel_rfl) (by kernel_rfl) v 120 w
theorem asr156e (v : Value) (w : World) (es : Array Event) : (Instr.typeAssert (.iface 168 v) 120 156 true).events Tryd.prog w es = es := ev_lacks (z := .nilIface) es Tryd.underlying156 (by kernel_rfl) (by kernel_rfl)
theorem asr159 (v : Value) (w : World) : (Instr.typeAssert (.iface 168 v) 120 159 true).run Tryd.prog w = .ok (.tuple #[.nilIface, .bool false]) w := run_typeAssert_lacksB Tryd.underlying159 (by kernel_rfl) (by kernel_rfl) v 120 w
theorem asr159e (v : Value) (w : World) (es : Array Event) : (Instr.typeAssert (.iface 168 v) 120 159 true).events Tryd.prog w es = es := ev_lacks (z := .nilIface) es Tryd.underlying159 (by kernel_rfl) (by kernel_rfl)
theorem asr161 (v : Value) (w : World) : (Instr.typeAssert (.iface 168 v) 120 161 true).run Tryd.prog w = .ok (.tuple #[.nilIface, .bool false]) w := run_typeAssert_lacksB Tryd.underlying161 (by kernel_rfl) (by kernel_rfl) v 120 w
theorem asr161e (v : Value) (w : World) (es : Array Event) : (Instr.typeAssert (.iface 168 v) 120 161 true).events Tryd.prog w es = es := ev_lacks (z := .nilIface) es Tryd.underlying161 (by kernel_rfl) (by kernel_rfl)
end Go.Proofs.YtbnaccilnilcmaaDoor
/-
  The methods of reflectlite's types, under this program's numbers.
  No condition but those that each statement names.
-/
namespace Go.Proofs.YtbnaccilnilcmaaDoor
open Go.RowKit Go.Extern.Stop Go.Stop Go.Extern
theorem mAssignable (h : Value) (w : World) : (Go.method 300 151 (.agg #[h]) "AssignableTo").run Tryd.prog w = .ok (106, .agg #[h]) w := by kernel_rfl
theorem mElem (h : Value) (w : World) : (Go.method 300 151 (.agg #[h]) "Elem").run Tryd.prog w = .ok (108, .agg #[h]) w := by kernel_rfl
theorem mImplements (h : Value) (w : World) : (Go.method 300 151 (.agg #[h]) "Implements").run Tryd.prog w = .ok (109, .agg #[h]) w := by kernel_rfl
theorem mKind (h : Value) (w : World) : (Go.method 300 151 (.agg #[h]) "Kind").run Tryd.prog w = .ok (97, h) w := by kernel_rfl
theorem mAssignable_e (h : Value) (w : World) (es : Array Event) : (Go.method 300 151 (.agg #[h]) "AssignableTo").events Tryd.prog w es = es := by kernel_rfl
theorem mElem_e (h : Value) (w : World) (es : Array Event) : (Go.method 300 151 (.agg #[h]) "Elem").events Tryd.prog w es = es := by kernel_rfl
theorem mImplements_e (h : Value) (w : World) (es : Array Event) : (Go.method 300 151 (.agg #[h]) "Implements").events Tryd.prog w es = es := by kernel_rfl
theorem mKind_e (h : Value) (w : World) (es : Array Event) : (Go.method 300 151 (.agg #[h]) "Kind").events Tryd.prog w es = es := by kernel_rfl
end Go.Proofs.YtbnaccilnilcmaaDoor
/-
  (Value).IsNil at the Value of a pointer that is not nil.
  No condition but those that each statement names.
-/
namespace Go.Proofs.YtbnaccilnilcmaaDoor
open Go.RowKit Go.Extern.Stop Go.Stop Go.Extern
theorem rlm (z : Sem Value) (f : TypeId → Addr → Nat → Nat → Sem Value) (v : Value) :
    ReflectliteValue.method z f #[v] = (do match ← ReflectliteValue.parts v with | none => z | some (t, a, fl) => f t a fl (fl % 32)) := rfl
theorem parts126 (a : Addr) (w : World) : (ReflectliteValue.parts (.agg #[.pointer (some ⟨5, 126, none⟩), .pointer (some a), .int .u64 150])).run Tryd.prog w = .ok (some (126, a, 150)) w := by kernel_rfl
theorem parts126e (a : Addr) (w : World) (es : Array Event) : (ReflectliteValue.parts (.agg #[.pointer (some ⟨5, 126, none⟩), .pointer (some a), .int .u64 150])).events Tryd.prog w es = es := by kernel_rfl
theorem isNil126 (a p : Addr) (W : World) (ha : W.cell? a = some (.pointer (some p))) :
    (ReflectliteValue.method (ReflectliteValue.valueError "reflectlite.Value.IsNil" 0) ReflectliteValue.isNil #[.agg #[.pointer (some ⟨5, 126, none⟩), .pointer (some a), .int .u64 150]]).run Tryd.prog W = .ok (.bool false) W := by
  rw [rlm]
  simp only [Sem.run_bind, parts126, Result.andThen]
  simp [ReflectliteValue.isNil, loadVar, isAgg, underlying, Tryd.underlying126, ha, Result.andThen]
theorem isNil126e (a p : Addr) (W : World) (es : Array Event) (ha : W.cell? a = some (.pointer (some p))) :
    (ReflectliteValue.method (ReflectliteValue.valueError "reflectlite.Value.IsNil" 0) ReflectliteValue.isNil #[.agg #[.pointer (some ⟨5, 126, none⟩), .pointer (some a), .int .u64 150]]).events Tryd.prog W es = es.push ⟨.cell a, false, false⟩ := by
  rw [rlm]
  simp only [Sem.events_bind, parts126, parts126e, Result.andThen]
  simp [ReflectliteValue.isNil, loadVar, isAgg, underlying, Tryd.underlying126, ha, Result.andThen]
  rfl
end Go.Proofs.YtbnaccilnilcmaaDoor
/-
  Memory with several blocks of the worker's own beside.
  No condition but those that each statement names.
-/
namespace Go.Hx
open Go.Conc

structure KL (p : Par) (Sh : Loc → Prop) (E Dn : Nat) (a : Ad) (kc pc : Array Value) (Q : Nat) (qc : Array Value) (bs : List (Nat × TypeId × Array Value)) (w : World) : Prop where
  m : KM p Sh E Dn a kc pc Q qc w
  b : ∀ t ∈ bs, Has t.1 t.2.1 t.2.2 w ∧ p.N0 ≤ t.1 ∧ t.2.1 ≠ 44

section
variable {p : Par} {Sh : Loc → Prop} {E Dn : Nat} {a : Ad} {kc pc : Array Value} {Q : Nat} {qc : Array Value} {bs : List (Nat × TypeId × Array Value)} {w w₁ : World}
theorem KL.rely (n : En p Sh E Dn a) (h : KL p Sh E Dn a kc pc Q qc bs w) (r : RB p E Dn w w₁) : KL p Sh E Dn a kc pc Q qc bs w₁ :=
  ⟨h.m.rely n r, fun t ht => by
    obtain ⟨h1, h2, h3⟩ := h.b t ht
    have := n.hE
    have := n.hD
    exact ⟨h1.rely (by rw [n.ty]; exact h3) (by omega) (by omega) r, h2, h3⟩⟩
theorem KL.nil (h : KM p Sh E Dn a kc pc Q qc w) : KL p Sh E Dn a kc pc Q qc [] w := ⟨h, fun t ht => by simp at ht⟩
theorem KL.alloc (h : KL p Sh E Dn a kc pc Q qc bs w) (ty : TypeId) (cs : Array Value) (ht : ty ≠ 44) : KL p Sh E Dn a kc pc Q qc ((w.heap.size, ty, cs) :: bs) (w.alloc (.cells cs ty)) :=
  ⟨h.m.alloc _, fun t hm => by
    rcases List.mem_cons.1 hm with rfl | hm
    · exact ⟨Has.new, h.m.sz, ht⟩
    · obtain ⟨h1, h2, h3⟩ := h.b t hm
      exact ⟨h1.alloc _, h2, h3⟩⟩
theorem KL.cell (h : KL p Sh E Dn a kc pc Q qc bs w) {nb : Nat} {ty : TypeId} {cs : Array Value} (hm : (nb, ty, cs) ∈ bs) {i : Nat} {v : Value} (hv : cs[i]? = some v) : w.cell? ⟨nb, i, none⟩ = some v := (h.b _ hm).1.cell hv
theorem KL.thaw (h : KL p Sh E Dn a kc pc Q qc bs w) {nb : Nat} {ty : TypeId} {cs : Array Value} (hm : (nb, ty, cs) ∈ bs) (i : Nat) : w.frozen? ⟨nb, i, none⟩ = false := (h.b _ hm).1.thaw i
theorem KL.ev (n : En p Sh E Dn a) (h : KL p Sh E Dn a kc pc Q qc bs w) {nb : Nat} {ty : TypeId} {cs : Array Value} (hm : (nb, ty, cs) ∈ bs) (i : Nat) (wr : Bool) : EvB p Sh w ⟨.cell ⟨nb, i, none⟩, wr, false⟩ := by
  obtain ⟨h1, h2, h3⟩ := h.b _ hm
  have hA := Apart.new (b := nb) n.sh n.hE n.hD h2
  exact evB_cell h1 (by rw [n.ty]; exact h3) i wr (hA.s i) (fun _ => hA.t i)
theorem KL.lt (h : KL p Sh E Dn a kc pc Q qc bs w) {t : Nat × TypeId × Array Value} (hm : t ∈ bs) : t.1 < w.heap.size := (h.b t hm).1.lt
/-- A cell of the newest block. -/
theorem KL.set {nb : Nat} {ty : TypeId} {cs : Array Value} (h : KL p Sh E Dn a kc pc Q qc ((nb, ty, cs) :: bs) w) (o : Off a Q nb) (hne : ∀ t ∈ bs, t.1 ≠ nb) (i : Nat) (v : Value) : KL p Sh E Dn a kc pc Q qc ((nb, ty, cs.setIfInBounds i v) :: bs) (w.setCell ⟨nb, i, none⟩ v) :=
  ⟨h.m.setOff o i v, fun t hm => by
    rcases List.mem_cons.1 hm with rfl | hm
    · obtain ⟨h1, h2, h3⟩ := h.b _ (List.mem_cons_self)
      exact ⟨h1.set i v, h2, h3⟩
    · obtain ⟨h1, h2, h3⟩ := h.b t (List.mem_cons_of_mem _ hm)
      exact ⟨h1.setOther (Ne.symm (hne t hm)) i v, h2, h3⟩⟩
theorem KL.dtB (n : En p Sh E Dn a) (h : KL p Sh E Dn a kc pc Q qc bs w) {nb : Nat} {ty : TypeId} {cs : Array Value} (hm : (nb, ty, cs) ∈ bs) (i : Nat) (v : Value) : DT p Sh E Dn w (w.setCell ⟨nb, i, none⟩ v) #[] := by
  obtain ⟨h1, h2, h3⟩ := h.b _ hm
  have hA := Apart.new (b := nb) n.sh n.hE n.hD h2
  exact dt_store0 h1 (by rw [n.ty]; exact h3) hA.e hA.d hA.t
/-- Three cells at once. -/
theorem KL.dt3 (n : En p Sh E Dn a) {nb : Nat} {ty : TypeId} {cs : Array Value} (h : KL p Sh E Dn a kc pc Q qc ((nb, ty, cs) :: bs) w) (o : Off a Q nb) (hne : ∀ t ∈ bs, t.1 ≠ nb) (v0 v1 v2 : Value) {es : Array Event} (hes : ∀ e ∈ es, ∃ i, e = ⟨.cell ⟨nb, i, none⟩, true, false⟩) :
    DT p Sh E Dn w (((w.setCell ⟨nb, 0, none⟩ v0).setCell ⟨nb, 1, none⟩ v1).setCell ⟨nb, 2, none⟩ v2) es := by
  have h1 := h.set o hne 0 v0
  have h2 := h1.set o hne 1 v1
  have h3 := h2.set o hne 2 v2
  refine dt_trans (h.dtB n (List.mem_cons_self) 0 v0) (dt_trans (h1.dtB n (List.mem_cons_self) 1 v1) ?_)
  have d := h2.dtB n (List.mem_cons_self) 2 v2
  refine ⟨d.1, d.2.1, d.2.2.1, fun e he => ?_⟩
  obtain ⟨i, rfl⟩ := hes e he
  exact h3.ev n (List.mem_cons_self) i true
theorem KL.dtAlloc (n : En p Sh E Dn a) (h : KL p Sh E Dn a kc pc Q qc bs w) {ty : TypeId} {cs : Array Value} (ht : ty ≠ 44) {es : Array Event} (hes : ∀ e ∈ es, EvB p Sh (w.alloc (.cells cs ty)) e) : DT p Sh E Dn w (w.alloc (.cells cs ty)) es :=
  dt_alloc (by simp [isEv, n.ty, ht]) (Nat.lt_of_lt_of_le n.hE h.m.sz) (Nat.lt_of_lt_of_le n.hD h.m.sz) hes
theorem evB_ext {f : FuncId} : EvB p Sh w ⟨.mark (.extern f), false, true⟩ := ⟨fun x hx _ => by simp [MemAct.ofEvent, MemAct.touch?] at hx, by simp, by simp⟩
end
end Go.Hx
/-
  A byte that there is not: what Load fails with.
  No condition but those that each statement names.
-/
namespace Go.Proofs.YtbnaccilnilcmaaDoor
open Go.Conc Go.RowKit Go.Hx

variable {p : Par} {Sh : Loc → Prop} {E Dn : Nat} {a : Ad}

/-- What the package's variables hold: the error of a byte that there is not, and reflectlite's type of errors. -/
structure Gl (Sh : Loc → Prop) (a : Ad) (ep : Addr) : Prop where
  c4 : a.W.cell? ⟨4, 0, none⟩ = some (.iface 168 (.pointer (some ep)))
  c1 : a.W.cell? ⟨1, 0, none⟩ = some (.iface 151 (.agg #[.pointer (some ⟨5, 120, none⟩)]))
  o : 4 < a.O
  s4 : ∀ i, ¬ Sh (.cell ⟨4, i, none⟩)
  s1 : ∀ i, ¬ Sh (.cell ⟨1, i, none⟩)

section
variable {kc pc : Array Value} {Q : Nat} {qc : Array Value} {w : World} {ep : Addr}
theorem Gl.r4 (g : Gl Sh a ep) (h : KM p Sh E Dn a kc pc Q qc w) : w.cell? ⟨4, 0, none⟩ = some (.iface 168 (.pointer (some ep))) := (World.cell?_of_block (h.od.b 4 g.o)).trans g.c4
theorem Gl.r1 (g : Gl Sh a ep) (h : KM p Sh E Dn a kc pc Q qc w) : w.cell? ⟨1, 0, none⟩ = some (.iface 151 (.agg #[.pointer (some ⟨5, 120, none⟩)])) := (World.cell?_of_block (h.od.b 1 (by have := g.o; omega))).trans g.c1
theorem evB_old (n : En p Sh E Dn a) (h : KM p Sh E Dn a kc pc Q qc w) {b : Nat} (hb : b < a.O) (i : Nat) (hs : ¬ Sh (.cell ⟨b, i, none⟩)) : EvB p Sh w ⟨.cell ⟨b, i, none⟩, false, false⟩ := by
  have h1 := n.oo
  have h2 := h.sz
  refine ⟨fun x hx _ => ?_, by simp, by simp⟩
  simp only [MemAct.ofEvent, MemAct.touch?, Option.some.injEq] at hx
  subst hx
  exact ⟨⟨b, rfl, by omega, fun f => by have := f.1; omega⟩, fun s => absurd s hs, fun _ => rfl⟩
end

set_option maxRecDepth 100000 in
set_option maxHeartbeats 4000000 in
theorem place_f (n : En p Sh E Dn a) {ep : Addr} (g : Gl Sh a ep) : ∃ k, ∀ (kc pc : Array Value) (Q : Nat) (qc : Array Value) (b z : Int) (hb : 0 ≤ b ∧ b < 65536) (hz : 0 ≤ z ∧ z < 256) (hm : 64 ≤ b + z) (w : World), KM p Sh E Dn a kc pc Q qc w →
    CallsC Tryd.prog false (RB p E Dn) (DT p Sh E Dn) 76 #[.pointer (some ⟨a.P, 0, none⟩), .int .u16 b, .int .u8 z] k w fun v w' => v = .tuple #[.int .i64 0, .iface 168 (.pointer (some ep))] ∧ KM p Sh E Dn a kc pc Q qc w' := by
  co_apply Exists.intro
  intro kc pc Q qc b z hb hz hm w hF
  have q1 : IntKind.i64.wrap b = b := by simp [IntKind.wrap_i64]; omega
  have q2 : IntKind.i64.wrap z = z := by simp [IntKind.wrap_i64]; omega
  have q3 : IntKind.i64.wrap (b + z) = b + z := by simp [IntKind.wrap_i64]; omega
  co_apply callsC_of_wpC Tryd.func76 (by rfl) rfl
  simp only [Tryd.ntmps76, List.size_toArray, List.length_cons, List.length_nil, Nat.reduceAdd, Nat.reduceSub, Array.replicate_succ, Array.replicate_zero, List.push_toArray, List.append_toArray, List.nil_append, List.cons_append]
  co_apply wpC_seq (termsT p Sh E Dn)
  co_reg (termsT p Sh E Dn)
  co_op (KM.rely n) hF (co_still (termsT p Sh E Dn))
  co_op (KM.rely n) hF (co_still (termsT p Sh E Dn))
  co_apply opsC_nil (termsT p Sh E Dn)
  co_then
  co_apply wpC_seq (termsT p Sh E Dn)
  co_reg (termsT p Sh E Dn)
  co_op (KM.rely n) hF (co_still (termsT p Sh E Dn))
  co_op (KM.rely n) hF (co_still (termsT p Sh E Dn))
  co_op (KM.rely n) hF (co_still (termsT p Sh E Dn))
  co_op (KM.rely n) hF (co_still (termsT p Sh E Dn))
  co_op (KM.rely n) hF (co_still (termsT p Sh E Dn))
  co_op (KM.rely n) hF (co_still (termsT p Sh E Dn))
  co_apply opsC_nil (termsT p Sh E Dn)
  co_then
  co_apply wpC_seq (n₂ := 0) (termsT p Sh E Dn)
  co_apply wpC_seq (termsT p Sh E Dn)
  co_reg (termsT p Sh E Dn)
  co_op (KM.rely n) hF (co_still (termsT p Sh E Dn))
  co_op (KM.rely n) hF (co_still (termsT p Sh E Dn))
  co_apply opsC_nil (termsT p Sh E Dn)
  co_then
  co_apply wpC_cond (termsT p Sh E Dn) (t := true)
  focus (exact rfl)
  simp only [if_true, if_false, Bool.false_eq_true, reduceIte]
  co_apply wpC_seq (termsT p Sh E Dn)
  co_held (termsT p Sh E Dn) (drawT p Sh E Dn) (ownDrawT p E Dn) (KM p Sh E Dn a kc pc Q qc) (KM.rely n) hF
  co_take 0 (termsT p Sh E Dn) (KM.rely n) hF hw (have hc := g.r4 hw) (refine dt_read ?_; co_evs (exact evB_old n hw g.o _ (g.s4 _)))
  co_take 1 (termsT p Sh E Dn) (KM.rely n) hF hw (skip) (co_still (termsT p Sh E Dn))
  co_take 2 (termsT p Sh E Dn) (KM.rely n) hF hw (skip) (co_still (termsT p Sh E Dn))
  co_done
  co_apply wpC_ret (termsT p Sh E Dn)
  exact ⟨rfl, _, resultsC_tmp2 (by rfl) _, rfl, hF⟩

set_option maxRecDepth 100000 in
set_option maxHeartbeats 4000000 in
theorem do_load_f (n : En p Sh E Dn a) {ep : Addr} (g : Gl Sh a ep) : ∃ k, ∀ (kc pc : Array Value) (Q : Nat) (qc : Array Value) {st status at_ lv used : Int} {r m : Nat → Int} (hp : Pst pc st status at_ lv used r m) (hat : 0 ≤ at_ ∧ at_ < 65536) (i j : Nat) (hi : i < 8) (hj : j < 8) (y z : Int) (hy : 0 ≤ y ∧ y < 256) (hz : 0 ≤ z ∧ z < 256) (hyj : y % 8 = j) (hrj : 0 ≤ r j ∧ r j < 65536) (hk : 64 ≤ r j + z) (w : World), KM p Sh E Dn a kc pc Q qc w →
    CallsC Tryd.prog false (RB p E Dn) (DT p Sh E Dn) 68 #[.pointer (some ⟨a.P, 0, none⟩), .agg #[.int .u8 7, .int .u8 i, .int .u8 y, .int .u8 z]] k w fun v w' => v = .iface 168 (.pointer (some ep)) ∧ KM p Sh E Dn a kc pc Q qc w' := by
  obtain ⟨n1, g1⟩ := place_f n g
  co_apply Exists.intro
  intro kc pc Q qc st status at_ lv used r m hp hat i j hi hj y z hy hz hyj hrj hk w hF
  co_apply callsC_of_wpC Tryd.func68 (by rfl) rfl
  simp only [Tryd.ntmps68, List.size_toArray, List.length_cons, List.length_nil, Nat.reduceAdd, Nat.reduceSub, Array.replicate_succ, Array.replicate_zero, List.push_toArray, List.append_toArray, List.nil_append, List.cons_append]
  co_apply wpC_seq (termsT p Sh E Dn)
  co_reg (termsT p Sh E Dn)
  co_opw (KM.rely n) hF (skip) (refine hF.dtAlloc n (by decide) ?_; co_evs (skip))
  replace hF := KB.new n hF 110 #[.int .u8 7, .int .u8 i, .int .u8 y, .int .u8 z]
  co_op (KB.rely n (by decide)) hF (co_still (termsT p Sh E Dn))
  co_apply opsC_nil (termsT p Sh E Dn)
  co_then
  have q1 : IntKind.i64.wrap (i : Int) = i := by simp [IntKind.wrap_i64]; omega
  have q2 : IntKind.i64.wrap y = y := by simp [IntKind.wrap_i64]; omega
  have q3 : IntKind.i64.wrap (at_ + 1) = at_ + 1 := by simp [IntKind.wrap_i64]; omega
  have q5 : (i : Int).tmod 8 = i := by rw [Int.tmod_eq_emod_of_nonneg (by omega)]; omega
  have q6 : y.tmod 8 = j := by rw [Int.tmod_eq_emod_of_nonneg (by omega)]; omega
  have b1 : (i : Int) < 8 := by omega
  have b2 : (j : Int) < 8 := by omega
  have e1 := fun (w : World) (es : Array Event) => events_indexAt_array (P := Tryd.prog) (w := w) (es := es) 40 _ 8 ⟨a.P, 7, none⟩ .i64 (i : Int) Tryd.underlying40 (by omega)
  have e2 := fun (w : World) (es : Array Event) => events_indexAt_array (P := Tryd.prog) (w := w) (es := es) 40 _ 8 ⟨a.P, 7, none⟩ .i64 (j : Int) Tryd.underlying40 (by omega)
  co_apply wpC_seq (termsT p Sh E Dn)
  co_held (termsT p Sh E Dn) (drawT p Sh E Dn) (ownDrawT p E Dn) (KB p Sh E Dn a kc pc Q qc _ 110 #[.int .u8 7, .int .u8 i, .int .u8 y, .int .u8 z]) (KB.rely n (by decide)) hF
  co_take 0 (termsT p Sh E Dn) (KB.rely n (by decide)) hF hw (skip) (co_still (termsT p Sh E Dn))
  co_take 1 (termsT p Sh E Dn) (KB.rely n (by decide)) hF hw (skip) (co_still (termsT p Sh E Dn))
  co_take 2 (termsT p Sh E Dn) (KB.rely n (by decide)) hF hw (have hc := hw.b.cell (i := 1) rfl) (refine dt_read ?_; co_evs (exact hw.ev n (by decide) _))
  co_take 3 (termsT p Sh E Dn) (KB.rely n (by decide)) hF hw (skip) (co_still (termsT p Sh E Dn))
  co_take 4 (termsT p Sh E Dn) (KB.rely n (by decide)) hF hw (skip) (co_still (termsT p Sh E Dn))
  co_take 5 (termsT p Sh E Dn) (KB.rely n (by decide)) hF hw (skip) (co_still (termsT p Sh E Dn))
  co_take 6 (termsT p Sh E Dn) (KB.rely n (by decide)) hF hw (skip) (co_still (termsT p Sh E Dn))
  co_take 7 (termsT p Sh E Dn) (KB.rely n (by decide)) hF hw (skip) (co_still (termsT p Sh E Dn))
  co_take 8 (termsT p Sh E Dn) (KB.rely n (by decide)) hF hw (skip) (co_still (termsT p Sh E Dn))
  co_take 9 (termsT p Sh E Dn) (KB.rely n (by decide)) hF hw (skip) (co_still (termsT p Sh E Dn))
  co_done
  co_apply wpC_seq (termsT p Sh E Dn)
  co_held (termsT p Sh E Dn) (drawT p Sh E Dn) (ownDrawT p E Dn) (KB p Sh E Dn a kc pc Q qc _ 110 #[.int .u8 7, .int .u8 i, .int .u8 y, .int .u8 z]) (KB.rely n (by decide)) hF
  co_take 0 (termsT p Sh E Dn) (KB.rely n (by decide)) hF hw (skip) (co_still (termsT p Sh E Dn))
  co_take 1 (termsT p Sh E Dn) (KB.rely n (by decide)) hF hw (skip) (co_still (termsT p Sh E Dn))
  co_take 2 (termsT p Sh E Dn) (KB.rely n (by decide)) hF hw (have hc := hw.b.cell (i := 2) rfl) (refine dt_read ?_; co_evs (exact hw.ev n (by decide) _))
  co_take 3 (termsT p Sh E Dn) (KB.rely n (by decide)) hF hw (skip) (co_still (termsT p Sh E Dn))
  co_take 4 (termsT p Sh E Dn) (KB.rely n (by decide)) hF hw (skip) (co_still (termsT p Sh E Dn))
  co_take 5 (termsT p Sh E Dn) (KB.rely n (by decide)) hF hw (skip) (co_still (termsT p Sh E Dn))
  co_take 6 (termsT p Sh E Dn) (KB.rely n (by decide)) hF hw (skip) (co_still (termsT p Sh E Dn))
  co_take 7 (termsT p Sh E Dn) (KB.rely n (by decide)) hF hw (skip) (co_still (termsT p Sh E Dn))
  co_take 8 (termsT p Sh E Dn) (KB.rely n (by decide)) hF hw (skip) (co_still (termsT p Sh E Dn))
  co_take 9 (termsT p Sh E Dn) (KB.rely n (by decide)) hF hw (have hc := hw.m.pp.cell (hp.reg j hj)) (refine dt_read ?_; co_evs (exact hw.m.evP n _))
  co_take 10 (termsT p Sh E Dn) (KB.rely n (by decide)) hF hw (skip) (co_still (termsT p Sh E Dn))
  co_done
  co_apply wpC_seq (termsT p Sh E Dn)
  co_reg (termsT p Sh E Dn)
  co_op (KB.rely n (by decide)) hF (co_still (termsT p Sh E Dn))
  co_op (KB.rely n (by decide)) hF (co_still (termsT p Sh E Dn))
  co_op (KB.rely n (by decide)) hF (co_still (termsT p Sh E Dn))
  co_op (KB.rely n (by decide)) hF (co_still (termsT p Sh E Dn))
  co_opw (KB.rely n (by decide)) hF (have hc := hF.m.pp.cell hp.at_) (refine dt_read ?_; co_evs (exact hF.m.evP n _))
  clear hc
  co_op (KB.rely n (by decide)) hF (co_still (termsT p Sh E Dn))
  co_op (KB.rely n (by decide)) hF (co_still (termsT p Sh E Dn))
  co_apply opsC_nil (termsT p Sh E Dn)
  co_then
  co_apply wpC_seq (n₂ := 0) (termsT p Sh E Dn)
  co_apply wpC_seq (termsT p Sh E Dn)
  co_reg (termsT p Sh E Dn)
  co_op (KB.rely n (by decide)) hF (co_still (termsT p Sh E Dn))
  co_opw (KB.rely n (by decide)) hF (have hc := hF.b.cell (i := 0) rfl) (refine dt_read ?_; co_evs (exact hF.ev n (by decide) _))
  clear hc
  co_apply opsC_nil (termsT p Sh E Dn)
  co_then
  co_apply wpC_block (termsT p Sh E Dn)
  co_apply wpC_seq (termsT p Sh E Dn)
  co_reg (termsT p Sh E Dn)
  co_op (KB.rely n (by decide)) hF (co_still (termsT p Sh E Dn))
  co_op (KB.rely n (by decide)) hF (co_still (termsT p Sh E Dn))
  co_apply opsC_nil (termsT p Sh E Dn)
  co_then
  co_apply wpC_cond (termsT p Sh E Dn) (t := false)
  focus (exact rfl)
  simp only [if_true, if_false, Bool.false_eq_true, reduceIte]
  co_apply wpC_seq (termsT p Sh E Dn)
  co_reg (termsT p Sh E Dn)
  co_op (KB.rely n (by decide)) hF (co_still (termsT p Sh E Dn))
  co_op (KB.rely n (by decide)) hF (co_still (termsT p Sh E Dn))
  co_apply opsC_nil (termsT p Sh E Dn)
  co_then
  co_apply wpC_cond (termsT p Sh E Dn) (t := false)
  focus (exact rfl)
  simp only [if_true, if_false, Bool.false_eq_true, reduceIte]
  co_apply wpC_seq (termsT p Sh E Dn)
  co_reg (termsT p Sh E Dn)
  co_op (KB.rely n (by decide)) hF (co_still (termsT p Sh E Dn))
  co_op (KB.rely n (by decide)) hF (co_still (termsT p Sh E Dn))
  co_apply opsC_nil (termsT p Sh E Dn)
  co_then
  co_apply wpC_cond (termsT p Sh E Dn) (t := false)
  focus (exact rfl)
  simp only [if_true, if_false, Bool.false_eq_true, reduceIte]
  co_apply wpC_seq (termsT p Sh E Dn)
  co_reg (termsT p Sh E Dn)
  co_op (KB.rely n (by decide)) hF (co_still (termsT p Sh E Dn))
  co_op (KB.rely n (by decide)) hF (co_still (termsT p Sh E Dn))
  co_apply opsC_nil (termsT p Sh E Dn)
  co_then
  co_apply wpC_cond (termsT p Sh E Dn) (t := false)
  focus (exact rfl)
  simp only [if_true, if_false, Bool.false_eq_true, reduceIte]
  co_apply wpC_seq (termsT p Sh E Dn)
  co_reg (termsT p Sh E Dn)
  co_op (KB.rely n (by decide)) hF (co_still (termsT p Sh E Dn))
  co_op (KB.rely n (by decide)) hF (co_still (termsT p Sh E Dn))
  co_apply opsC_nil (termsT p Sh E Dn)
  co_then
  co_apply wpC_cond (termsT p Sh E Dn) (t := false)
  focus (exact rfl)
  simp only [if_true, if_false, Bool.false_eq_true, reduceIte]
  co_apply wpC_seq (termsT p Sh E Dn)
  co_reg (termsT p Sh E Dn)
  co_op (KB.rely n (by decide)) hF (co_still (termsT p Sh E Dn))
  co_op (KB.rely n (by decide)) hF (co_still (termsT p Sh E Dn))
  co_apply opsC_nil (termsT p Sh E Dn)
  co_then
  co_apply wpC_cond (termsT p Sh E Dn) (t := false)
  focus (exact rfl)
  simp only [if_true, if_false, Bool.false_eq_true, reduceIte]
  co_apply wpC_seq (termsT p Sh E Dn)
  co_reg (termsT p Sh E Dn)
  co_op (KB.rely n (by decide)) hF (co_still (termsT p Sh E Dn))
  co_op (KB.rely n (by decide)) hF (co_still (termsT p Sh E Dn))
  co_apply opsC_nil (termsT p Sh E Dn)
  co_then
  co_apply wpC_cond (termsT p Sh E Dn) (t := true)
  focus (exact rfl)
  simp only [if_true, if_false, Bool.false_eq_true, reduceIte]
  have e3 := fun (w : World) (es : Array Event) => ev_neq_iface_nil (P := Tryd.prog) (w := w) (es := es) 168 (.pointer (some ep)) Tryd.underlying120
  co_apply wpC_seq (termsT p Sh E Dn)
  co_reg (termsT p Sh E Dn)
  co_op (KB.rely n (by decide)) hF (co_still (termsT p Sh E Dn))
  co_op (KB.rely n (by decide)) hF (co_still (termsT p Sh E Dn))
  co_op (KB.rely n (by decide)) hF (co_still (termsT p Sh E Dn))
  co_opw (KB.rely n (by decide)) hF (have hc := hF.b.cell (i := 3) rfl) (refine dt_read ?_; co_evs (exact hF.ev n (by decide) _))
  clear hc
  co_apply opsC_call (termsT p Sh E Dn) rfl (by rfl) rfl
  · walk_nrm
    exact g1 kc pc Q qc (r j) z hrj hz (by omega) _ hF.m
  intro v w' hv
  obtain ⟨rfl, hM⟩ := hv
  clear hF
  have hF := hM
  clear hM
  walk_nrm
  co_op (KM.rely n) hF (co_still (termsT p Sh E Dn))
  co_op (KM.rely n) hF (co_still (termsT p Sh E Dn))
  co_op (KM.rely n) hF (co_still (termsT p Sh E Dn))
  co_op (KM.rely n) hF (co_still (termsT p Sh E Dn))
  co_op (KM.rely n) hF (co_still (termsT p Sh E Dn))
  co_apply opsC_nil (termsT p Sh E Dn)
  co_then
  co_apply wpC_seq (n₂ := 0) (termsT p Sh E Dn)
  co_apply wpC_seq (termsT p Sh E Dn)
  co_reg (termsT p Sh E Dn)
  co_op (KM.rely n) hF (co_still (termsT p Sh E Dn))
  co_op (KM.rely n) hF (co_still (termsT p Sh E Dn))
  co_apply opsC_nil (termsT p Sh E Dn)
  co_then
  co_apply wpC_cond (termsT p Sh E Dn) (t := true)
  focus (exact rfl)
  simp only [if_true, if_false, Bool.false_eq_true, reduceIte]
  co_apply wpC_seq (termsT p Sh E Dn)
  co_reg (termsT p Sh E Dn)
  co_op (KM.rely n) hF (co_still (termsT p Sh E Dn))
  co_op (KM.rely n) hF (co_still (termsT p Sh E Dn))
  co_apply opsC_nil (termsT p Sh E Dn)
  co_then
  co_apply wpC_ret (termsT p Sh E Dn)
  exact ⟨rfl, _, resultsC_tmp (by rfl) _, rfl, hF⟩
end Go.Proofs.YtbnaccilnilcmaaDoor
