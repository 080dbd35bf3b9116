/-
  Part 17 of the proof.
  No condition but those that each statement names.
-/
import Derived.Test.YtejkelcaljmnoaaGreatDoorHy16
import Derived.Test.YtejkelcaljmnoaaGreatDoorHy15
set_option maxRecDepth 100000
set_option linter.unusedVariables false
set_option linter.unusedSimpArgs false
set_option linter.unusedSectionVars false
namespace Go.Proofs.YtejkelcaljmnoaaGreatDoor
open Go.Conc Go.Hx Go.Lo
abbrev ptq (a : Nat × Nat) : Value := .pointer (some ⟨a.1, a.2, none⟩)
theorem as_f : ∃ n, ∀ {σ : Type} {F : Fam σ} {Δ : ∀ s, Dom (F.R s) (F.D s)} {main : Bool} {s : σ} (L : Frag) (e : Nat × Nat) (t vp : Nat), (∀ cs, (Δ s).New (.cells cs 196)) →
   CallsL Δ Tryz.prog main 122 [.iface 255 (ptq e), .iface 182 (ptr t), rval 182 vp 150, rty 180].toArray n s L (fun s' v L' => s = s' ∧ v = .bool false ∧ Fun L' ∧ ∀ t ∈ L, t ∈ L') := by
 apply Exists.intro
 intro σ F Δ main s L e t vp hN
 co_applyP callsE 62 Tryz.func122 Tryz.ntmps122
 co_applyP c_seq
 co_applyP c_region
 co_applyP oadd rfl (O_box (hN _))
 intro nb L1 hA
 co_applyP oy rfl E_as
 co_applyP o_nil
 change wpE ..
 co_applyP c_block
 co_applyP c_loop (fun k s' ε' L' => s' = s ∧ k = 1 ∧ L' = L1 ∧ kn ε' [(0, .iface 255 (ptq e)), (1, .iface 182 (ptr t)), (3, rty 180), (6, ptr nb)]) 1
 · exact ⟨rfl, rfl, rfl, rfl⟩
 rintro k s' ε' L' ⟨rfl, rfl, rfl, he⟩
 co_applyP wpE_kn he
 co_applyP c_block
 co_applyP c_seq
 co_applyP c_seq
 co_applyP c_region
 co_applyP oy rfl E_mv
 co_applyP oy rfl (x142a)
 co_applyP oy rfl E_mv
 co_applyP oy rfl (iAsg255)
 co_applyP o_nil
 change wpE ..
 co_applyP c_false rfl
 co_applyP c_skip
 change wpE ..
 co_applyP c_seq
 co_applyP c_seq
 co_applyP c_region
 co_applyP oy rfl E_mv
 co_applyP oy rfl (la221)
 co_applyP oy rfl E_mv
 co_applyP oy rfl E_ext
 co_applyP oy rfl E_ext
 co_applyP oy rfl E_as
 co_applyP oy rfl E_as
 co_applyP o_nil
 change wpE ..
 co_applyP c_seq
 co_applyP c_region
 co_applyP oy rfl E_mv
 co_applyP oy rfl E_mv
 co_applyP ou rfl
 co_applyP ou rfl
 co_applyP ou rfl
 co_applyP oy rfl E_pick
 co_applyP o_nil
 change wpE ..
 co_applyP c_false rfl
 co_applyP c_skip
 change wpE ..
 co_applyP c_seq
 co_applyP c_region
 co_applyP oy rfl E_mv
 co_applyP o_nil
 change wpE ..
 co_applyP c_block
 co_applyP c_seq
 co_applyP c_region
 co_applyP oy rfl (la224)
 co_applyP oy rfl E_ext
 co_applyP oy rfl E_ext
 co_applyP o_nil
 change wpE ..
 co_applyP c_false rfl
 co_applyP c_seq
 co_applyP c_region
 co_applyP oy rfl (la226)
 co_applyP oy rfl E_ext
 co_applyP oy rfl E_ext
 co_applyP o_nil
 change wpE ..
 co_applyP c_false rfl
 co_applyP c_seq
 co_applyP c_region
 co_applyP oy rfl E_as
 co_applyP o_nil
 change wpE ..
 co_applyP c_seq
 co_applyP c_region
 co_applyP oy rfl E_as
 co_applyP o_nil
 change wpE ..
 co_applyP c_ret
 change ∃ v, resE .. = some v ∧ _
 exact ⟨_, rfl, rfl, rfl, hA.fn, hA.sub⟩
theorem as_t : ∃ n, ∀ {σ : Type} {F : Fam σ} {Δ : ∀ s, Dom (F.R s) (F.D s)} {main : Bool} {s : σ} (L : Frag) (r t vp : Nat) (v0 : Value), (∀ cs, (Δ s).New (.cells cs 196)) → (∀ cs, (Δ s).New (.cells cs 180)) → At L vp 0 (ptr t) → (t, true, Obj.cells #[v0] 180) ∈ L →
   CallsL Δ Tryz.prog main 122 [.iface 180 (ptr r), .iface 182 (ptr t), rval 182 vp 150, rty 180].toArray n s L (fun s' v L' => s = s' ∧ v = .bool true ∧ ∃ L1, Fun L1 ∧ (∀ t ∈ L, t ∈ L1) ∧ Upd L1 t (.cells #[ptr r] 180) L') := by
 apply Exists.intro
 intro σ F Δ main s L r t vp v0 hN hN2 hv ht
 co_applyP callsE 62 Tryz.func122 Tryz.ntmps122
 co_applyP c_seq
 co_applyP c_region
 co_applyP oadd rfl (O_box (hN _))
 intro nb L1 hA
 co_applyP oy rfl E_as
 co_applyP o_nil
 change wpE ..
 co_applyP c_block
 co_applyP c_loop (fun k s' ε' L' => s' = s ∧ k = 1 ∧ L' = L1 ∧ kn ε' [(0, .iface 180 (ptr r)), (1, .iface 182 (ptr t)), (3, rty 180), (6, ptr nb)]) 1
 · exact ⟨rfl, rfl, rfl, rfl⟩
 rintro k s' ε' L' ⟨rfl, rfl, rfl, he⟩
 co_applyP wpE_kn he
 have hv1 : At L' vp 0 (ptr t) := let ⟨a, b, c, d, e, f⟩ := hv; ⟨a, b, c, d, hA.sub _ e, f⟩
 co_applyP c_block
 co_applyP c_seq (n₂ := 0)
 co_applyP c_seq
 co_applyP c_region
 co_applyP oy rfl E_mv
 co_applyP oy rfl (x142b)
 co_applyP oy rfl E_mv
 co_applyP oy rfl (iAsg180)
 co_applyP o_nil
 change wpE ..
 co_applyP c_true rfl
 co_applyP c_seq
 co_applyP c_region
 co_applyP oy rfl (E_lda (ht := ag_196) (hs := sz_196) (hm := hA.self) (hi := Nat.le_refl _))
 co_applyP oy rfl (x143 hv1)
 co_applyP oy rfl E_mv
 co_applyP oadd rfl (o119b (hN2 _))
 intro nb2 L2 hA2
 have hat2 : At L2 nb2 0 (ptr r) := ⟨true, _, _, _, hA2.self, rfl⟩
 co_applyP oeN rfl (fun hnd => o144 hnd hat2 (hA2.sub _ (hA.sub _ ht)) (Nat.one_pos))
 rintro _ L3 ⟨rfl, hU⟩
 co_applyP o_nil
 change wpE ..
 co_applyP c_seq
 co_applyP c_region
 co_applyP oy rfl E_as
 co_applyP o_nil
 change wpE ..
 co_applyP c_ret
 change ∃ v, resE .. = some v ∧ _
 exact ⟨_, rfl, rfl, rfl, L2, hA2.fn, fun x hx => hA2.sub _ (hA.sub _ hx), hU⟩
theorem As_f : ∃ n, ∀ {σ : Type} {F : Fam σ} {Δ : ∀ s, Dom (F.R s) (F.D s)} {main : Bool} {s : σ} (L : Frag) (e : Nat × Nat) (t : Nat), (∀ cs, (Δ s).New (.cells cs 196)) → (∀ cs, (Δ s).New (.cells cs 182)) → At L 2 0 (rty 168) →
   CallsL Δ Tryz.prog main 103 [.iface 255 (ptq e), .iface 182 (ptr t)].toArray n s L (fun s' v L' => s = s' ∧ v = .bool false ∧ Fun L' ∧ ∀ t ∈ L, t ∈ L') := by
 obtain ⟨n1, g1⟩ := as_f
 apply Exists.intro
 intro σ F Δ main s L e t hN hN2 hg
 co_applyP callsE 42 Tryz.func103 Tryz.ntmps103
 co_applyP c_seq
 co_applyP c_region
 co_applyP oy rfl E_as
 co_applyP o_nil
 change wpE ..
 co_applyP c_seq
 co_applyP c_seq
 co_applyP c_region
 co_applyP oy rfl E_mv
 co_applyP oy rfl (E_ifn (v := .iface 255 (ptq e)) (c := false) (hv := .inr ⟨_, _, rfl, rfl⟩) (hu := Tryz.underlying168))
 co_applyP o_nil
 change wpE ..
 co_applyP c_false rfl
 co_applyP c_skip
 change wpE ..
 co_applyP c_seq
 co_applyP c_seq
 co_applyP c_region
 co_applyP oy rfl E_mv
 co_applyP oy rfl (E_ifn (v := .iface 182 (ptr t)) (c := false) (hv := .inr ⟨_, _, rfl, rfl⟩) (hu := Tryz.underlying20))
 co_applyP o_nil
 change wpE ..
 co_applyP c_false rfl
 co_applyP c_skip
 change wpE ..
 co_applyP c_seq
 co_applyP c_region
 co_applyP oy rfl E_mv
 co_applyP oadd rfl (o119a (hN2 _))
 intro vp L1 hA
 co_applyP oadd rfl (O_new (z := .agg #[.pointer none, .pointer none, .int .u64 0]) (hN _))
 intro nb L2 hA2
 co_applyP oeN rfl (fun hnd => O_sa (hs := sz_196) (vs := [.pointer (some ⟨11, 182, none⟩), ptr vp, .int .u64 150]) (hnd := hnd) (hm := hA2.self) (hi := Nat.le_refl _))
 rintro _ L3 ⟨rfl, hU⟩
 have hb3 := hU.self
 have hv3 : (vp, true, Obj.cells #[ptr t] 182) ∈ L3 := hU.ne _ (hA2.sub _ hA.self) (fun h => hA2.new _ hA.self h)
 have hvp : At L3 vp 0 (ptr t) := ⟨true, _, _, _, hv3, rfl⟩
 have hL3 : ∀ x ∈ L, x ∈ L3 := fun x hx => hU.ne _ (hA2.sub _ (hA.sub _ hx)) (fun h => hA2.new _ (hA.sub _ hx) h)
 have hg3 : At L3 2 0 (rty 168) := let ⟨a, b, c, d, e, f⟩ := hg; ⟨a, b, c, d, hL3 _ e, f⟩
 co_applyP o_nil
 change wpE ..
 co_applyP c_seq
 co_applyP c_region
 co_applyP oy rfl (E_lda (ht := ag_196) (hs := sz_196) (hm := hb3) (hi := Nat.le_refl _))
 co_applyP oy rfl (x120)
 co_applyP oy rfl E_as
 co_applyP o_nil
 change wpE ..
 co_applyP c_seq
 co_applyP c_seq
 co_applyP c_region
 co_applyP oy rfl E_mv
 co_applyP oy rfl (iKind182)
 co_applyP oy rfl E_neq
 co_applyP oy rfl E_mv
 co_applyP oy rfl (E_lda (ht := ag_196) (hs := sz_196) (hm := hb3) (hi := Nat.le_refl _))
 co_applyP oy rfl (x121 hvp)
 co_applyP oy rfl E_pick
 co_applyP o_nil
 change wpE ..
 co_applyP c_false rfl
 co_applyP c_skip
 change wpE ..
 co_applyP c_seq
 co_applyP c_region
 co_applyP oy rfl E_mv
 co_applyP oy rfl (iElem182)
 co_applyP oy rfl E_as
 co_applyP o_nil
 change wpE ..
 co_applyP c_seq
 co_applyP c_seq
 co_applyP c_region
 co_applyP oy rfl E_mv
 co_applyP oy rfl (iKind180)
 co_applyP oy rfl E_neq
 co_applyP oy rfl E_mv
 co_applyP oy rfl (E_mv)
 co_applyP oy rfl ((E_ld (ht := ag_199)))
 co_applyP oy rfl (iImpl)
 co_applyP oy rfl (E_not)
 co_applyP oy rfl E_pick
 co_applyP o_nil
 change wpE ..
 co_applyP c_false rfl
 co_applyP c_skip
 change wpE ..
 co_applyP c_seq
 co_applyP c_region
 co_applyP oy rfl E_mv
 co_applyP oy rfl E_mv
 co_applyP oy rfl (E_lda (ht := ag_196) (hs := sz_196) (hm := hb3) (hi := Nat.le_refl _))
 co_applyP oy rfl E_mv
 co_applyP oc rfl rfl rfl (g1 L3 e t vp hN)
 rintro _ _ _ ⟨rfl, rfl, hF, hs⟩
 co_applyP oy rfl E_as
 co_applyP o_nil
 change wpE ..
 co_applyP c_ret
 change ∃ v, resE .. = some v ∧ _
 exact ⟨_, rfl, rfl, rfl, hF, fun x hx => hs _ (hL3 _ hx)⟩
theorem As_t : ∃ n, ∀ {σ : Type} {F : Fam σ} {Δ : ∀ s, Dom (F.R s) (F.D s)} {main : Bool} {s : σ} (L : Frag) (e t : Nat) (v0 : Value), (∀ cs, (Δ s).New (.cells cs 196)) → (∀ cs, (Δ s).New (.cells cs 182)) → At L 2 0 (rty 168) → (∀ cs, (Δ s).New (.cells cs 180)) → (t, true, Obj.cells #[v0] 180) ∈ L →
   CallsL Δ Tryz.prog main 103 [.iface 180 (ptr e), .iface 182 (ptr t)].toArray n s L (fun s' v L' => s = s' ∧ v = .bool true ∧ ∃ L1, Fun L1 ∧ (∀ t ∈ L, t ∈ L1) ∧ Upd L1 t (.cells #[ptr e] 180) L') := by
 obtain ⟨n1, g1⟩ := as_t
 apply Exists.intro
 intro σ F Δ main s L e t v0 hN hN2 hg hN3 ht
 co_applyP callsE 42 Tryz.func103 Tryz.ntmps103
 co_applyP c_seq
 co_applyP c_region
 co_applyP oy rfl E_as
 co_applyP o_nil
 change wpE ..
 co_applyP c_seq
 co_applyP c_seq
 co_applyP c_region
 co_applyP oy rfl E_mv
 co_applyP oy rfl (E_ifn (v := .iface 180 (ptr e)) (c := false) (hv := .inr ⟨_, _, rfl, rfl⟩) (hu := Tryz.underlying168))
 co_applyP o_nil
 change wpE ..
 co_applyP c_false rfl
 co_applyP c_skip
 change wpE ..
 co_applyP c_seq
 co_applyP c_seq
 co_applyP c_region
 co_applyP oy rfl E_mv
 co_applyP oy rfl (E_ifn (v := .iface 182 (ptr t)) (c := false) (hv := .inr ⟨_, _, rfl, rfl⟩) (hu := Tryz.underlying20))
 co_applyP o_nil
 change wpE ..
 co_applyP c_false rfl
 co_applyP c_skip
 change wpE ..
 co_applyP c_seq
 co_applyP c_region
 co_applyP oy rfl E_mv
 co_applyP oadd rfl (o119a (hN2 _))
 intro vp L1 hA
 co_applyP oadd rfl (O_new (z := .agg #[.pointer none, .pointer none, .int .u64 0]) (hN _))
 intro nb L2 hA2
 co_applyP oeN rfl (fun hnd => O_sa (hs := sz_196) (vs := [.pointer (some ⟨11, 182, none⟩), ptr vp, .int .u64 150]) (hnd := hnd) (hm := hA2.self) (hi := Nat.le_refl _))
 rintro _ L3 ⟨rfl, hU⟩
 have hb3 := hU.self
 have hv3 : (vp, true, Obj.cells #[ptr t] 182) ∈ L3 := hU.ne _ (hA2.sub _ hA.self) (fun h => hA2.new _ hA.self h)
 have hvp : At L3 vp 0 (ptr t) := ⟨true, _, _, _, hv3, rfl⟩
 have hL3 : ∀ x ∈ L, x ∈ L3 := fun x hx => hU.ne _ (hA2.sub _ (hA.sub _ hx)) (fun h => hA2.new _ (hA.sub _ hx) h)
 have hg3 : At L3 2 0 (rty 168) := let ⟨a, b, c, d, e, f⟩ := hg; ⟨a, b, c, d, hL3 _ e, f⟩
 co_applyP o_nil
 change wpE ..
 co_applyP c_seq
 co_applyP c_region
 co_applyP oy rfl (E_lda (ht := ag_196) (hs := sz_196) (hm := hb3) (hi := Nat.le_refl _))
 co_applyP oy rfl (x120)
 co_applyP oy rfl E_as
 co_applyP o_nil
 change wpE ..
 co_applyP c_seq
 co_applyP c_seq
 co_applyP c_region
 co_applyP oy rfl E_mv
 co_applyP oy rfl (iKind182)
 co_applyP oy rfl E_neq
 co_applyP oy rfl E_mv
 co_applyP oy rfl (E_lda (ht := ag_196) (hs := sz_196) (hm := hb3) (hi := Nat.le_refl _))
 co_applyP oy rfl (x121 hvp)
 co_applyP oy rfl E_pick
 co_applyP o_nil
 change wpE ..
 co_applyP c_false rfl
 co_applyP c_skip
 change wpE ..
 co_applyP c_seq
 co_applyP c_region
 co_applyP oy rfl E_mv
 co_applyP oy rfl (iElem182)
 co_applyP oy rfl E_as
 co_applyP o_nil
 change wpE ..
 co_applyP c_seq
 co_applyP c_seq
 co_applyP c_region
 co_applyP oy rfl E_mv
 co_applyP oy rfl (iKind180)
 co_applyP oy rfl E_neq
 co_applyP oy rfl E_mv
 co_applyP oy rfl (E_mv)
 co_applyP oy rfl ((E_ld (ht := ag_199)))
 co_applyP oy rfl (iImpl)
 co_applyP oy rfl (E_not)
 co_applyP oy rfl E_pick
 co_applyP o_nil
 change wpE ..
 co_applyP c_false rfl
 co_applyP c_skip
 change wpE ..
 co_applyP c_seq
 co_applyP c_region
 co_applyP oy rfl E_mv
 co_applyP oy rfl E_mv
 co_applyP oy rfl (E_lda (ht := ag_196) (hs := sz_196) (hm := hb3) (hi := Nat.le_refl _))
 co_applyP oy rfl E_mv
 co_applyP oc rfl rfl rfl (g1 L3 e t vp v0 hN hN3 hvp (hL3 _ ht))
 rintro _ _ _ ⟨rfl, rfl, L4, hF, hs, hU4⟩
 co_applyP oy rfl E_as
 co_applyP o_nil
 change wpE ..
 co_applyP c_ret
 change ∃ v, resE .. = some v ∧ _
 exact ⟨_, rfl, rfl, rfl, L4, hF, fun x hx => hs _ (hL3 _ hx), hU4⟩
end Go.Proofs.YtejkelcaljmnoaaGreatDoor
namespace Go.Lo
open Go.Conc Go.Hx
section
variable {σ : Type} {F : Fam σ} {Δ : ∀ s, Dom (F.R s) (F.D s)} {P : Program} {main : Bool} {fn : FuncId} {N : Nat} {Q : σ → Exit → Env → Frag → Prop} {s : σ} {ε : Env} {L : Frag}
theorem callsL_more {f : FuncId} {vs : Array Value} {n n' : Nat} {Post : σ → Value → Frag → Prop} (h : CallsL Δ P main f vs n s L Post) (hn : n ≤ n') : CallsL Δ P main f vs n' s L Post := fun w hO => by
 obtain ⟨g, c, hf, hname, hbody, hwp⟩ := h w hO
 exact ⟨g, c, hf, hname, hbody, fun b k cs m hb hk hc => (hwp b k cs m hb hk hc).mono (by omega)⟩
theorem c_split (p : Prop) {c : Code} {n₁ n₂ : Nat} (h1 : p → wpE Δ P main fn N c n₁ s Q ε L) (h2 : ¬ p → wpE Δ P main fn N c n₂ s Q ε L) : wpE Δ P main fn N c (n₁ + n₂) s Q ε L := by
 by_cases h : p
 · exact wpE_more (h1 h) (by omega)
 · exact wpE_more (h2 h) (by omega)
theorem o_split (p : Prop) {ops : Array Oper} {todo : List Nat} {n₁ n₂ : Nat} (h1 : p → OpsE Δ P main fn N ops todo n₁ s Q ε L) (h2 : ¬ p → OpsE Δ P main fn N ops todo n₂ s Q ε L) : OpsE Δ P main fn N ops todo (n₁ + n₂) s Q ε L := by
 by_cases h : p
 · exact opsE_more (h1 h) (by omega)
 · exact opsE_more (h2 h) (by omega)
theorem callsL_split (p : Prop) {f : FuncId} {vs : Array Value} {n₁ n₂ : Nat} {Post : σ → Value → Frag → Prop} (h1 : p → CallsL Δ P main f vs n₁ s L Post) (h2 : ¬ p → CallsL Δ P main f vs n₂ s L Post) : CallsL Δ P main f vs (n₁ + n₂) s L Post := by
 by_cases h : p
 · exact callsL_more (h1 h) (by omega)
 · exact callsL_more (h2 h) (by omega)
theorem callsL_post {f : FuncId} {vs : Array Value} {n : Nat} {Post Post' : σ → Value → Frag → Prop} (h : CallsL Δ P main f vs n s L Post) (hp : ∀ s v L, Post s v L → Post' s v L) : CallsL Δ P main f vs n s L Post' := fun w hO => by
 obtain ⟨g, c, hf, hname, hbody, hwp⟩ := h w hO
 refine ⟨g, c, hf, hname, hbody, fun b k cs m hb hk hc => hwp b k cs m hb hk fun s' e a' w' q => hc s' e a' w' ?_⟩
 cases e with
 | normal => obtain ⟨h1, v, h2, L', h3, h4⟩ := q; exact ⟨h1, v, h2, L', h3, hp _ _ _ h4⟩
 | ret => obtain ⟨h1, v, h2, L', h3, h4⟩ := q; exact ⟨h1, v, h2, L', h3, hp _ _ _ h4⟩
 | _ => exact q
end
section
variable {P : Program} {New : Obj → Prop} {N : Nat} {ε : Env} {L : Frag} {d : Option Tmp} {ty : TypeId} {ps : String} {af : Array Edge} {g : Option (Nat × Bool)}
theorem E_build {t : TypeId} {fs : Array (Nat × Operand)} {ws : List (Nat × Value)} {v : Value} (hv : evR P (Instr.build t ws.toArray) [] = some (v, [])) (hx : fs.toList.map (fun p => (p.1, ev ε p.2)) = ws.map (fun p => (p.1, some p.2)) := by rfl) : EY P N ε L ⟨d, .build t fs, ty, ps, af, g⟩ v := fun a ha => by
 have hw : fs.map (fun p => (p.1, a.eval p.2)) = ws.toArray := by
   apply Array.ext'
   have : ∀ (l : List (Nat × Operand)) (ws : List (Nat × Value)), l.map (fun p => (p.1, ev ε p.2)) = ws.map (fun p => (p.1, some p.2)) → l.map (fun p => (p.1, a.eval p.2)) = ws := by
     intro l
     induction l with
     | nil => intro vs h; cases vs <;> simp_all
     | cons x l ih =>
       intro vs h
       cases vs with
       | nil => simp at h
       | cons v vs =>
         simp only [List.map_cons, List.cons.injEq, Prod.mk.injEq] at h ⊢
         exact ⟨Prod.ext h.1.1 (ha.ev h.1.2), ih vs h.2⟩
   simpa using this _ _ hx
 refine y_of (fun _ => rfl) fun K hK => ?_
 show wpQ P (Instr.build t (fs.map fun p => (p.1, a.eval p.2))) K L
 rw [hw]
 exact wpQ_ev0 hv hK
end
end Go.Lo
namespace Go.Proofs.YtejkelcaljmnoaaGreatDoor
open Go.Conc Go.Hx Go.Lo
theorem mUnwrap (r : Nat) : evR Tryz.prog (Go.method (Tryz.prog.types.size + Made.depth) 180 (ptr r) "Unwrap") [] = some ((193, ptr r), []) := by kernel_rfl
theorem cmp255 : (Tryz.prog.info? 255).map (·.comparable) = some true := by kernel_rfl
theorem unwrap_s : ∃ n, ∀ {σ : Type} {F : Fam σ} {Δ : ∀ s, Dom (F.R s) (F.D s)} {main : Bool} {s : σ} (L : Frag) (r : Nat) (v : Value), At L r 1 v →
   CallsL Δ Tryz.prog main 193 [ptr r].toArray n s L (fun s' v' L' => s = s' ∧ L = L' ∧ v = v') := by
 apply Exists.intro
 intro σ F Δ main s L r v hv
 co_applyP callsE 7 Tryz.func193 Tryz.ntmps193
 co_applyP c_seq
 co_applyP c_region
 co_applyP oy rfl E_as
 co_applyP o_nil
 change wpE ..
 co_applyP c_seq
 co_applyP c_region
 co_applyP oy rfl E_mv
 co_applyP oy rfl E_nc
 co_applyP oy rfl (E_fa (hf := fo_210_1))
 co_applyP oy rfl (E_ld (ht := ag_168))
 co_applyP oy rfl E_as
 co_applyP o_nil
 change wpE ..
 co_applyP c_ret
 change ∃ v, resE .. = some v ∧ _
 exact ⟨_, rfl, rfl, rfl, rfl⟩
theorem is_s : ∃ n, ∀ {σ : Type} {F : Fam σ} {Δ : ∀ s, Dom (F.R s) (F.D s)} {main : Bool} {s : σ} (L : Frag) (r : Nat) (e t : Nat × Nat) (fl fl' : Bool) (cs cs' : Array Value) (ty ty' : TypeId), At L r 1 (.iface 255 (ptq e)) → (e.1, fl, Obj.cells cs ty) ∈ L → (t.1, fl', Obj.cells cs' ty') ∈ L →
   CallsL Δ Tryz.prog main 145 [.iface 180 (ptr r), .iface 255 (ptq t), .bool true].toArray n s L (fun s' v L' => s = s' ∧ L = L' ∧ v = .bool (decide (e = t))) := by
 obtain ⟨n1, g1⟩ := unwrap_s
 apply Exists.intro
 intro σ F Δ main s L r e t fl fl' cs cs' ty ty' hr he ht
 co_applyP callsE 54 Tryz.func145 Tryz.ntmps145
 co_applyP c_seq
 co_applyP c_region
 co_applyP oy rfl E_as
 co_applyP o_nil
 change wpE ..
 co_applyP c_block
 co_applyP c_loop (fun k s' ε' L' => s' = s ∧ L' = L ∧ ((k = 2 ∧ kn ε' [(0, .iface 180 (ptr r)), (1, .iface 255 (ptq t)), (2, .bool true)]) ∨ (k = 1 ∧ kn ε' [(0, .iface 255 (ptq e)), (1, .iface 255 (ptq t)), (2, .bool true)]))) 2
 · exact ⟨rfl, rfl, .inl ⟨rfl, rfl⟩⟩
 rintro k s' ε' L' ⟨rfl, rfl, hk⟩
 co_applyP c_split (k = 2)
 intro h2
 · have hε : kn ε' [(0, .iface 180 (ptr r)), (1, .iface 255 (ptq t)), (2, .bool true)] := by
     rcases hk with ⟨_, h⟩ | ⟨h, _⟩
     · exact h
     · omega
   co_applyP wpE_kn hε
   co_applyP c_block
   co_applyP c_seq
   co_applyP c_seq
   co_applyP c_region
   co_applyP oy rfl E_mv
   co_applyP oy rfl E_mv
   co_applyP oy rfl (E_mv)
   co_applyP oy rfl (E_mv)
   co_applyP oy rfl (E_ifd (eq_180_255 _ _))
   co_applyP oy rfl E_pick
   co_applyP o_nil
   change wpE ..
   co_applyP c_false rfl
   co_applyP c_skip
   change wpE ..
   co_applyP c_seq
   co_applyP c_seq
   co_applyP c_region
   co_applyP oy rfl E_mv
   co_applyP oy rfl (lb240)
   co_applyP oy rfl E_mv
   co_applyP oy rfl E_ext
   co_applyP oy rfl E_ext
   co_applyP oy rfl E_as
   co_applyP oy rfl E_as
   co_applyP o_nil
   change wpE ..
   co_applyP c_seq
   co_applyP c_region
   co_applyP oy rfl E_mv
   co_applyP oy rfl E_mv
   co_applyP ou rfl
   co_applyP ou rfl
   co_applyP ou rfl
   co_applyP oy rfl E_pick
   co_applyP o_nil
   change wpE ..
   co_applyP c_false rfl
   co_applyP c_skip
   change wpE ..
   co_applyP c_seq
   co_applyP c_region
   co_applyP oy rfl E_mv
   co_applyP o_nil
   change wpE ..
   co_applyP c_block
   co_applyP c_seq
   co_applyP c_region
   co_applyP oy rfl (E_ta (tb224 _))
   co_applyP oy rfl E_ext
   co_applyP oy rfl E_ext
   co_applyP o_nil
   change wpE ..
   co_applyP c_true rfl
   co_applyP c_seq
   co_applyP c_region
   co_applyP oy rfl E_as
   co_applyP o_nil
   change wpE ..
   co_applyP c_seq
   co_applyP c_region
   co_applyP oy rfl E_mv
   co_applyP oi rfl (vs := []) (rc := ptr r) (hm := wpQ_ev0 (mUnwrap r) rfl) (hf := Tryz.func193) (hcall := g1 L' r (.iface 255 (ptq e)) hr)
   rintro _ _ _ ⟨rfl, rfl, rfl⟩
   co_applyP oy rfl E_as
   co_applyP o_nil
   change wpE ..
   co_applyP c_seq
   co_applyP c_region
   co_applyP oy rfl E_mv
   co_applyP oy rfl (E_ifn (v := .iface 255 (ptq e)) (c := false) (hv := .inr ⟨_, _, rfl, rfl⟩) (hu := Tryz.underlying168))
   co_applyP o_nil
   change wpE ..
   co_applyP c_false rfl
   co_applyP c_skip
   change ∃ k', k' < _ ∧ _
   exact ⟨1, by omega, rfl, rfl, .inr ⟨rfl, rfl⟩⟩
 intro h2
 co_applyP c_block
 co_applyP c_seq
 co_applyP c_seq
 have hε : kn ε' [(0, .iface 255 (ptq e)), (1, .iface 255 (ptq t)), (2, .bool true)] := by
   rcases hk with ⟨h, _⟩ | ⟨_, h⟩
   · omega
   · exact h
 co_applyP wpE_kn hε
 co_applyP c_region
 co_applyP oy rfl E_mv
 co_applyP oy rfl E_mv
 co_applyP oy rfl (E_mv)
 co_applyP oy rfl (E_mv)
 co_applyP oy rfl (E_ifp (hu := Tryz.underlying168) (hi := cmp255) (hp := Tryz.underlying255) (hs := sz_275) (h1 := he) (h2 := ht))
 co_applyP oy rfl E_pick
 co_applyP o_nil
 change wpE ..
 co_applyP c_if rfl
 intro hc
 co_applyP c_seq
 co_applyP c_region
 co_applyP oy rfl E_as
 co_applyP o_nil
 change wpE ..
 co_applyP c_ret
 change ∃ v, resE .. = some v ∧ _
 · have e1 : e = t := by simpa [Prod.ext_iff] using hc
   exact ⟨_, rfl, rfl, rfl, by simp [e1]⟩
 intro hc
 co_applyP c_skip
 change wpE ..
 co_applyP c_seq
 co_applyP c_seq
 co_applyP c_region
 co_applyP oy rfl E_mv
 have e1 : ¬ e = t := by simpa [Prod.ext_iff] using hc
 co_applyP oy rfl (la240)
 co_applyP oy rfl E_mv
 co_applyP oy rfl E_ext
 co_applyP oy rfl E_ext
 co_applyP oy rfl E_as
 co_applyP oy rfl E_as
 co_applyP o_nil
 change wpE ..
 co_applyP c_seq
 co_applyP c_region
 co_applyP oy rfl E_mv
 co_applyP oy rfl E_mv
 co_applyP ou rfl
 co_applyP ou rfl
 co_applyP ou rfl
 co_applyP oy rfl E_pick
 co_applyP o_nil
 change wpE ..
 co_applyP c_false rfl
 co_applyP c_skip
 change wpE ..
 co_applyP c_seq
 co_applyP c_region
 co_applyP oy rfl E_mv
 co_applyP o_nil
 change wpE ..
 co_applyP c_block
 co_applyP c_seq
 co_applyP c_region
 co_applyP oy rfl (la224)
 co_applyP oy rfl E_ext
 co_applyP oy rfl E_ext
 co_applyP o_nil
 change wpE ..
 co_applyP c_false rfl
 co_applyP c_seq
 co_applyP c_region
 co_applyP oy rfl (la226)
 co_applyP oy rfl E_ext
 co_applyP oy rfl E_ext
 co_applyP o_nil
 change wpE ..
 co_applyP c_false rfl
 co_applyP c_seq
 co_applyP c_region
 co_applyP oy rfl E_as
 co_applyP o_nil
 change wpE ..
 co_applyP c_seq
 co_applyP c_region
 co_applyP oy rfl E_as
 co_applyP o_nil
 change wpE ..
 co_applyP c_ret
 change ∃ v, resE .. = some v ∧ _
 exact ⟨_, rfl, rfl, rfl, by simp [e1]⟩
theorem Is_s : ∃ n, ∀ {σ : Type} {F : Fam σ} {Δ : ∀ s, Dom (F.R s) (F.D s)} {main : Bool} {s : σ} (L : Frag) (r : Nat) (e t : Nat × Nat) (fl fl' : Bool) (cs cs' : Array Value) (ty ty' : TypeId), At L r 1 (.iface 255 (ptq e)) → (e.1, fl, Obj.cells cs ty) ∈ L → (t.1, fl', Obj.cells cs' ty') ∈ L →
   CallsL Δ Tryz.prog main 123 [.iface 180 (ptr r), .iface 255 (ptq t)].toArray n s L (fun s' v L' => s = s' ∧ L = L' ∧ v = .bool (decide (e = t))) := by
 obtain ⟨n1, g1⟩ := is_s
 apply Exists.intro
 intro σ F Δ main s L r e t fl fl' cs cs' ty ty' hr he ht
 co_applyP callsE 22 Tryz.func123 Tryz.ntmps123
 co_applyP c_seq
 co_applyP c_region
 co_applyP oy rfl E_as
 co_applyP o_nil
 change wpE ..
 co_applyP c_seq
 co_applyP c_seq
 co_applyP c_region
 co_applyP oy rfl E_mv
 co_applyP oy rfl (E_ifn (v := .iface 180 (ptr r)) (c := false) (hv := .inr ⟨_, _, rfl, rfl⟩) (hu := Tryz.underlying168))
 co_applyP oy rfl E_mv
 co_applyP oy rfl (E_mv)
 co_applyP oy rfl (E_ifn (v := .iface 255 (ptq t)) (c := false) (hv := .inr ⟨_, _, rfl, rfl⟩) (hu := Tryz.underlying168))
 co_applyP oy rfl E_pick
 co_applyP o_nil
 change wpE ..
 co_applyP c_false rfl
 co_applyP c_skip
 change wpE ..
 co_applyP c_seq
 co_applyP c_region
 co_applyP oy rfl E_mv
 co_applyP oy rfl (x142a)
 co_applyP oy rfl (iCmp)
 co_applyP oy rfl E_as
 co_applyP o_nil
 change wpE ..
 co_applyP c_seq
 co_applyP c_region
 co_applyP oy rfl E_mv
 co_applyP oy rfl E_mv
 co_applyP oy rfl E_mv
 co_applyP oc rfl rfl rfl (g1 L r e t fl fl' cs cs' ty ty' hr he ht)
 rintro _ _ _ ⟨rfl, rfl, rfl⟩
 co_applyP oy rfl E_as
 co_applyP o_nil
 change wpE ..
 co_applyP c_ret
 change ∃ v, resE .. = some v ∧ _
 exact ⟨_, rfl, rfl, rfl, rfl⟩
structure Ers (eb : Nat → Nat × Nat) (L : Frag) : Prop where
 g : ∀ i, i < 11 → i ≠ 2 → At L i 0 (.iface 255 (ptq (eb i)))
 t : At L 2 0 (rty 168)
 b : ∀ i, i < 11 → i ≠ 2 → ∃ fl cs ty, ((eb i).1, fl, Obj.cells cs ty) ∈ L
 d : ∀ i j, i < 11 → j < 11 → i ≠ 2 → j ≠ 2 → eb i = eb j → i = j
theorem at_mono {L L' : Frag} {b i : Nat} {v : Value} (h : At L b i v) (hs : ∀ t ∈ L, t ∈ L') : At L' b i v := let ⟨a, b, c, d, e, f⟩ := h; ⟨a, b, c, d, hs _ e, f⟩
theorem Ers.mono {eb : Nat → Nat × Nat} {L L' : Frag} (h : Ers eb L) (hs : ∀ t ∈ L, t ∈ L') : Ers eb L' :=
 ⟨fun i h1 h2 => at_mono (h.g i h1 h2) hs, at_mono h.t hs, fun i h1 h2 => let ⟨a, b, c, d⟩ := h.b i h1 h2; ⟨a, b, c, hs _ d⟩, h.d⟩
def ansOf (i : Nat) : Int := if i = 3 then 65535 else if i = 4 then 65534 else if i = 5 then 65533 else if i = 6 then 65532 else if i = 7 then 65531 else if i = 8 then 65530 else 65529
theorem answer_s : ∃ n, ∀ {σ : Type} {F : Fam σ} {Δ : ∀ s, Dom (F.R s) (F.D s)} {main : Bool} {s : σ} (L : Frag) (eb : Nat → Nat × Nat) (r i : Nat), Ers eb L → i < 11 → i ≠ 2 → At L r 1 (.iface 255 (ptq (eb i))) →
   CallsL Δ Tryz.prog main 104 [ptr r].toArray n s L (fun s' v L' => s = s' ∧ L = L' ∧ v = .int .u16 (ansOf i)) := by
 obtain ⟨n1, g1⟩ := Is_s
 apply Exists.intro
 intro σ F Δ main s L eb r i hE hi hi2 hr
 have hi180 : ∀ ms : Array (String × TypeId), TypeDesc.pointer 210 ≠ .interface ms := fun _ => by simp
 obtain ⟨fl, cs, ty, hb⟩ := hE.b i hi hi2
 obtain ⟨f3, c3, t3, h3⟩ := hE.b 3 (by decide) (by decide)
 obtain ⟨f4, c4, t4, h4⟩ := hE.b 4 (by decide) (by decide)
 obtain ⟨f5, c5, t5, h5⟩ := hE.b 5 (by decide) (by decide)
 obtain ⟨f6, c6, t6, h6⟩ := hE.b 6 (by decide) (by decide)
 obtain ⟨f7, c7, t7, h7⟩ := hE.b 7 (by decide) (by decide)
 obtain ⟨f8, c8, t8, h8⟩ := hE.b 8 (by decide) (by decide)
 have g3 := hE.g 3 (by decide) (by decide)
 have g4 := hE.g 4 (by decide) (by decide)
 have g5 := hE.g 5 (by decide) (by decide)
 have g6 := hE.g 6 (by decide) (by decide)
 have g7 := hE.g 7 (by decide) (by decide)
 have g8 := hE.g 8 (by decide) (by decide)
 have d : ∀ j, j < 11 → j ≠ 2 → ¬ eb i = eb j → i ≠ j := fun j _ _ h e => h (by rw [e])
 co_applyP callsE 33 Tryz.func104 Tryz.ntmps104
 co_applyP c_seq
 co_applyP c_region
 co_applyP oy rfl E_as
 co_applyP o_nil
 change wpE ..
 co_applyP c_block
 co_applyP c_seq
 co_applyP c_region
 co_applyP oy rfl E_mv
 co_applyP oy rfl (E_mki hi180 (ht := Tryz.underlying180))
 co_applyP oy rfl (E_ld (ht := ag_168))
 co_applyP oc rfl rfl rfl (g1 L r (eb i) (eb 3) fl f3 cs c3 ty t3 hr hb h3)
 rintro _ _ _ ⟨rfl, rfl, rfl⟩
 co_applyP oy rfl E_as
 co_applyP o_nil
 change wpE ..
 co_applyP c_if rfl
 intro hc
 co_applyP c_seq
 co_applyP c_region
 co_applyP oy rfl E_as
 co_applyP o_nil
 change wpE ..
 co_applyP c_ret
 change ∃ v, resE .. = some v ∧ _
 · have e : i = 3 := hE.d i 3 hi (by decide) hi2 (by decide) (by simpa using hc)
   exact ⟨_, rfl, rfl, rfl, by simp [ansOf, e]⟩
 intro hc
 co_applyP c_seq
 co_applyP c_region
 co_applyP oy rfl E_mv
 have e3 := d 3 (by decide) (by decide) (by simpa using hc)
 co_applyP oy rfl (E_mki hi180 (ht := Tryz.underlying180))
 co_applyP oy rfl (E_ld (ht := ag_168))
 co_applyP oc rfl rfl rfl (g1 L r (eb i) (eb 4) fl f4 cs c4 ty t4 hr hb h4)
 rintro _ _ _ ⟨rfl, rfl, rfl⟩
 co_applyP oy rfl E_as
 co_applyP o_nil
 change wpE ..
 co_applyP c_if rfl
 intro hc
 co_applyP c_seq
 co_applyP c_region
 co_applyP oy rfl E_as
 co_applyP o_nil
 change wpE ..
 co_applyP c_ret
 change ∃ v, resE .. = some v ∧ _
 · have e : i = 4 := hE.d i 4 hi (by decide) hi2 (by decide) (by simpa using hc)
   exact ⟨_, rfl, rfl, rfl, by simp [ansOf, e]⟩
 intro hc
 co_applyP c_seq
 co_applyP c_region
 co_applyP oy rfl E_mv
 have e4 := d 4 (by decide) (by decide) (by simpa using hc)
 co_applyP oy rfl (E_mki hi180 (ht := Tryz.underlying180))
 co_applyP oy rfl (E_ld (ht := ag_168))
 co_applyP oc rfl rfl rfl (g1 L r (eb i) (eb 5) fl f5 cs c5 ty t5 hr hb h5)
 rintro _ _ _ ⟨rfl, rfl, rfl⟩
 co_applyP oy rfl E_as
 co_applyP o_nil
 change wpE ..
 co_applyP c_if rfl
 intro hc
 co_applyP c_seq
 co_applyP c_region
 co_applyP oy rfl E_as
 co_applyP o_nil
 change wpE ..
 co_applyP c_ret
 change ∃ v, resE .. = some v ∧ _
 · have e : i = 5 := hE.d i 5 hi (by decide) hi2 (by decide) (by simpa using hc)
   exact ⟨_, rfl, rfl, rfl, by simp [ansOf, e]⟩
 intro hc
 co_applyP c_seq
 co_applyP c_region
 co_applyP oy rfl E_mv
 have e5 := d 5 (by decide) (by decide) (by simpa using hc)
 co_applyP oy rfl (E_mki hi180 (ht := Tryz.underlying180))
 co_applyP oy rfl (E_ld (ht := ag_168))
 co_applyP oc rfl rfl rfl (g1 L r (eb i) (eb 6) fl f6 cs c6 ty t6 hr hb h6)
 rintro _ _ _ ⟨rfl, rfl, rfl⟩
 co_applyP oy rfl E_as
 co_applyP o_nil
 change wpE ..
 co_applyP c_if rfl
 intro hc
 co_applyP c_seq
 co_applyP c_region
 co_applyP oy rfl E_as
 co_applyP o_nil
 change wpE ..
 co_applyP c_ret
 change ∃ v, resE .. = some v ∧ _
 · have e : i = 6 := hE.d i 6 hi (by decide) hi2 (by decide) (by simpa using hc)
   exact ⟨_, rfl, rfl, rfl, by simp [ansOf, e]⟩
 intro hc
 co_applyP c_seq
 co_applyP c_region
 co_applyP oy rfl E_mv
 have e6 := d 6 (by decide) (by decide) (by simpa using hc)
 co_applyP oy rfl (E_mki hi180 (ht := Tryz.underlying180))
 co_applyP oy rfl (E_ld (ht := ag_168))
 co_applyP oc rfl rfl rfl (g1 L r (eb i) (eb 7) fl f7 cs c7 ty t7 hr hb h7)
 rintro _ _ _ ⟨rfl, rfl, rfl⟩
 co_applyP oy rfl E_as
 co_applyP o_nil
 change wpE ..
 co_applyP c_if rfl
 intro hc
 co_applyP c_seq
 co_applyP c_region
 co_applyP oy rfl E_as
 co_applyP o_nil
 change wpE ..
 co_applyP c_ret
 change ∃ v, resE .. = some v ∧ _
 · have e : i = 7 := hE.d i 7 hi (by decide) hi2 (by decide) (by simpa using hc)
   exact ⟨_, rfl, rfl, rfl, by simp [ansOf, e]⟩
 intro hc
 co_applyP c_seq
 co_applyP c_region
 co_applyP oy rfl E_mv
 have e7 := d 7 (by decide) (by decide) (by simpa using hc)
 co_applyP oy rfl (E_mki hi180 (ht := Tryz.underlying180))
 co_applyP oy rfl (E_ld (ht := ag_168))
 co_applyP oc rfl rfl rfl (g1 L r (eb i) (eb 8) fl f8 cs c8 ty t8 hr hb h8)
 rintro _ _ _ ⟨rfl, rfl, rfl⟩
 co_applyP oy rfl E_as
 co_applyP o_nil
 change wpE ..
 co_applyP c_if rfl
 intro hc
 co_applyP c_seq
 co_applyP c_region
 co_applyP oy rfl E_as
 co_applyP o_nil
 change wpE ..
 co_applyP c_ret
 change ∃ v, resE .. = some v ∧ _
 · have e : i = 8 := hE.d i 8 hi (by decide) hi2 (by decide) (by simpa using hc)
   exact ⟨_, rfl, rfl, rfl, by simp [ansOf, e]⟩
 intro hc
 co_applyP c_seq
 co_applyP c_region
 co_applyP oy rfl E_as
 co_applyP o_nil
 change wpE ..
 co_applyP c_ret
 change ∃ v, resE .. = some v ∧ _
 have e8 := d 8 (by decide) (by decide) (by simpa using hc)
 exact ⟨_, rfl, rfl, rfl, by simp [ansOf, e3, e4, e5, e6, e7, e8]⟩
end Go.Proofs.YtejkelcaljmnoaaGreatDoor
