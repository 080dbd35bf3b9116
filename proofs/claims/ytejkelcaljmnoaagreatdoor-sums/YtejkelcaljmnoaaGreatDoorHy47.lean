/-
  Part 47 of the proof.
  No condition but those that each statement names.
-/
import Derived.Test.YtejkelcaljmnoaaGreatDoorHy46
import Derived.Test.YtejkelcaljmnoaaGreatDoorHy14
set_option maxRecDepth 100000
set_option linter.unusedVariables false
set_option linter.unusedSimpArgs false
set_option linter.unusedSectionVars false
namespace Go.Proofs.YtejkelcaljmnoaaGreatDoor
open Go.Conc Go.Hx Go.Lo
section
variable {New : Obj → Prop} {N : Nat} {ε : Env} {L : Frag} {d : Option Tmp} {ty : TypeId} {ps : String} {af : Array Edge} {g : Option (Nat × Bool)} {P : Program}
theorem O_mm {t : TypeId} (hN : New (.map #[] 0)) : EO P New N ε L ⟨d, .makeMap t none, ty, ps, af, g⟩ (fun r L'' => ∃ b, (∀ t ∈ L, t.1 ≠ b) ∧ r = .map (some b) ∧ L'' = (b, true, .map #[] 0) :: L) :=
 fun _ _ => e_makeMap hN fun b hb => ⟨b, hb, rfl, rfl⟩
end
def PS.zero : PS := ⟨0, 0, 0, 0, 0, 0, 0, fun _ => 0, fun _ => 0, fun _ => (0, 0), 0⟩
def St.bare (c : Nat → Int) (bo : Int) (pn : Nat) (im : Nat → Int) : St := ⟨c, bo, pn, fun i j => im (4 * i + j), [], 0, fun _ => [], fun _ => [], [], 0⟩
theorem bld115 (c : Nat → Int) (bo : Int) (b n cap wb : Nat) : evR Tryz.prog (Instr.build 115 [(0, cfgv c bo), (1, .slice (some ⟨b, 0, none⟩) n cap), (6, .map (some wb))].toArray) [] = some (.agg (kcells ⟨c, bo, .slice (some ⟨b, 0, none⟩) n cap, .slice none 0 0, 0, fun _ => .slice none 0 0, fun _ => .slice none 0 0, .map (some wb), 0⟩), []) := by kernel_rfl
theorem bldz : evR Tryz.prog (Instr.build 99 [].toArray) [] = some (.agg (pcells PS.zero), []) := by kernel_rfl
theorem rep_new {K g cap wb len : Nat} {c : Nat → Int} {bo : Int} {im : Nat → Int} {L L1 L2 : Frag} {a : Sl} (hab : a.b = some g) (h4 : len % 4 = 0) (hcap : cap = len / 4 + a.junk.length / 4) (ha : slOk a (bts im len) 158 L1) (hw : (wb, true, Obj.map #[] 0) ∈ L1) (hE : Ext L L1) (han : ∀ t ∈ L, a.b ≠ some t.1) (hwn : ∀ t ∈ L, t.1 ≠ wb)
   (hA : Add L1 K (.cells (kcells ⟨c, bo, .slice (some ⟨g, 0, none⟩) (len / 4) cap, .slice none 0 0, 0, fun _ => .slice none 0 0, fun _ => .slice none 0 0, .map (some wb), 0⟩) 115) L2) :
   Rep K ⟨g, cap, (bts im len ++ a.junk).toArray, fun _ => ⟨none, []⟩, fun _ => ⟨none, []⟩, wb, [], 0⟩ (St.bare c bo (len / 4) im) L L2 where
 fn := hA.fn
 k := hA.self
 g := hA.sub _ (ha.mem hab)
 gv i j hi hj := by
   have hlt : 4 * i + j < len := by have : i < len / 4 := hi; omega
   simp only [List.getElem?_toArray]
   rw [List.getElem?_append_left (by simpa using hlt)]
   simp [hlt, St.bare]
 p q hq := by cases hq
 pn := by simp [St.bare]
 p8 := by simp [St.bare]
 pa := ⟨rfl, rfl⟩
 rw l hl := ⟨rfl, rfl⟩
 ya i hi := ⟨rfl, rfl⟩
 w := hA.sub _ hw
 wl := rfl
 bn := by simp
 bc x hx := by cases hx
 wa e he := by cases he
 d i j hij hn := absurd rfl hn
 dy i j hij hn := absurd rfl hn
 al i c hc := by cases hc
 yl i c hc := by cases hc
 fr t ht := hA.sub _ (hE.s _ ht)
 fd t ht := ⟨hA.new _ (hE.s _ ht), fun q hq => by (cases hq), fun i h => by (cases h), fun i h => by (cases h), hwn t ht⟩
theorem new_s : ∃ n, ∀ {σ : Type} {F : Fam σ} {Δ : ∀ s, Dom (F.R s) (F.D s)} {main : Bool} {s : σ} (L : Frag) (c : Nat → Int) (bo : Int) (ib o len cap : Nat) (im : Nat → Int), (∀ s o, (Δ s).New o) → Fun L → okc c bo = true → oki len = true → (∀ i, i < len → At L ib (o + i) (.int .u8 (im i))) →
   CallsL Δ Tryz.prog main 29 [cfgv c bo, .slice (some ⟨ib, o, none⟩) len cap].toArray n s L (fun s' v L' => s = s' ∧ ∃ K A b, v = .tuple #[ptr K, .int .i64 0] ∧ Rep K A ((St.bare c bo (len / 4) im).adopt b PS.zero) L L') := by
 obtain ⟨n1, g1⟩ := isConfig_s
 obtain ⟨n2, g2⟩ := isImage_s
 obtain ⟨n3, g3⟩ := decode_s
 obtain ⟨n4, g4⟩ := add_s
 apply Exists.intro
 intro σ F Δ main s L c bo ib o len cap im hN hF hok hoi hat
 have hoi' : 0 < len ∧ len % 4 = 0 ∧ len ≤ 1024 := by unfold oki at hoi; simpa using hoi
 co_applyP callsE 24 Tryz.func29 Tryz.ntmps29
 co_applyP c_seq
 co_applyP c_region
 co_applyP oadd rfl (O_box (hN _ _))
 intro b L1 hA
 have hE1 : Ext L L1 := ⟨hA.fn, hA.sub⟩
 co_applyP oy rfl E_as
 co_applyP oy rfl E_as
 co_applyP o_nil
 change wpE ..
 co_applyP c_seq
 co_applyP c_seq
 co_applyP c_region
 co_applyP oy rfl (E_lda (ht := ag_26) (hs := sz_26) (hm := hA.self) (hi := by show 0 + 4 ≤ 4; decide))
 rw [show (Value.agg (((cfgv c bo).cells).extract 0 (0 + 4))) = cfgv c bo from rfl]
 co_applyP oc rfl rfl rfl (g1 L1 c bo (fun cs => hN _ _) hA.fn)
 rintro _ _ _ ⟨rfl, rfl, hE⟩
 rename_i L2
 rw [hok]
 co_applyP oy rfl E_not
 co_applyP o_nil
 change wpE ..
 co_applyP c_false rfl
 co_applyP c_skip
 change wpE ..
 co_applyP c_seq
 co_applyP c_seq
 co_applyP c_region
 co_applyP oy rfl E_mv
 co_applyP oc rfl rfl rfl (g2 _ _ len cap)
 rintro _ _ _ ⟨rfl, rfl, rfl⟩
 rw [hoi]
 co_applyP oy rfl E_not
 co_applyP o_nil
 change wpE ..
 co_applyP c_false rfl
 co_applyP c_skip
 change wpE ..
 have hcfg : (b, true, Obj.cells (cfgv c bo).cells 26) ∈ L2 := hE.s _ hA.self
 have hE2 : Ext L L2 := hE1.trans hE
 have hbn : ∀ (a : Sl) (L3 : Frag), slOk a (bts im len) 158 L3 → ∃ g, a.b = some g := fun a L3 h => by
   cases hab : a.b with
   | some g => exact ⟨g, rfl⟩
   | none =>
     unfold slOk at h
     rw [hab] at h
     have := congrArg List.length h.1
     simp at this
     omega
 co_applyP c_mid (fun s'' ε'' L'' => s = s'' ∧ ∃ K A, Rep K A (St.bare c bo (len / 4) im) L2 L'' ∧ kn ε'' [(6, ptr K)])
 co_applyP c_draw L2 5 mixed
 co_applyP tr (i := 0) rfl (E_lda (ht := ag_26) (hs := sz_26) (hm := hcfg) (hi := by show 0 + 4 ≤ 4; decide)) pI
 rw [show (Value.agg (((cfgv c bo).cells).extract 0 (0 + 4))) = cfgv c bo from rfl]
 co_applyP tr (i := 1) rfl (E_mv) pI
 co_applyP t2 (i := 2) (j := 3) rfl rfl rfl (g3 L2 ib o len cap im (fun cs => hN _ _) hE.f hoi'.2.1 hoi'.2.2 (fun i hi => hE2.at (hat i hi))) rfl (O_mm (hN _ _))
 · rintro s' v L3 ⟨rfl, a, rfl, ha, han, hE3⟩
   refine ⟨pre_more (fun t h => hE3.s t h) (fun t h => hE3.s t h), ?_⟩
   obtain ⟨g, hg⟩ := hbn a L3 ha
   have ev : rowv a 4 (len / 4) = .slice (some ⟨g, 0, none⟩) (len / 4) (len / 4 + a.junk.length / 4) := by unfold rowv; rw [hg]
   rw [ev]
   co_applyP tadd (i := 3) rfl (O_mm (hN _ _))
   intro wb L4 hA4
   refine ⟨pre_more (fun t h => hA4.sub _ (hE3.s t h)) (fun t h => hA4.sub _ (hE3.s t h)), ?_⟩
   co_applyP to (i := 4) rfl (E_build (bld115 c bo g _ _ wb)) (pre_more (fun t h => hA4.sub _ (hE3.s t h)) (fun t h => hA4.sub _ (hE3.s t h)))
   co_applyP tadd (i := 5) rfl (O_box (hN _ _))
   intro K L5 hA5
   refine ⟨pre_late (fun t h => hA5.sub _ (hA4.sub _ (hE3.s t h))), ?_⟩
   co_applyP to (i := 6) rfl (E_as) (pre_late (fun t h => hA5.sub _ (hA4.sub _ (hE3.s t h))))
   co_applyP td (by kernel_rfl)
   change _ = _ ∧ ∃ K A, _ ∧ kn _ _
   exact ⟨rfl, K, _, rep_new hg hoi'.2.1 rfl (ha.mono fun c hc o ho => hA4.sub _ ho) hA4.self ⟨hA4.fn, fun t h => hA4.sub _ (hE3.s t h)⟩ han (fun t ht => hA4.new _ (hE3.s _ ht)) hA5, rfl⟩
 · rintro v L3 ⟨wb, hwb, rfl, rfl⟩
   refine ⟨pre_more (fun t h => List.mem_cons_of_mem _ h) (fun t h => List.mem_cons_of_mem _ h), ?_⟩
   have hA3 := add_cons (o := .map #[] 0) hE.f hwb
   have hE3 : Ext L2 ((wb, true, .map #[] 0) :: L2) := ⟨hA3.fn, hA3.sub⟩
   co_applyP tc (i := 2) rfl rfl rfl (g3 _ ib o len cap im (fun cs => hN _ _) hA3.fn hoi'.2.1 hoi'.2.2 (fun i hi => (hE2.trans hE3).at (hat i hi)))
   rintro _ _ _ ⟨rfl, a, rfl, ha, han, hE4⟩
   refine ⟨pre_more (fun t h => hE4.s _ (hA3.sub t h)) (fun t h => hE4.s _ (hA3.sub t h)), ?_⟩
   rename_i L4
   obtain ⟨g, hg⟩ := hbn a L4 ha
   have ev : rowv a 4 (len / 4) = .slice (some ⟨g, 0, none⟩) (len / 4) (len / 4 + a.junk.length / 4) := by unfold rowv; rw [hg]
   rw [ev]
   co_applyP to (i := 4) rfl (E_build (bld115 c bo g _ _ wb)) (pre_more (fun t h => hE4.s _ (hA3.sub t h)) (fun t h => hE4.s _ (hA3.sub t h)))
   co_applyP tadd (i := 5) rfl (O_box (hN _ _))
   intro K L5 hA5
   refine ⟨pre_late (fun t h => hA5.sub _ (hE4.s _ (hA3.sub t h))), ?_⟩
   co_applyP to (i := 6) rfl (E_as) (pre_late (fun t h => hA5.sub _ (hE4.s _ (hA3.sub t h))))
   co_applyP td (by kernel_rfl)
   change _ = _ ∧ ∃ K A, _ ∧ kn _ _
   exact ⟨rfl, K, _, rep_new hg hoi'.2.1 rfl ha (hE4.s _ hA3.self) (hE3.trans hE4) (fun t ht => han _ (hA3.sub _ ht)) hwb hA5, rfl⟩
 rintro s'' ε'' L3 ⟨rfl, K, A, hR, he⟩
 co_applyP wpE_kn he
 co_applyP c_seq
 co_applyP c_region
 co_applyP oy rfl E_mv
 co_applyP oy rfl (E_build bldz)
 co_applyP oadd rfl (O_box (hN _ _))
 intro pbk L4 hA4
 have hR4 : Rep K A (St.bare c bo (len / 4) im) (pb pbk PS.zero :: L2) L4 := hR.fresh ⟨hA4.fn, hA4.sub⟩ hA4.new hA4.self
 co_applyP oc rfl rfl rfl (g4 K A _ L2 L4 pbk PS.zero (fun cs => hN _ _) hR4 (fun t ht => hA4.new _ (hR.fr t ht)) (by simp [St.bare]) (by simp [St.bare]) (by decide) (by simp [St.bare]))
 rintro _ _ _ ⟨rfl, rfl, A', hR5⟩
 co_applyP o_nil
 change wpE ..
 co_applyP c_seq
 co_applyP c_region
 co_applyP oy rfl E_mv
 co_applyP oy rfl E_as
 co_applyP oy rfl E_as
 co_applyP o_nil
 change wpE ..
 co_applyP c_ret
 change ∃ v, resE .. = some v ∧ _
 exact ⟨_, rfl, rfl, K, A', pbk, rfl, hR5.less fun t ht => hE2.s t ht⟩
section
variable {P : Program} {N : Nat} {ε : Env} {L : Frag} {d : Option Tmp} {ty : TypeId} {ps : String} {af : Array Edge} {g : Option (Nat × Bool)} {t e : TypeId} {x y z : Operand} {b o sz len : Nat} {k1 k2 : IntKind} {l h : Int}
theorem E_slA0 (hu : P.underlying t = some (.array (len + 1) e)) (hs : sizeAt P e = some sz) (hx : ev ε x = some (.pointer (some ⟨b, o, none⟩)) := by rfl) :
   EY P N ε L ⟨d, .slice t x none none none, ty, ps, af, g⟩ (.slice (some ⟨b, o, none⟩) (len + 1) (len + 1)) := fun _ ha => by
 refine y_of (fun _ => rfl) fun K hK => ?_
 simp only [Option.map_none, ha.ev hx]
 unfold Instr.sliceAt
 rw [wpQ_bind, wpQ_underlying hu]
 simp only
 rw [wpQ_bind, wpQ_sureAddr]
 simp only [Instr.sliceBounds]
 simp only [wpQ_bind, wpQ_pure]
 rw [wpQ_sizeOf hs]
 have e1 : (if len + 1 = 0 then (⟨b, o, none⟩ : Addr) else (⟨b, o, none⟩ : Addr).add (0 * sz)) = ⟨b, o, none⟩ := by
   simp [addr_add]
 rw [e1]
 exact hK
end
def phead (x : PS) : List Value := .int .i64 x.id :: .int .i64 x.par :: .int .i64 x.st :: .int .i64 x.stat :: .int .i64 x.at_ :: .int .i64 x.lv :: .int .i64 x.used :: (List.range 8).map (fun i => .int .u16 (x.r i))
theorem pext_head (x : PS) : (pcells x).extract (0 + 0) (0 + 0 + 15) = (phead x).toArray := rfl
theorem byt_49 : bytesAt Tryz.prog 49 = some 72 := by kernel_rfl
theorem zr_49 : zeroAt Tryz.prog 49 = some (.agg (phead PS.zero).toArray) := by kernel_rfl
def heads (l : List (Nat × PS)) : List Value := l.flatMap fun q => phead q.2
theorem heads_len (l : List (Nat × PS)) : (heads l).length = l.length * 15 := by
 induction l with
 | nil => rfl
 | cons q l ih =>
   have : heads (q :: l) = phead q.2 ++ heads l := rfl
   rw [this, List.length_append, ih]
   simp [phead]; omega
theorem heads_snoc (l : List (Nat × PS)) (q : Nat × PS) : heads (l ++ [q]) = heads l ++ phead q.2 := by simp [heads]
theorem procs_s : ∃ n, ∀ {σ : Type} {F : Fam σ} {Δ : ∀ s, Dom (F.R s) (F.D s)} {main : Bool} {s : σ} (K : Nat) (A : Lay) (S : St) (Fr L : Frag), (∀ s o, (Δ s).New o) → Rep K A S Fr L →
   CallsL Δ Tryz.prog main 20 [ptr K].toArray n s L (fun s' v L' => s = s' ∧ ∃ a, v = rowv a 15 S.ps.length ∧ slOk a (heads S.ps) 49 L' ∧ (∀ t ∈ L, a.b ≠ some t.1) ∧ Ext L L') := by
 obtain ⟨n1, g1⟩ := all_s
 apply Exists.intro
 intro σ F Δ main s K A S Fr L hN hR
 obtain ⟨base, cap, hv, hat⟩ := slv_view hR.pa
 simp only [List.length_map] at hv
 co_applyP callsE 22 Tryz.func20 Tryz.ntmps20
 co_applyP c_seq
 co_applyP c_region
 co_applyP oy rfl E_as
 co_applyP o_nil
 change wpE ..
 co_applyP c_seq
 co_applyP c_region
 co_applyP oy rfl E_as
 co_applyP o_nil
 change wpE ..
 co_applyP c_seq
 co_applyP c_seq
 co_applyP c_region
 co_applyP oy rfl E_mv
 co_applyP oc rfl rfl rfl (g1 K A S Fr L hR)
 rintro _ _ _ ⟨rfl, rfl, rfl⟩
 rw [hv]
 co_applyP oy rfl (E_len (hu := Tryz.underlying91))
 co_applyP oy rfl E_mv
 co_applyP o_nil
 change wpE ..
 co_applyP c_block
 co_applyP c_loop (fun k s' ε' L' => s' = s ∧ Ext L L' ∧ ∃ l1 l2 a, S.ps = l1 ++ l2 ∧ k + l1.length = 8 ∧ slOk a (heads l1) 49 L' ∧ (∀ t ∈ L, a.b ≠ some t.1) ∧ kn ε' [(9, .int .i64 l1.length), (8, .int .i64 S.ps.length), (7, .slice base S.ps.length cap), (3, rowv a 15 l1.length)]) 8
 · exact ⟨rfl, ⟨hR.fn, fun _ h => h⟩, [], S.ps, ⟨none, []⟩, rfl, rfl, ⟨rfl, rfl⟩, fun t ht => by simp, rfl⟩
 rintro k s' ε' L' ⟨rfl, hE, l1, l2, a, hl, hk, ha, han, he⟩
 co_applyP wpE_kn he
 have hlen := congrArg List.length hl
 simp only [List.length_append] at hlen
 have h8 := hR.p8
 co_applyP c_seq
 co_applyP c_region
 co_applyP oy rfl E_lss
 co_applyP o_nil
 change wpE ..
 co_applyP c_seq
 co_applyP c_if rfl
 intro hc
 · cases l2 with
   | nil => simp at hc hlen; omega
   | cons q l2 =>
     obtain ⟨b, hb, hbs, hbv⟩ := hat l1.length (ptr q.1) (by rw [hl]; simp)
     subst hbs
     have hbv' : At L' b l1.length (ptr q.1) := hE.at hbv
     have hq := hE.s _ (hR.p q (by rw [hl]; simp))
     simp at hlen
     have ei : IntKind.i64.wrap ((l1.length : Int) + 1) = ((l1 ++ [q]).length : Int) := by simp [IntKind.wrap_i64]; omega
     co_applyP c_skip
     change wpE ..
     co_applyP c_seq
     co_applyP c_block
     co_applyP c_seq
     co_applyP c_region
     co_applyP oy rfl (E_ixs Tryz.underlying91 sz_93)
     co_applyP oy rfl (E_ld (ht := ag_93))
     co_applyP oy rfl E_as
     co_applyP o_nil
     change wpE ..
     co_applyP c_region
     co_applyP oy rfl E_mv
     co_applyP oy rfl E_mv
     co_applyP oy rfl E_nc
     co_applyP oy rfl (E_fa (hf := fo_99_0))
     co_applyP oy rfl (E_lda (ht := ag_49) (hs := sz_49) (hm := hq) (hi := by rw [psize]; omega))
     rw [pext_head]
     co_applyP oadd rfl (O_bsN (sz := 15) (hN := hN _ _) (hv := rfl) (hu := Tryz.underlying42) (hs := sz_49) (hz := zr_49) (h0 := by decide) (h24 := by decide))
     intro nb L1 hA
     have hr : Reads Tryz.prog L1 15 1 (.slice (some ⟨nb, 0, none⟩) 1 1) (phead q.2).toArray := by
       have := reads_m (P := Tryz.prog) (sz := 15) (n := 1) (len := 1) (cap := 1) (o := 0) hA.self (by show 0 + 1 * 15 ≤ 15; decide)
       exact this
     co_applyP oeN rfl (fun hnd => O_apN (a := a) (by_ := 71) (xs := heads l1) (n := l1.length) (m := 1) (hnd := hnd) (hu := Tryz.underlying42) (hs := sz_49) (hb := byt_49) (hz := zr_49) (hzs := rfl) (hN := fun cs => hN _ _) (ha := ha.mono fun c hc o ho => hA.sub _ ho) (hn := heads_len l1) (hr := hr) (hm := rfl) (hpl := rfl) (h0 := by decide) (hm0 := by decide) (h8 := by omega))
     rintro _ L2 ⟨a', rfl, hp⟩
     co_applyP oy rfl E_as
     co_applyP o_nil
     change wpE ..
     co_applyP c_region
     co_applyP oy rfl E_add
     co_applyP oy rfl E_mv
     co_applyP o_nil
     change ∃ k', k' < _ ∧ _
     refine ⟨k - 1, by omega, rfl, ⟨hp.fn, fun t ht => hp.sub _ (hA.sub _ (hE.s _ ht)) (han t ht)⟩, l1 ++ [q], l2, a', by simp [hl], by simp; omega, ?_, fun t ht e => ?_, ?_⟩
     · rw [heads_snoc]; exact hp.ok
     · rcases hp.d _ e with h | h
       · exact han t ht h
       · exact h _ (hA.sub _ (hE.s _ ht)) rfl
     · rw [← ei, show (l1 ++ [q]).length = l1.length + 1 by simp]; rfl
 intro hc
 co_applyP c_exit
 change wpE ..
 co_applyP c_seq
 co_applyP c_region
 co_applyP oy rfl E_mv
 co_applyP oy rfl E_as
 co_applyP o_nil
 change wpE ..
 co_applyP c_ret
 change ∃ v, resE .. = some v ∧ _
 have hl2 : l2 = [] := by
   cases l2 with
   | nil => rfl
   | cons q l2 => simp at hc hlen; omega
 subst hl2
 simp only [List.append_nil] at hl
 rw [← hl] at ha
 exact ⟨_, rfl, rfl, a, by rw [hl], ha, han, hE⟩
theorem cloneB_s : ∃ n, ∀ {σ : Type} {F : Fam σ} {Δ : ∀ s, Dom (F.R s) (F.D s)} {main : Bool} {s : σ} (L : Frag) (Q o len cap : Nat) (cs : Array Value) (e : TypeId) (fl : Bool), (∀ s o, (Δ s).New o) → Fun L → (Q, fl, Obj.cells cs e) ∈ L → 0 < len → len ≤ 1000 → o + len ≤ cs.size → (∀ v ∈ cs.toList, plainV v = true) →
   CallsL Δ Tryz.prog main 38 [.slice (some ⟨Q, o, none⟩) len cap].toArray n s L (fun s' v L' => s = s' ∧ ∃ a, v = rowv a 1 len ∧ slOk a (cs.extract o (o + len)).toList 5 L' ∧ (∀ t ∈ L, a.b ≠ some t.1) ∧ Ext L L') := by
 apply Exists.intro
 intro σ F Δ main s L Q o len cap cs e fl hN hF hm h0 h1000 hsz hpl
 co_applyP callsE 8 Tryz.func38 Tryz.ntmps38
 co_applyP c_seq
 co_applyP c_region
 co_applyP oy rfl E_as
 co_applyP o_nil
 change wpE ..
 co_applyP c_seq
 co_applyP c_seq
 co_applyP c_region
 co_applyP oy rfl E_mv
 co_applyP oy rfl (E_sln Tryz.underlying44)
 co_applyP o_nil
 change wpE ..
 co_applyP c_false rfl
 co_applyP c_skip
 change wpE ..
 co_applyP c_seq
 co_applyP c_region
 co_applyP oadd rfl (O_bs0 (hN _ _) (hu := Tryz.underlying44) (hs := sz_5))
 intro nb L1 hA
 co_applyP oy rfl E_mv
 have hr : Reads Tryz.prog L1 1 len (.slice (some ⟨Q, o, none⟩) len cap) (cs.extract o (o + len)).toList.toArray := by
   have := reads_m (P := Tryz.prog) (sz := 1) (n := len) (len := len) (cap := cap) (o := o) (hA.sub _ hm) (by omega)
   rw [Nat.mul_one] at this
   exact this
 have hrow : Value.slice (some ⟨nb, 0, none⟩) 0 0 = rowv ⟨some nb, []⟩ 1 0 := by simp [rowv]
 rw [hrow]
 have hl : (cs.extract o (o + len)).toList.length = len * 1 := by simp; omega
 co_applyP oeN rfl (fun hnd => O_apN (a := ⟨some nb, []⟩) (by_ := 0) (xs := []) (ys := (cs.extract o (o + len)).toList) (n := 0) (m := len) (hnd := hnd) (hu := Tryz.underlying44) (hs := sz_5) (hb := byt_5) (hz := zr_5) (hzs := rfl) (hN := fun cs => hN _ _) (ha := hA.self) (hn := rfl) (hr := hr) (hm := hl) (hpl := by rw [List.all_eq_true]; intro v hv; simp only [Array.toList_extract, List.extract_eq_take_drop] at hv; exact hpl v (List.mem_of_mem_drop (List.mem_of_mem_take hv))) (h0 := by decide) (hm0 := h0) (h8 := by omega))
 rintro _ L2 ⟨a', rfl, hp⟩
 co_applyP oy rfl E_as
 co_applyP o_nil
 change wpE ..
 co_applyP c_ret
 change ∃ v, resE .. = some v ∧ _
 have hE : Ext L L2 := ⟨hp.fn, fun t ht => hp.sub _ (hA.sub _ ht) (by simpa using (hA.new _ ht).symm)⟩
 refine ⟨_, rfl, rfl, a', by rw [Nat.zero_add], hp.ok, fun t ht e => ?_, hE⟩
 rcases hp.d _ e with h | h
 · exact hA.new t ht (by simpa using h.symm)
 · exact h _ (hA.sub _ ht) rfl
def mems (x : PS) : List Value := (List.range 64).map fun i => .int .u8 (x.m i)
theorem pcells_plain (x : PS) : ∀ v ∈ (pcells x).toList, plainV v = true := by
 intro v hv
 have : (pcells x).toList.all plainV = true := rfl
 exact List.all_eq_true.1 this v hv
theorem ext_mems (x : PS) : ((pcells x).extract (0 + 15) (0 + 15 + 64)).toList = mems x := by
 have h := pext_mem x
 have h' : (pcells x).extract (0 + 15) (0 + 15 + 64) = ((List.range 64).map fun i => Value.int .u8 (x.m i)).toArray := Value.agg.inj h
 rw [h']; rfl
theorem memory_s : ∃ n, ∀ {σ : Type} {F : Fam σ} {Δ : ∀ s, Dom (F.R s) (F.D s)} {main : Bool} {s : σ} (K : Nat) (A : Lay) (S : St) (Fr L : Frag) (id : Int) (b : Nat) (x : PS), (∀ s o, (Δ s).New o) → Rep K A S Fr L → S.find id = some (b, x) →
   CallsL Δ Tryz.prog main 21 [ptr K, .int .i64 id].toArray n s L (fun s' v L' => s = s' ∧ ∃ a, v = .tuple #[rowv a 1 64, .int .i64 0] ∧ slOk a (mems x) 5 L' ∧ (∀ t ∈ L, a.b ≠ some t.1) ∧ Ext L L') := by
 obtain ⟨n1, g1⟩ := find_s
 obtain ⟨n2, g2⟩ := cloneB_s
 apply Exists.intro
 intro σ F Δ main s K A S Fr L id b x hN hR hn
 have hb : (b, x) ∈ S.ps := List.mem_of_find?_eq_some hn
 co_applyP callsE 17 Tryz.func21 Tryz.ntmps21
 co_applyP c_seq
 co_applyP c_region
 co_applyP oy rfl E_as
 co_applyP oy rfl E_as
 co_applyP o_nil
 change wpE ..
 co_applyP c_seq
 co_applyP c_region
 co_applyP oy rfl E_mv
 co_applyP oy rfl E_mv
 co_applyP oc rfl rfl rfl (g1 K A S Fr L id hR)
 rintro _ _ _ ⟨rfl, rfl, rfl⟩
 rw [hn]
 simp only [Option.map_some, optPtr]
 co_applyP oy rfl E_as
 co_applyP o_nil
 change wpE ..
 co_applyP c_seq
 co_applyP c_seq
 co_applyP c_region
 co_applyP oy rfl E_mv
 co_applyP oy rfl (E_eqn (hu := Tryz.underlying93))
 co_applyP o_nil
 change wpE ..
 co_applyP c_false rfl
 co_applyP c_skip
 change wpE ..
 co_applyP c_seq
 co_applyP c_region
 co_applyP oy rfl E_mv
 co_applyP oy rfl E_nc
 co_applyP oy rfl (E_fa (hf := fo_99_1))
 co_applyP oy rfl (E_slA0 Tryz.underlying94 sz_5)
 co_applyP oc rfl rfl rfl (g2 L b (0 + 15) 64 64 (pcells x) 99 true hN hR.fn (hR.p _ hb) (by decide) (by decide) (by rw [psize]; decide) (pcells_plain x))
 rintro _ _ _ ⟨rfl, a, rfl, ha, han, hE⟩
 co_applyP oy rfl E_as
 co_applyP oy rfl E_as
 co_applyP o_nil
 change wpE ..
 co_applyP c_ret
 change ∃ v, resE .. = some v ∧ _
 rw [ext_mems] at ha
 exact ⟨_, rfl, rfl, a, rfl, ha, han, hE⟩
end Go.Proofs.YtejkelcaljmnoaaGreatDoor
namespace Go.Lo
open Go.Conc Go.Hx
def strv (l : List Int) : Value := .string ⟨(l.map fun n => UInt8.ofNat n.toNat).toArray⟩
def Byt (l : List Int) : Prop := ∀ n ∈ l, 0 ≤ n ∧ n < 256
section
variable {P : Program} {N : Nat} {ε : Env} {L : Frag} {d : Option Tmp} {ty : TypeId} {ps : String} {af : Array Edge} {g : Option (Nat × Bool)} {x y : Operand} {t u : TypeId} {New : Obj → Prop}
theorem strv_add (l m : List Int) : (⟨(l.map fun n => UInt8.ofNat n.toNat).toArray⟩ : ByteArray) ++ ⟨(m.map fun n => UInt8.ofNat n.toNat).toArray⟩ = ⟨((l ++ m).map fun n => UInt8.ofNat n.toNat).toArray⟩ := by
 apply ByteArray.ext
 simp
theorem E_sadd {l m : List Int} (hx : ev ε x = some (strv l) := by rfl) (hy : ev ε y = some (strv m) := by rfl) (hl : l.length + m.length < 1000000 := by first | exact of_decide_eq_true rfl | omega | (simp; done) | (simp; omega)) : EY P N ε L ⟨d, .binOp .add t x y u, ty, ps, af, g⟩ (strv (l ++ m)) := fun a ha => by
 refine y_of (fun _ => rfl) fun K hK => ?_
 rw [ha.ev hx, ha.ev hy]
 have e1 : eqGuard .add t x y (strv l) (strv m) = pure () := by simp [eqGuard]
 show wpQ P (eqGuard .add t x y (strv l) (strv m) >>= fun _ => binOp .add t (strv l) (strv m)) K L
 rw [e1]
 show wpQ P (Op.stringOp .add _ _) K L
 unfold Op.stringOp
 simp only
 have hmax : IntKind.i64.max = 9223372036854775807 := rfl
 rw [if_neg (by rw [hmax]; simp [ByteArray.size]; omega)]
 rw [strv_add]
 exact hK
theorem E_shr {k k' : IntKind} {a n : Int} (hx : ev ε x = some (.int k a) := by rfl) (hy : ev ε y = some (.int k' n) := by rfl) (hn : 0 ≤ n := by decide) : EY P N ε L ⟨d, .binOp .shr t x y u, ty, ps, af, g⟩ (.int k (a.fdiv (2 ^ min n.toNat k.bits))) := fun a' ha => by
 refine y_of (fun _ => rfl) fun K hK => ?_
 rw [ha.ev hx, ha.ev hy, eqGuard_int]
 show wpQ P (Op.shift .shr k a k' n) K L
 unfold Op.shift
 rw [if_neg (by omega)]
 exact hK
theorem forIn_bytes (f : Value → ByteArray → Sem (ForInStep ByteArray)) (hf : ∀ (n : Int) (r : ByteArray), f (.int .u8 n) r = pure (.yield (r.push (UInt8.ofNat n.toNat)))) :
   ∀ (l : List Int) (s : ByteArray), forIn (l.map (Value.int .u8)) s f = (pure ⟨s.data ++ (l.map fun n => UInt8.ofNat n.toNat).toArray⟩ : Sem ByteArray)
 | [], s => by simp
 | n :: l, s => by
   simp only [List.map_cons, List.forIn_cons]
   rw [hf]
   show forIn (l.map (Value.int .u8)) (s.push (UInt8.ofNat n.toNat)) f = _
   rw [forIn_bytes f hf l]
   congr 1
   apply ByteArray.ext
   apply Array.ext'
   simp
theorem E_cvbs {l : List Int} {b o len cap : Nat} {cs : Array Value} {e e' : TypeId} {fr : Nat × Nat} {fl : Bool} (hx : ev ε x = some (.slice (some ⟨b, o, none⟩) len cap) := by rfl) (ht : P.underlying t = some (.slice e)) (he : P.underlying e = some (.int .u8)) (hu : P.underlying u = some .string) (hm : (b, fl, .cells cs e' fr) ∈ L) (hc : o + len ≤ cs.size) (hl : cs.extract o (o + len) = (l.map (Value.int .u8)).toArray) : EY P N ε L ⟨d, .convert t u x, ty, ps, af, g⟩ (strv l) := fun a ha => by
 refine y_of (fun _ => rfl) fun K hK => ?_
 unfold convert
 rw [ha.ev hx, wpQ_bind, wpQ_underlying ht, wpQ_bind, wpQ_underlying hu]
 simp only
 rw [wpQ_bind, wpQ_underlying he]
 show wpQ P (Conv.bytesToString _) K L
 unfold Conv.bytesToString
 simp only
 rw [wpQ_bind]
 refine wpQ_loadCells hm hc ?_
 rw [hl, List.forIn_toArray, forIn_bytes _ (fun n r => rfl)]
 have e1 : (⟨ByteArray.empty.data ++ (l.map fun n => UInt8.ofNat n.toNat).toArray⟩ : ByteArray) = ⟨(l.map fun n => UInt8.ofNat n.toNat).toArray⟩ := by apply ByteArray.ext; simp
 rw [e1]
 exact hK
theorem O_cvsb {l : List Int} {e : TypeId} (hl : Byt l) (hN : ∀ cs, New (.cells cs e)) (hF : Fun L) (hx : ev ε x = some (strv l) := by rfl) (ht : P.underlying t = some .string) (hu : P.underlying u = some (.slice e)) (he : P.underlying e = some (.int .u8)) :
   EO P New N ε L ⟨d, .convert t u x, ty, ps, af, g⟩ (fun r L' => ∃ b cap junk fr, r = .slice (some ⟨b, 0, none⟩) l.length cap ∧ Add L b (.cells (l.map (Value.int .u8) ++ junk).toArray e fr) L') := fun a ha => by
 show wpS P New (convert t u (a.eval x) >>= fun v => pure (Next.value v)) _ L
 unfold convert
 rw [ha.ev hx, wpS_bind, wpS_bind, wpS_underlying ht, wpS_bind, wpS_underlying hu]
 simp only [strv]
 rw [wpS_bind, wpS_underlying he]
 show wpS P New (Conv.stringToBytes e _) _ L
 unfold Conv.stringToBytes
 rw [wpS_bind]
 refine ⟨fun h => by simp [Question.forced] at h, fun _ tp => ?_⟩
 generalize Question.cut _ tp = cap
 rw [wpS_pure']
 simp only [newRow, wpS_bind]
 refine wpS_newObj (hN _) fun b hb => ?_
 rw [wpS_pure]
 unfold markStringish
 rw [wpS_bind]
 refine ⟨true, _, List.mem_cons_self, ?_⟩
 simp only [shapeOf]
 show wpS P New (freeze _ 1) _ _
 refine ⟨0, _, _, _, rfl, ?_⟩
 have e1 : (Array.map (fun b : UInt8 => Value.int .u8 (b.toNat : Nat)) (l.map fun n => UInt8.ofNat n.toNat).toArray) = (l.map (Value.int .u8)).toArray := by
   apply Array.ext'
   simp only [List.map_toArray, List.map_map]
   refine List.map_congr_left fun n hn => ?_
   have := hl n hn
   simp only [Function.comp, UInt8.toNat_ofNat']
   congr 1
   omega
 rw [e1]
 have e2 : (l.map (Value.int .u8)).toArray ++ Array.replicate (cap - ByteArray.size ⟨(l.map fun n => UInt8.ofNat n.toNat).toArray⟩) (Value.int .u8 0) = (l.map (Value.int .u8) ++ List.replicate (cap - ByteArray.size ⟨(l.map fun n => UInt8.ofNat n.toNat).toArray⟩) (Value.int .u8 0)).toArray := by
   apply Array.ext'; simp
 rw [e2]
 refine ⟨b, cap, _, _, ?_, add_cons hF hb⟩
 simp [ByteArray.size]
end
end Go.Lo
namespace Go.Proofs.YtejkelcaljmnoaaGreatDoor
open Go.Conc Go.Hx Go.Lo
def I64 (c : Int) : Prop := -9223372036854775808 ≤ c ∧ c ≤ 9223372036854775807
def pickN (c : Int) (n : Nat) : Nat := (if c < 0 then -(c + 1) else c).toNat % n
theorem tmod_nat {a : Int} {n : Nat} (h : 0 ≤ a) : a.tmod (n : Int) = ((a.toNat % n : Nat) : Int) := by
 rw [Int.tmod_eq_emod_of_nonneg h]
 obtain ⟨m, rfl⟩ := Int.eq_ofNat_of_zero_le h
 simp
theorem pick_s : ∃ n, ∀ {σ : Type} {F : Fam σ} {Δ : ∀ s, Dom (F.R s) (F.D s)} {main : Bool} {s : σ} (L : Frag) (c : Int) (k : Nat), I64 c → 0 < k →
   CallsL Δ Tryz.prog main 15 [.int .i64 c, .int .i64 (k : Nat)].toArray n s L (fun s' v L' => s = s' ∧ v = .int .i64 (pickN c k : Nat) ∧ L = L') := by
 apply Exists.intro
 intro σ F Δ main s L c k hc hk
 obtain ⟨hc1, hc2⟩ := hc
 co_applyP callsE 13 Tryz.func15 Tryz.ntmps15
 co_applyP c_seq
 co_applyP c_region
 co_applyP oy rfl E_as
 co_applyP o_nil
 change wpE ..
 co_applyP c_mid (fun s'' ε'' L'' => s = s'' ∧ L = L'' ∧ kn ε'' [(0, .int .i64 (if c < 0 then -(c + 1) else c)), (1, .int .i64 (k : Nat))])
 co_applyP c_seq
 co_applyP c_region
 co_applyP oy rfl E_mv
 co_applyP oy rfl E_lss
 co_applyP o_nil
 change wpE ..
 co_applyP c_if rfl
 intro hn
 co_applyP c_region
 co_applyP oy rfl E_mv
 co_applyP oy rfl E_add
 co_applyP oy rfl E_neg
 co_applyP oy rfl E_as
 co_applyP o_nil
 change _ = _ ∧ _ = _ ∧ kn _ _
 · have hn' : c < 0 := by simpa using hn
   have w1 : IntKind.i64.wrap (c + 1) = c + 1 := by simp [IntKind.wrap_i64]; omega
   have w2 : IntKind.i64.wrap (0 - (c + 1)) = -(c + 1) := by simp [IntKind.wrap_i64]; omega
   rw [w1, w2, if_pos hn']
   exact ⟨rfl, rfl, rfl⟩
 intro hn
 co_applyP c_skip
 change _ = _ ∧ _ = _ ∧ kn _ _
 have hn' : ¬ c < 0 := by simpa using hn
 rw [if_neg hn']
 exact ⟨rfl, rfl, rfl⟩
 rintro s'' ε'' L'' ⟨rfl, rfl, he⟩
 co_applyP wpE_kn he
 co_applyP c_seq
 co_applyP c_region
 co_applyP oy rfl E_mv
 co_applyP oy rfl E_mv
 co_applyP oy rfl E_rem
 co_applyP oy rfl E_as
 co_applyP o_nil
 change wpE ..
 co_applyP c_ret
 change ∃ v, resE .. = some v ∧ _
 refine ⟨_, rfl, rfl, ?_, rfl⟩
 unfold pickN
 rw [tmod_nat (by split <;> omega)]
def insn (op a k : Int) : List Int := [op % 256, a % 256, k % 256, (k / 256) % 256]
theorem insn_byt (op a k : Int) : Byt (insn op a k) := by
 intro n hn
 simp only [insn, List.mem_cons, List.not_mem_nil, or_false] at hn
 rcases hn with rfl | rfl | rfl | rfl <;> omega
section
variable {New : Obj → Prop} {N : Nat} {ε : Env} {L : Frag} {d : Option Tmp} {ty : TypeId} {ps : String} {af : Array Edge} {g : Option (Nat × Bool)} {P : Program}
theorem O_bs4 {t e : TypeId} {x0 x1 x2 x3 : Operand} {v0 v1 v2 v3 z : Value} (hN : New (.cells #[v0, v1, v2, v3] e)) (h0 : ev ε x0 = some v0 := by rfl) (h1 : ev ε x1 = some v1 := by rfl) (h2 : ev ε x2 = some v2 := by rfl) (h3 : ev ε x3 = some v3 := by rfl) (hu : P.underlying t = some (.slice e)) (hs : sizeAt P e = some 1) (hz : zeroAt P e = some z) (hzp : plainV z = true := by rfl) (p0 : plainV v0 = true := by rfl) (p1 : plainV v1 = true := by rfl) (p2 : plainV v2 = true := by rfl) (p3 : plainV v3 = true := by rfl) :
   EO P New N ε L ⟨d, .buildSlice t 4 #[(0, x0), (1, x1), (2, x2), (3, x3)], ty, ps, af, g⟩ (fun r L'' => ∃ b, (∀ t ∈ L, t.1 ≠ b) ∧ r = .slice (some ⟨b, 0, none⟩) 4 4 ∧ L'' = (b, true, .cells #[v0, v1, v2, v3] e) :: L) := by
 intro a ha
 simp only [execOp, List.map_toArray, List.map_cons, List.map_nil]
 unfold Instr.buildSlice newRow
 have h : Instr.fill (fun i => some (i * 1, 1)) ((Array.range (4 * 1)).map (#[z][· % #[z].size]!)) [(0, v0), (1, v1), (2, v2), (3, v3)] = some #[v0, v1, v2, v3] := by
   have e1 : (Array.range (4 * 1)).map (#[z][· % #[z].size]!) = #[z, z, z, z] := by
     have : Array.range (4 * 1) = #[0, 1, 2, 3] := by decide
     rw [this]; simp
   rw [e1]
   simp [Instr.fill, cells_plain p0, cells_plain p1, cells_plain p2, cells_plain p3]
 rw [wpS_bind, wpS_bind, wpS_underlying hu, ha.ev h0, ha.ev h1, ha.ev h2, ha.ev h3]
 simp only []
 rw [wpS_bind, wpS_sizeOf hs]
 simp only [Nat.mul_one, gt_iff_lt, Nat.reduceLT, Nat.reducePow, if_false, Nat.reduceEqDiff, reduceCtorEq, show ¬ (4 = 0) by decide]
 rw [wpS_bind, wpS_zeroValue hz, wpS_bind, wpS_pure, cells_plain hzp]
 simp only [Nat.mul_one] at h
 simp only [h, wpS_bind]
 exact wpS_newObj hN fun b hb => ⟨b, hb, rfl, rfl⟩
end
theorem insn_s : ∃ n, ∀ {σ : Type} {F : Fam σ} {Δ : ∀ s, Dom (F.R s) (F.D s)} {main : Bool} {s : σ} (L : Frag) (op a k : Int), (∀ s o, (Δ s).New o) → Fun L →
   CallsL Δ Tryz.prog main 16 [.int .i64 op, .int .i64 a, .int .i64 k].toArray n s L (fun s' v L' => s = s' ∧ v = strv (insn op a k) ∧ Ext L L') := by
 apply Exists.intro
 intro σ F Δ main s L op a k hN hF
 co_applyP callsE 18 Tryz.func16 Tryz.ntmps16
 co_applyP c_seq
 co_applyP c_region
 co_applyP oy rfl E_as
 co_applyP o_nil
 change wpE ..
 co_applyP c_seq
 co_applyP c_region
 co_applyP oy rfl E_mv
 co_applyP oy rfl (E_cv (hs := Tryz.underlying3) (ht := Tryz.underlying5))
 co_applyP oy rfl E_mv
 co_applyP oy rfl (E_cv (hs := Tryz.underlying3) (ht := Tryz.underlying5))
 co_applyP oy rfl E_mv
 co_applyP oy rfl (E_cv (hs := Tryz.underlying3) (ht := Tryz.underlying5))
 co_applyP oy rfl E_mv
 co_applyP oy rfl E_shr
 co_applyP oy rfl (E_cv (hs := Tryz.underlying3) (ht := Tryz.underlying5))
 co_applyP oadd rfl (O_bs4 (hN _ _) (hu := Tryz.underlying44) (hs := sz_5) (hz := zr_5))
 intro b L1 hA
 have e1 : k.fdiv (2 ^ min (8 : Int).toNat IntKind.i64.bits) = k / 256 := by
   rw [show (2 : Int) ^ min (8 : Int).toNat IntKind.i64.bits = 256 from rfl, Int.fdiv_eq_ediv_of_nonneg _ (by decide)]
 co_applyP oy rfl (E_cvbs (l := insn op a k) (ht := Tryz.underlying44) (he := Tryz.underlying5) (hu := Tryz.underlying9) (hm := hA.self) (hc := by show 0 + 4 ≤ 4; decide) (hl := by rw [e1]; simp [insn, IntKind.wrap_u8]))
 co_applyP oy rfl E_as
 co_applyP o_nil
 change wpE ..
 co_applyP c_ret
 change ∃ v, resE .. = some v ∧ _
 exact ⟨_, rfl, rfl, rfl, hA.fn, hA.sub⟩
end Go.Proofs.YtejkelcaljmnoaaGreatDoor
