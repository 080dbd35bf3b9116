/-
  Part 27 of the proof.
  No condition but those that each statement names.
-/
import Derived.Test.YtejkelcaljmnoaaGreatDoorHy26
import Derived.Test.YtejkelcaljmnoaaGreatDoorHy25
set_option maxRecDepth 100000
set_option linter.unusedVariables false
set_option linter.unusedSimpArgs false
set_option linter.unusedSectionVars false
namespace Go.Proofs.YtejkelcaljmnoaaGreatDoor
open Go.Conc Go.Hx Go.Lo
theorem zr_5 : zeroAt Tryz.prog 5 = some (.int .u8 0) := by kernel_rfl
theorem db_first {xs junk : List Value} {n : Nat} (hn : n ≤ xs.length) : puts (xs ++ junk).toArray 0 (xs.drop n) = (xs.drop n ++ (xs ++ junk).drop (xs.length - n)).toArray := by
 rw [puts_list _ _ _ (by simp; omega)]
 simp
theorem db_second {xs junk : List Value} {n : Nat} {z : Value} (hn : n ≤ xs.length) : puts (xs.drop n ++ (xs ++ junk).drop (xs.length - n)).toArray (xs.length - n) (List.replicate n z) = (xs.drop n ++ (List.replicate n z ++ junk)).toArray := by
 rw [puts_list _ _ _ (by simp; omega)]
 have e1 : (xs.drop n ++ (xs ++ junk).drop (xs.length - n)).take (xs.length - n) = xs.drop n := by
   rw [List.take_append_of_le_length (by simp)]
   exact List.take_of_length_le (by simp)
 have e2 : (xs.drop n ++ (xs ++ junk).drop (xs.length - n)).drop (xs.length - n + (List.replicate n z).length) = junk := by
   have e3 : (xs ++ junk).drop (xs.length - n) = xs.drop (xs.length - n) ++ junk := List.drop_append_of_le_length (by omega)
   rw [e3, ← List.append_assoc, List.drop_left' (by simp; omega)]
 rw [e1, e2, List.append_assoc]
theorem deleteB_s : ∃ n, ∀ {σ : Type} {F : Fam σ} {Δ : ∀ s, Dom (F.R s) (F.D s)} {main : Bool} {s : σ} (L : Frag) (b : Nat) (xs junk : List Value) (m : Nat), 0 < m → m ≤ xs.length → xs.length < 1000000 → xs.all plainV = true → (b, true, Obj.cells (xs ++ junk).toArray 5) ∈ L →
   CallsL Δ Tryz.prog main 172 [.slice (some ⟨b, 0, none⟩) xs.length (xs.length + junk.length), .int .i64 0, .int .i64 m].toArray n s L (fun s' v L' => s = s' ∧ v = .slice (some ⟨b, 0, none⟩) (xs.length - m) (xs.length + junk.length) ∧ Upd L b (.cells (xs.drop m ++ (List.replicate m (Value.int .u8 0) ++ junk)).toArray 5) L') := by
 apply Exists.intro
 intro σ F Δ main s L b xs junk m hm0 hm hbig hpl hb
 have hsz : (xs ++ junk).toArray.size = xs.length + junk.length := by simp
 have hcut : cutAt 0 (m : Int).toNat (xs.length + junk.length) 1 + (xs.length - (m : Int).toNat) * 1 ≤ (xs ++ junk).toArray.size := by unfold cutAt; rw [hsz]; split <;> omega
 co_applyP callsE 33 Tryz.func172 Tryz.ntmps172
 co_applyP c_seq
 co_applyP c_region
 co_applyP oy rfl E_as
 co_applyP o_nil
 change wpE ..
 co_applyP c_seq
 co_applyP c_region
 co_applyP oy rfl E_mv
 co_applyP oy rfl E_mv
 co_applyP oy rfl E_mv
 co_applyP oy rfl E_mv
 co_applyP oy rfl (E_len (hu := Tryz.underlying44))
 co_applyP oy rfl (E_sl3 Tryz.underlying44 sz_5)
 co_applyP o_nil
 change wpE ..
 co_applyP c_seq
 co_applyP c_seq
 co_applyP c_region
 co_applyP oy rfl E_mv
 co_applyP oy rfl E_mv
 co_applyP oy rfl E_eql
 co_applyP o_nil
 change wpE ..
 have e0 : ((0 : Int) == (m : Int)) = false := by simp; omega
 rw [e0]
 co_applyP c_false rfl
 co_applyP c_skip
 change wpE ..
 co_applyP c_seq
 co_applyP c_region
 co_applyP oy rfl E_mv
 co_applyP oy rfl (E_len (hu := Tryz.underlying44))
 co_applyP oy rfl E_as
 co_applyP o_nil
 change wpE ..
 co_applyP c_seq
 co_applyP c_draw [] 6 (nf := 0) mixed
 co_applyP tr (i := 0) rfl E_mv (pre_init (by simp))
 co_applyP tr (i := 1) rfl E_mv (pre_init (by simp))
 co_applyP tr (i := 2) rfl (E_slh Tryz.underlying44 sz_5) (pre_init (by simp))
 co_applyP tr (i := 3) rfl E_mv (pre_init (by simp))
 co_applyP tr (i := 4) rfl E_mv (pre_init (by simp))
 co_applyP tr (i := 5) rfl (E_sll Tryz.underlying44 sz_5) (pre_init (by simp))
 co_applyP anyE_nd
 intro hnd
 have ec0 : cutAt 0 0 (xs.length + junk.length) 1 = 0 := by unfold cutAt; split <;> omega
 have hvs : ((xs ++ junk).toArray.extract (cutAt 0 (m : Int).toNat (xs.length + junk.length) 1) (cutAt 0 (m : Int).toNat (xs.length + junk.length) 1 + (xs.length - (m : Int).toNat) * 1)).toList = xs.drop m := by
   unfold cutAt
   split
   · have : xs.length = m := by omega
     simp [this]
   · have e1 : 0 + (m : Int).toNat * 1 + (xs.length - (m : Int).toNat) * 1 - (0 + (m : Int).toNat * 1) = xs.length - m := by omega
     have e2 : 0 + (m : Int).toNat * 1 = m := by omega
     simp only [Array.toList_extract, List.extract_eq_take_drop]
     rw [e1, e2, List.drop_append_of_le_length (by omega), List.take_append_of_le_length (by simp)]
     rw [List.take_of_length_le (by simp)]
 co_applyP te (i := 6) rfl (O_api (hnd := hnd) (hu := Tryz.underlying44) (hv := Tryz.underlying44) (hs := sz_5) (hr := reads_m hb hcut) (hc := by omega) (hm := hb) (ho := by simp; unfold cutAt; split <;> split <;> omega) (hp := by rw [hvs]; rw [List.all_eq_true] at hpl ⊢; exact fun v hv => hpl v (List.mem_of_mem_drop hv)))
 rintro _ _ ⟨rfl, hU⟩
 refine ⟨pre_late (by simp), ?_⟩
 co_applyP to (i := 7) rfl (E_as) (pre_late (by simp))
 have el : (0 : Int).toNat - 0 + (xs.length - (m : Int).toNat) = xs.length - m := by simp
 have ek : xs.length + junk.length - 0 = xs.length + junk.length := rfl
 have eo : 0 + ((0 : Int).toNat - 0) * 1 = 0 := by simp
 rw [ec0, eo, hvs, db_first hm] at hU
 rw [ec0, el, ek]
 co_applyP td (by kernel_rfl)
 change wpE ..
 co_applyP c_seq
 co_applyP c_region
 co_applyP oy rfl E_mv
 co_applyP oy rfl E_mv
 co_applyP oy rfl (E_len (hu := Tryz.underlying44))
 co_applyP oy rfl E_mv
 co_applyP oy rfl (E_sllh Tryz.underlying44 sz_5)
 have ecm : cutAt 0 (((xs.length - m : Nat) : Int)).toNat (xs.length + junk.length) 1 = xs.length - m := by unfold cutAt; split <;> omega
 have en : (xs.length : Int).toNat - ((xs.length - m : Nat) : Int).toNat = m := by omega
 co_applyP oeN rfl (fun hnd => O_clr (hnd := hnd) (hu := Tryz.underlying44) (hz0 := zr_5) (hzp := rfl) (hm := hU.self) (ho := by rw [ecm, en]; simp; omega))
 rintro _ L3 ⟨rfl, hU'⟩
 co_applyP o_nil
 change wpE ..
 co_applyP c_seq
 co_applyP c_region
 co_applyP oy rfl E_mv
 co_applyP oy rfl E_as
 co_applyP o_nil
 change wpE ..
 co_applyP c_ret
 change ∃ v, resE .. = some v ∧ _
 rw [ecm, en, db_second hm] at hU'
 exact ⟨_, rfl, rfl, rfl, hU'.self, fun t ht hne => hU'.ne t (hU.ne t ht hne) hne, hU'.fn⟩
end Go.Proofs.YtejkelcaljmnoaaGreatDoor
namespace Go.Lo
open Go.Conc Go.Hx
section
variable {P : Program} {New : Obj → Prop} {N : Nat} {ε : Env} {L : Frag} {d : Option Tmp} {ty t u e : TypeId} {ps : String} {af : Array Edge} {g : Option (Nat × Bool)} {x y : Operand}
theorem O_cp {sz b o dl dc n sc : Nat} {yb : Option Addr} {vs cs : Array Value} {e' : TypeId} (hx : ev ε x = some (.slice (some ⟨b, o, none⟩) dl dc) := by rfl) (hy : ev ε y = some (.slice yb n sc) := by rfl) (hnd : (L.map (·.1)).Nodup) (hu : P.underlying t = some (.slice e)) (hs : sizeAt P e = some sz) (hr : Reads P L sz (Nat.min n dl) (.slice yb n sc) vs) (hm : (b, true, .cells cs e') ∈ L) (ho : o + vs.size ≤ cs.size) (hp : vs.toList.all plainV = true) :
   EO P New N ε L ⟨d, .call ⟨.builtin .copy, #[x, y], #[t, u]⟩, ty, ps, af, g⟩ (fun r L' => r = .int .i64 (Nat.min n dl : Nat) ∧ Upd L b (.cells (puts cs o vs.toList) e') L') := by
 intro a ha
 obtain ⟨m, hm'⟩ := List.getElem?_of_mem hm
 refine call_builtin (s := Builtin.copy_ #[t, u] ty #[.slice (some ⟨b, o, none⟩) dl dc, .slice yb n sc]) (fun _ => by simp [builtin, ha.ev hx, ha.ev hy]) ?_
 unfold Builtin.copy_
 simp only [List.getElem?_toArray, List.getElem?_cons_zero, List.getElem?_cons_succ]
 rw [wpS_bind, wpS_underlying hu]
 simp only [Builtin.lenOf]
 rw [wpS_bind, wpS_pure, wpS_bind, wpS_sizeOf hs, wpS_bind]
 refine hr.r New _ ?_
 rw [wpS_bind]
 exact wpS_storeCells hm' (by simpa using ho) hp ⟨rfl, upd_set hnd hm'⟩
end
section
variable {P : Program} {N : Nat} {ε : Env} {L : Frag} {d : Option Tmp} {ty : TypeId} {ps : String} {af : Array Edge} {g : Option (Nat × Bool)} {t e : TypeId} {x y z : Operand} {b o sz len : Nat} {k1 k2 : IntKind} {l h : Int}
theorem E_slA (hu : P.underlying t = some (.array len e)) (hs : sizeAt P e = some sz) (hx : ev ε x = some (.pointer (some ⟨b, o, none⟩)) := by rfl) (hy : ev ε y = some (.int k1 l) := by rfl) (hz : ev ε z = some (.int k2 h) := by rfl) (h0 : 0 ≤ l := by first | decide | omega) (h1 : l ≤ h := by first | decide | omega) (h2 : h ≤ len := by first | decide | omega) :
   EY P N ε L ⟨d, .slice t x (some y) (some z) none, ty, ps, af, g⟩ (.slice (some ⟨b, cutAt o l.toNat len sz, none⟩) (h.toNat - l.toNat) (len - l.toNat)) := fun _ ha => by
 refine y_of (fun _ => rfl) fun K hK => ?_
 simp only [Option.map_some, Option.map_none, ha.ev hx, ha.ev hy, ha.ev hz]
 unfold Instr.sliceAt
 rw [wpQ_bind, wpQ_underlying hu]
 simp only
 rw [wpQ_bind, wpQ_sureAddr]
 simp only [Instr.sliceBounds]
 simp only [wpQ_bind, wpQ_pure]
 refine wpQ_bound (by omega) h2 ?_
 refine wpQ_bound h0 (by omega) ?_
 rw [wpQ_sizeOf hs]
 have e1 : (if len = l.toNat then (⟨b, o, none⟩ : Addr) else (⟨b, o, none⟩ : Addr).add (l.toNat * sz)) = ⟨b, cutAt o l.toNat len sz, none⟩ := by
   unfold cutAt
   split
   · rfl
   · simp [addr_add]
 rw [e1]
 exact hK
end
end Go.Lo
namespace Go.Proofs.YtejkelcaljmnoaaGreatDoor
open Go.Conc Go.Hx Go.Lo
theorem byt_5 : bytesAt Tryz.prog 5 = some 1 := by kernel_rfl
structure ApB (L : Frag) (a : Sl) (zs : List Value) (a' : Sl) (L' : Frag) : Prop where
 ok : slOk a' zs 5 L'
 fn : Fun L'
 sub : ∀ t ∈ L, a.b ≠ some t.1 → t ∈ L'
 d : ∀ b, a'.b = some b → a.b = some b ∨ ∀ t ∈ L, t.1 ≠ b
section
variable {New : Obj → Prop} {N : Nat} {ε : Env} {L : Frag} {d : Option Tmp} {ty : TypeId} {ps : String} {af : Array Edge} {g : Option (Nat × Bool)} {x y : Operand}
theorem reads_B {a : Sl} {xs : List Value} (ha : slOk a xs 5 L) : Reads Tryz.prog L 1 xs.length (slv a xs.length) xs.toArray := by
 cases hab : a.b with
 | none =>
   unfold slOk at ha
   rw [hab] at ha
   obtain rfl : xs = [] := ha.1
   have e3 : slv a 0 = .slice none 0 0 := by unfold slv; rw [hab]
   show Reads Tryz.prog L 1 0 (slv a 0) #[]
   rw [e3]; exact reads_none
 | some b =>
   have hm := ha.mem hab
   have e3 : slv a xs.length = .slice (some ⟨b, 0, none⟩) xs.length (xs.length + a.junk.length) := by unfold slv; rw [hab]
   rw [e3]
   have := reads_m (P := Tryz.prog) (sz := 1) (n := xs.length) (len := xs.length) (cap := xs.length + a.junk.length) (o := 0) hm (by simp)
   have e7 : (xs ++ a.junk).take xs.length = xs := by rw [List.take_append_of_le_length (by simp)]; exact List.take_of_length_le (by simp)
   simpa [e7] using this
theorem O_apB {a : Sl} {xs ys : List Value} {yb : Option Addr} {yc : Nat} (hx : ev ε x = some (slv a xs.length) := by rfl) (hy : ev ε y = some (.slice yb ys.length yc) := by rfl) (hnd : (L.map (·.1)).Nodup) (hN : ∀ cs, New (.cells cs 5)) (ha : slOk a xs 5 L) (hr : Reads Tryz.prog L 1 ys.length (.slice yb ys.length yc) ys.toArray) (hpl : ys.all plainV = true) (h8 : xs.length ≤ 1000) (h8' : ys.length ≤ 1000) :
   EO Tryz.prog New N ε L ⟨d, .call ⟨.builtin .append, #[x, y], #[44, 44]⟩, ty, ps, af, g⟩ (fun r L' => ∃ a', r = slv a' (xs ++ ys).length ∧ ApB L a (xs ++ ys) a' L') := by
 have hws := reads_B ha
 have grow : ∀ (cap0 : Nat), (∃ base, slv a xs.length = .slice base xs.length cap0) → cap0 < xs.length + ys.length →
     EO Tryz.prog New N ε L ⟨d, .call ⟨.builtin .append, #[x, y], #[44, 44]⟩, ty, ps, af, g⟩ (fun r L' => ∃ a', r = slv a' (xs ++ ys).length ∧ ApB L a (xs ++ ys) a' L') := by
   rintro cap0 ⟨base, hb⟩ hc
   rw [hb] at hws hx
   intro ac hac
   refine wpS_mono ?_ _ _ (O_apn (by_ := 0) (New := New) hx hy (fun_of_nd hnd) Tryz.underlying44 Tryz.underlying44 sz_5 byt_5 zr_5 hws hr hc (by omega) hN ac hac)
   intro r L' q
   cases r <;> try exact q.elim
   · obtain ⟨b, cap, h1, h2, rfl, hA⟩ := q
     rw [zeroCells1 rfl] at hA
     refine ⟨⟨some b, List.replicate (cap - (xs.length + ys.length)) (.int .u8 0)⟩, ?_, ?_, hA.fn, fun t ht _ => hA.sub t ht, fun b' hb' => .inr ?_⟩
     · unfold slv; simp; omega
     · have e5 : xs.toArray ++ ys.toArray ++ (List.replicate (cap - (xs.length + ys.length)) (Value.int .u8 0)).toArray = ((xs ++ ys) ++ List.replicate (cap - (xs.length + ys.length)) (Value.int .u8 0)).toArray := by
         apply Array.ext'; simp
       rw [e5] at hA
       exact hA.self
     · obtain rfl : b = b' := by simpa using hb'
       exact hA.new
   · obtain ⟨b, cap, _, _, e, _⟩ := q; cases e
 cases hab : a.b with
 | none =>
   have h2 := ha
   unfold slOk at h2
   rw [hab] at h2
   obtain ⟨e1, e2⟩ := h2
   obtain rfl : xs = [] := e1
   have e3 : slv a 0 = .slice none 0 0 := by unfold slv; rw [hab]
   by_cases h0 : 0 < ys.length
   · exact grow 0 ⟨none, e3⟩ (by simpa using h0)
   · obtain rfl : ys = [] := List.length_eq_zero_iff.1 (by omega)
     intro ac hac
     rw [List.length_nil, e3] at hx
     refine wpS_mono ?_ _ _ (O_ap00 (New := New) hx hy Tryz.underlying44 Tryz.underlying44 sz_5 hr ac hac)
     intro r L' q
     cases r <;> try exact q.elim
     · obtain ⟨rfl, rfl⟩ := q
       exact ⟨a, e3.symm, ha, fun_of_nd hnd, fun t ht _ => ht, fun b hb => by rw [hab] at hb; cases hb⟩
     · exact absurd q.1 (by simp [undef])
 | some b =>
   have hm := ha.mem hab
   have e3 : slv a xs.length = .slice (some ⟨b, 0, none⟩) xs.length (xs.length + a.junk.length) := by unfold slv; rw [hab]
   by_cases hj : ys.length ≤ a.junk.length
   · intro ac hac
     rw [e3] at hx
     refine wpS_mono ?_ _ _ (O_api (New := New) hx hy hnd Tryz.underlying44 Tryz.underlying44 sz_5 hr (by omega) hm (by simp; omega) (by simpa using hpl) ac hac)
     intro r L' q
     cases r <;> try exact q.elim
     · obtain ⟨rfl, hU⟩ := q
       have e4 : puts (xs ++ a.junk).toArray (0 + xs.length * 1) ys.toArray.toList = ((xs ++ ys) ++ a.junk.drop ys.length).toArray := by
         rw [puts_list _ _ _ (by simp; omega)]
         have e6 : (xs ++ a.junk).drop (xs.length + ys.length) = a.junk.drop ys.length := by
           rw [List.drop_append]; simp
         have e7 : (xs ++ a.junk).take xs.length = xs := by rw [List.take_append_of_le_length (by simp)]; exact List.take_of_length_le (by simp)
         simp [e6, e7]
       rw [e4] at hU
       refine ⟨⟨some b, a.junk.drop ys.length⟩, ?_, hU.self, hU.fn, fun t ht hne => hU.ne t ht fun e => hne (by rw [hab, e]), fun b' hb' => .inl (by rw [hab]; exact hb')⟩
       unfold slv; simp; omega
     · exact absurd q.1 (by simp [undef])
   · exact grow (xs.length + a.junk.length) ⟨_, e3⟩ (by omega)
end
def Lay.setY (A : Lay) (i : Nat) (a : Sl) : Lay := { A with y := put A.y i a }
def St.setY (S : St) (i : Nat) (ys : List Int) : St := { S with by_ := put S.by_ i ys }
section
variable {K : Nat} {A : Lay} {S : St} {F L L' : Frag}
theorem Rep.setBytes (h : Rep K A S F L) {i : Nat} (hi : i < 5) {a' : Sl} {ys : List Int} (hf : Fun L') (hk : kb K (kst (A.setY i a') (S.setY i ys)) ∈ L') (hs : ∀ t ∈ L, t.1 ≠ K → (A.y i).b ≠ some t.1 → t ∈ L') (ha : slOk a' (ys.map fun v => .int .u8 v) 5 L')
   (hd : ∀ b, a'.b = some b → (A.y i).b = some b ∨ ((∀ j, (A.y j).b ≠ some b) ∧ ∀ t ∈ F, t.1 ≠ b)) : Rep K (A.setY i a') (S.setY i ys) F L' := by
 have ty : ∀ {b : Nat} {fl : Bool} {o : Obj}, (b, fl, o) ∈ L → (∀ c, o ≠ Obj.cells c 5) → (A.y i).b ≠ some b := fun hm ho hb => by
   obtain ⟨xs, hx⟩ := h.yl _ _ hb
   exact ho _ (h.fn _ _ _ _ _ hm hx).2
 have arr : ∀ (a : Sl) (xs : List Value) (e : TypeId), e ≠ 115 → (∀ b, a.b = some b → (A.y i).b ≠ some b) → slOk a xs e L → slOk a xs e L' := fun a xs e he hne ha => by
   refine ha.mono fun c hc o ho => hs _ ho ?_ (hne c hc)
   exact h.fn.ne (ha.mem hc) h.k (cells_ne he)
 have hdn : ∀ j, j ≠ i → ∀ b, (A.y j).b = some b → (A.y i).b ≠ some b := fun j hj b hb e => h.dy j i hj (by rw [hb]; simp) (by rw [hb, e])
 have pA : ∀ j, j ≠ i → (A.setY i a').y j = A.y j := fun j hj => by simp [Lay.setY, put, hj]
 have pS : (A.setY i a').y i = a' := by simp [Lay.setY, put]
 have sS : (S.setY i ys).by_ i = ys := by simp [St.setY, put]
 have sA : ∀ j, j ≠ i → (S.setY i ys).by_ j = S.by_ j := fun j hj => by simp [St.setY, put, hj]
 exact { h with
   fn := hf
   k := hk
   g := hs _ h.g (h.fn.ne h.g h.k (cells_ne (by decide))) (ty h.g fun c => cells_ne (by decide))
   p := fun q hq => hs _ (h.p q hq) (h.fn.ne (h.p q hq) h.k (cells_ne (by decide))) (ty (h.p q hq) fun c => cells_ne (by decide))
   pa := arr _ _ _ (by decide) (fun b hb => ty (h.pa.mem hb) fun c => cells_ne (by decide)) h.pa
   rw := fun l hl => arr _ _ _ (by decide) (fun b hb => ty ((h.rw l hl).mem hb) fun c => cells_ne (by decide)) (h.rw l hl)
   ya := fun j hj => by
     by_cases e : j = i
     · subst e; rw [pS, sS]; exact ha
     · rw [pA j e, sA j e]; exact arr _ _ _ (by decide) (hdn j e) (h.ya j hj)
   w := hs _ h.w (h.fn.ne h.w h.k (by simp [wobj])) (ty h.w fun c => by simp [wobj])
   wa := fun e he => arr _ _ _ (by decide) (fun b hb => ty ((h.wa e he).mem hb) fun c => cells_ne (by decide)) (h.wa e he)
   al := fun j c hc => by
     obtain ⟨xs, hx⟩ := h.al j c hc
     exact ⟨xs, hs _ hx (h.fn.ne hx h.k (cells_ne (by decide))) (ty hx fun c => cells_ne (by decide))⟩
   yl := fun j c hc => by
     by_cases e : j = i
     · subst e; rw [pS] at hc; exact ⟨_, ha.mem hc⟩
     · rw [pA j e] at hc
       obtain ⟨xs, hx⟩ := h.yl j c hc
       exact ⟨xs, hs _ hx (h.fn.ne hx h.k (cells_ne (by decide))) (hdn j e c hc)⟩
   dy := fun j m hjm hj => by
     by_cases ej : j = i
     · subst ej
       rw [pA m (Ne.symm hjm), pS]
       rw [pS] at hj
       intro e
       cases hb : a'.b with
       | none => exact hj hb
       | some b =>
         rcases hd b hb with h1 | h1
         · exact h.dy j m hjm (by rw [h1]; simp) (by rw [h1, ← e, hb])
         · exact h1.1 m (by rw [← e, hb])
     · rw [pA j ej]
       rw [pA j ej] at hj
       by_cases em : m = i
       · subst em
         rw [pS]
         intro e
         cases hb : a'.b with
         | none => rw [hb] at e; exact hj e
         | some b =>
           rcases hd b hb with h1 | h1
           · exact h.dy j m ej hj (by rw [h1, e, hb])
           · exact h1.1 j (by rw [e, hb])
       · rw [pA m em]; exact h.dy j m hjm hj
   fr := fun t ht => hs _ (h.fr t ht) (h.fd t ht).1 ((h.fd t ht).2.2.2.1 _)
   fd := fun t ht => by
     refine ⟨(h.fd t ht).1, (h.fd t ht).2.1, (h.fd t ht).2.2.1, fun j => ?_, (h.fd t ht).2.2.2.2⟩
     by_cases ej : j = i
     · subst ej
       rw [pS]
       intro e
       rcases hd _ e with h1 | h1
       · exact (h.fd t ht).2.2.2.1 _ h1
       · exact h1.2 t ht rfl
     · rw [pA j ej]; exact (h.fd t ht).2.2.2.1 j }
theorem kset_by (k : KS) {i : Nat} (hi : i < 5) (v : Value) : (kcells k).setIfInBounds (10 + i) v = kcells { k with by_ := put k.by_ i v } := by
 rcases i with _ | _ | _ | _ | _ | i
 · rfl
 · rfl
 · rfl
 · rfl
 · rfl
 · omega
theorem kst_by (A : Lay) (S : St) (i : Nat) (a' : Sl) (ys : List Int) : kst (A.setY i a') (S.setY i ys) = { kst A S with by_ := put (kst A S).by_ i (slv a' ys.length) } := by
 unfold kst Lay.setY St.setY
 simp only [KS.mk.injEq, true_and]
 refine ⟨?_, trivial⟩
 funext j
 unfold put
 by_cases e : j = i
 · subst e; simp
 · simp [e]
end
def PS.poke (x : PS) (i : Nat) : List Int → PS
 | [] => x
 | v :: vs => PS.poke { x with m := put x.m i v } (i + 1) vs
theorem puts_m : ∀ (vs : List Int) (x : PS) (i : Nat), i + vs.length ≤ 64 → puts (pcells x) (15 + i) (vs.map fun v => Value.int .u8 v) = pcells (x.poke i vs)
 | [], _, _, _ => rfl
 | v :: vs, x, i, h => by
   simp only [List.length_cons] at h
   show puts ((pcells x).setIfInBounds (15 + i) (.int .u8 v)) (15 + i + 1) (vs.map fun v => Value.int .u8 v) = _
   rw [pset_m x (by omega), show 15 + i + 1 = 15 + (i + 1) by omega]
   exact puts_m vs _ (i + 1) (by omega)
def PS.peek (x : PS) (i n : Nat) : List Int := (List.range n).map fun j => x.m (i + j)
theorem ext_m (x : PS) {i n : Nat} (h : i + n ≤ 64) : (pcells x).extract (15 + i) (15 + i + n) = ((x.peek i n).map fun v => Value.int .u8 v).toArray := by
 apply Array.ext
 · simp [PS.peek, psize]; omega
 · intro j h1 h2
   have hj : j < n := by simpa [PS.peek] using h2
   have := pget_m x (i := i + j) (by omega)
   rw [show 15 + (i + j) = 15 + i + j by omega] at this
   obtain ⟨_, he⟩ := Array.getElem?_eq_some_iff.1 this
   simp only [Array.getElem_extract, he]
   simp [PS.peek]
section
variable {P : Program} {N : Nat} {ε : Env} {L : Frag} {d : Option Tmp} {ty : TypeId} {ps : String} {af : Array Edge} {g : Option (Nat × Bool)}
theorem E_sle {t : TypeId} {x y z u : Operand} {w l h m v : Value} (hv : evR P (Instr.sliceAt t w (some l) (some h) (some m)) [] = some (v, [])) (hx : ev ε x = some w := by rfl) (hy : ev ε y = some l := by rfl) (hz : ev ε z = some h := by rfl) (hu : ev ε u = some m := by rfl) : EY P N ε L ⟨d, .slice t x (some y) (some z) (some u), ty, ps, af, g⟩ v := fun a ha => by
 refine y_of (fun _ => rfl) fun K hK => ?_
 simp only [Option.map_some, ha.ev hx, ha.ev hy, ha.ev hz, ha.ev hu]
 exact wpQ_ev0 hv hK
end
theorem sl44n : evR Tryz.prog (Instr.sliceAt 44 (.slice none 0 0) (some (.int .i64 0)) (some (.int .i64 0)) (some (.int .i64 0))) [] = some (.slice none 0 0, []) := by kernel_rfl
theorem deleteB_n : ∃ n, ∀ {σ : Type} {F : Fam σ} {Δ : ∀ s, Dom (F.R s) (F.D s)} {main : Bool} {s : σ} (L : Frag),
   CallsL Δ Tryz.prog main 172 [.slice none 0 0, .int .i64 0, .int .i64 0].toArray n s L (fun s' v L' => s = s' ∧ L = L' ∧ v = .slice none 0 0) := by
 apply Exists.intro
 intro σ F Δ main s L
 co_applyP callsE 33 Tryz.func172 Tryz.ntmps172
 co_applyP c_seq
 co_applyP c_region
 co_applyP oy rfl E_as
 co_applyP o_nil
 change wpE ..
 co_applyP c_seq
 co_applyP c_region
 co_applyP oy rfl E_mv
 co_applyP oy rfl E_mv
 co_applyP oy rfl E_mv
 co_applyP oy rfl E_mv
 co_applyP oy rfl (E_len (hu := Tryz.underlying44))
 co_applyP oy rfl (E_sle sl44n)
 co_applyP o_nil
 change wpE ..
 co_applyP c_seq (n₂ := 0)
 co_applyP c_seq
 co_applyP c_region
 co_applyP oy rfl E_mv
 co_applyP oy rfl E_mv
 co_applyP oy rfl E_eql
 co_applyP o_nil
 change wpE ..
 co_applyP c_true rfl
 co_applyP c_seq
 co_applyP c_region
 co_applyP oy rfl E_mv
 co_applyP oy rfl E_as
 co_applyP o_nil
 change wpE ..
 co_applyP c_ret
 change ∃ v, resE .. = some v ∧ _
 exact ⟨_, rfl, rfl, rfl, rfl⟩
theorem deleteB_0 : ∃ n, ∀ {σ : Type} {F : Fam σ} {Δ : ∀ s, Dom (F.R s) (F.D s)} {main : Bool} {s : σ} (L : Frag) (b len cap : Nat), len ≤ cap →
   CallsL Δ Tryz.prog main 172 [.slice (some ⟨b, 0, none⟩) len cap, .int .i64 0, .int .i64 0].toArray n s L (fun s' v L' => s = s' ∧ L = L' ∧ v = .slice (some ⟨b, 0, none⟩) len cap) := by
 apply Exists.intro
 intro σ F Δ main s L b len cap hc
 co_applyP callsE 33 Tryz.func172 Tryz.ntmps172
 co_applyP c_seq
 co_applyP c_region
 co_applyP oy rfl E_as
 co_applyP o_nil
 change wpE ..
 co_applyP c_seq
 co_applyP c_region
 co_applyP oy rfl E_mv
 co_applyP oy rfl E_mv
 co_applyP oy rfl E_mv
 co_applyP oy rfl E_mv
 co_applyP oy rfl (E_len (hu := Tryz.underlying44))
 co_applyP oy rfl (E_sl3 Tryz.underlying44 sz_5)
 co_applyP o_nil
 change wpE ..
 co_applyP c_seq (n₂ := 0)
 co_applyP c_seq
 co_applyP c_region
 co_applyP oy rfl E_mv
 co_applyP oy rfl E_mv
 co_applyP oy rfl E_eql
 co_applyP o_nil
 change wpE ..
 co_applyP c_true rfl
 co_applyP c_seq
 co_applyP c_region
 co_applyP oy rfl E_mv
 co_applyP oy rfl E_as
 co_applyP o_nil
 change wpE ..
 co_applyP c_ret
 change ∃ v, resE .. = some v ∧ _
 exact ⟨_, rfl, rfl, rfl, rfl⟩
theorem deleteB : ∃ n, ∀ {σ : Type} {F : Fam σ} {Δ : ∀ s, Dom (F.R s) (F.D s)} {main : Bool} {s : σ} (L : Frag) (a : Sl) (xs : List Value) (m : Nat), Fun L → m ≤ xs.length → xs.length < 1000000 → xs.all plainV = true → slOk a xs 5 L →
   CallsL Δ Tryz.prog main 172 [slv a xs.length, .int .i64 0, .int .i64 m].toArray n s L (fun s' v L' => s = s' ∧ ∃ a', v = slv a' (xs.length - m) ∧ ApB L a (xs.drop m) a' L' ∧ a'.b = a.b) := by
 obtain ⟨n0, g0⟩ := deleteB_n
 obtain ⟨n1, g1⟩ := deleteB_0
 obtain ⟨n2, g2⟩ := deleteB_s
 refine ⟨n0 + (n1 + n2), fun {σ F Δ main s} L a xs m hF hm hbig hpl ha => callsL_split (a.b = none) (fun h => ?_) fun h => callsL_split (m = 0) (fun h0 => ?_) fun h0 => ?_⟩
 · have ha' := ha
   unfold slOk at ha'
   rw [h] at ha'
   obtain rfl : xs = [] := ha'.1
   obtain rfl : m = 0 := by simpa using hm
   have e : slv a ([] : List Value).length = .slice none 0 0 := by unfold slv; rw [h]
   rw [e]
   refine callsL_post (g0 L) fun s' v L' ⟨h1, h2, h3⟩ => ?_
   subst h2
   exact ⟨h1, a, by rw [h3]; exact e.symm, ⟨ha, hF, fun t ht _ => ht, fun b hb => .inl hb⟩, rfl⟩
 · obtain ⟨b, hb⟩ : ∃ b, a.b = some b := by
     cases hb : a.b with
     | none => exact absurd hb h
     | some b => exact ⟨b, rfl⟩
   subst h0
   have e : slv a xs.length = .slice (some ⟨b, 0, none⟩) xs.length (xs.length + a.junk.length) := by unfold slv; rw [hb]
   rw [e]
   refine callsL_post (g1 L b xs.length (xs.length + a.junk.length) (by omega)) fun s' v L' ⟨h1, h2, h3⟩ => ?_
   subst h2
   exact ⟨h1, a, by rw [h3, Nat.sub_zero]; exact e.symm, ⟨ha, hF, fun t ht _ => ht, fun b hb => .inl hb⟩, rfl⟩
 · obtain ⟨b, hb⟩ : ∃ b, a.b = some b := by
     cases hb : a.b with
     | none => exact absurd hb h
     | some b => exact ⟨b, rfl⟩
   have e : slv a xs.length = .slice (some ⟨b, 0, none⟩) xs.length (xs.length + a.junk.length) := by unfold slv; rw [hb]
   rw [e]
   refine callsL_post (g2 L b xs a.junk m (by omega) hm hbig hpl (ha.mem hb)) fun s' v L' ⟨h1, h2, h3⟩ => ?_
   refine ⟨h1, ⟨some b, List.replicate m (Value.int .u8 0) ++ a.junk⟩, ?_, ⟨h3.self, h3.fn, fun t ht hne => h3.ne _ ht fun e => hne (by rw [hb, e]), fun b' hb' => .inl (by rw [hb]; exact hb')⟩, hb.symm⟩
   rw [h2]; unfold slv; simp; omega
end Go.Proofs.YtejkelcaljmnoaaGreatDoor
