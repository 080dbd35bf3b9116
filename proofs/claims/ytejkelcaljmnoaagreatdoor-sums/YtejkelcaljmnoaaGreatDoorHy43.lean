/-
  Part 43 of the proof.
  No condition but those that each statement names.
-/
import Derived.Test.YtejkelcaljmnoaaGreatDoorHy42
set_option maxRecDepth 100000
set_option linter.unusedVariables false
set_option linter.unusedSimpArgs false
set_option linter.unusedSectionVars false
namespace Go.Proofs.YtejkelcaljmnoaaGreatDoor
open Go.Conc Go.Hx Go.Lo
section
variable {S S' : St} {b : Nat} {x x' : PS} {P : Nat → Prop} {N : Nat → Nat}
theorem MI.wakes : ∀ (bs : List Nat) {S : St}, MI P N S → MI P N (S.wakes bs)
 | [], _, h => h
 | b :: bs, S, h => by
   unfold St.wakes
   refine MI.wakes bs ?_
   cases hg : S.get b with
   | none => exact h
   | some x =>
     simp only
     split
     · rename_i h3
       have hb := mem_of_get hg
       exact h.wake1 hb (h.i.out_st hb (by omega) (by omega) (by omega)) (by omega)
     · exact h
theorem raises_ps (S : St) : ∀ n, (S.raises n).ps = S.ps ∧ (S.raises n).wt = S.wt ∧ (S.raises n).by_ = S.by_ ∧ (S.raises n).last = S.last ∧ (S.raises n).now = S.now
 | 0 => ⟨rfl, rfl, rfl, rfl, rfl⟩
 | n + 1 => raises_ps S n
theorem raises_hi (S : St) (h : ∀ l, 3 ≤ l → S.rows l = []) : ∀ n, n < 3 → ∀ l, 3 ≤ l → (S.raises n).rows l = []
 | 0, _ => h
 | n + 1, hn => fun l hl => by
   show put (put (S.raises n).rows 0 _) (n + 1) [] l = []
   rw [put_hi hn l hl, put_hi (by omega) l hl]
   exact raises_hi S h n (by omega) l hl
theorem liftP_like (x : PS) : (liftP x).st = x.st ∧ (liftP x).id = x.id ∧ (liftP x).par = x.par ∧ (liftP x).r = x.r ∧ (liftP x).m = x.m ∧ (liftP x).f = x.f ∧ (liftP x).used ≤ x.used := by
 unfold liftP
 split
 · exact ⟨rfl, rfl, rfl, rfl, rfl, rfl, Nat.zero_le _⟩
 · exact ⟨rfl, rfl, rfl, rfl, rfl, rfl, Nat.le_refl _⟩
theorem MI.raised (h : MI P N S) : MI P N ((S.lifts (S.ps.map (·.1))).raises 2) := by
 have hG := h.i.g.raise
 have e := lifts_all h.i.g.pn
 obtain ⟨r1, r2, r3, r4, r5⟩ := raises_ps (S.lifts (S.ps.map (·.1))) 2
 rw [e] at r1 r2 r3 r4 r5
 rw [e] at hG ⊢
 generalize hT : (S.setPs (S.ps.map fun q => (q.1, liftP q.2))).raises 2 = T at *
 have cs : ∀ q ∈ T.ps, ∃ r ∈ S.ps, q = (r.1, liftP r.2) := fun q hq => by
   rw [r1] at hq
   obtain ⟨r, hr, e⟩ := List.mem_map.1 hq
   exact ⟨r, hr, e.symm⟩
 have to : ∀ c y, (c, y) ∈ S.ps → (c, liftP y) ∈ T.ps := fun c y hy => by rw [r1]; exact List.mem_map.2 ⟨(c, y), hy, rfl⟩
 have w : T.wt = S.wt := r2
 refine ⟨{ g := hG, wf := ?_, fl := ?_, y8 := by rw [r3]; exact h.i.y8, yb := by rw [r3]; exact h.i.yb, kn := by rw [w]; exact h.i.kn, ne := by rw [w]; exact h.i.ne, nd := by rw [w]; exact h.i.nd, ke := by rw [w]; exact h.i.ke, rm := ?_ }, ?_, ⟨?_, ?_, ?_, ?_, ?_, ?_, ?_⟩⟩
 · intro q hq
   obtain ⟨r, hr, rfl⟩ := cs q hq
   obtain ⟨_, _, _, l4, l5, _, _⟩ := liftP_like r.2
   exact ⟨by rw [l4]; exact (h.i.wf r hr).r, by rw [l5]; exact (h.i.wf r hr).m⟩
 · intro q hq
   obtain ⟨r, hr, rfl⟩ := cs q hq
   obtain ⟨_, _, _, _, _, l6, _⟩ := liftP_like r.2
   simp only
   rw [l6]; exact h.i.fl r hr
 · intro e he c hc
   rw [w] at he
   obtain ⟨y, hy, ha⟩ := h.i.rm e he c hc
   obtain ⟨l1, _, _, l4, _, l6, _⟩ := liftP_like y
   refine ⟨liftP y, to c y hy, ?_, by rw [l4]; exact ha.a, by rw [l4]; exact ha.w, by rw [l1]; exact ha.s⟩
   have := ha.f
   unfold PS.file at *
   rw [l4, l6]; exact this
 · intro e he c hc y hy h1
   rw [w] at he
   obtain ⟨r, hr, e2⟩ := cs _ hy
   have e3 : c = r.1 := congrArg Prod.fst e2
   have e4 : y = liftP r.2 := congrArg Prod.snd e2
   rw [e4, (liftP_like r.2).1] at h1
   exact h.c e he c hc r.2 (by rw [e3]; exact hr) h1
 · intro q hq
   obtain ⟨r, hr, rfl⟩ := cs q hq
   rw [r5]
   exact Nat.le_trans (liftP_like r.2).2.2.2.2.2.2 (h.x.un r hr)
 · intro q hq r hr e
   obtain ⟨q', hq', rfl⟩ := cs q hq
   obtain ⟨r', hr', rfl⟩ := cs r hr
   simp only at e
   rw [(liftP_like q'.2).2.1, (liftP_like r'.2).2.1] at e
   rw [h.x.idn q' hq' r' hr' e]
 · intro q hq
   obtain ⟨r, hr, rfl⟩ := cs q hq
   simp only
   rw [(liftP_like r.2).2.1, r4]
   exact h.x.idr r hr
 · obtain ⟨q, hq, h1⟩ := h.x.p1
   exact ⟨(q.1, liftP q.2), to q.1 q.2 hq, by simp only; rw [(liftP_like q.2).2.1]; exact h1⟩
 · intro q hq
   obtain ⟨r, hr, rfl⟩ := cs q hq
   simp only
   rw [(liftP_like r.2).2.1, (liftP_like r.2).2.2.1]
   exact h.x.p0 r hr
 · rw [← hT]; exact raises_hi _ h.x.r3 2 (by omega)
 · intro q hq
   obtain ⟨r, hr, rfl⟩ := cs q hq
   simp only
   rw [(liftP_like r.2).2.1]
   exact h.x.nm r hr
theorem MI.boost (h : MI P N S) : MI P N S.boost := by
 unfold St.boost
 split
 · exact h.raised
 · exact h
theorem MI.lead (h : MI P N S) : MI P N S.lead := MI.boost (MI.wakes _ h)
def St.later (S : St) : St := { S with now := S.now + 1 }
theorem MI.later (h : MI P N S) : MI P N S.later where
 i := ⟨⟨h.i.g.pn, h.i.g.p8, h.i.g.lv, h.i.g.rn, h.i.g.rm, h.i.g.rr⟩, h.i.wf, h.i.fl, h.i.y8, h.i.yb, h.i.kn, h.i.ne, h.i.nd, h.i.ke, h.i.rm⟩
 c := h.c
 x := ⟨fun q hq => Nat.le_succ_of_le (h.x.un q hq), h.x.idn, h.x.idr, h.x.p1, h.x.p0, h.x.r3, h.x.nm⟩
theorem after_later (S : St) (b : Nat) : (S.after b).later = S.later.after b := by
 unfold St.after
 have e : S.later.get b = S.get b := rfl
 rw [e]
 cases S.get b with
 | none => rfl
 | some z =>
   simp only
   split
   · show ((S.setP b z.more).turn b z.more).later = (S.later.setP b z.more).turn b z.more
     unfold St.turn
     have e2 : (S.later.setP b z.more).sl = (S.setP b z.more).sl := rfl
     rw [e2]
     split <;> rfl
   · rfl
theorem MI.after (h : MI (fun _ => False) N S) (b : Nat) : MI (fun _ => False) N (S.after b).later := by
 rw [after_later]
 have h1 := h.later
 unfold St.after
 cases hg : S.later.get b with
 | none => exact h1
 | some z =>
   simp only
   have hb := mem_of_get hg
   have hu : z.more.used ≤ S.later.now := Nat.succ_le_succ (h.x.un (b, z) hb)
   have hst : S.later.out b ∨ False ∨ z.more.st ≠ 1 := by
     by_cases e : z.st = 1
     · exact .inl (h1.out hb e)
     · exact .inr (.inr e)
   have h2 : MI (fun _ => False) N (S.later.setP b z.more) := ⟨h1.i.alike hb rfl rfl rfl rfl rfl, h1.c.setP hst, h1.x.setP h1.i.g.pn hb rfl Iff.rfl hu⟩
   split
   · rename_i e1
     have hb2 : (b, z.more) ∈ (S.later.setP b z.more).ps := mem_setP_self hb
     have ho : (S.later.setP b z.more).out b := h1.out hb e1
     unfold St.turn
     split
     · exact h2
     · exact h2.move (x' := { z.more with lv := min (z.more.lv + 1) 2, used := 0 }) hb2 ho e1 e1 (by show min (z.lv + 1) 2 < 3; omega) ⟨(h1.i.wf _ hb).r, (h1.i.wf _ hb).m⟩ (h1.i.fl (b, z) hb) rfl rfl (Nat.zero_le _)
   · exact h2
structure TI (N : Nat → Nat) (S : St) : Prop where
 m : MI (fun _ => False) N S
 p : Coded S
 bo : S.bo ≠ 0
 ls : S.last ≤ S.now + 1
theorem TI.coded_lead (h : TI N S) : Coded S.lead := by
 have hf := fix_lead S
 unfold Coded
 rw [hf.pn, hf.pg]
 exact h.p
theorem first_mem (hG : Good S) (hf : S.first = some b) : ∃ x, (b, x) ∈ S.ps ∧ x.st = 1 := by
 unfold St.first at hf
 have hm := List.mem_of_head? hf
 rcases List.mem_append.1 hm with h | h
 · obtain ⟨y, hy, _, h2⟩ := hG.rm 0 (by omega) b h
   exact ⟨y, hy, h2⟩
 · rcases List.mem_append.1 h with h | h
   · obtain ⟨y, hy, _, h2⟩ := hG.rm 1 (by omega) b h
     exact ⟨y, hy, h2⟩
   · obtain ⟨y, hy, _, h2⟩ := hG.rm 2 (by omega) b h
     exact ⟨y, hy, h2⟩
theorem lead_last (S : St) : S.lead.last = S.last := by
 have h1 : ∀ (bs : List Nat) (S : St), (S.wakes bs).last = S.last := by
   intro bs
   induction bs with
   | nil => intro S; rfl
   | cons b bs ih =>
     intro S
     unfold St.wakes
     rw [ih]
     split
     · split <;> rfl
     · rfl
 have h2 : ∀ (bs : List Nat) (S : St), (S.lifts bs).last = S.last := by
   intro bs
   induction bs with
   | nil => intro S; rfl
   | cons b bs ih =>
     intro S
     unfold St.lifts
     rw [ih]
     split
     · split <;> rfl
     · rfl
 unfold St.lead St.boost
 split
 · rw [(raises_ps _ 2).2.2.2.1, h2]; exact h1 _ S
 · exact h1 _ S
theorem TI.running (h : TI N S) (hn : S.now < 2305843009213693952) (hf : S.lead.first = some b) (hb : (b, x) ∈ S.lead.ps) : Running S.lead b x := by
 have hl := h.m.lead
 obtain ⟨y, hy, h1⟩ := first_mem hl.i.g hf
 obtain rfl := nodup_val hl.i.g.pn hb hy
 have hfx := fix_lead S
 exact ⟨hl.i, hb, h1, hl.out hb h1, by rw [hfx.now]; omega, by rw [lead_last]; have := h.ls; omega⟩
theorem TI.idle (h : TI N S) : TI N S.lead.later := by
 have hfx := fix_lead S
 refine ⟨h.m.lead.later, h.coded_lead, by show S.lead.bo ≠ 0; rw [hfx.bo]; exact h.bo, ?_⟩
 show S.lead.last ≤ S.lead.now + 1 + 1
 rw [lead_last, hfx.now]
 have := h.ls
 omega
theorem TI.ran (h : TI N S) (hf : S.lead.first = some b) (hb : (b, x) ∈ S.lead.ps) {c : Nat} (hc : ∀ q ∈ S.lead.ps, c ≠ q.1) (hN : N c = S.last + 1) : TI N ((S.lead.runS b x c).after b).later := by
 have hfx := fix_lead S
 have hl := h.m.lead
 obtain ⟨y, hy, h1⟩ := first_mem hl.i.g hf
 obtain rfl := nodup_val hl.i.g.pn hb hy
 have hr := fix_run S.lead b x c
 have ha := fl_after (S.lead.runS b x c) b
 refine ⟨(hl.runS h.coded_lead hb h1 hc (by rw [lead_last]; exact hN)).after b, ?_, ?_, ?_⟩
 · show Coded ((S.lead.runS b x c).after b)
   unfold Coded
   rw [ha.pn, ha.pg, hr.1.pn, hr.1.pg]
   exact h.coded_lead
 · show ((S.lead.runS b x c).after b).bo ≠ 0
   rw [ha.bo, hr.1.bo, hfx.bo]; exact h.bo
 · show ((S.lead.runS b x c).after b).last ≤ ((S.lead.runS b x c).after b).now + 1 + 1
   rw [ha.last, ha.now, hr.1.now, hfx.now]
   have := hr.2
   rw [lead_last] at this
   have := h.ls
   omega
end
abbrev Inj (ρ : Nat → Nat) : Prop := ∀ a b, ρ a = ρ b → a = b
def mapW (ρ : Nat → Nat) (l : Wt) : Wt := l.map fun e => (e.1, e.2.map ρ)
def St.map (ρ : Nat → Nat) (S : St) : St := { S with ps := S.ps.map fun q => (ρ q.1, q.2), rows := fun l => (S.rows l).map ρ, wt := mapW ρ S.wt }
section
variable {ρ : Nat → Nat} {S S' : St} {b : Nat} {x : PS} {k : Nat × Nat}
theorem map_fst (ρ : Nat → Nat) (S : St) : (S.map ρ).ps.map (·.1) = (S.ps.map (·.1)).map ρ := by
 simp [St.map, List.map_map, Function.comp]
theorem get_map (h : Inj ρ) (S : St) (b : Nat) : (S.map ρ).get (ρ b) = S.get b := by
 unfold St.get
 show ((S.ps.map fun q => (ρ q.1, q.2)).find? fun q => q.1 == ρ b).map (·.2) = _
 rw [List.find?_map]
 have e : ((fun q : Nat × PS => q.1 == ρ b) ∘ fun q : Nat × PS => (ρ q.1, q.2)) = fun q => q.1 == b := by
   funext q
   simp only [Function.comp]
   rw [Bool.eq_iff_iff]
   simp only [beq_iff_eq]
   exact ⟨fun e => h _ _ e, fun e => by rw [e]⟩
 rw [e, Option.map_map]
 cases S.ps.find? fun q => q.1 == b <;> rfl
theorem setP_map (h : Inj ρ) (S : St) (b : Nat) (x : PS) : (S.map ρ).setP (ρ b) x = (S.setP b x).map ρ := by
 unfold St.setP St.map
 simp only [List.map_map]
 congr 1
 apply List.map_congr_left
 intro q _
 simp only [Function.comp]
 by_cases e : q.1 = b
 · rw [if_pos e, if_pos (by rw [e])]
 · rw [if_neg e, if_neg (fun e' => e (h _ _ e'))]
theorem setRow_map (S : St) (l : Nat) (xs : List Nat) : (S.map ρ).setRow l (xs.map ρ) = (S.setRow l xs).map ρ := by
 unfold St.setRow St.map
 congr 1
 funext j
 by_cases e : j = l
 · simp [put, e]
 · simp [put, e]
theorem rows_app (T : St) (l b : Nat) : (T.map ρ).rows l ++ [ρ b] = (T.rows l ++ [b]).map ρ := by
 rw [List.map_append]; rfl
theorem setY_map (S : St) (i : Nat) (ys : List Int) : (S.map ρ).setY i ys = (S.setY i ys).map ρ := rfl
theorem erase_map (h : Inj ρ) : ∀ (xs : List Nat) (b : Nat), (xs.map ρ).erase (ρ b) = (xs.erase b).map ρ
 | [], _ => rfl
 | a :: xs, b => by
   rw [List.map_cons, List.erase_cons, List.erase_cons]
   by_cases e : a = b
   · subst e; simp
   · have e' : ¬ ρ a = ρ b := fun e' => e (h _ _ e')
     simp only [beq_iff_eq, e, e', if_false, List.map_cons]
     rw [erase_map h xs b]
theorem wake1_map (h : Inj ρ) (S : St) (b : Nat) (x : PS) : (S.map ρ).wake1 (ρ b) x = (S.wake1 b x).map ρ := by
 unfold St.wake1
 rw [setP_map h, ← setRow_map]
 congr 1
 show (S.rows x.lv).map ρ ++ [ρ b] = _
 simp
theorem stop1_map (h : Inj ρ) (S : St) (b : Nat) (x : PS) (s : Nat) : (S.map ρ).stop1 (ρ b) x s = (S.stop1 b x s).map ρ := by
 unfold St.stop1
 rw [setP_map h, ← setRow_map]
 congr 1
 exact erase_map h _ _
theorem departW_map (h : Inj ρ) (b : Nat) (k : Nat × Nat) (l : Wt) : departW (ρ b) k (mapW ρ l) = mapW ρ (departW b k l) := by
 have hf : ∀ xs : List Nat, (xs.map ρ).filter (fun c => !decide (c = ρ b)) = (xs.filter fun c => !decide (c = b)).map ρ := fun xs => by
   rw [List.filter_map]
   congr 1
   apply List.filter_congr
   intro c _
   simp only [Function.comp]
   by_cases e : c = b
   · simp [e]
   · have e' : ¬ ρ c = ρ b := fun e' => e (h _ _ e')
     simp [e, e']
 unfold departW mapW
 induction l with
 | nil => rfl
 | cons e l ih =>
   rw [List.map_cons, List.filterMap_cons, List.filterMap_cons]
   simp only
   by_cases hk : e.1 = k
   · simp only [hk, if_true, hf, List.length_map]
     by_cases h0 : (e.2.filter fun c => !decide (c = b)).length = 0
     · simp only [h0, if_true]; exact ih
     · simp only [h0, if_false, List.map_cons]; rw [ih]
   · simp only [hk, if_false, List.map_cons]; rw [ih]
theorem depart_map (h : Inj ρ) (S : St) (b : Nat) (k : Nat × Nat) : (S.map ρ).depart (ρ b) k = (S.depart b k).map ρ := by
 unfold St.depart
 show (S.map ρ).setW (departW (ρ b) k (mapW ρ S.wt)) = _
 rw [departW_map h]; rfl
theorem isOpen_map (S : St) (k : Nat × Nat) : (S.map ρ).isOpen k = S.isOpen k := by
 unfold St.isOpen
 show (S.ps.map fun q => (ρ q.1, q.2)).any (fun q => q.2.has k) = _
 rw [List.any_map]; rfl
theorem can_map (S : St) (x : PS) (k : Nat × Nat) : (S.map ρ).canBeDone x k = S.canBeDone x k := by
 unfold St.canBeDone; rw [isOpen_map]; rfl
theorem carried_map (S : St) (x : PS) (k : Nat × Nat) : (S.map ρ).carried x k = S.carried x k := by
 unfold St.carried; rw [isOpen_map]; rfl
theorem carry_map (h : Inj ρ) (S : St) (b : Nat) (x : PS) (k : Nat × Nat) : (S.map ρ).carry (ρ b) x k = (S.carry b x k).map ρ := by
 unfold St.carry
 rw [isOpen_map]
 split
 · unfold St.readP
   rw [setP_map h]; rfl
 · split
   · unfold St.writeP
     show ((S.map ρ).setY k.1 _).setP (ρ b) x.gave = _
     rw [setY_map, setP_map h]; rfl
   · exact setP_map h S b _
theorem rowAt_map (S : St) (k : Nat × Nat) : (S.map ρ).rowAt k = (S.rowAt k).map ρ := by
 unfold St.rowAt
 show (((mapW ρ S.wt).find? fun e => decide (e.1 = k)).map (·.2)).getD [] = _
 unfold mapW
 rw [List.find?_map]
 have e : ((fun e : (Nat × Nat) × List Nat => decide (e.1 = k)) ∘ fun e : (Nat × Nat) × List Nat => (e.1, e.2.map ρ)) = fun e => decide (e.1 = k) := rfl
 rw [e]
 cases S.wt.find? fun e => decide (e.1 = k) <;> rfl
theorem serve_map (h : Inj ρ) (S : St) (k : Nat × Nat) : (S.map ρ).serve k = (S.serve k).map (St.map ρ) := by
 unfold St.serve
 rw [rowAt_map]
 cases S.rowAt k with
 | nil => rfl
 | cons b l =>
   simp only [List.map_cons, get_map h]
   cases S.get b with
   | none => rfl
   | some x =>
     simp only [can_map]
     split
     · simp only [Option.map_some]
       congr 1
       split
       · rw [depart_map h, carry_map h]
       · rw [depart_map h, carry_map h, carried_map, wake1_map h]
     · rfl
theorem looks_map (h : Inj ρ) (p : Nat) : ∀ (n : Nat) (S : St), St.looks n (S.map ρ) p = (St.looks n S p).map ρ
 | 0, _ => rfl
 | n + 1, S => by
   simp only [St.looks, serve_map h]
   cases S.serve (p, 5) with
   | some S' => exact looks_map h p n S'
   | none =>
     simp only [Option.map_none]
     cases S.serve (p, 4) with
     | some S' => exact looks_map h p n S'
     | none => rfl
theorem look_map (h : Inj ρ) (S : St) (p : Nat) : (S.map ρ).look p = (S.look p).map ρ := looks_map h p 16 S
theorem shut_map (h : Inj ρ) (S : St) (b n : Nat) : (S.map ρ).shut (ρ b) n = (S.shut b n).map ρ := by
 unfold St.shut
 rw [get_map h]
 cases S.get b with
 | none => rfl
 | some x =>
   simp only
   rw [setP_map h, look_map h]
theorem shuts_map (h : Inj ρ) (b : Nat) (f : Nat → Nat × Nat) : ∀ (ns : List Nat) (S : St), (S.map ρ).shuts (ρ b) f ns = (S.shuts b f ns).map ρ
 | [], _ => rfl
 | n :: ns, S => by
   show (if f n = (0, 0) then S.map ρ else (S.map ρ).shut (ρ b) n).shuts (ρ b) f ns = ((if f n = (0, 0) then S else S.shut b n).shuts b f ns).map ρ
   split
   · exact shuts_map h b f ns S
   · rw [shut_map h]; exact shuts_map h b f ns _
theorem orphs_map (h : Inj ρ) (id : Nat) : ∀ (bs : List Nat) (S : St), (S.map ρ).orphs id (bs.map ρ) = (S.orphs id bs).map ρ
 | [], _ => rfl
 | b :: bs, S => by
   simp only [List.map_cons, St.orphs, get_map h]
   cases S.get b with
   | none => exact orphs_map h id bs S
   | some y =>
     simp only
     split
     · rw [setP_map h]; exact orphs_map h id bs _
     · exact orphs_map h id bs S
theorem childAt_map (S : St) (x : PS) : (S.map ρ).childAt x = S.childAt x := by
 unfold St.childAt
 show (S.ps.map fun q => (ρ q.1, q.2)).findIdx? _ = _
 rw [List.findIdx?_map]; rfl
theorem psAt_map (S : St) (i : Nat) : (S.map ρ).ps[i]? = (S.ps[i]?).map fun q => (ρ q.1, q.2) := List.getElem?_map ..
theorem take_map (h : Inj ρ) (S : St) (b : Nat) (x : PS) (i : Nat) : (S.map ρ).take (ρ b) x i = (S.take b x i).map ρ := by
 unfold St.take
 rw [psAt_map]
 cases S.ps[i]? with
 | none => rfl
 | some q =>
   simp only [Option.map_some]
   rw [← setP_map h]
   congr 1
   have e : (S.map ρ).ps.eraseIdx i = (S.ps.eraseIdx i).map fun q => (ρ q.1, q.2) := (map_eraseIdx _ _ _).symm
   rw [e]; rfl
theorem parent1_map (h : Inj ρ) (S : St) (b : Nat) : (S.map ρ).parent1 (ρ b) = (S.parent1 b).map ρ := by
 unfold St.parent1
 rw [get_map h]
 cases S.get b with
 | none => rfl
 | some x =>
   simp only [childAt_map]
   split
   · cases S.childAt x with
     | none => rfl
     | some i =>
       simp only [psAt_map]
       cases S.ps[i]? with
       | none => rfl
       | some q =>
         simp only [Option.map_some]
         rw [take_map h, wake1_map h]
   · rfl
theorem parents_map (h : Inj ρ) : ∀ (bs : List Nat) (S : St), (S.map ρ).parents (bs.map ρ) = (S.parents bs).map ρ
 | [], _ => rfl
 | b :: bs, S => by
   show ((S.map ρ).parent1 (ρ b)).parents (bs.map ρ) = _
   rw [parent1_map h]; exact parents_map h bs _
theorem fin_map (h : Inj ρ) (S : St) (b : Nat) (x : PS) (status : Int) : (S.map ρ).fin (ρ b) x status = (S.fin b x status).map ρ := by
 unfold St.fin
 simp only
 rw [depart_map h, stop1_map h, setP_map h, shuts_map h, map_fst, orphs_map h, map_fst, parents_map h]
theorem find_map (S : St) (id : Int) : (S.map ρ).find id = (S.find id).map fun q => (ρ q.1, q.2) := by
 unfold St.find
 show (S.ps.map fun q => (ρ q.1, q.2)).find? _ = _
 rw [List.find?_map]; rfl
theorem r0_map (h : Inj ρ) (S : St) (b : Nat) (v : Int) : (S.map ρ).r0 (ρ b) v = (S.r0 b v).map ρ := by
 unfold St.r0
 rw [get_map h]
 cases S.get b with
 | none => rfl
 | some z => exact setP_map h S b _
theorem hasChild_map (S : St) (x : PS) : (S.map ρ).hasChild x = S.hasChild x := by
 unfold St.hasChild
 show (S.ps.map fun q => (ρ q.1, q.2)).any _ = _
 rw [List.any_map]; rfl
abbrev snd (ρ : Nat → Nat) (p : Option Nat × St) : Option Nat × St := (p.1, p.2.map ρ)
theorem waitR_map (h : Inj ρ) (S : St) (b : Nat) (x : PS) : (S.map ρ).waitR (ρ b) x = snd ρ (S.waitR b x) := by
 unfold St.waitR
 rw [hasChild_map, childAt_map]
 split
 · cases S.childAt x with
   | none => simp only [snd]; rw [stop1_map h]
   | some i => simp only [snd]; rw [take_map h]
 · rfl
theorem sleep1_map (h : Inj ρ) (S : St) (b : Nat) (x : PS) : (S.map ρ).sleep1 (ρ b) x = (S.sleep1 b x).map ρ := by
 unfold St.sleep1
 split
 · exact setP_map h S b _
 · show ((S.map ρ).setP (ρ b) _).stop1 (ρ b) _ 3 = _
   rw [setP_map h, stop1_map h]; rfl
theorem yield1_map (h : Inj ρ) (S : St) (b : Nat) (x : PS) : (S.map ρ).yield1 (ρ b) x = (S.yield1 b x).map ρ := by
 unfold St.yield1
 simp only
 have e1 : ((S.map ρ).setP (ρ b) (x.r0 0)).setRow x.lv (((S.map ρ).rows x.lv).erase (ρ b)) = ((S.setP b (x.r0 0)).setRow x.lv ((S.rows x.lv).erase b)).map ρ := by
   rw [setP_map h, ← setRow_map]
   congr 1
   exact erase_map h _ _
 rw [e1, rows_app, setRow_map]
theorem unused_map (S : St) : (S.map ρ).unused = S.unused := by
 unfold St.unused
 have e : (S.map ρ).shutAt = S.shutAt := by
   funext p
   unfold St.shutAt
   rw [isOpen_map, isOpen_map]
 rw [e]
theorem pipeR_map (h : Inj ρ) (S : St) (b : Nat) (x : PS) : (S.map ρ).pipeR (ρ b) x = snd ρ (S.pipeR b x) := by
 unfold St.pipeR
 rw [unused_map]
 split
 · rfl
 · split
   · simp only [snd]; rw [setY_map, setP_map h]
   · rfl
theorem closeR_map (h : Inj ρ) (S : St) (b : Nat) (x : PS) : (S.map ρ).closeR (ρ b) x = snd ρ (S.closeR b x) := by
 unfold St.closeR
 split
 · rfl
 · simp only [snd]; rw [shut_map h, r0_map h]
theorem joinW_map (S : St) (b : Nat) (k : Nat × Nat) : (S.map ρ).joinW (ρ b) k = (S.joinW b k).map ρ := by
 unfold St.joinW
 show (S.map ρ).setW (rowJoin (ρ b) k (mapW ρ S.wt)) = _
 have e : rowJoin (ρ b) k (mapW ρ S.wt) = mapW ρ (rowJoin b k S.wt) := by
   have e0 : (∀ e ∈ mapW ρ S.wt, e.1 ≠ k) ↔ ∀ e ∈ S.wt, e.1 ≠ k := by
     unfold mapW
     constructor
     · intro hh e he; exact hh (e.1, e.2.map ρ) (List.mem_map.2 ⟨e, he, rfl⟩)
     · intro hh e he
       obtain ⟨e', he', rfl⟩ := List.mem_map.1 he
       exact hh e' he'
   unfold rowJoin
   by_cases hk : ∀ e ∈ S.wt, e.1 ≠ k
   · rw [if_pos hk, if_pos (e0.2 hk)]; unfold mapW; simp
   · rw [if_neg hk, if_neg (fun h => hk (e0.1 h))]
     unfold mapW
     rw [List.map_map, List.map_map]
     apply List.map_congr_left
     intro e _
     simp only [Function.comp]
     split <;> simp
 rw [e]; rfl
theorem askR_map (h : Inj ρ) (S : St) (b : Nat) (x : PS) (use most : Nat) : (S.map ρ).askR (ρ b) x use most = snd ρ (S.askR b x use most) := by
 unfold St.askR
 cases x.checkUse use most with
 | some i => rfl
 | none =>
   simp only
   rw [joinW_map, look_map h, rowAt_map, get_map h]
   have e : (ρ b ∈ (((S.joinW b (x.file (x.r 0))).look (x.file (x.r 0)).1).rowAt (x.file (x.r 0))).map ρ) ↔ b ∈ ((S.joinW b (x.file (x.r 0))).look (x.file (x.r 0)).1).rowAt (x.file (x.r 0)) := by
     rw [List.mem_map]
     constructor
     · rintro ⟨c, hc, e⟩; have e' := h _ _ e; rw [e'] at hc; exact hc
     · intro hb; exact ⟨b, hb, rfl⟩
   by_cases hb : b ∈ ((S.joinW b (x.file (x.r 0))).look (x.file (x.r 0)).1).rowAt (x.file (x.r 0))
   · simp only [if_pos hb, if_pos (e.2 hb)]
     cases ((S.joinW b (x.file (x.r 0))).look (x.file (x.r 0)).1).get b with
     | none => rfl
     | some z => simp only [snd]; rw [stop1_map h]
   · simp only [if_neg hb, if_neg (fun hh => hb (e.1 hh))]
theorem taken_map (S : St) (c : Nat) (y : PS) : (S.map ρ).taken (ρ c) y = (S.taken c y).map ρ := by
 unfold St.taken
 have e : (S.map ρ).ps ++ [(ρ c, { y with id := (S.map ρ).last + 1 })] = (S.ps ++ [(c, { y with id := S.last + 1 })]).map fun (q : Nat × PS) => (ρ q.1, q.2) := by
   rw [List.map_append]; rfl
 rw [e]; rfl
theorem forkS_map (h : Inj ρ) (S : St) (b : Nat) (x : PS) (c : Nat) : (S.map ρ).forkS (ρ b) x (ρ c) = (S.forkS b x c).map ρ := by
 unfold St.forkS St.adopt
 rw [taken_map]
 show (((S.taken c (x.copy.r0 0)).map ρ).wake1 (ρ c) _).setP (ρ b) _ = _
 rw [wake1_map h, setP_map h]; rfl
theorem grantE_map (S : St) (b : Nat) (x : PS) (m : Int) : (S.map ρ).grantE (ρ b) x m = S.grantE b x m := by
 unfold St.grantE
 rw [find_map]
 cases S.find (x.r 0) <;> rfl
theorem grantV_map (h : Inj ρ) (S : St) (b : Nat) (x : PS) (m : Int) : (S.map ρ).grantV (ρ b) x m = S.grantV b x m := by
 unfold St.grantV
 rw [find_map, waitR_map h, pipeR_map h, closeR_map h, askR_map h, askR_map h]
 have e : (S.map ρ).ps.length = S.ps.length := by simp [St.map]
 rw [e]
 cases S.find (x.r 0) <;> rfl
theorem grantS_map (h : Inj ρ) (S : St) (b : Nat) (x : PS) (m : Int) (c : Nat) : (S.map ρ).grantS (ρ b) x m (ρ c) = (S.grantS b x m c).map ρ := by
 have e : (S.map ρ).ps.length = S.ps.length := by simp [St.map]
 unfold St.grantS
 rw [find_map, waitR_map h, pipeR_map h, closeR_map h, askR_map h, askR_map h, e, fin_map h, forkS_map h, sleep1_map h, yield1_map h, setP_map h, setP_map h]
 by_cases e0 : m = 0
 · rw [if_pos e0, if_pos e0]
 rw [if_neg e0, if_neg e0]
 by_cases e1 : m = 1
 · rw [if_pos e1, if_pos e1]; split <;> rfl
 rw [if_neg e1, if_neg e1]
 by_cases e2 : m = 2
 · rw [if_pos e2, if_pos e2]
 rw [if_neg e2, if_neg e2]
 by_cases e3 : m = 3
 · rw [if_pos e3, if_pos e3]
   cases S.find (x.r 0) with
   | none => rfl
   | some q =>
     simp only [Option.map_some]
     split
     · rfl
     · rw [fin_map h, r0_map h]
 rw [if_neg e3, if_neg e3]
 by_cases e4 : m = 4
 · rw [if_pos e4, if_pos e4]
 rw [if_neg e4, if_neg e4]
 by_cases e5 : m = 5
 · rw [if_pos e5, if_pos e5]
 rw [if_neg e5, if_neg e5]
 by_cases e6 : m = 6
 · rw [if_pos e6, if_pos e6]
 rw [if_neg e6, if_neg e6]
 by_cases e7 : m = 7
 · rw [if_pos e7, if_pos e7]
 rw [if_neg e7, if_neg e7]
 by_cases e8 : m = 8
 · rw [if_pos e8, if_pos e8]
 rw [if_neg e8, if_neg e8]
 by_cases e9 : m = 9
 · rw [if_pos e9, if_pos e9]
 rw [if_neg e9, if_neg e9]
 by_cases e10 : m = 10
 · rw [if_pos e10, if_pos e10]
 rw [if_neg e10, if_neg e10]
 by_cases e11 : m = 11
 · rw [if_pos e11, if_pos e11]
 rw [if_neg e11, if_neg e11]
theorem runE_map (h : Inj ρ) (S : St) (b : Nat) (x : PS) : (S.map ρ).runE (ρ b) x = S.runE b x := by
 unfold St.runE
 rw [setP_map h, grantE_map]
 rfl
theorem runS_map (h : Inj ρ) (S : St) (b : Nat) (x : PS) (c : Nat) : (S.map ρ).runS (ρ b) x (ρ c) = (S.runS b x c).map ρ := by
 unfold St.runS
 rw [setP_map h, fin_map h]
 show (if S.pn ≤ x.at_ then _ else if S.pg x.at_ 0 = 9 then (match ((S.setP b x.next).map ρ).grantV (ρ b) x.next (S.pg x.at_ 1) with
   | some i => (((S.setP b x.next).map ρ).grantS (ρ b) x.next (S.pg x.at_ 1) (ρ c)).r0 (ρ b) (ansOf i)
   | none => ((S.setP b x.next).map ρ).grantS (ρ b) x.next (S.pg x.at_ 1) (ρ c)) else match S.doR x with
   | .ok x' => (S.map ρ).setP (ρ b) x'
   | .error _ => (S.fin b x 65281).map ρ) = _
 rw [grantV_map h, grantS_map h]
 split
 · rfl
 · split
   · cases (S.setP b x.next).grantV b x.next (S.pg x.at_ 1) with
     | none => rfl
     | some i => simp only; rw [r0_map h]
   · cases S.doR x with
     | ok x' => exact setP_map h S b _
     | error e => rfl
theorem turn_map (h : Inj ρ) (S : St) (b : Nat) (x : PS) : (S.map ρ).turn (ρ b) x = (S.turn b x).map ρ := by
 unfold St.turn
 show (if (x.used : Int) < S.sl x.lv then _ else _) = _
 split
 · rfl
 · simp only
   have e1 : ((S.map ρ).setRow x.lv (((S.map ρ).rows x.lv).erase (ρ b))).setP (ρ b) { x with lv := min (x.lv + 1) 2, used := 0 } = ((S.setRow x.lv ((S.rows x.lv).erase b)).setP b { x with lv := min (x.lv + 1) 2, used := 0 }).map ρ := by
     rw [← setP_map h, ← setRow_map]
     congr 2
     exact erase_map h _ _
   rw [e1, ← setRow_map]
   congr 1
   simp [St.map]
theorem after_map (h : Inj ρ) (S : St) (b : Nat) : (S.map ρ).after (ρ b) = (S.after b).map ρ := by
 unfold St.after
 rw [get_map h]
 cases S.get b with
 | none => rfl
 | some z =>
   simp only
   rw [setP_map h, turn_map h]
   split <;> rfl
theorem wakes_map (h : Inj ρ) : ∀ (bs : List Nat) (S : St), (S.map ρ).wakes (bs.map ρ) = (S.wakes bs).map ρ
 | [], _ => rfl
 | b :: bs, S => by
   simp only [List.map_cons, St.wakes, get_map h]
   cases S.get b with
   | none => exact wakes_map h bs S
   | some x =>
     simp only
     by_cases e : x.st = 3 ∧ x.til = S.now
     · rw [if_pos e, if_pos (show x.st = 3 ∧ x.til = (S.map ρ).now from e), wake1_map h]; exact wakes_map h bs _
     · rw [if_neg e, if_neg (show ¬ (x.st = 3 ∧ x.til = (S.map ρ).now) from e)]; exact wakes_map h bs S
theorem lifts_map (h : Inj ρ) : ∀ (bs : List Nat) (S : St), (S.map ρ).lifts (bs.map ρ) = (S.lifts bs).map ρ
 | [], _ => rfl
 | b :: bs, S => by
   simp only [List.map_cons, St.lifts, get_map h]
   cases S.get b with
   | none => exact lifts_map h bs S
   | some x =>
     simp only
     split
     · rw [setP_map h]; exact lifts_map h bs _
     · exact lifts_map h bs S
theorem raises_map (S : St) : ∀ n, (S.map ρ).raises n = (S.raises n).map ρ
 | 0 => rfl
 | n + 1 => by
   show ((S.map ρ).raises n).raise1 (n + 1) = ((S.raises n).raise1 (n + 1)).map ρ
   rw [raises_map S n]
   unfold St.raise1
   have e1 : ((S.raises n).map ρ).rows 0 ++ ((S.raises n).map ρ).rows (n + 1) = ((S.raises n).rows 0 ++ (S.raises n).rows (n + 1)).map ρ := by simp [St.map]
   rw [e1, setRow_map, ← setRow_map _ (n + 1) []]; rfl
theorem boost_map (h : Inj ρ) (S : St) : (S.map ρ).boost = S.boost.map ρ := by
 unfold St.boost
 by_cases e : S.boosts
 · rw [if_pos e, if_pos (show (S.map ρ).boosts from e), map_fst, lifts_map h, raises_map]
 · rw [if_neg e, if_neg (show ¬ (S.map ρ).boosts from e)]
theorem lead_map (h : Inj ρ) (S : St) : (S.map ρ).lead = S.lead.map ρ := by
 unfold St.lead St.wake
 rw [map_fst, wakes_map h, boost_map h]
theorem first_map (S : St) : (S.map ρ).first = S.first.map ρ := by
 unfold St.first
 show ((S.rows 0).map ρ ++ ((S.rows 1).map ρ ++ (S.rows 2).map ρ)).head? = _
 rw [← List.map_append, ← List.map_append, List.head?_map]
end
end Go.Proofs.YtejkelcaljmnoaaGreatDoor
