/-
  Part 9 of the proof.
  No condition but those that each statement names.
-/
import Derived.Test.YtejkelcaljmnoaaGreatDoorHy08
import Derived.Test.YtejkelcaljmnoaaGreatDoorHy02
import Derived.Conc.FxGenDone
import Derived.Conc.FxGenLone
import Derived.Conc.SmallLaws
import Derived.Test.YtejkelcaljmnoaaGreatDoorHy03
set_option maxRecDepth 100000
set_option maxHeartbeats 4000000
set_option linter.unusedVariables false
set_option linter.unusedSimpArgs false
set_option linter.unusedSectionVars false
namespace Go.Proofs.YtejkelcaljmnoaaGreatDoor
open Go.Conc Go.Hx Go.Lo
def Calm (P : Nat → Prop) (S : St) : Prop := ∀ e ∈ S.wt, ∀ c ∈ e.2, ∀ y, (c, y) ∈ S.ps → y.st = 1 → P c
structure XI (N : Nat → Nat) (S : St) : Prop where
 un : ∀ q ∈ S.ps, q.2.used ≤ S.now
 idn : ∀ q ∈ S.ps, ∀ r ∈ S.ps, q.2.id = r.2.id → q = r
 idr : ∀ q ∈ S.ps, 1 ≤ q.2.id ∧ q.2.id ≤ S.last
 p1 : ∃ q ∈ S.ps, q.2.id = 1
 p0 : ∀ q ∈ S.ps, q.2.par = 0 ↔ q.2.id = 1
 r3 : ∀ l, 3 ≤ l → S.rows l = []
 nm : ∀ q ∈ S.ps, N q.1 = q.2.id
structure MI (P : Nat → Prop) (N : Nat → Nat) (S : St) : Prop where
 i : Inv S
 c : Calm P S
 x : XI N S
section
variable {S S' : St} {b : Nat} {x x' : PS} {k : Nat × Nat} {P : Nat → Prop} {N : Nat → Nat}
theorem XI.congr (h : XI N S) (h1 : S'.ps = S.ps) (h2 : S'.last = S.last) (h3 : S'.now = S.now) (h4 : ∀ l, 3 ≤ l → S'.rows l = S.rows l := by intro l _; rfl) : XI N S' := ⟨by rw [h1, h3]; exact h.un, by rw [h1]; exact h.idn, by rw [h1, h2]; exact h.idr, by rw [h1]; exact h.p1, by rw [h1]; exact h.p0, fun l hl => (h4 l hl).trans (h.r3 l hl), by rw [h1]; exact h.nm⟩
theorem gM {α : Type} {f : Nat → α} {i : Nat} {v : α} (hi : i < 3) : ∀ l, 3 ≤ l → put f i v l = f l := fun l hl => by unfold put; rw [if_neg (by omega)]
theorem XI.setP (h : XI N S) (hn : (S.ps.map (·.1)).Nodup) (hb : (b, x) ∈ S.ps) (hid : x'.id = x.id) (hpar : x'.par = 0 ↔ x.par = 0) (hu : x'.used ≤ S.now) : XI N (S.setP b x') := by
 refine ⟨fun q hq => ?_, fun q hq r hr e => ?_, fun q hq => ?_, ?_, fun q hq => ?_, h.r3, fun q hq => ?_⟩
 · rcases aP hq with rfl | ⟨h1, _⟩
   · exact hu
   · exact h.un q h1
 · rcases aP hq with rfl | ⟨h1, h1n⟩
   · rcases aP hr with rfl | ⟨h2, h2n⟩
     · rfl
     · have := h.idn _ hb _ h2 (by rw [← e]; exact hid.symm);exact absurd (by rw [← this]) h2n
   · rcases aP hr with rfl | ⟨h2, h2n⟩
     · have := h.idn _ h1 _ hb (by rw [e]; exact hid);exact absurd (by rw [this]) h1n
     · exact h.idn q h1 r h2 e
 · rcases aP hq with rfl | ⟨h1, _⟩
   · show 1 ≤ x'.id ∧ x'.id ≤ S.last;rw [hid]; exact h.idr _ hb
   · exact h.idr q h1
 · obtain ⟨q, hq, h1⟩ := h.p1;by_cases e : q.1 = b
   · refine ⟨(b, x'), aq hb, ?_⟩;show x'.id = 1;rw [hid];obtain ⟨c, y⟩ := q;have e' : c = b := e;subst e';rw [aT hn hb hq];exact h1
   · exact ⟨q, bT (c := q.1) (y := q.2) hq e, h1⟩
 · rcases aP hq with rfl | ⟨h1, _⟩
   · show x'.par = 0 ↔ x'.id = 1;rw [hid]; exact hpar.trans (h.p0 _ hb)
   · exact h.p0 q h1
 · rcases aP hq with rfl | ⟨h1, _⟩
   · show N b = x'.id;rw [hid]; exact h.nm _ hb
   · exact h.nm q h1
theorem XI.erase (h : XI N S) {i : Nat} {q : Nat × PS} (hi : S.ps[i]? = some q) (hq : q.2.id ≠ 1) : XI N { S.setPs (S.ps.eraseIdx i) with last := S.last } := by
 refine ⟨fun q hq => h.un q (List.mem_of_mem_eraseIdx hq), fun q hq r hr e => h.idn q (List.mem_of_mem_eraseIdx hq) r (List.mem_of_mem_eraseIdx hr) e, fun q hq => h.idr q (List.mem_of_mem_eraseIdx hq), ?_, fun q hq => h.p0 q (List.mem_of_mem_eraseIdx hq), h.r3, fun q hq => h.nm q (List.mem_of_mem_eraseIdx hq)⟩;obtain ⟨r, hr, h1⟩ := h.p1;refine ⟨r, ?_, h1⟩;show r ∈ S.ps.eraseIdx i;obtain ⟨j, hj⟩ := List.getElem?_of_mem hr;have hji : j ≠ i := fun e => by subst e; rw [hj] at hi; simp at hi; rw [← hi] at hq; exact hq h1
 rw [List.mem_eraseIdx_iff_getElem?];exact ⟨j, hji, hj⟩
theorem XI.taken (h : XI N S) {c : Nat} {y : PS} (hc : ∀ q ∈ S.ps, c ≠ q.1) (hp : y.par ≠ 0) (hu : y.used ≤ S.now) (hN : N c = S.last + 1) : XI N (S.taken c y) := by
 have hl : 1 ≤ S.last := by
   obtain ⟨q, hq, h1⟩ := h.p1;have := h.idr q hq;omega
 have cs : ∀ q ∈ (S.taken c y).ps, q ∈ S.ps ∨ q = (c, { y with id := S.last + 1 }) := fun q hq => by
   rcases List.mem_append.1 hq with h | h
   · exact .inl h
   · exact .inr (by simpa using h)
 refine ⟨fun q hq => ?_, fun q hq r hr e => ?_, fun q hq => ?_, ?_, fun q hq => ?_, h.r3, fun q hq => ?_⟩
 · rcases cs q hq with h1 | rfl
   · exact h.un q h1
   · exact hu
 · rcases cs q hq with h1 | rfl
   · rcases cs r hr with h2 | rfl
     · exact h.idn q h1 r h2 e
     · have := (h.idr q h1).2;simp only at e;omega
   · rcases cs r hr with h2 | rfl
     · have := (h.idr r h2).2;simp only at e;omega
     · rfl
 · show 1 ≤ q.2.id ∧ q.2.id ≤ S.last + 1;rcases cs q hq with h1 | rfl
   · have := h.idr q h1; omega
   · simp only; omega
 · obtain ⟨q, hq, h1⟩ := h.p1;exact ⟨q, List.mem_append_left _ hq, h1⟩
 · rcases cs q hq with h1 | rfl
   · exact h.p0 q h1
   · simp only;constructor
     · intro e; exact absurd e hp
     · intro e; omega
 · rcases cs q hq with h1 | rfl
   · exact h.nm q h1
   · exact hN
theorem Calm.out_mono {Q : Nat → Prop} (h : Calm P S) (hPQ : ∀ c, P c → Q c) : Calm Q S := fun e he c hc y hy h1 => hPQ c (h e he c hc y hy h1)
theorem Calm.depart (h : Calm P S) : Calm P (S.depart b k) := fun e he c hc y hy h1 => by
 rcases b5 he with ⟨h2, _⟩ | ⟨h2, _, xs, h3, h4⟩
 · exact h e h2 c hc y hy h1
 · rw [h4] at hc;exact h _ h3 c (List.mem_filter.1 hc).1 y hy h1
theorem Calm.setP (h : Calm P S) (hb : S.out b ∨ P b ∨ x'.st ≠ 1) : Calm P (S.setP b x') := fun e he c hc y hy h1 => by
 rcases aP hy with h2 | ⟨h2, _⟩
 · cases h2;rcases hb with hb | hb | hb
   · exact absurd hc (hb e he)
   · exact hb
   · exact absurd h1 hb
 · exact h e he c hc y h2 h1
theorem Calm.congr (h : Calm P S) (h1 : S'.wt = S.wt) (h2 : S'.ps = S.ps) : Calm P S' := by unfold Calm; rw [h1, h2]; exact h
theorem Calm.join (h : Calm P S) (hb : P b) (hn : (S.wt.map (·.1)).Nodup) : Calm P (S.joinW b k) := fun e he c hc y hy h1 => by
 by_cases hk : ∀ e ∈ S.wt, e.1 ≠ k
 · have e1 : (S.joinW b k).wt = S.wt ++ [(k, [b])] := fc hk;rw [e1] at he;rcases List.mem_append.1 he with h2 | h2
   · exact h e h2 c hc y hy h1
   · simp at h2; subst h2; simp at hc; subst hc; exact hb
 · have hk' : k ∈ S.wt.map (·.1) := Decidable.byContradiction fun hn' => hk fun e he e1 => hn' (List.mem_map.2 ⟨e, he, e1⟩);obtain ⟨l1, ys, l2, hl, q1, q2⟩ := cr hn hk';have e1 : (S.joinW b k).wt = l1 ++ (k, ys ++ [b]) :: l2 := by show rowJoin b k S.wt = _; rw [hl, iv q1 q2]
   rw [e1] at he;rcases List.mem_append.1 he with h2 | h2
   · exact h e (by rw [hl]; simp [h2]) c hc y hy h1
   · rcases List.mem_cons.1 h2 with rfl | h2
     · rcases List.mem_append.1 hc with h3 | h3
       · exact h (k, ys) (by rw [hl]; simp) c h3 y hy h1
       · simp at h3; subst h3; exact hb
     · exact h e (by rw [hl]; simp [h2]) c hc y hy h1
theorem MI.depart (h : MI P N S) : MI P N (S.depart b k) := ⟨h.i.depart, h.c.depart, h.x.congr rfl rfl rfl⟩
theorem MI.setY (h : MI P N S) {i : Nat} {ys : List Int} (h8 : ys.length ≤ 8) (hb : ∀ v ∈ ys, 0 ≤ v ∧ v < 256) : MI P N (S.setY i ys) := ⟨h.i.setY h8 hb, h.c.congr rfl rfl, h.x.congr rfl rfl rfl⟩
theorem MI.like (h : MI P N S) (hb : (b, x) ∈ S.ps) (ho : S.out b) (hs : x'.st = x.st) (hl : x'.lv = x.lv) (hw : WF x') (hf : ∀ i, i < 6 → x'.f i = (0, 0) ∨ okEnd (x'.f i)) (hid : x'.id = x.id) (hpar : x'.par = x.par) (hu : x'.used ≤ S.now) : MI P N (S.setP b x') :=
 ⟨h.i.like hb ho hs hl hw hf, h.c.setP (.inl ho), h.x.setP h.i.g.pn hb hid (by rw [hpar]) hu⟩
theorem MI.r0 (h : MI P N S) (hb : (b, x) ∈ S.ps) (ho : S.out b) {v : Int} (hv : 0 ≤ v ∧ v < 65536) : MI P N (S.setP b (x.r0 v)) :=
 h.like hb ho rfl rfl (fy (h.i.wf _ hb) hv) (h.i.fl (b, x) hb) rfl rfl (h.x.un _ hb)
theorem MI.wake1 (h : MI P N S) (hb : (b, x) ∈ S.ps) (ho : S.out b) (hs : x.st ≠ 1) : MI P N (S.wake1 b x) :=
 ⟨h.i.wake1 hb ho hs, (h.c.setP (x' := { x with st := 1, used := 0 }) (.inl ho)).congr rfl rfl, (h.x.setP (x' := { x with st := 1, used := 0 }) h.i.g.pn hb rfl Iff.rfl (Nat.zero_le _)).congr rfl rfl rfl (gM (h.i.g.lv _ hb))⟩
theorem MI.stop1 (h : MI P N S) (hb : (b, x) ∈ S.ps) (ho : S.out b) {s : Nat} (hs : s ≠ 1) : MI P N (S.stop1 b x s) :=
 ⟨h.i.stop1 hb ho hs, (h.c.setP (x' := { x with st := s }) (.inl ho)).congr rfl rfl, (h.x.setP (x' := { x with st := s }) h.i.g.pn hb rfl Iff.rfl (h.x.un _ hb)).congr rfl rfl rfl (gM (h.i.g.lv _ hb))⟩
theorem lx : ∀ (vs : List Int) (x : PS) (i : Nat), (x.poke i vs).used = x.used
 | [], _, _ => rfl
 | v :: vs, x, i => lx vs { x with m := put x.m i v } (i + 1)
theorem iw (S : St) (x : PS) (k : Nat × Nat) : (S.carried x k).used = x.used := by
 unfold St.carried
 split
 · exact lx _ _ _
 · split <;> rfl
theorem MI.carry (h : MI P N S) (hb : (b, x) ∈ S.ps) (ho : S.out b) (hk : k.1 < 5) (ha : x.r 1 + x.r 2 ≤ 64) (hc : S.canBeDone x k = true) : MI P N (S.carry b x k) := by
 obtain ⟨ys, e, _⟩ := eN S b x k;obtain ⟨l1, l2, l3, l4, l5⟩ := b6 S x k;refine ⟨h.i.carry hb ho hk ha hc, ?_, ?_⟩
 · rw [e];exact (h.c.setP (x' := S.carried x k) (.inl ho)).congr rfl rfl
 · rw [e];exact (h.x.setP (x' := S.carried x k) h.i.g.pn hb l4 (by rw [l5]) (by rw [iw]; exact h.x.un _ hb)).congr rfl rfl rfl
theorem MI.serve (h : MI P N S) (hS : S.serve k = some S') : MI P N S' := by
 obtain ⟨b, x, hm, _, hb, hc, rfl⟩ := cL hS;obtain ⟨ha, hk⟩ := h.i.atRow hm hb;have hd : MI P N (S.depart b k) := h.depart;have ho : (S.depart b k).out b := by have := h.i.out_depart hb; rw [ha.f] at this; exact this
 have hI := MI.carry hd (b := b) (x := x) (k := k) hb ho hk.1.2 ha.a hc
 split
 · exact hI
 · rename_i h1;refine hI.wake1 ?_ (by intro e he; exact ho e (by rw [iu] at he; exact he)) (by rw [(b6 S x k).1]; exact h1);rw [cK]; exact aq hb
theorem MI.looks (p : Nat) : ∀ (n : Nat) {S : St}, MI P N S → MI P N (St.looks n S p)
 | 0, _, h => h
 | n + 1, S, h => by
   unfold St.looks
   split
   · exact MI.looks p n (h.serve ‹_›)
   · split
     · exact MI.looks p n (h.serve ‹_›)
     · exact h
theorem MI.shut (h : MI P N S) (hb : (b, x) ∈ S.ps) (ho : S.out b) (n : Nat) : MI P N (S.shut b n) := by
 unfold St.shut;rw [bf h.i.g.pn hb];exact MI.looks _ 16 (h.like (x' := { x with f := put x.f n (0, 0) }) hb ho rfl rfl ⟨(h.i.wf _ hb).r, (h.i.wf _ hb).m⟩ (gK (h.i.fl _ hb) (.inl rfl)) rfl rfl (h.x.un (b, x) hb))
theorem MI.shuts (f : Nat → Nat × Nat) : ∀ (ns : List Nat) {S : St} {x : PS}, MI P N S → (b, x) ∈ S.ps → S.out b → MI P N (S.shuts b f ns)
 | [], _, _, h, _, _ => h
 | n :: ns, S, x, h, hb, ho => by
   show MI P N ((if f n = (0, 0) then S else S.shut b n).shuts b f ns)
   split
   · exact MI.shuts f ns h hb ho
   · have hl := h.i.shut hb ho n;exact MI.shuts f ns (h.shut hb ho n) (hl.m b _ ho (aq hb)) (hl.o b ho)
theorem MI.orphs (id : Nat) (h1 : 1 ≤ id) : ∀ (bs : List Nat) {S : St}, MI P N S → MI P N (S.orphs id bs)
 | [], S, h => h
 | b :: bs, S, h => by
   unfold St.orphs;cases hg : S.get b with
   | none => exact MI.orphs id h1 bs h
   | some y =>
     simp only
     split
     · rename_i hp;have hb := aV hg;refine MI.orphs id h1 bs ⟨h.i.alike (x' := { y with par := 1 }) hb rfl rfl rfl rfl rfl, fun e he c hc z hz hz1 => ?_, h.x.setP h.i.g.pn hb rfl ?_ (h.x.un _ hb)⟩
       · rcases aP hz with h2 | ⟨h2, _⟩
         · cases h2;exact h.c e he _ hc y hb hz1
         · exact h.c e he c hc z h2 hz1
       · simp only;constructor
         · intro e; cases e
         · intro e; omega
     · exact MI.orphs id h1 bs h
theorem MI.take (h : MI P N S) (hb : (b, x) ∈ S.ps) (ho : S.out b) {i : Nat} (hc : S.childAt x = some i) (h6 : x.st ≠ 6) : MI P N (S.take b x i) ∧ (b, x) ∈ S.ps.eraseIdx i := by
 obtain ⟨q, hq, hp, hq6⟩ := b4 hc;have hI := h.i.erase (ls := S.last) (c := q.1) (y := q.2) hq hq6;have hci : (b, x) ∈ S.ps.eraseIdx i := by
   obtain ⟨j, hj⟩ := List.getElem?_of_mem hb;have hji : j ≠ i := fun e => by
     subst e;rw [hj] at hq;simp at hq;rw [← hq] at hq6;exact h6 hq6
   rw [List.mem_eraseIdx_iff_getElem?];exact ⟨j, hji, hj⟩
 have hqm := List.mem_of_getElem? hq;have hq1 : q.2.id ≠ 1 := fun e => by
   have := (h.x.p0 q hqm).2 e;have := (h.x.idr _ hb).1;simp only at this;omega
 have hX := h.x.erase hq hq1;have e : S.take b x i = ({ S.setPs (S.ps.eraseIdx i) with last := S.last } : St).setP b (told x q.2) := by unfold St.take; rw [hq]
 rw [e];have hM : MI P N ({ S.setPs (S.ps.eraseIdx i) with last := S.last } : St) := ⟨hI, fun e he c hc y hy h1 => h.c e he c hc y (List.mem_of_mem_eraseIdx hy) h1, hX⟩;exact ⟨hM.like (x' := told x q.2) hci ho rfl rfl (wP (h.i.wf _ hb) _) (h.i.fl (b, x) hb) rfl rfl (h.x.un (b, x) hb), hci⟩
theorem MI.parent1 (h : MI P N S) (c : Nat) : MI P N (S.parent1 c) := by
 unfold St.parent1;cases hg : S.get c with
 | none => exact h
 | some x =>
   simp only
   split
   · rename_i h2;cases hc : S.childAt x with
     | none => exact h
     | some i =>
       obtain ⟨q, hq, _, h6⟩ := b4 hc;simp only [hq];have hb := aV hg;have ho := h.i.out_st hb (by omega) (by omega) (by omega);obtain ⟨hT, hci⟩ := h.take hb ho hc (by omega);have e : S.take c x i = ({ S.setPs (S.ps.eraseIdx i) with last := S.last } : St).setP c (told x q.2) := by unfold St.take; rw [hq]
       refine hT.wake1 (x := told x q.2) ?_ ?_ (by show x.st ≠ 1; omega)
       · rw [e]; exact aq hci
       · rw [e]; exact ho
   · exact h
theorem MI.parents : ∀ (bs : List Nat) {S : St}, MI P N S → MI P N (S.parents bs)
 | [], _, h => h
 | c :: bs, _, h => MI.parents bs (h.parent1 c)
theorem MI.fin (h : MI P N S) (hb : (b, x) ∈ S.ps) (status : Int) : MI P N (S.fin b x status) := by
 have ho := h.i.out_depart hb;have h1 : MI P N (S.depart b (x.file (x.r 0))) := h.depart;have hb1 : (b, x) ∈ (S.depart b (x.file (x.r 0))).ps := hb;have h2 := h1.stop1 hb1 ho (s := 6) (by decide);have hb2 : (b, { x with st := 6 }) ∈ ((S.depart b (x.file (x.r 0))).stop1 b x 6).ps := aq hb1;have h3 := h2.like (x' := { x with st := 6, stat := status }) hb2 ho rfl rfl ⟨(h.i.wf _ hb).r, (h.i.wf _ hb).m⟩ (h.i.fl (b, x) hb) rfl rfl (h.x.un (b, x) hb);have h4 := MI.shuts (b := b) x.f (List.range' 0 6) h3 (aq hb2) ho;exact MI.parents _ (MI.orphs _ (h.x.idr _ hb).1 _ h4)
end
def St.move (S : St) (b : Nat) (x x' : PS) : St :=
 let S1 := (S.setRow x.lv ((S.rows x.lv).erase b)).setP b x'
 S1.setRow x'.lv (S1.rows x'.lv ++ [b])
section
variable {S S' : St} {b : Nat} {x x' : PS} {k : Nat × Nat} {P : Nat → Prop} {N : Nat → Nat}
theorem Good.move (h : Good S) (hb : (b, x) ∈ S.ps) (hs : x.st = 1) (hs' : x'.st = 1) (hl : x'.lv < 3) : Good (S.move b x x') := by
 have hlv := h.lv _ hb;have hin := h.rr _ hb hs;have rows : ∀ l, (S.move b x x').rows l = if l = x'.lv then (if x'.lv = x.lv then (S.rows x.lv).erase b else S.rows x'.lv) ++ [b] else if l = x.lv then (S.rows x.lv).erase b else S.rows l := fun l => rfl;have nin : ∀ l, l < 3 → l ≠ x.lv → b ∉ S.rows l := fun l hl hne hm => by
   obtain ⟨y, hy, h1, _⟩ := h.rm l hl b hm;rw [aT h.pn hb hy] at hne;exact hne h1.symm
 have ner : b ∉ (S.rows x.lv).erase b := List.Nodup.not_mem_erase (h.rn _ hlv);have old : ∀ l, l < 3 → ∀ c, c ∈ S.rows l → c ≠ b → ∃ y, (c, y) ∈ (S.move b x x').ps ∧ y.lv = l ∧ y.st = 1 := fun l hl c hc hne => by
   obtain ⟨y, hy, h1, h2⟩ := h.rm l hl c hc;exact ⟨y, bT (S := S) hy hne, h1, h2⟩
 refine ⟨by show (S.setP b x').ps.map (·.1) |>.Nodup; rw [aU]; exact h.pn, by show (S.setP b x').ps.length ≤ 8; rw [eK]; exact h.p8, fun q hq => ?_, fun l hl' => ?_, fun l hl' c hc => ?_, fun q hq h1 => ?_⟩
 · rcases aP (S := S) hq with rfl | ⟨h1, _⟩
   · exact hl
   · exact h.lv q h1
 · rw [rows]
   split
   · split
     · refine List.nodup_append.2 ⟨(h.rn _ hlv).sublist List.erase_sublist, by simp, fun a ha c hc => ?_⟩;simp at hc;subst hc;rintro rfl;exact ner ha
     · rename_i hne;refine List.nodup_append.2 ⟨h.rn _ hl, by simp, fun a ha c hc => ?_⟩;simp at hc;subst hc;rintro rfl;exact nin _ hl hne ha
   · split
     · exact (h.rn _ hlv).sublist List.erase_sublist
     · exact h.rn l hl'
 · rw [rows] at hc
   split at hc
   · rename_i e;subst e;rcases List.mem_append.1 hc with h1 | h1
     · split at h1
       · rename_i e;have hne : c ≠ b := fun e' => ner (e' ▸ h1);obtain ⟨y, hy, h2, h3⟩ := old _ hlv c (List.mem_of_mem_erase h1) hne;exact ⟨y, hy, h2.trans e.symm, h3⟩
       · rename_i hne;exact old _ hl c h1 fun e' => nin _ hl hne (e' ▸ h1)
     · simp at h1;subst h1;exact ⟨x', aq (S := S) hb, rfl, hs'⟩
   · split at hc
     · rename_i e;subst e;exact old _ hlv c (List.mem_of_mem_erase hc) fun e' => ner (e' ▸ hc)
     · rename_i hne;exact old l hl' c hc fun e' => nin l hl' hne (e' ▸ hc)
 · rw [rows];rcases aP (S := S) hq with rfl | ⟨h2, h3⟩
   · simp
   · have := h.rr q h2 h1
     split
     · rename_i e;apply List.mem_append_left
       split
       · rename_i e2;rw [e, e2] at this;exact (List.mem_erase_of_ne h3).2 this
       · rw [e] at this; exact this
     · split
       · rename_i e;rw [e] at this;exact (List.mem_erase_of_ne h3).2 this
       · exact this
theorem MI.move (h : MI P N S) (hb : (b, x) ∈ S.ps) (ho : S.out b) (hs : x.st = 1) (hs' : x'.st = 1) (hl : x'.lv < 3) (hw : WF x') (hf : ∀ i, i < 6 → x'.f i = (0, 0) ∨ okEnd (x'.f i)) (hid : x'.id = x.id) (hpar : x'.par = x.par) (hu : x'.used ≤ S.now) : MI P N (S.move b x x') where
 i :=
   { g := h.i.g.move hb hs hs' hl
     wf := fun q hq => by
       rcases aP (S := S) hq with rfl | ⟨h1, _⟩
       · exact hw
       · exact h.i.wf q h1
     fl := fun q hq => by
       rcases aP (S := S) hq with rfl | ⟨h1, _⟩
       · exact hf
       · exact h.i.fl q h1
     y8 := h.i.y8, yb := h.i.yb, kn := h.i.kn, ne := h.i.ne, nd := h.i.nd, ke := h.i.ke
     rm := fun e he c hc => by
       obtain ⟨y, hy, ha⟩ := h.i.rm e he c hc;exact ⟨y, bT (S := S) hy (by rintro rfl; exact ho e he hc), ha⟩ }
 c := (h.c.setP (x' := x') (.inl ho)).congr rfl rfl
 x := (h.x.setP (x' := x') h.i.g.pn hb hid (by rw [hpar]) hu).congr rfl rfl rfl fun l hl' => (gM hl l hl').trans (gM (h.i.g.lv _ hb) l hl')
theorem MI.out (h : MI (fun _ => False) N S) (hb : (b, x) ∈ S.ps) (hs : x.st = 1) : S.out b := fun e he hm => h.c e he b hm x hb hs
theorem MI.yield1 (h : MI P N S) (hb : (b, x) ∈ S.ps) (ho : S.out b) (hs : x.st = 1) : MI P N (S.yield1 b x) :=
 h.move (x' := x.r0 0) hb ho hs hs (h.i.g.lv (b, x) hb) (fy (h.i.wf _ hb) (by omega)) (h.i.fl (b, x) hb) rfl rfl (h.x.un (b, x) hb)
theorem MI.sleep1 (h : MI P N S) (hb : (b, x) ∈ S.ps) (ho : S.out b) : MI P N (S.sleep1 b x) := by
 unfold St.sleep1
 split
 · exact h.r0 hb ho (by omega)
 · have h1 := h.like (x' := { x.r0 0 with til := (S.now : Int) + x.r 0 }) hb ho rfl rfl ⟨(fy (h.i.wf _ hb) (v := 0) (by omega)).r, (h.i.wf _ hb).m⟩ (h.i.fl (b, x) hb) rfl rfl (h.x.un (b, x) hb);exact h1.stop1 (aq hb) ho (by decide)
theorem MI.waitR (h : MI P N S) (hb : (b, x) ∈ S.ps) (ho : S.out b) (hs : x.st = 1) : MI P N (S.waitR b x).2 := by
 unfold St.waitR
 split
 · simp only
   split
   · exact (h.take hb ho ‹_› (by omega)).1
   · exact h.stop1 hb ho (by decide)
 · exact h
theorem MI.r0' (h : MI P N S) (ho : ∀ z, (b, z) ∈ S.ps → S.out b) {v : Int} (hv : 0 ≤ v ∧ v < 65536) : MI P N (S.r0 b v) := by
 unfold St.r0;cases hg : S.get b with
 | none => exact h
 | some z => exact h.r0 (aV hg) (ho z (aV hg)) hv
theorem MI.pipeR (h : MI P N S) (hb : (b, x) ∈ S.ps) (ho : S.out b) : MI P N (S.pipeR b x).2 := by
 unfold St.pipeR
 split
 · exact h
 · rename_i hu
   split
   · rename_i i j l hl;have hlt : ∀ i ∈ x.frees 6, i < 6 := fun i hi => by
       unfold PS.frees at hi;simpa using (List.mem_filter.1 hi).1
     have hi := hlt i (by rw [hl]; simp);have hj := hlt j (by rw [hl]; simp);have hu5 := lq S;have h1 := h.setY (i := S.unused) (ys := []) (by simp) (by simp);refine h1.like (x' := x.piped S.unused i j) hb ho rfl rfl ⟨fun n hn => ?_, (h.i.wf _ hb).m⟩ ?_ rfl rfl (h.x.un (b, x) hb)
     · show 0 ≤ put (put x.r 0 (i : Int)) 1 (j : Int) n ∧ put (put x.r 0 (i : Int)) 1 (j : Int) n < 65536;have := (h.i.wf _ hb).r n hn;unfold put
       split
       · omega
       · split
         · omega
         · exact this
     · exact gK (x := { x with f := put x.f i (S.unused, 4) }) (gK (h.i.fl (b, x) hb) (.inr ⟨⟨by simp only; omega, hu5⟩, .inl rfl⟩)) (.inr ⟨⟨by simp only; omega, hu5⟩, .inr rfl⟩)
   · exact h
theorem MI.closeR (h : MI P N S) (hb : (b, x) ∈ S.ps) (ho : S.out b) : MI P N (S.closeR b x).2 := by
 unfold St.closeR
 split
 · exact h
 · exact (h.shut hb ho _).r0' (fun z hz => (h.i.shut hb ho _).o b ho) (by omega)
theorem MI.taken (h : MI P N S) {c : Nat} {y : PS} (hc : ∀ q ∈ S.ps, c ≠ q.1) (h8 : S.ps.length < 8) (hs : y.st = 0) (hl : y.lv < 3) (hw : WF y) (hf : ∀ i, i < 6 → y.f i = (0, 0) ∨ okEnd (y.f i)) (hp : y.par ≠ 0) (hu : y.used ≤ S.now) (hN : N c = S.last + 1) : MI P N (S.taken c y) ∧ (S.taken c y).out c := by
 have cs : ∀ q ∈ (S.taken c y).ps, q ∈ S.ps ∨ q = (c, { y with id := S.last + 1 }) := fun q hq => by
   rcases List.mem_append.1 hq with h | h
   · exact .inl h
   · exact .inr (by simpa using h)
 have ho : (S.taken c y).out c := fun e he hm => by
   obtain ⟨z, hz, _⟩ := h.i.rm e he c hm;exact hc _ hz rfl
 refine ⟨⟨{ g := ?_, wf := ?_, fl := ?_, y8 := h.i.y8, yb := h.i.yb, kn := h.i.kn, ne := h.i.ne, nd := h.i.nd, ke := h.i.ke, rm := ?_ }, ?_, h.x.taken hc hp hu hN⟩, ho⟩
 · refine ⟨?_, by show (S.ps ++ [_]).length ≤ 8; simp; omega, fun q hq => ?_, h.i.g.rn, fun l hl c' hc' => ?_, fun q hq h1 => ?_⟩
   · show ((S.ps ++ [(c, _)]).map (fun q : Nat × PS => q.1)).Nodup;rw [List.map_append];refine List.nodup_append.2 ⟨h.i.g.pn, by simp, fun u hu v hv => ?_⟩;simp at hv;subst hv;rintro rfl;obtain ⟨q, hq, e⟩ := List.mem_map.1 hu;exact hc q hq e.symm
   · rcases cs q hq with h1 | rfl
     · exact h.i.g.lv q h1
     · exact hl
   · obtain ⟨z, hz, h1, h2⟩ := h.i.g.rm l hl c' hc';exact ⟨z, List.mem_append_left _ hz, h1, h2⟩
   · rcases cs q hq with h2 | rfl
     · exact h.i.g.rr q h2 h1
     · simp only at h1; omega
 · intro q hq;rcases cs q hq with h1 | rfl
   · exact h.i.wf q h1
   · exact ⟨hw.r, hw.m⟩
 · intro q hq;rcases cs q hq with h1 | rfl
   · exact h.i.fl q h1
   · exact hf
 · intro e he c' hc';obtain ⟨z, hz, ha⟩ := h.i.rm e he c' hc';exact ⟨z, List.mem_append_left _ hz, ha⟩
 · intro e he c' hc' z hz h1;rcases cs _ hz with h2 | h2
   · exact h.c e he c' hc' z h2 h1
   · have e2 : z = { y with id := S.last + 1 } := congrArg Prod.snd h2;rw [e2] at h1;simp only at h1;omega
theorem MI.forkS (h : MI P N S) (hb : (b, x) ∈ S.ps) (ho : S.out b) {c : Nat} (hc : ∀ q ∈ S.ps, c ≠ q.1) (h8 : S.ps.length < 8) (hN : N c = S.last + 1) : MI P N (S.forkS b x c) := by
 have hw := h.i.wf _ hb;have hid := (h.x.idr _ hb).1;obtain ⟨h1, ho1⟩ := h.taken (y := x.copy.r0 0) hc h8 rfl (by show 0 < 3; omega) (fy (x := x.copy) (v := 0) ⟨hw.r, hw.m⟩ (by omega)) (h.i.fl (b, x) hb) (by show x.id ≠ 0; simp only at hid; omega) (Nat.zero_le _) hN;have hcm : (c, { x.copy.r0 0 with id := S.last + 1 }) ∈ (S.taken c (x.copy.r0 0)).ps := List.mem_append_right _ List.mem_cons_self;have h2 := h1.wake1 hcm ho1 (by show (0 : Nat) ≠ 1; omega);have hbc : b ≠ c := fun e => hc _ hb e.symm;have hb2 : (b, x) ∈ (S.adopt c (x.copy.r0 0)).ps := bT (List.mem_append_left _ hb) hbc;exact h2.r0 hb2 ho (by omega)
def Shr (S S' : St) : Prop := ∀ e ∈ S'.wt, ∃ e' ∈ S.wt, e'.1 = e.1 ∧ ∀ c ∈ e.2, c ∈ e'.2
theorem Shr.refl (S : St) : Shr S S := fun e he => ⟨e, he, rfl, fun _ h => h⟩
theorem Shr.trans {S T U : St} (h : Shr S T) (k : Shr T U) : Shr S U := fun e he => by
 obtain ⟨e1, h1, h2, h3⟩ := k e he;obtain ⟨e2, h4, h5, h6⟩ := h e1 h1;exact ⟨e2, h4, h5.trans h2, fun c hc => h6 c (h3 c hc)⟩
theorem ly (hS : S.serve k = some S') : Shr S S' := fun e he => by
 obtain ⟨b, hh, hw⟩ := kg hS;rw [hw] at he;rcases b5 he with ⟨h1, _⟩ | ⟨h2, _, xs, h3, h4⟩
 · exact ⟨e, h1, rfl, fun _ h => h⟩
 · exact ⟨(k, xs), h3, h2.symm, fun c hc => by rw [h4] at hc; exact (List.mem_filter.1 hc).1⟩
theorem fR (p : Nat) : ∀ (n : Nat) (S : St), Shr S (St.looks n S p)
 | 0, S => Shr.refl S
 | n + 1, S => by
   unfold St.looks
   split
   · exact (ly ‹_›).trans (fR p n _)
   · split
     · exact (ly ‹_›).trans (fR p n _)
     · exact Shr.refl S
theorem va {e : (Nat × Nat) × List Nat} (hn : (S.wt.map (·.1)).Nodup) (ho : S.out b) (he : e ∈ (S.joinW b k).wt) (hm : b ∈ e.2) : e.1 = k := by
 by_cases hk : ∀ e ∈ S.wt, e.1 ≠ k
 · have e1 : (S.joinW b k).wt = S.wt ++ [(k, [b])] := fc hk;rw [e1] at he;rcases List.mem_append.1 he with h2 | h2
   · exact absurd hm (ho e h2)
   · simp at h2; rw [h2]
 · have hk' : k ∈ S.wt.map (·.1) := Decidable.byContradiction fun hn' => hk fun e he e1 => hn' (List.mem_map.2 ⟨e, he, e1⟩);obtain ⟨l1, ys, l2, hl, q1, q2⟩ := cr hn hk';have e1 : (S.joinW b k).wt = l1 ++ (k, ys ++ [b]) :: l2 := by show rowJoin b k S.wt = _; rw [hl, iv q1 q2]
   rw [e1] at he;rcases List.mem_append.1 he with h2 | h2
   · exact absurd hm (ho e (by rw [hl]; simp [h2]))
   · rcases List.mem_cons.1 h2 with rfl | h2
     · rfl
     · exact absurd hm (ho e (by rw [hl]; simp [h2]))
theorem MI.askR (h : MI (fun _ => False) N S) (hb : (b, x) ∈ S.ps) (hs : x.st = 1) {use most : Nat} (hu : use = 4 ∨ use = 5) (hm : use = 5 → most ≤ 8) : MI (fun _ => False) N (S.askR b x use most).2 := by
 have ho := h.out hb hs;unfold St.askR;cases hc : x.checkUse use most with
 | some i => exact h
 | none =>
   obtain ⟨c1, c2, c3⟩ := dN hc;have hk : okEnd (x.file (x.r 0)) := (h.i.file_ok hb _).resolve_left fun e => by rw [e] at c1; simp only at c1; omega
   have hj : MI (· = b) N (S.joinW b (x.file (x.r 0))) := ⟨h.i.joinW hb ho ⟨rfl, c3, fun h5 => by rw [h5] at c1; have := hm c1.symm; omega, .inl hs⟩ hk, (h.c.out_mono fun c hc => hc.elim).join rfl h.i.kn, h.x.congr rfl rfl rfl⟩;have h2 : MI (· = b) N ((S.joinW b (x.file (x.r 0))).look (x.file (x.r 0)).1) := MI.looks _ 16 hj;have hrow : ∀ e ∈ ((S.joinW b (x.file (x.r 0))).look (x.file (x.r 0)).1).wt, b ∈ e.2 → e.1 = x.file (x.r 0) := fun e he hme => by
     obtain ⟨e', h3, h4, h5⟩ := fR _ _ _ e he;rw [← h4];exact va h.i.kn ho h3 (h5 b hme)
   generalize hS2 : (S.joinW b (x.file (x.r 0))).look (x.file (x.r 0)).1 = S2 at *;generalize hkk : x.file (x.r 0) = k at *;simp only
   split
   · rename_i hin;have hfst : b ∈ S2.ps.map (·.1) := by
       obtain ⟨xs, q1, q2⟩ := fQ hin;obtain ⟨y, hy, _⟩ := h2.i.rm _ q1 b (by rw [q2]; exact hin);exact fB hy
     obtain ⟨z, hz⟩ := eO hfst;rw [bf h2.i.g.pn hz];simp only;have hask := (h2.i.atRow hin hz).1;refine ⟨{ g := h2.i.g.stop1 hz (by omega), wf := ?_, fl := ?_, y8 := h2.i.y8, yb := h2.i.yb, kn := h2.i.kn, ne := h2.i.ne, nd := h2.i.nd, ke := h2.i.ke, rm := ?_ }, ?_, ?_⟩
     · intro q hq;rcases aP hq with rfl | ⟨h3, _⟩
       · exact ⟨(h2.i.wf _ hz).r, (h2.i.wf _ hz).m⟩
       · exact h2.i.wf q h3
     · intro q hq;rcases aP hq with rfl | ⟨h3, _⟩
       · exact h2.i.fl (b, z) hz
       · exact h2.i.fl q h3
     · intro e he c hce;obtain ⟨y, hy, ha⟩ := h2.i.rm e he c hce;by_cases ecb : c = b
       · subst ecb;obtain rfl := aT h2.i.g.pn hz hy;refine ⟨{ z with st := use }, aq hz, ha.f, ha.a, ha.w, .inr ?_⟩;show use = e.1.2;rw [hrow e he hce, c1]
       · exact ⟨y, bT hy ecb, ha⟩
     · intro e he c hce y hy h1;rcases aP hy with h3 | ⟨h3, h4⟩
       · have e3 : y = { z with st := use } := congrArg Prod.snd h3;rw [e3] at h1;simp only at h1;omega
       · exact h4 (h2.c e he c hce y h3 h1)
     · exact (h2.x.setP (x' := { z with st := use }) h2.i.g.pn hz rfl Iff.rfl (h2.x.un (b, z) hz)).congr rfl rfl rfl (gM (h2.i.g.lv _ hz))
   · rename_i hnin;refine ⟨h2.i, fun e he c hce y hy h1 => ?_, h2.x⟩;have ecb := h2.c e he c hce y hy h1;subst ecb;have := hrow e he hce;refine hnin ?_;have e5 : (k, e.2) ∈ S2.wt := by rw [← this]; exact he
     rw [cQ h2.i.kn e5];exact hce
end
structure FixL (S S' : St) : Prop extends Fix S S' where
 last : S'.last = S.last
theorem FixL.refl (S : St) : FixL S S := ⟨Fix.refl S, rfl⟩
theorem FixL.trans {S T U : St} (h : FixL S T) (k : FixL T U) : FixL S U := ⟨h.toFix.trans k.toFix, k.last.trans h.last⟩
theorem dO {S S' : St} (h1 : S'.sl = S.sl) (h2 : S'.bo = S.bo) (h3 : S'.pn = S.pn) (h4 : S'.pg = S.pg) (h5 : S'.now = S.now) (h6 : S'.last = S.last) : FixL S S' := ⟨⟨h1, h2, h3, h4, h5⟩, h6⟩
theorem dG (S : St) (b : Nat) (x : PS) : FixL S (S.setP b x) := dO rfl rfl rfl rfl rfl rfl
theorem nP (S : St) (b : Nat) (x : PS) (s : Nat) : FixL S (S.stop1 b x s) := dO rfl rfl rfl rfl rfl rfl
theorem nQ (S : St) (b : Nat) (x : PS) : FixL S (S.wake1 b x) := dO rfl rfl rfl rfl rfl rfl
theorem nR (S : St) (b : Nat) (v : Int) : FixL S (S.r0 b v) := by
 unfold St.r0
 split
 · exact dG S b _
 · exact FixL.refl S
theorem vb (S : St) (b : Nat) (x : PS) (k : Nat × Nat) : FixL S (S.carry b x k) := by
 obtain ⟨ys, e, _⟩ := eN S b x k;rw [e]; exact dO rfl rfl rfl rfl rfl rfl
theorem nS {S S' : St} {k : Nat × Nat} (h : S.serve k = some S') : FixL S S' := by
 obtain ⟨b, x, _, _, _, _, rfl⟩ := cL h;have h1 : FixL S ((S.depart b k).carry b x k) := FixL.trans (T := S.depart b k) (dO rfl rfl rfl rfl rfl rfl) (vb (S.depart b k) b x k)
 split
 · exact h1
 · exact h1.trans (nQ _ _ _)
theorem iy (p : Nat) : ∀ (n : Nat) (S : St), FixL S (St.looks n S p)
 | 0, S => FixL.refl S
 | n + 1, S => by
   unfold St.looks
   split
   · exact (nS ‹_›).trans (iy p n _)
   · split
     · exact (nS ‹_›).trans (iy p n _)
     · exact FixL.refl S
theorem qD (S : St) (b n : Nat) : FixL S (S.shut b n) := by
 unfold St.shut
 split
 · exact (dG S b _).trans (iy _ 16 _)
 · exact FixL.refl S
theorem ku (b : Nat) (f : Nat → Nat × Nat) : ∀ (ns : List Nat) (S : St), FixL S (S.shuts b f ns)
 | [], S => FixL.refl S
 | n :: ns, S => by
   show FixL S ((if f n = (0, 0) then S else S.shut b n).shuts b f ns)
   split
   · exact ku b f ns S
   · exact (qD S b n).trans (ku b f ns _)
theorem nT (id : Nat) : ∀ (bs : List Nat) (S : St), FixL S (S.orphs id bs)
 | [], S => FixL.refl S
 | b :: bs, S => by
   unfold St.orphs;refine FixL.trans ?_ (nT id bs _)
   split
   · split
     · exact dG S b _
     · exact FixL.refl S
   · exact FixL.refl S
theorem qE (S : St) (b : Nat) (x : PS) (i : Nat) : FixL S (S.take b x i) := by
 unfold St.take
 split
 · exact dO rfl rfl rfl rfl rfl rfl
 · exact FixL.refl S
theorem py (S : St) (b : Nat) : FixL S (S.parent1 b) := by
 unfold St.parent1
 split
 · split
   · split
     · split
       · exact (qE S b _ _).trans (nQ _ _ _)
       · exact FixL.refl S
     · exact FixL.refl S
   · exact FixL.refl S
 · exact FixL.refl S
theorem kw : ∀ (bs : List Nat) (S : St), FixL S (S.parents bs)
 | [], S => FixL.refl S
 | b :: bs, S => (py S b).trans (kw bs _)
theorem iV (S : St) (b : Nat) (x : PS) (status : Int) : FixL S (S.fin b x status) := by
 unfold St.fin;refine FixL.trans ?_ (kw _ _);refine FixL.trans ?_ (nT _ _ _);refine FixL.trans ?_ (ku b x.f _ _);exact dO rfl rfl rfl rfl rfl rfl
theorem lz (S : St) (b : Nat) (x : PS) : FixL S (S.sleep1 b x) := by
 unfold St.sleep1
 split <;> exact dO rfl rfl rfl rfl rfl rfl
theorem nU (S : St) (b : Nat) (x : PS) : FixL S (S.waitR b x).2 := by
 unfold St.waitR
 split
 · simp only
   split
   · exact qE S b x _
   · exact nP S b x 2
 · exact FixL.refl S
theorem nV (S : St) (b : Nat) (x : PS) : FixL S (S.pipeR b x).2 := by
 unfold St.pipeR
 split
 · exact FixL.refl S
 · split
   · exact dO rfl rfl rfl rfl rfl rfl
   · exact FixL.refl S
theorem lA (S : St) (b : Nat) (x : PS) : FixL S (S.closeR b x).2 := by
 unfold St.closeR
 split
 · exact FixL.refl S
 · exact (qD S b _).trans (nR _ b 0)
theorem jw (S : St) (b : Nat) (x : PS) (use most : Nat) : FixL S (S.askR b x use most).2 := by
 unfold St.askR
 split
 · exact FixL.refl S
 · have h1 : FixL S ((S.joinW b (x.file (x.r 0))).look (x.file (x.r 0)).1) := FixL.trans (T := S.joinW b (x.file (x.r 0))) (dO rfl rfl rfl rfl rfl rfl) (iy _ 16 _);simp only
   split
   · split
     · exact h1.trans (nP _ _ _ _)
     · exact h1
   · exact h1
theorem eQ (S : St) (b : Nat) : FixL S (S.after b) := by
 unfold St.after
 split
 · split
   · rename_i z _ _;refine (dG S b z.more).trans ?_;unfold St.turn
     split
     · exact FixL.refl _
     · exact dO rfl rfl rfl rfl rfl rfl
   · exact dG S b _
 · exact FixL.refl S
theorem fe (Q : St → Prop) {S : St} {b : Nat} {x : PS} {m : Int} {c : Nat} (h0 : Q (S.fin b x (x.r 0))) (h1 : S.ps.length < 8 → Q (S.forkS b x c)) (h2 : Q (S.waitR b x).2) (h3 : ∀ q, S.find (x.r 0) = some q → q.2.st ≠ 6 → Q ((S.fin q.1 q.2 65280).r0 b 0)) (h4 : Q (S.sleep1 b x)) (h5 : Q (S.yield1 b x)) (h6 : Q (S.setP b (x.r0 ((x.id : Int) % 65536)))) (h7 : Q (S.pipeR b x).2) (h8 : Q (S.closeR b x).2) (h9 : Q (S.askR b x 4 64).2) (h10 : Q (S.askR b x 5 8).2) (h11 : Q (S.setP b (x.r0 0))) (hS : Q S) : Q (S.grantS b x m c) := by
 unfold St.grantS;by_cases e0 : m = 0
 · rw [if_pos e0]; exact h0
 rw [if_neg e0];by_cases e1 : m = 1
 · rw [if_pos e1];by_cases e : 8 ≤ S.ps.length
   · rw [if_pos e]; exact hS
   · rw [if_neg e]; exact h1 (by omega)
 rw [if_neg e1];by_cases e2 : m = 2
 · rw [if_pos e2]; exact h2
 rw [if_neg e2];by_cases e3 : m = 3
 · rw [if_pos e3];cases hf : S.find (x.r 0) with
   | none => exact hS
   | some q =>
     simp only;by_cases e : q.2.st = 6
     · rw [if_pos e]; exact hS
     · rw [if_neg e]; exact h3 q hf e
 rw [if_neg e3];by_cases e4 : m = 4
 · rw [if_pos e4]; exact h4
 rw [if_neg e4];by_cases e5 : m = 5
 · rw [if_pos e5]; exact h5
 rw [if_neg e5];by_cases e6 : m = 6
 · rw [if_pos e6]; exact h6
 rw [if_neg e6];by_cases e7 : m = 7
 · rw [if_pos e7]; exact h7
 rw [if_neg e7];by_cases e8 : m = 8
 · rw [if_pos e8]; exact h8
 rw [if_neg e8];by_cases e9 : m = 9
 · rw [if_pos e9]; exact h9
 rw [if_neg e9];by_cases e10 : m = 10
 · rw [if_pos e10]; exact h10
 rw [if_neg e10];by_cases e11 : m = 11
 · rw [if_pos e11]; exact h11
 rw [if_neg e11]; exact hS
theorem sq (S : St) (b : Nat) (x : PS) (m : Int) (c : Nat) : Fix S (S.grantS b x m c) ∧ (S.grantS b x m c).last ≤ S.last + 1 := by
 have lift : ∀ {T : St}, FixL S T → Fix S T ∧ T.last ≤ S.last + 1 := fun h => ⟨h.toFix, by rw [h.last]; omega⟩;exact fe (fun T => Fix S T ∧ T.last ≤ S.last + 1) (lift (iV S b x _)) (fun _ => ⟨⟨rfl, rfl, rfl, rfl, rfl⟩, Nat.le_refl _⟩) (lift (nU S b x)) (fun q _ _ => lift ((iV S q.1 q.2 _).trans (nR _ b 0))) (lift (lz S b x)) (lift (dO rfl rfl rfl rfl rfl rfl)) (lift (dG S b _)) (lift (nV S b x)) (lift (lA S b x)) (lift (jw S b x 4 64)) (lift (jw S b x 5 8)) (lift (dG S b _)) (lift (FixL.refl S))
theorem kx (Q : St → Prop) {S : St} {b : Nat} {x : PS} {c : Nat} (h0 : Q (S.fin b x 65281)) (h1 : ∀ i, (S.setP b x.next).grantV b x.next (S.pg x.at_ 1) = some i → Q (((S.setP b x.next).grantS b x.next (S.pg x.at_ 1) c).r0 b (ansOf i))) (h2 : (S.setP b x.next).grantV b x.next (S.pg x.at_ 1) = none → Q ((S.setP b x.next).grantS b x.next (S.pg x.at_ 1) c)) (h3 : ∀ x', x.at_ < S.pn → S.doR x = .ok x' → Q (S.setP b x')) : Q (S.runS b x c) := by
 unfold St.runS;by_cases e0 : S.pn ≤ x.at_
 · rw [if_pos e0]; exact h0
 rw [if_neg e0];by_cases e1 : S.pg x.at_ 0 = 9
 · rw [if_pos e1];cases hV : (S.setP b x.next).grantV b x.next (S.pg x.at_ 1) with
   | none => exact h2 hV
   | some i => exact h1 i hV
 rw [if_neg e1];cases hd : S.doR x with
 | ok x' => exact h3 x' (by omega) hd
 | error e => exact h0
theorem ff (S : St) (b : Nat) (x : PS) (c : Nat) : Fix S (S.runS b x c) ∧ (S.runS b x c).last ≤ S.last + 1 := by
 have lift : ∀ {T : St}, FixL S T → Fix S T ∧ T.last ≤ S.last + 1 := fun h => ⟨h.toFix, by rw [h.last]; omega⟩;have hg := sq (S.setP b x.next) b x.next (S.pg x.at_ 1) c
 refine kx (fun T => Fix S T ∧ T.last ≤ S.last + 1) (lift (iV S b x _)) (fun i _ => ?_) (fun _ => ⟨(dG S b x.next).toFix.trans hg.1, hg.2⟩) fun x' _ _ => lift (dG S b _);have h := nR ((S.setP b x.next).grantS b x.next (S.pg x.at_ 1) c) b (ansOf i);exact ⟨(dG S b x.next).toFix.trans (hg.1.trans h.toFix), by rw [h.last]; exact hg.2⟩
section
variable {S S' : St} {b : Nat} {x x' : PS} {k : Nat × Nat} {P : Nat → Prop} {N : Nat → Nat}
theorem Shr.out (h : Shr S S') (ho : S.out b) : S'.out b := fun e he hm => by
 obtain ⟨e', h1, _, h3⟩ := h e he;exact ho e' h1 (h3 b hm)
theorem zb : Shr S (S.depart b k) := fun e he => by
 rcases b5 he with ⟨h1, _⟩ | ⟨h2, _, xs, h3, h4⟩
 · exact ⟨e, h1, rfl, fun _ h => h⟩
 · exact ⟨(k, xs), h3, h2.symm, fun c hc => by rw [h4] at hc; exact (List.mem_filter.1 hc).1⟩
theorem mE (h : S'.wt = S.wt) : Shr S S' := fun e he => ⟨e, by rw [← h]; exact he, rfl, fun _ h => h⟩
theorem iW (b : Nat) (f : Nat → Nat × Nat) : ∀ (ns : List Nat) (S : St), Shr S (S.shuts b f ns)
 | [], S => Shr.refl S
 | n :: ns, S => by
   show Shr S ((if f n = (0, 0) then S else S.shut b n).shuts b f ns)
   split
   · exact iW b f ns S
   · refine Shr.trans ?_ (iW b f ns _);unfold St.shut
     split
     · exact (mE (S' := S.setP b _) rfl).trans (fR _ 16 _)
     · exact Shr.refl S
theorem nW (id : Nat) : ∀ (bs : List Nat) (S : St), (S.orphs id bs).wt = S.wt
 | [], S => rfl
 | b :: bs, S => by
   unfold St.orphs;rw [nW id bs]
   split
   · split <;> rfl
   · rfl
theorem pz (S : St) (c : Nat) : (S.parent1 c).wt = S.wt := by
 unfold St.parent1
 split
 · split
   · split
     · split
       · show (S.take c _ _).wt = _;unfold St.take
         split <;> rfl
       · rfl
     · rfl
   · rfl
 · rfl
theorem ky : ∀ (bs : List Nat) (S : St), (S.parents bs).wt = S.wt
 | [], _ => rfl
 | c :: bs, S => by
   show ((S.parent1 c).parents bs).wt = _;rw [ky bs, pz]
theorem xm (S : St) (b : Nat) (x : PS) (status : Int) : Shr S (S.fin b x status) := by
 unfold St.fin;refine Shr.trans ?_ (mE (ky _ _));refine Shr.trans ?_ (mE (nW _ _ _));refine Shr.trans ?_ (iW b x.f _ _);exact zb.trans (mE rfl)
theorem MI.grantS (h : MI (fun _ => False) N S) (hb : (b, x) ∈ S.ps) (hs : x.st = 1) {c : Nat} (hc : ∀ q ∈ S.ps, c ≠ q.1) (hN : N c = S.last + 1) (m : Int) : MI (fun _ => False) N (S.grantS b x m c) := by
 have ho := h.out hb hs;have wx := (h.i.wf _ hb).r 0 (by omega);exact fe (MI (fun _ => False) N) (h.fin hb _) (fun h8 => h.forkS hb ho hc h8 hN) (h.waitR hb ho hs) (fun q hf _ => (h.fin (b := q.1) (x := q.2) (fA hf).1 _).r0' (fun z hz => (xm S q.1 q.2 _).out ho) (by omega)) (h.sleep1 hb ho) (h.yield1 hb ho hs) (h.r0 hb ho (by omega)) (h.pipeR hb ho) (h.closeR hb ho) (h.askR hb hs (.inl rfl) (by omega)) (h.askR hb hs (.inr rfl) (by omega)) (h.r0 hb ho (by omega)) h
theorem mF {op a c d : Int} (hw : WF x) (hc : 0 ≤ c ∧ c < 256) (hd : 0 ≤ d ∧ d < 256) (h : x.do op a c d = .ok x') : x'.st = x.st ∧ x'.lv = x.lv ∧ x'.id = x.id ∧ x'.par = x.par ∧ x'.used = x.used ∧ x'.f = x.f ∧ WF x' := by
 have hr : ∀ v : Int, 0 ≤ v ∧ v < 65536 → ∀ i, WF { x with at_ := x.at_ + 1, r := put x.r i v } := fun v hv i => ⟨fun j hj => by
   show 0 ≤ put x.r i v j ∧ put x.r i v j < 65536;unfold put; split
   · exact hv
   · exact hw.r j hj, hw.m⟩
 have ha8 : (a % 8).toNat < 8 := by omega
 have hc8 : (c % 8).toNat < 8 := by omega
 have wa := hw.r _ ha8;have wc := hw.r _ hc8;unfold PS.do at h
 simp only at h;by_cases e1 : op = 1
 · rw [if_pos e1] at h; cases h; exact ⟨rfl, rfl, rfl, rfl, rfl, rfl, hr _ (by omega) _⟩
 rw [if_neg e1] at h;by_cases e2 : op = 2
 · rw [if_pos e2] at h; cases h; exact ⟨rfl, rfl, rfl, rfl, rfl, rfl, hr _ wc _⟩
 rw [if_neg e2] at h;by_cases e3 : op = 3
 · rw [if_pos e3] at h; cases h; exact ⟨rfl, rfl, rfl, rfl, rfl, rfl, hr _ (by omega) _⟩
 rw [if_neg e3] at h;by_cases e4 : op = 4
 · rw [if_pos e4] at h; cases h; exact ⟨rfl, rfl, rfl, rfl, rfl, rfl, hr _ (by omega) _⟩
 rw [if_neg e4] at h;by_cases e5 : op = 5
 · rw [if_pos e5] at h; cases h; exact ⟨rfl, rfl, rfl, rfl, rfl, rfl, ⟨hw.r, hw.m⟩⟩
 rw [if_neg e5] at h;by_cases e6 : op = 6
 · rw [if_pos e6] at h; cases h; exact ⟨rfl, rfl, rfl, rfl, rfl, rfl, ⟨hw.r, hw.m⟩⟩
 rw [if_neg e6] at h;by_cases e7 : op = 7
 · rw [if_pos e7] at h
   split at h
   · rename_i hlt;have := hw.m (x.r (c % 8).toNat + d).toNat (by omega);cases h;exact ⟨rfl, rfl, rfl, rfl, rfl, rfl, hr _ (by omega) _⟩
   · cases h
 rw [if_neg e7] at h;by_cases e8 : op = 8
 · rw [if_pos e8] at h
   split at h
   · rename_i hlt;cases h;refine ⟨rfl, rfl, rfl, rfl, rfl, rfl, hw.r, fun j hj => ?_⟩;show 0 ≤ put x.m (x.r (c % 8).toNat + d).toNat (x.r (a % 8).toNat % 256) j ∧ put x.m (x.r (c % 8).toNat + d).toNat (x.r (a % 8).toNat % 256) j < 256;unfold put; split
     · omega
     · exact hw.m j hj
   · cases h
 rw [if_neg e8] at h;cases h
def Coded (S : St) : Prop := S.pn ≤ 256 ∧ ∀ i, i < S.pn → ∀ j, j < 4 → 0 ≤ S.pg i j ∧ S.pg i j < 256
theorem MI.runS (h : MI (fun _ => False) N S) (hp : Coded S) (hb : (b, x) ∈ S.ps) (hs : x.st = 1) {c : Nat} (hc : ∀ q ∈ S.ps, c ≠ q.1) (hN : N c = S.last + 1) : MI (fun _ => False) N (S.runS b x c) := by
 have ho := h.out hb hs;have h1 : MI (fun _ => False) N (S.setP b x.next) := h.like (x' := x.next) hb ho rfl rfl ⟨(h.i.wf _ hb).r, (h.i.wf _ hb).m⟩ (h.i.fl (b, x) hb) rfl rfl (h.x.un (b, x) hb);have hb1 : (b, x.next) ∈ (S.setP b x.next).ps := aq hb;have hc1 : ∀ q ∈ (S.setP b x.next).ps, c ≠ q.1 := fun q hq => by
   rcases aP hq with rfl | ⟨h2, _⟩
   · exact hc (b, x) hb
   · exact hc q h2
 have hg := h1.grantS hb1 hs hc1 hN (S.pg x.at_ 1);refine kx (MI (fun _ => False) N) (h.fin hb _) (fun i hV => ?_) (fun _ => hg) fun x' hlt hd => ?_
 · obtain ⟨hsame, _⟩ := lw hV;rw [hsame];exact h1.r0' (fun _ _ => ho) (uC i)
 · have hby := hp.2 _ hlt;obtain ⟨l1, l2, l3, l4, l5, l6, l7⟩ := mF (h.i.wf _ hb) (hby 2 (by omega)) (hby 3 (by omega)) hd;exact h.like hb ho l1 l2 l7 (by rw [l6]; exact h.i.fl (b, x) hb) l3 l4 (by rw [l5]; exact h.x.un (b, x) hb)
end
section
variable {S S' : St} {b : Nat} {x x' : PS} {P : Nat → Prop} {N : Nat → Nat}
theorem MI.wakes : ∀ (bs : List Nat) {S : St}, MI P N S → MI P N (S.wakes bs)
 | [], _, h => h
 | b :: bs, S, h => by
   unfold St.wakes;refine MI.wakes bs ?_;cases hg : S.get b with
   | none => exact h
   | some x =>
     simp only
     split
     · rename_i h3;have hb := aV hg;exact h.wake1 hb (h.i.out_st hb (by omega) (by omega) (by omega)) (by omega)
     · exact h
theorem dD (S : St) : ∀ n, (S.raises n).ps = S.ps ∧ (S.raises n).wt = S.wt ∧ (S.raises n).by_ = S.by_ ∧ (S.raises n).last = S.last ∧ (S.raises n).now = S.now
 | 0 => ⟨rfl, rfl, rfl, rfl, rfl⟩
 | n + 1 => dD S n
theorem lB (S : St) (h : ∀ l, 3 ≤ l → S.rows l = []) : ∀ n, n < 3 → ∀ l, 3 ≤ l → (S.raises n).rows l = []
 | 0, _ => h
 | n + 1, hn => fun l hl => by
   show put (put (S.raises n).rows 0 _) (n + 1) [] l = [];rw [gM hn l hl, gM (by omega) l hl];exact lB S h n (by omega) l hl
theorem bz (x : PS) : (liftP x).st = x.st ∧ (liftP x).id = x.id ∧ (liftP x).par = x.par ∧ (liftP x).r = x.r ∧ (liftP x).m = x.m ∧ (liftP x).f = x.f ∧ (liftP x).used ≤ x.used := by
 unfold liftP
 split
 · exact ⟨rfl, rfl, rfl, rfl, rfl, rfl, Nat.zero_le _⟩
 · exact ⟨rfl, rfl, rfl, rfl, rfl, rfl, Nat.le_refl _⟩
theorem MI.raised (h : MI P N S) : MI P N ((S.lifts (S.ps.map (·.1))).raises 2) := by
 have hG := h.i.g.raise;have e := fP h.i.g.pn;obtain ⟨r1, r2, r3, r4, r5⟩ := dD (S.lifts (S.ps.map (·.1))) 2;rw [e] at r1 r2 r3 r4 r5;rw [e] at hG ⊢;generalize hT : (S.setPs (S.ps.map fun q => (q.1, liftP q.2))).raises 2 = T at *;have cs : ∀ q ∈ T.ps, ∃ r ∈ S.ps, q = (r.1, liftP r.2) := fun q hq => by
   rw [r1] at hq;obtain ⟨r, hr, e⟩ := List.mem_map.1 hq;exact ⟨r, hr, e.symm⟩
 have to : ∀ c y, (c, y) ∈ S.ps → (c, liftP y) ∈ T.ps := fun c y hy => by rw [r1]; exact List.mem_map.2 ⟨(c, y), hy, rfl⟩
 have w : T.wt = S.wt := r2;refine ⟨{ g := hG, wf := ?_, fl := ?_, y8 := by rw [r3]; exact h.i.y8, yb := by rw [r3]; exact h.i.yb, kn := by rw [w]; exact h.i.kn, ne := by rw [w]; exact h.i.ne, nd := by rw [w]; exact h.i.nd, ke := by rw [w]; exact h.i.ke, rm := ?_ }, ?_, ⟨?_, ?_, ?_, ?_, ?_, ?_, ?_⟩⟩
 · intro q hq;obtain ⟨r, hr, rfl⟩ := cs q hq;obtain ⟨_, _, _, l4, l5, _, _⟩ := bz r.2;exact ⟨by rw [l4]; exact (h.i.wf r hr).r, by rw [l5]; exact (h.i.wf r hr).m⟩
 · intro q hq;obtain ⟨r, hr, rfl⟩ := cs q hq;obtain ⟨_, _, _, _, _, l6, _⟩ := bz r.2;simp only;rw [l6]; exact h.i.fl r hr
 · intro e he c hc;rw [w] at he;obtain ⟨y, hy, ha⟩ := h.i.rm e he c hc;obtain ⟨l1, _, _, l4, _, l6, _⟩ := bz y;refine ⟨liftP y, to c y hy, ?_, by rw [l4]; exact ha.a, by rw [l4]; exact ha.w, by rw [l1]; exact ha.s⟩;have := ha.f;unfold PS.file at *;rw [l4, l6]; exact this
 · intro e he c hc y hy h1;rw [w] at he;obtain ⟨r, hr, e2⟩ := cs _ hy;have e3 : c = r.1 := congrArg Prod.fst e2;have e4 : y = liftP r.2 := congrArg Prod.snd e2;rw [e4, (bz r.2).1] at h1;exact h.c e he c hc r.2 (by rw [e3]; exact hr) h1
 · intro q hq;obtain ⟨r, hr, rfl⟩ := cs q hq;rw [r5];exact Nat.le_trans (bz r.2).2.2.2.2.2.2 (h.x.un r hr)
 · intro q hq r hr e;obtain ⟨q', hq', rfl⟩ := cs q hq;obtain ⟨r', hr', rfl⟩ := cs r hr;simp only at e;rw [(bz q'.2).2.1, (bz r'.2).2.1] at e;rw [h.x.idn q' hq' r' hr' e]
 · intro q hq;obtain ⟨r, hr, rfl⟩ := cs q hq;simp only;rw [(bz r.2).2.1, r4];exact h.x.idr r hr
 · obtain ⟨q, hq, h1⟩ := h.x.p1;exact ⟨(q.1, liftP q.2), to q.1 q.2 hq, by simp only; rw [(bz q.2).2.1]; exact h1⟩
 · intro q hq;obtain ⟨r, hr, rfl⟩ := cs q hq;simp only;rw [(bz r.2).2.1, (bz r.2).2.2.1];exact h.x.p0 r hr
 · rw [← hT]; exact lB _ h.x.r3 2 (by omega)
 · intro q hq;obtain ⟨r, hr, rfl⟩ := cs q hq;simp only;rw [(bz r.2).2.1];exact h.x.nm r hr
theorem MI.boost (h : MI P N S) : MI P N S.boost := by
 unfold St.boost
 split
 · exact h.raised
 · exact h
theorem MI.lead (h : MI P N S) : MI P N S.lead := MI.boost (MI.wakes _ h)
def St.later (S : St) : St := { S with now := S.now + 1 }
theorem MI.later (h : MI P N S) : MI P N S.later where
 i := ⟨⟨h.i.g.pn, h.i.g.p8, h.i.g.lv, h.i.g.rn, h.i.g.rm, h.i.g.rr⟩, h.i.wf, h.i.fl, h.i.y8, h.i.yb, h.i.kn, h.i.ne, h.i.nd, h.i.ke, h.i.rm⟩
 c := h.c
 x := ⟨fun q hq => Nat.le_succ_of_le (h.x.un q hq), h.x.idn, h.x.idr, h.x.p1, h.x.p0, h.x.r3, h.x.nm⟩
theorem nX (S : St) (b : Nat) : (S.after b).later = S.later.after b := by
 unfold St.after;have e : S.later.get b = S.get b := rfl;rw [e];cases S.get b with
 | none => rfl
 | some z =>
   simp only
   split
   · show ((S.setP b z.more).turn b z.more).later = (S.later.setP b z.more).turn b z.more;unfold St.turn;have e2 : (S.later.setP b z.more).sl = (S.setP b z.more).sl := rfl;rw [e2]
     split <;> rfl
   · rfl
theorem MI.after (h : MI (fun _ => False) N S) (b : Nat) : MI (fun _ => False) N (S.after b).later := by
 rw [nX];have h1 := h.later;unfold St.after;cases hg : S.later.get b with
 | none => exact h1
 | some z =>
   simp only;have hb := aV hg;have hu : z.more.used ≤ S.later.now := Nat.succ_le_succ (h.x.un (b, z) hb);have hst : S.later.out b ∨ False ∨ z.more.st ≠ 1 := by
     by_cases e : z.st = 1
     · exact .inl (h1.out hb e)
     · exact .inr (.inr e)
   have h2 : MI (fun _ => False) N (S.later.setP b z.more) := ⟨h1.i.alike hb rfl rfl rfl rfl rfl, h1.c.setP hst, h1.x.setP h1.i.g.pn hb rfl Iff.rfl hu⟩
   split
   · rename_i e1;have hb2 : (b, z.more) ∈ (S.later.setP b z.more).ps := aq hb;have ho : (S.later.setP b z.more).out b := h1.out hb e1;unfold St.turn
     split
     · exact h2
     · exact h2.move (x' := { z.more with lv := min (z.more.lv + 1) 2, used := 0 }) hb2 ho e1 e1 (by show min (z.lv + 1) 2 < 3; omega) ⟨(h1.i.wf _ hb).r, (h1.i.wf _ hb).m⟩ (h1.i.fl (b, z) hb) rfl rfl (Nat.zero_le _)
   · exact h2
structure TI (N : Nat → Nat) (S : St) : Prop where
 m : MI (fun _ => False) N S
 p : Coded S
 bo : S.bo ≠ 0
 ls : S.last ≤ S.now + 1
theorem TI.coded_lead (h : TI N S) : Coded S.lead := by
 have hf := bK S;unfold Coded;rw [hf.pn, hf.pg];exact h.p
theorem dE (hG : Good S) (hf : S.first = some b) : ∃ x, (b, x) ∈ S.ps ∧ x.st = 1 := by
 unfold St.first at hf
 have hm := List.mem_of_head? hf;rcases List.mem_append.1 hm with h | h
 · obtain ⟨y, hy, _, h2⟩ := hG.rm 0 (by omega) b h;exact ⟨y, hy, h2⟩
 · rcases List.mem_append.1 h with h | h
   · obtain ⟨y, hy, _, h2⟩ := hG.rm 1 (by omega) b h;exact ⟨y, hy, h2⟩
   · obtain ⟨y, hy, _, h2⟩ := hG.rm 2 (by omega) b h;exact ⟨y, hy, h2⟩
theorem cA (S : St) : S.lead.last = S.last := by
 have h1 : ∀ (bs : List Nat) (S : St), (S.wakes bs).last = S.last := by
   intro bs
   induction bs with
   | nil => intro S; rfl
   | cons b bs ih =>
     intro S;unfold St.wakes;rw [ih]
     split
     · split <;> rfl
     · rfl
 have h2 : ∀ (bs : List Nat) (S : St), (S.lifts bs).last = S.last := by
   intro bs
   induction bs with
   | nil => intro S; rfl
   | cons b bs ih =>
     intro S;unfold St.lifts;rw [ih]
     split
     · split <;> rfl
     · rfl
 unfold St.lead St.boost
 split
 · rw [(dD _ 2).2.2.2.1, h2]; exact h1 _ S
 · exact h1 _ S
theorem TI.running (h : TI N S) (hn : S.now < 2305843009213693952) (hf : S.lead.first = some b) (hb : (b, x) ∈ S.lead.ps) : Running S.lead b x := by
 have hl := h.m.lead;obtain ⟨y, hy, h1⟩ := dE hl.i.g hf;obtain rfl := aT hl.i.g.pn hb hy;have hfx := bK S;exact ⟨hl.i, hb, h1, hl.out hb h1, by rw [hfx.now]; omega, by rw [cA]; have := h.ls; omega⟩
theorem TI.idle (h : TI N S) : TI N S.lead.later := by
 have hfx := bK S;refine ⟨h.m.lead.later, h.coded_lead, by show S.lead.bo ≠ 0; rw [hfx.bo]; exact h.bo, ?_⟩;show S.lead.last ≤ S.lead.now + 1 + 1;rw [cA, hfx.now];have := h.ls;omega
theorem TI.ran (h : TI N S) (hf : S.lead.first = some b) (hb : (b, x) ∈ S.lead.ps) {c : Nat} (hc : ∀ q ∈ S.lead.ps, c ≠ q.1) (hN : N c = S.last + 1) : TI N ((S.lead.runS b x c).after b).later := by
 have hfx := bK S;have hl := h.m.lead;obtain ⟨y, hy, h1⟩ := dE hl.i.g hf;obtain rfl := aT hl.i.g.pn hb hy;have hr := ff S.lead b x c;have ha := eQ (S.lead.runS b x c) b;refine ⟨(hl.runS h.coded_lead hb h1 hc (by rw [cA]; exact hN)).after b, ?_, ?_, ?_⟩
 · show Coded ((S.lead.runS b x c).after b);unfold Coded;rw [ha.pn, ha.pg, hr.1.pn, hr.1.pg];exact h.coded_lead
 · show ((S.lead.runS b x c).after b).bo ≠ 0;rw [ha.bo, hr.1.bo, hfx.bo]; exact h.bo
 · show ((S.lead.runS b x c).after b).last ≤ ((S.lead.runS b x c).after b).now + 1 + 1;rw [ha.last, ha.now, hr.1.now, hfx.now];have := hr.2;rw [cA] at this;have := h.ls;omega
end
abbrev Inj (ρ : Nat → Nat) : Prop := ∀ a b, ρ a = ρ b → a = b
def mapW (ρ : Nat → Nat) (l : Wt) : Wt := l.map fun e => (e.1, e.2.map ρ)
def St.map (ρ : Nat → Nat) (S : St) : St := { S with ps := S.ps.map fun q => (ρ q.1, q.2), rows := fun l => (S.rows l).map ρ, wt := mapW ρ S.wt }
section
variable {ρ : Nat → Nat} {S S' : St} {b : Nat} {x : PS} {k : Nat × Nat}
theorem jx (ρ : Nat → Nat) (S : St) : (S.map ρ).ps.map (·.1) = (S.ps.map (·.1)).map ρ := by
 simp [St.map, List.map_map, Function.comp]
theorem dn (h : Inj ρ) (S : St) (b : Nat) : (S.map ρ).get (ρ b) = S.get b := by
 unfold St.get;show ((S.ps.map fun q => (ρ q.1, q.2)).find? fun q => q.1 == ρ b).map (·.2) = _;rw [List.find?_map];have e : ((fun q : Nat × PS => q.1 == ρ b) ∘ fun q : Nat × PS => (ρ q.1, q.2)) = fun q => q.1 == b := by
   funext q
   simp only [Function.comp];rw [Bool.eq_iff_iff];simp only [beq_iff_eq];exact ⟨fun e => h _ _ e, fun e => by rw [e]⟩
 rw [e, Option.map_map];cases S.ps.find? fun q => q.1 == b <;> rfl
theorem bp (h : Inj ρ) (S : St) (b : Nat) (x : PS) : (S.map ρ).setP (ρ b) x = (S.setP b x).map ρ := by
 unfold St.setP St.map;simp only [List.map_map];congr 1;apply List.map_congr_left;intro q _;simp only [Function.comp];by_cases e : q.1 = b
 · rw [if_pos e, if_pos (by rw [e])]
 · rw [if_neg e, if_neg (fun e' => e (h _ _ e'))]
theorem cM (S : St) (l : Nat) (xs : List Nat) : (S.map ρ).setRow l (xs.map ρ) = (S.setRow l xs).map ρ := by
 unfold St.setRow St.map;congr 1
 funext j
 by_cases e : j = l
 · simp [put, e]
 · simp [put, e]
theorem vc (T : St) (l b : Nat) : (T.map ρ).rows l ++ [ρ b] = (T.rows l ++ [b]).map ρ := by
 rw [List.map_append]; rfl
theorem nY (S : St) (i : Nat) (ys : List Int) : (S.map ρ).setY i ys = (S.setY i ys).map ρ := rfl
theorem fS (h : Inj ρ) : ∀ (xs : List Nat) (b : Nat), (xs.map ρ).erase (ρ b) = (xs.erase b).map ρ
 | [], _ => rfl
 | a :: xs, b => by
   rw [List.map_cons, List.erase_cons, List.erase_cons];by_cases e : a = b
   · subst e; simp
   · have e' : ¬ ρ a = ρ b := fun e' => e (h _ _ e');simp only [beq_iff_eq, e, e', if_false, List.map_cons];rw [fS h xs b]
theorem fT (h : Inj ρ) (S : St) (b : Nat) (x : PS) : (S.map ρ).wake1 (ρ b) x = (S.wake1 b x).map ρ := by
 unfold St.wake1;rw [bp h, ← cM];congr 1;show (S.rows x.lv).map ρ ++ [ρ b] = _;simp
theorem fU (h : Inj ρ) (S : St) (b : Nat) (x : PS) (s : Nat) : (S.map ρ).stop1 (ρ b) x s = (S.stop1 b x s).map ρ := by
 unfold St.stop1;rw [bp h, ← cM];congr 1;exact fS h _ _
theorem nZ (h : Inj ρ) (b : Nat) (k : Nat × Nat) (l : Wt) : departW (ρ b) k (mapW ρ l) = mapW ρ (departW b k l) := by
 have hf : ∀ xs : List Nat, (xs.map ρ).filter (fun c => !decide (c = ρ b)) = (xs.filter fun c => !decide (c = b)).map ρ := fun xs => by
   rw [List.filter_map];congr 1;apply List.filter_congr;intro c _;simp only [Function.comp];by_cases e : c = b
   · simp [e]
   · have e' : ¬ ρ c = ρ b := fun e' => e (h _ _ e');simp [e, e']
 unfold departW mapW
 induction l with
 | nil => rfl
 | cons e l ih =>
   rw [List.map_cons, List.filterMap_cons, List.filterMap_cons];simp only;by_cases hk : e.1 = k
   · simp only [hk, if_true, hf, List.length_map];by_cases h0 : (e.2.filter fun c => !decide (c = b)).length = 0
     · simp only [h0, if_true]; exact ih
     · simp only [h0, if_false, List.map_cons]; rw [ih]
   · simp only [hk, if_false, List.map_cons]; rw [ih]
theorem gN (h : Inj ρ) (S : St) (b : Nat) (k : Nat × Nat) : (S.map ρ).depart (ρ b) k = (S.depart b k).map ρ := by
 unfold St.depart;show (S.map ρ).setW (departW (ρ b) k (mapW ρ S.wt)) = _;rw [nZ h]; rfl
theorem ey (S : St) (k : Nat × Nat) : (S.map ρ).isOpen k = S.isOpen k := by
 unfold St.isOpen;show (S.ps.map fun q => (ρ q.1, q.2)).any (fun q => q.2.has k) = _;rw [List.any_map]; rfl
theorem xn (S : St) (x : PS) (k : Nat × Nat) : (S.map ρ).canBeDone x k = S.canBeDone x k := by
 unfold St.canBeDone; rw [ey]; rfl
theorem oa (S : St) (x : PS) (k : Nat × Nat) : (S.map ρ).carried x k = S.carried x k := by
 unfold St.carried; rw [ey]; rfl
theorem lC (h : Inj ρ) (S : St) (b : Nat) (x : PS) (k : Nat × Nat) : (S.map ρ).carry (ρ b) x k = (S.carry b x k).map ρ := by
 unfold St.carry;rw [ey]
 split
 · unfold St.readP;rw [bp h]; rfl
 · split
   · unfold St.writeP;show ((S.map ρ).setY k.1 _).setP (ρ b) x.gave = _;rw [nY, bp h]; rfl
   · exact bp h S b _
theorem lD (S : St) (k : Nat × Nat) : (S.map ρ).rowAt k = (S.rowAt k).map ρ := by
 unfold St.rowAt;show (((mapW ρ S.wt).find? fun e => decide (e.1 = k)).map (·.2)).getD [] = _;unfold mapW;rw [List.find?_map];have e : ((fun e : (Nat × Nat) × List Nat => decide (e.1 = k)) ∘ fun e : (Nat × Nat) × List Nat => (e.1, e.2.map ρ)) = fun e => decide (e.1 = k) := rfl;rw [e];cases S.wt.find? fun e => decide (e.1 = k) <;> rfl
theorem sr (h : Inj ρ) (S : St) (k : Nat × Nat) : (S.map ρ).serve k = (S.serve k).map (St.map ρ) := by
 unfold St.serve;rw [lD];cases S.rowAt k with
 | nil => rfl
 | cons b l =>
   simp only [List.map_cons, dn h];cases S.get b with
   | none => rfl
   | some x =>
     simp only [xn]
     split
     · simp only [Option.map_some];congr 1
       split
       · rw [gN h, lC h]
       · rw [gN h, lC h, oa, fT h]
     · rfl
theorem iX (h : Inj ρ) (p : Nat) : ∀ (n : Nat) (S : St), St.looks n (S.map ρ) p = (St.looks n S p).map ρ
 | 0, _ => rfl
 | n + 1, S => by
   simp only [St.looks, sr h];cases S.serve (p, 5) with
   | some S' => exact iX h p n S'
   | none =>
     simp only [Option.map_none];cases S.serve (p, 4) with
     | some S' => exact iX h p n S'
     | none => rfl
theorem od (h : Inj ρ) (S : St) (p : Nat) : (S.map ρ).look p = (S.look p).map ρ := iX h p 16 S
theorem og (h : Inj ρ) (S : St) (b n : Nat) : (S.map ρ).shut (ρ b) n = (S.shut b n).map ρ := by
 unfold St.shut;rw [dn h];cases S.get b with
 | none => rfl
 | some x =>
   simp only;rw [bp h, od h]
theorem iY (h : Inj ρ) (b : Nat) (f : Nat → Nat × Nat) : ∀ (ns : List Nat) (S : St), (S.map ρ).shuts (ρ b) f ns = (S.shuts b f ns).map ρ
 | [], _ => rfl
 | n :: ns, S => by
   show (if f n = (0, 0) then S.map ρ else (S.map ρ).shut (ρ b) n).shuts (ρ b) f ns = ((if f n = (0, 0) then S else S.shut b n).shuts b f ns).map ρ
   split
   · exact iY h b f ns S
   · rw [og h]; exact iY h b f ns _
theorem fV (h : Inj ρ) (id : Nat) : ∀ (bs : List Nat) (S : St), (S.map ρ).orphs id (bs.map ρ) = (S.orphs id bs).map ρ
 | [], _ => rfl
 | b :: bs, S => by
   simp only [List.map_cons, St.orphs, dn h];cases S.get b with
   | none => exact fV h id bs S
   | some y =>
     simp only
     split
     · rw [bp h]; exact fV h id bs _
     · exact fV h id bs S
theorem jh (S : St) (x : PS) : (S.map ρ).childAt x = S.childAt x := by
 unfold St.childAt;show (S.ps.map fun q => (ρ q.1, q.2)).findIdx? _ = _;rw [List.findIdx?_map]; rfl
theorem oh (S : St) (i : Nat) : (S.map ρ).ps[i]? = (S.ps[i]?).map fun q => (ρ q.1, q.2) := List.getElem?_map ..
theorem ol (h : Inj ρ) (S : St) (b : Nat) (x : PS) (i : Nat) : (S.map ρ).take (ρ b) x i = (S.take b x i).map ρ := by
 unfold St.take;rw [oh];cases S.ps[i]? with
 | none => rfl
 | some q =>
   simp only [Option.map_some];rw [← bp h];congr 1;have e : (S.map ρ).ps.eraseIdx i = (S.ps.eraseIdx i).map fun q => (ρ q.1, q.2) := (ik _ _ _).symm;rw [e]; rfl
theorem om (h : Inj ρ) (S : St) (b : Nat) : (S.map ρ).parent1 (ρ b) = (S.parent1 b).map ρ := by
 unfold St.parent1;rw [dn h];cases S.get b with
 | none => rfl
 | some x =>
   simp only [jh]
   split
   · cases S.childAt x with
     | none => rfl
     | some i =>
       simp only [oh];cases S.ps[i]? with
       | none => rfl
       | some q =>
         simp only [Option.map_some];rw [ol h, fT h]
   · rfl
theorem ji (h : Inj ρ) : ∀ (bs : List Nat) (S : St), (S.map ρ).parents (bs.map ρ) = (S.parents bs).map ρ
 | [], _ => rfl
 | b :: bs, S => by
   show ((S.map ρ).parent1 (ρ b)).parents (bs.map ρ) = _;rw [om h]; exact ji h bs _
theorem mG (h : Inj ρ) (S : St) (b : Nat) (x : PS) (status : Int) : (S.map ρ).fin (ρ b) x status = (S.fin b x status).map ρ := by
 unfold St.fin;simp only;rw [gN h, fU h, bp h, iY h, jx, fV h, jx, ji h]
theorem iz (S : St) (id : Int) : (S.map ρ).find id = (S.find id).map fun q => (ρ q.1, q.2) := by
 unfold St.find;show (S.ps.map fun q => (ρ q.1, q.2)).find? _ = _;rw [List.find?_map]; rfl
theorem pB (h : Inj ρ) (S : St) (b : Nat) (v : Int) : (S.map ρ).r0 (ρ b) v = (S.r0 b v).map ρ := by
 unfold St.r0;rw [dn h];cases S.get b with
 | none => rfl
 | some z => exact bp h S b _
theorem mH (S : St) (x : PS) : (S.map ρ).hasChild x = S.hasChild x := by
 unfold St.hasChild;show (S.ps.map fun q => (ρ q.1, q.2)).any _ = _;rw [List.any_map]; rfl
abbrev snd (ρ : Nat → Nat) (p : Option Nat × St) : Option Nat × St := (p.1, p.2.map ρ)
theorem lE (h : Inj ρ) (S : St) (b : Nat) (x : PS) : (S.map ρ).waitR (ρ b) x = snd ρ (S.waitR b x) := by
 unfold St.waitR;rw [mH, jh]
 split
 · cases S.childAt x with
   | none => simp only [snd]; rw [fU h]
   | some i => simp only [snd]; rw [ol h]
 · rfl
theorem pC (h : Inj ρ) (S : St) (b : Nat) (x : PS) : (S.map ρ).sleep1 (ρ b) x = (S.sleep1 b x).map ρ := by
 unfold St.sleep1
 split
 · exact bp h S b _
 · show ((S.map ρ).setP (ρ b) _).stop1 (ρ b) _ 3 = _;rw [bp h, fU h]; rfl
theorem pD (h : Inj ρ) (S : St) (b : Nat) (x : PS) : (S.map ρ).yield1 (ρ b) x = (S.yield1 b x).map ρ := by
 unfold St.yield1;simp only;have e1 : ((S.map ρ).setP (ρ b) (x.r0 0)).setRow x.lv (((S.map ρ).rows x.lv).erase (ρ b)) = ((S.setP b (x.r0 0)).setRow x.lv ((S.rows x.lv).erase b)).map ρ := by
   rw [bp h, ← cM];congr 1;exact fS h _ _
 rw [e1, vc, cM]
theorem pE (S : St) : (S.map ρ).unused = S.unused := by
 unfold St.unused;have e : (S.map ρ).shutAt = S.shutAt := by
   funext p
   unfold St.shutAt;rw [ey, ey]
 rw [e]
theorem lF (h : Inj ρ) (S : St) (b : Nat) (x : PS) : (S.map ρ).pipeR (ρ b) x = snd ρ (S.pipeR b x) := by
 unfold St.pipeR;rw [pE]
 split
 · rfl
 · split
   · simp only [snd]; rw [nY, bp h]
   · rfl
theorem kz (h : Inj ρ) (S : St) (b : Nat) (x : PS) : (S.map ρ).closeR (ρ b) x = snd ρ (S.closeR b x) := by
 unfold St.closeR
 split
 · rfl
 · simp only [snd]; rw [og h, pB h]
theorem ss (S : St) (b : Nat) (k : Nat × Nat) : (S.map ρ).joinW (ρ b) k = (S.joinW b k).map ρ := by
 unfold St.joinW;show (S.map ρ).setW (rowJoin (ρ b) k (mapW ρ S.wt)) = _;have e : rowJoin (ρ b) k (mapW ρ S.wt) = mapW ρ (rowJoin b k S.wt) := by
   have e0 : (∀ e ∈ mapW ρ S.wt, e.1 ≠ k) ↔ ∀ e ∈ S.wt, e.1 ≠ k := by
     unfold mapW;constructor
     · intro hh e he; exact hh (e.1, e.2.map ρ) (List.mem_map.2 ⟨e, he, rfl⟩)
     · intro hh e he;obtain ⟨e', he', rfl⟩ := List.mem_map.1 he;exact hh e' he'
   unfold rowJoin;by_cases hk : ∀ e ∈ S.wt, e.1 ≠ k
   · rw [if_pos hk, if_pos (e0.2 hk)]; unfold mapW; simp
   · rw [if_neg hk, if_neg (fun h => hk (e0.1 h))];unfold mapW;rw [List.map_map, List.map_map];apply List.map_congr_left;intro e _;simp only [Function.comp]
     split <;> simp
 rw [e]; rfl
theorem iA (h : Inj ρ) (S : St) (b : Nat) (x : PS) (use most : Nat) : (S.map ρ).askR (ρ b) x use most = snd ρ (S.askR b x use most) := by
 unfold St.askR;cases x.checkUse use most with
 | some i => rfl
 | none =>
   simp only;rw [ss, od h, lD, dn h];have e : (ρ b ∈ (((S.joinW b (x.file (x.r 0))).look (x.file (x.r 0)).1).rowAt (x.file (x.r 0))).map ρ) ↔ b ∈ ((S.joinW b (x.file (x.r 0))).look (x.file (x.r 0)).1).rowAt (x.file (x.r 0)) := by
     rw [List.mem_map];constructor
     · rintro ⟨c, hc, e⟩; have e' := h _ _ e; rw [e'] at hc; exact hc
     · intro hb; exact ⟨b, hb, rfl⟩
   by_cases hb : b ∈ ((S.joinW b (x.file (x.r 0))).look (x.file (x.r 0)).1).rowAt (x.file (x.r 0))
   · simp only [if_pos hb, if_pos (e.2 hb)];cases ((S.joinW b (x.file (x.r 0))).look (x.file (x.r 0)).1).get b with
     | none => rfl
     | some z => simp only [snd]; rw [fU h]
   · simp only [if_neg hb, if_neg (fun hh => hb (e.1 hh))]
theorem su (S : St) (c : Nat) (y : PS) : (S.map ρ).taken (ρ c) y = (S.taken c y).map ρ := by
 unfold St.taken;have e : (S.map ρ).ps ++ [(ρ c, { y with id := (S.map ρ).last + 1 })] = (S.ps ++ [(c, { y with id := S.last + 1 })]).map fun (q : Nat × PS) => (ρ q.1, q.2) := by
   rw [List.map_append]; rfl
 rw [e]; rfl
theorem sv (h : Inj ρ) (S : St) (b : Nat) (x : PS) (c : Nat) : (S.map ρ).forkS (ρ b) x (ρ c) = (S.forkS b x c).map ρ := by
 unfold St.forkS St.adopt;rw [su];show (((S.taken c (x.copy.r0 0)).map ρ).wake1 (ρ c) _).setP (ρ b) _ = _;rw [fT h, bp h]; rfl
theorem pF (S : St) (b : Nat) (x : PS) (m : Int) : (S.map ρ).grantE (ρ b) x m = S.grantE b x m := by
 unfold St.grantE;rw [iz];cases S.find (x.r 0) <;> rfl
theorem pG (h : Inj ρ) (S : St) (b : Nat) (x : PS) (m : Int) : (S.map ρ).grantV (ρ b) x m = S.grantV b x m := by
 unfold St.grantV;rw [iz, lE h, lF h, kz h, iA h, iA h];have e : (S.map ρ).ps.length = S.ps.length := by simp [St.map]
 rw [e];cases S.find (x.r 0) <;> rfl
theorem pH (h : Inj ρ) (S : St) (b : Nat) (x : PS) (m : Int) (c : Nat) : (S.map ρ).grantS (ρ b) x m (ρ c) = (S.grantS b x m c).map ρ := by
 have e : (S.map ρ).ps.length = S.ps.length := by simp [St.map]
 unfold St.grantS;rw [iz, lE h, lF h, kz h, iA h, iA h, e, mG h, sv h, pC h, pD h, bp h, bp h];by_cases e0 : m = 0
 · rw [if_pos e0, if_pos e0]
 rw [if_neg e0, if_neg e0];by_cases e1 : m = 1
 · rw [if_pos e1, if_pos e1]; split <;> rfl
 rw [if_neg e1, if_neg e1];by_cases e2 : m = 2
 · rw [if_pos e2, if_pos e2]
 rw [if_neg e2, if_neg e2];by_cases e3 : m = 3
 · rw [if_pos e3, if_pos e3];cases S.find (x.r 0) with
   | none => rfl
   | some q =>
     simp only [Option.map_some]
     split
     · rfl
     · rw [mG h, pB h]
 rw [if_neg e3, if_neg e3];by_cases e4 : m = 4
 · rw [if_pos e4, if_pos e4]
 rw [if_neg e4, if_neg e4];by_cases e5 : m = 5
 · rw [if_pos e5, if_pos e5]
 rw [if_neg e5, if_neg e5];by_cases e6 : m = 6
 · rw [if_pos e6, if_pos e6]
 rw [if_neg e6, if_neg e6];by_cases e7 : m = 7
 · rw [if_pos e7, if_pos e7]
 rw [if_neg e7, if_neg e7];by_cases e8 : m = 8
 · rw [if_pos e8, if_pos e8]
 rw [if_neg e8, if_neg e8];by_cases e9 : m = 9
 · rw [if_pos e9, if_pos e9]
 rw [if_neg e9, if_neg e9];by_cases e10 : m = 10
 · rw [if_pos e10, if_pos e10]
 rw [if_neg e10, if_neg e10];by_cases e11 : m = 11
 · rw [if_pos e11, if_pos e11]
 rw [if_neg e11, if_neg e11]
theorem vd (h : Inj ρ) (S : St) (b : Nat) (x : PS) : (S.map ρ).runE (ρ b) x = S.runE b x := by
 unfold St.runE;rw [bp h, pF];rfl
theorem ve (h : Inj ρ) (S : St) (b : Nat) (x : PS) (c : Nat) : (S.map ρ).runS (ρ b) x (ρ c) = (S.runS b x c).map ρ := by
 unfold St.runS;rw [bp h, mG h]
 show (if S.pn ≤ x.at_ then _ else if S.pg x.at_ 0 = 9 then (match ((S.setP b x.next).map ρ).grantV (ρ b) x.next (S.pg x.at_ 1) with
   | some i => (((S.setP b x.next).map ρ).grantS (ρ b) x.next (S.pg x.at_ 1) (ρ c)).r0 (ρ b) (ansOf i)
   | none => ((S.setP b x.next).map ρ).grantS (ρ b) x.next (S.pg x.at_ 1) (ρ c)) else match S.doR x with
   | .ok x' => (S.map ρ).setP (ρ b) x'
   | .error _ => (S.fin b x 65281).map ρ) = _
 rw [pG h, pH h]
 split
 · rfl
 · split
   · cases (S.setP b x.next).grantV b x.next (S.pg x.at_ 1) with
     | none => rfl
     | some i => simp only; rw [pB h]
   · cases S.doR x with
     | ok x' => exact bp h S b _
     | error e => rfl
theorem vf (h : Inj ρ) (S : St) (b : Nat) (x : PS) : (S.map ρ).turn (ρ b) x = (S.turn b x).map ρ := by
 unfold St.turn;show (if (x.used : Int) < S.sl x.lv then _ else _) = _
 split
 · rfl
 · simp only;have e1 : ((S.map ρ).setRow x.lv (((S.map ρ).rows x.lv).erase (ρ b))).setP (ρ b) { x with lv := min (x.lv + 1) 2, used := 0 } = ((S.setRow x.lv ((S.rows x.lv).erase b)).setP b { x with lv := min (x.lv + 1) 2, used := 0 }).map ρ := by
     rw [← bp h, ← cM];congr 2;exact fS h _ _
   rw [e1, ← cM];congr 1;simp [St.map]
theorem sw (h : Inj ρ) (S : St) (b : Nat) : (S.map ρ).after (ρ b) = (S.after b).map ρ := by
 unfold St.after;rw [dn h];cases S.get b with
 | none => rfl
 | some z =>
   simp only;rw [bp h, vf h]
   split <;> rfl
theorem fX (h : Inj ρ) : ∀ (bs : List Nat) (S : St), (S.map ρ).wakes (bs.map ρ) = (S.wakes bs).map ρ
 | [], _ => rfl
 | b :: bs, S => by
   simp only [List.map_cons, St.wakes, dn h];cases S.get b with
   | none => exact fX h bs S
   | some x =>
     simp only;by_cases e : x.st = 3 ∧ x.til = S.now
     · rw [if_pos e, if_pos (show x.st = 3 ∧ x.til = (S.map ρ).now from e), fT h]; exact fX h bs _
     · rw [if_neg e, if_neg (show ¬ (x.st = 3 ∧ x.til = (S.map ρ).now) from e)]; exact fX h bs S
theorem fY (h : Inj ρ) : ∀ (bs : List Nat) (S : St), (S.map ρ).lifts (bs.map ρ) = (S.lifts bs).map ρ
 | [], _ => rfl
 | b :: bs, S => by
   simp only [List.map_cons, St.lifts, dn h];cases S.get b with
   | none => exact fY h bs S
   | some x =>
     simp only
     split
     · rw [bp h]; exact fY h bs _
     · exact fY h bs S
theorem kA (S : St) : ∀ n, (S.map ρ).raises n = (S.raises n).map ρ
 | 0 => rfl
 | n + 1 => by
   show ((S.map ρ).raises n).raise1 (n + 1) = ((S.raises n).raise1 (n + 1)).map ρ;rw [kA S n];unfold St.raise1;have e1 : ((S.raises n).map ρ).rows 0 ++ ((S.raises n).map ρ).rows (n + 1) = ((S.raises n).rows 0 ++ (S.raises n).rows (n + 1)).map ρ := by simp [St.map]
   rw [e1, cM, ← cM _ (n + 1) []]; rfl
theorem sx (h : Inj ρ) (S : St) : (S.map ρ).boost = S.boost.map ρ := by
 unfold St.boost;by_cases e : S.boosts
 · rw [if_pos e, if_pos (show (S.map ρ).boosts from e), jx, fY h, kA]
 · rw [if_neg e, if_neg (show ¬ (S.map ρ).boosts from e)]
theorem oq (h : Inj ρ) (S : St) : (S.map ρ).lead = S.lead.map ρ := by
 unfold St.lead St.wake;rw [jx, fX h, sx h]
theorem lG (S : St) : (S.map ρ).first = S.first.map ρ := by
 unfold St.first
 show ((S.rows 0).map ρ ++ ((S.rows 1).map ρ ++ (S.rows 2).map ρ)).head? = _;rw [← List.map_append, ← List.map_append, List.head?_map]
end
def St.tickE (S : St) : List Value := match S.lead.first with
 | none => [evt S.lead.now 2 0 0]
 | some b => match S.lead.get b with
   | some x => evt S.lead.now 1 x.id x.at_ :: S.lead.runE b x
   | none => []
def St.tickU (S : St) (c : Nat) : St := match S.lead.first with
 | none => S.lead
 | some b => match S.lead.get b with
   | some x => (S.lead.runS b x c).after b
   | none => S.lead
def St.next (T : St) : St := (T.tickU (T.last + 1)).later
def St.isOver (T : St) : Bool := match T.find 1 with
 | some q => decide (q.2.st = 6)
 | none => true
def St.evs : Nat → St → List Value
 | 0, _ => []
 | n + 1, T => if T.isOver then [] else T.tickE ++ St.evs n T.next
def St.runs : Nat → St → St
 | 0, T => T
 | n + 1, T => if T.isOver then T else St.runs n T.next
section
variable {ρ ρ' N : Nat → Nat} {S T : St} {b c : Nat} {x : PS}
theorem sB (hI : Inv S) (r3 : ∀ l, 3 ≤ l → S.rows l = []) (e : ∀ q ∈ S.ps, ρ q.1 = ρ' q.1) : S.map ρ = S.map ρ' := by
 unfold St.map;have e1 : (S.ps.map fun q => (ρ q.1, q.2)) = S.ps.map fun q => (ρ' q.1, q.2) := by
   apply List.map_congr_left;intro q hq;rw [e q hq]
 have e2 : (fun l => (S.rows l).map ρ) = fun l => (S.rows l).map ρ' := by
   funext l
   by_cases hl : l < 3
   · apply List.map_congr_left;intro c hc;obtain ⟨y, hy, _⟩ := hI.g.rm l hl c hc;exact e _ hy
   · rw [r3 l (by omega)]; rfl
 have e3 : mapW ρ S.wt = mapW ρ' S.wt := by
   unfold mapW;apply List.map_congr_left;intro w hw;congr 1;apply List.map_congr_left;intro c hc;obtain ⟨y, hy, _⟩ := hI.rm w hw c hc;exact e _ hy
 rw [e1, e2, e3]
def St.nm (S : St) (c : Nat) (b : Nat) : Nat := match S.get b with
 | some x => x.id
 | none => if b = c then S.last + 1 else b + (S.last + 2)
theorem yd (hn : (S.ps.map (·.1)).Nodup) : ∀ q ∈ S.ps, S.nm c q.1 = q.2.id := fun q hq => by
 unfold St.nm;rw [bf (b := q.1) (x := q.2) hn hq]
theorem vg (hc : ∀ q ∈ S.ps, c ≠ q.1) : S.nm c c = S.last + 1 := by
 unfold St.nm;rw [iq fun q hq => Ne.symm (hc q hq)];simp
theorem zc (h : XI N S) : Inj (S.nm c) := by
 intro a d e;unfold St.nm at e;cases ha : S.get a with
 | some x =>
   rw [ha] at e;have hx := aV ha;have h1 := (h.idr _ hx).2;simp only at h1 e;cases hd : S.get d with
   | some y =>
     rw [hd] at e;have hy := aV hd;have := h.idn _ hx _ hy e;exact congrArg Prod.fst this
   | none =>
     rw [hd] at e;simp only at e
     split at e <;> omega
 | none =>
   rw [ha] at e;simp only at e;cases hd : S.get d with
   | some y =>
     rw [hd] at e;have hy := aV hd;have h1 := (h.idr _ hy).2;simp only at h1 e
     split at e <;> omega
   | none =>
     rw [hd] at e;simp only at e
     split at e
     · split at e
       · omega
       · omega
     · split at e
       · omega
       · omega
theorem XI.rename (h : XI N S) (hρ : ∀ q ∈ S.ps, ρ q.1 = q.2.id) : XI ρ S := ⟨h.un, h.idn, h.idr, h.p1, h.p0, h.r3, hρ⟩
theorem TI.rename (h : TI N S) (hρ : ∀ q ∈ S.ps, ρ q.1 = q.2.id) : TI ρ S := ⟨⟨h.m.i, h.m.c, h.m.x.rename hρ⟩, h.p, h.bo, h.ls⟩
theorem sC (h : Inj ρ) (S : St) : (S.map ρ).tickE = S.tickE := by
 unfold St.tickE;rw [oq h, lG];cases S.lead.first with
 | none => rfl
 | some b =>
   simp only [Option.map_some, dn h];cases S.lead.get b with
   | none => rfl
   | some x => simp only; rw [vd h]; rfl
theorem sF (h : Inj ρ) (S : St) (c : Nat) : (S.map ρ).tickU (ρ c) = (S.tickU c).map ρ := by
 unfold St.tickU;rw [oq h, lG];cases S.lead.first with
 | none => rfl
 | some b =>
   simp only [Option.map_some, dn h];cases S.lead.get b with
   | none => rfl
   | some x => simp only; rw [ve h, sw h]
theorem kB (S : St) : (S.map ρ).isOver = S.isOver := by
 unfold St.isOver;rw [iz];cases S.find 1 <;> rfl
theorem iB (S : St) : S.lead.ps.map (·.1) = S.ps.map (·.1) := by
 have h1 : ∀ (bs : List Nat) (S : St), (S.wakes bs).ps.map (·.1) = S.ps.map (·.1) := by
   intro bs
   induction bs with
   | nil => intro S; rfl
   | cons b bs ih =>
     intro S;unfold St.wakes;rw [ih]
     split
     · split
       · exact aU S b _
       · rfl
     · rfl
 have h2 : ∀ (bs : List Nat) (S : St), (S.lifts bs).ps.map (·.1) = S.ps.map (·.1) := by
   intro bs
   induction bs with
   | nil => intro S; rfl
   | cons b bs ih =>
     intro S;unfold St.lifts;rw [ih]
     split
     · split
       · exact aU S b _
       · rfl
     · rfl
 unfold St.lead St.boost
 split
 · rw [(dD _ 2).1, h2]; exact h1 _ S
 · exact h1 _ S
theorem TI.tick (h : TI N S) (hc : ∀ q ∈ S.lead.ps, c ≠ q.1) (hN : N c = S.last + 1) : TI N (S.tickU c).later := by
 unfold St.tickU;cases hf : S.lead.first with
 | none => exact h.idle
 | some b =>
   simp only;obtain ⟨x, hx, _⟩ := dE h.m.lead.i.g hf;rw [bf h.m.lead.i.g.pn hx];exact h.ran hf hx hc hN
structure Ab (S T : St) : Prop where
 ex : ∃ N, TI N S ∧ T = S.map N
theorem Ab.tick (h : Ab S T) (hc : ∀ q ∈ S.lead.ps, c ≠ q.1) : T.tickE = S.tickE ∧ T.isOver = S.isOver ∧ Ab (S.tickU c).later T.next := by
 obtain ⟨N, hN, rfl⟩ := h.ex;have hcs : ∀ q ∈ S.ps, c ≠ q.1 := fun q hq e => by
   have : q.1 ∈ S.lead.ps.map (·.1) := by rw [iB]; exact List.mem_map.2 ⟨q, hq, rfl⟩
   obtain ⟨r, hr, e2⟩ := List.mem_map.1 this;exact hc r hr (by rw [e, ← e2])
 have hid := yd (c := c) hN.m.i.g.pn;have hT := hN.rename hid;have hinj := zc (c := c) hN.m.x;have hnew := vg hcs;have e : S.map N = S.map (S.nm c) := sB hN.m.i hN.m.x.r3 fun q hq => by rw [hid q hq, hN.m.x.nm q hq]
 rw [e];refine ⟨sC hinj S, kB S, ⟨S.nm c, hT.tick hc hnew, ?_⟩⟩;unfold St.next
 show ((S.map (S.nm c)).tickU (S.last + 1)).later = _;rw [← hnew, sF hinj]; rfl
theorem Ab.self (h : TI N S) : Ab S (S.map N) := ⟨N, h, rfl⟩
theorem Ab.find1 (h : Ab S T) : ∃ b x, S.find 1 = some (b, x) ∧ (T.isOver = true ↔ x.st = 6) := by
 obtain ⟨N, hN, rfl⟩ := h.ex;obtain ⟨q, hq, h1⟩ := hN.m.x.p1;cases hf : S.find 1 with
 | none =>
   unfold St.find at hf;have := List.find?_eq_none.1 hf q hq;simp at this;omega
 | some r =>
   refine ⟨r.1, r.2, rfl, ?_⟩;rw [kB];unfold St.isOver;rw [hf];simp
end
theorem zd : ∃ n, ∀ {p : Par} {Sh : Loc → Prop} {E Dn : Nat} {PostB : World → Prop} {Aft : Goroutine → World → Prop} {W : World} {O : Nat} {G0 : List (Nat × Obj)} {vs : List Value} (K : Nat) (A : Lay) (S : St) (N : Nat → Nat) (Fr L : Frag) (eb : Nat → Nat × Nat), (∀ s, NewT (domT Tryz.prog p Sh E Dn PostB Aft W O G0 s)) → Rep K A S Fr L → Ers eb Fr → TI N S → S.now < 2305843009213693952 →
   CallsL (domT Tryz.prog p Sh E Dn PostB Aft W O G0) Tryz.prog false 63 [ptr K, .chan (some E)].toArray n (S.tickE ++ vs) L (fun s' v L' => vs = s' ∧ v = .tuple #[] ∧ ∃ A' c, (∀ q ∈ S.lead.ps, c ≠ q.1) ∧ Rep K A' (S.tickU c) Fr L') := by
 obtain ⟨n0, g0⟩ := y9;obtain ⟨n1, g1⟩ := za;refine ⟨n0 + n1, fun {p Sh E Dn PostB Aft W O G0 vs} K A S N Fr L eb hN hR hE hT hn => aO (S.lead.first = none) (fun hf => ?_) fun hf => ?_⟩
 · have e1 : S.tickE = [evt S.lead.now 2 0 0] := by unfold St.tickE; rw [hf]
   have e2 : ∀ c, S.tickU c = S.lead := fun c => by unfold St.tickU; rw [hf]
   rw [e1];refine aR (g0 K A S Fr L eb hN hR hE hT.m.i hT.bo hf) fun s' v L' ⟨h1, h2, A', h3⟩ => ⟨h1, h2, A', K, fun q hq => ?_, by rw [e2]; exact h3⟩;exact h3.fn.ne h3.k (h3.p q hq) (aF (by decide))
 · obtain ⟨b, hb⟩ : ∃ b, S.lead.first = some b := by
     cases h : S.lead.first with
     | none => exact absurd h hf
     | some b => exact ⟨b, rfl⟩
   obtain ⟨x, hx, hs⟩ := dE hT.m.lead.i.g hb;have e1 : S.tickE = evt S.lead.now 1 x.id x.at_ :: S.lead.runE b x := by unfold St.tickE; rw [hb]; simp only [bf hT.m.lead.i.g.pn hx]
   have e2 : ∀ c, S.tickU c = (S.lead.runS b x c).after b := fun c => by unfold St.tickU; rw [hb]; simp only [bf hT.m.lead.i.g.pn hx]
   rw [e1];have hres : ∀ c, (∀ q ∈ S.lead.ps, c ≠ q.1) → Inv (S.lead.runS b x c) ∧ ∀ z, (b, z) ∈ (S.lead.runS b x c).ps → z.used < 4611686018427387904 := fun c hc => by
     have hcs : ∀ q ∈ S.ps, c ≠ q.1 := fun q hq e => by
       have : q.1 ∈ S.lead.ps.map (·.1) := by rw [iB]; exact List.mem_map.2 ⟨q, hq, rfl⟩
       obtain ⟨r, hr, e2⟩ := List.mem_map.1 this;exact hc r hr (by rw [e, ← e2])
     have hT2 := hT.rename (yd (c := c) hT.m.i.g.pn);have hm := hT2.m.lead.runS hT2.coded_lead hx hs hc (by rw [cA]; exact vg hcs);refine ⟨hm.i, fun z hz => ?_⟩;have := hm.x.un _ hz;rw [(ff S.lead b x c).1.now, (bK S).now] at this;simp only at this;omega
   exact aR (g1 K A S Fr L eb b x hN hR hE hT.m.i hT.bo hb (hT.running hn hb hx) hT.p.1 hT.p.2 hres) fun s' v L' ⟨h1, h2, A', c, h3, h4⟩ => ⟨h1, h2, A', c, h3, by rw [e2]; exact h4⟩
theorem vh (k : KS) (v : Nat) : (kcells k).setIfInBounds 16 (.int .i64 (v : Nat)) = kcells { k with now := (v : Nat) } := rfl
theorem ze : ∃ n, ∀ {p : Par} {Sh : Loc → Prop} {E Dn : Nat} {PostB : World → Prop} {Aft : Goroutine → World → Prop} {W : World} {O : Nat} {G0 : List (Nat × Obj)} {vs : List Value} (K : Nat) (A : Lay) (S T : St) (Fr L : Frag) (eb : Nat → Nat × Nat) (m : Nat), (∀ s, NewT (domT Tryz.prog p Sh E Dn PostB Aft W O G0 s)) → Rep K A S Fr L → Ers eb Fr → Ab S T → m ≤ 2000 → S.now < 1152921504606846976 →
   CallsL (domT Tryz.prog p Sh E Dn PostB Aft W O G0) Tryz.prog false 33 [ptr K, .int .i64 (m : Nat), .chan (some E)].toArray n (St.evs m T ++ vs) L (fun s' v L' => vs = s' ∧ v = .tuple #[] ∧ ∃ A' S', Ab S' (St.runs m T) ∧ Rep K A' S' Fr L') := by
 obtain ⟨n0, g0⟩ := yD;obtain ⟨n1, g1⟩ := zd;apply Exists.intro;intro p Sh E Dn PostB Aft W O G0 vs K A S T Fr L eb m hN hR hE hA hm hnow;co_applyP aB 22 Tryz.func33 Tryz.ntmps33;co_applyP ai;co_applyP oy rfl ah;co_applyP oy rfl ah;co_applyP aa;co_applyP aJ;co_applyP bF (fun c s' ε' L' => ∃ (i : Nat) (A' : Lay) (S' T' : St), i ≤ m ∧ c + i = 2000 ∧ s' = St.evs (m - i) T' ++ vs ∧ Ab S' T' ∧ St.runs (m - i) T' = St.runs m T ∧ S'.now ≤ S.now + i ∧ Rep K A' S' Fr L' ∧ kn ε' [(0, ptr K), (2, .chan (some E)), (6, .int .i64 (m : Nat)), (7, .int .i64 (i : Nat))]) 2000
 · exact ⟨0, A, S, T, by omega, rfl, rfl, hA, rfl, Nat.le_refl _, hR, rfl⟩
 rintro c s' ε' L' ⟨i, A', S', T', hi, hc, rfl, hA', hruns, hnw, hR', he⟩;co_applyP a0 he;have ei : IntKind.i64.wrap ((i : Int) + 1) = ((i + 1 : Nat) : Int) := by simp [IntKind.wrap_i64]; omega
 obtain ⟨b1, x1, hf1, hov⟩ := hA'.find1;co_applyP bL (T'.isOver = true);intro ho
 · skip
   co_applyP ai;co_applyP oy rfl ci;co_applyP aa;co_applyP ar;co_applyP bi rfl;intro hlt
   · have hlt' : i < m := by simp at hlt; omega
     obtain ⟨j, hj⟩ : ∃ j, m - i = j + 1 := ⟨m - i - 1, by omega⟩;have e6 : ((x1.st : Int) == 6) = true := by simp; have := hov.1 ho; omega
     have ev0 : St.evs (m - i) T' = [] := by rw [hj]; unfold St.evs; rw [if_pos ho]
     have er0 : St.runs (m - i) T' = T' := by rw [hj]; unfold St.runs; rw [if_pos ho]
     rw [ev0];co_applyP aC;co_applyP ar (n₂ := 0);co_applyP aJ;co_applyP ar (n₂ := 0);co_applyP ai;co_applyP oy rfl ah;co_applyP oc rfl rfl rfl (g0 K A' S' Fr L' b1 x1 hR' hf1);rintro _ _ _ ⟨rfl, rfl, rfl⟩;co_applyP aa;change wpE ..;rw [e6];co_applyP aS rfl;co_applyP aI;change ∃ v, resE .. = some v ∧ _;exact ⟨_, rfl, rfl, rfl, A', S', by rw [← hruns, er0]; exact hA', hR'⟩
   intro hlt;co_applyP bN;change ∃ v, resE .. = some v ∧ _;have him : i = m := by simp at hlt; omega
   subst him;simp only [Nat.sub_self] at hruns ⊢;exact ⟨_, rfl, rfl, rfl, A', S', by rw [← hruns]; exact hA', hR'⟩
 intro ho;co_applyP ai;co_applyP oy rfl ci;co_applyP aa;co_applyP ar;co_applyP bi rfl;intro hlt
 · have hlt' : i < m := by simp at hlt; omega
   obtain ⟨j, hj⟩ : ∃ j, m - i = j + 1 := ⟨m - i - 1, by omega⟩;have e6 : ((x1.st : Int) == 6) = false := by simp; intro h; exact ho (hov.2 (by omega))
   obtain ⟨N, hTI, hTm⟩ := hA'.ex;have etE : T'.tickE = S'.tickE := (hA'.tick (c := K) (fun q hq => by
     have h1 : q.1 ∈ S'.ps.map (·.1) := by rw [← iB]; exact List.mem_map.2 ⟨q, hq, rfl⟩
     obtain ⟨r, hr, e2⟩ := List.mem_map.1 h1;rw [← e2];exact hR'.fn.ne hR'.k (hR'.p r hr) (aF (by decide)))).1
   have ev1 : St.evs (m - i) T' = S'.tickE ++ St.evs (m - (i + 1)) T'.next := by
     rw [hj];show (if T'.isOver then [] else T'.tickE ++ St.evs j T'.next) = _;rw [if_neg ho, etE, show m - (i + 1) = j by omega]
   have er1 : St.runs (m - i) T' = St.runs (m - (i + 1)) T'.next := by
     rw [hj];show (if T'.isOver then T' else St.runs j T'.next) = _;rw [if_neg ho, show m - (i + 1) = j by omega]
   rw [ev1, List.append_assoc];co_applyP aC;co_applyP ar;co_applyP aJ;co_applyP ar;co_applyP ai;co_applyP oy rfl ah;co_applyP oc rfl rfl rfl (g0 K A' S' Fr L' b1 x1 hR' hf1);rintro _ _ _ ⟨rfl, rfl, rfl⟩;co_applyP aa;change wpE ..;rw [e6];co_applyP ak rfl;co_applyP aC;co_applyP ai;co_applyP oy rfl ah;co_applyP oy rfl ah;co_applyP oc rfl rfl rfl (g1 K A' S' N Fr L' eb hN hR' hE hTI (by omega));rintro _ _ _ ⟨rfl, rfl, A2, cc, hcc, hR2⟩;rename_i L2;have hnx := (hA'.tick hcc).2.2;have hnow2 : (S'.tickU cc).now = S'.now := by
     unfold St.tickU
     split
     · exact (bK S').now
     · split
       · rename_i bb _ xx _;rw [(eQ _ _).now, (ff _ _ _ _).1.now]; exact (bK S').now
       · exact (bK S').now
   have hn2 : At L2 K 16 (.int .i64 ((S'.tickU cc).now : Nat)) := hR2.kat rfl;have wn : IntKind.i64.wrap (((S'.tickU cc).now : Int) + 1) = (((S'.tickU cc).now + 1 : Nat) : Int) := by rw [hnow2]; simp [IntKind.wrap_i64]; omega
   co_applyP aa;co_applyP ay;co_applyP oy rfl ah;co_applyP oy rfl aK;co_applyP oy rfl (av (hf := bU));co_applyP oy rfl (aG (ht := aY));co_applyP oy rfl a8;co_applyP oy rfl aK;co_applyP oy rfl (av (hf := bU));rw [wn];co_applyP osm rfl (hs := cG) (hm := hR2.k) (hi := by first | decide | (rw [bd]; omega) | (rw [bw]; omega));intro L3 hU3;rw [vh] at hU3;have hR3 : Rep K A2 (S'.tickU cc).later Fr L3 := hR2.setK rfl rfl rfl rfl rfl rfl hU3;co_applyP aa;co_applyP ay;co_applyP oy rfl a8;co_applyP oy rfl ah;co_applyP aa;change ∃ k', k' < _ ∧ _;refine ⟨c - 1, by omega, i + 1, A2, _, T'.next, by omega, by omega, rfl, hnx, by rw [← er1]; exact hruns, ?_, hR3, by rw [← ei]; rfl⟩;show (S'.tickU cc).now + 1 ≤ _;rw [hnow2];omega
 intro hlt;co_applyP bN;change ∃ v, resE .. = some v ∧ _;have him : i = m := by simp at hlt; omega
 subst him;simp only [Nat.sub_self] at hruns ⊢;exact ⟨_, rfl, rfl, rfl, A', S', by rw [← hruns]; exact hA', hR'⟩
end Go.Proofs.YtejkelcaljmnoaaGreatDoor
namespace Go.Proofs.YtejkelcaljmnoaaGreatDoor
open Go.Conc Go.RowKit Go.Hx Go.Lo Go.ConcX Go.Conc.Lib Go.ConcX.Gen
def call31 (Wg db kb tb eb : Nat) : Deferred := { target := .fn (.func 31) #[.pointer (some ⟨Wg, 0, none⟩), .pointer (some ⟨db, 0, none⟩), .pointer (some ⟨kb, 0, none⟩), .pointer (some ⟨tb, 0, none⟩), .pointer (some ⟨eb, 0, none⟩)], args := #[] }
noncomputable def bot : Frame := { (default : Frame) with fn := Tryz.prog.funcs.size, defers := [], mode := .panicking [goexitEntry] }
theorem sG (Wg db kb tb eb : Nat) (w : World) : ∃ c, Tryz.f31.body = some c ∧ stepG Tryz.prog false (born Tryz.prog (call31 Wg db kb tb eb)) w =
   .go (G ((baseD 31).at ⟨#[.pointer (some ⟨Wg, 0, none⟩), .pointer (some ⟨db, 0, none⟩), .pointer (some ⟨kb, 0, none⟩), .pointer (some ⟨tb, 0, none⟩), .pointer (some ⟨eb, 0, none⟩), undef, undef, undef, undef, undef], []⟩ [.code c]) [bot]) w #[] := by
 refine ⟨_, rfl, ?_⟩;simp [born, call31, stepG, unwind, callDeferred, invoke, callFunc, Tryz.func31, Tryz.f31, seen, GStep.after, G, Frame.enter, Frame.at, baseD, bot]
theorem sH (T : Array Value) : QuitsD Tryz.prog 2 0 (G { (baseD 31).at ⟨T, []⟩ [] with mode := .returning } [bot]) := by
 refine QuitsD.ctl (g' := G bot []) rfl (fun w => ?_) ?_
 · simp [G, stepG, unwind, doReturn, results, Frame.at, baseD, bot, Tryz.func31, Tryz.f31, seen, GStep.after, goexitEntry]
 refine QuitsD.ctl (g' := { G bot [] with status := .finished }) rfl (fun w => ?_) ⟨rfl, rfl⟩;simp [G, stepG, unwind, bot, goexitEntry, Frame.catches];rfl
section
variable {p : Par} {Sh : Loc → Prop} {E Dn : Nat} {Wg C Low kb db eb K O : Nat} {W : World} {ticks : Int} {Mine : Loc → Prop} [Shy Wg C] {L : Frag} {QL : Frag → Prop}
abbrev GW (Wg : Nat) : List (Nat × Obj) := [(Wg, .cells #[.int .u64 KK, .int .u32 0] 87)]
def PostW (p : Par) (Sh : Loc → Prop) (E Dn : Nat) (W : World) (O : Nat) (Wg C : Nat) (QL : Frag → Prop) (w : World) : Prop :=
 ∃ L, OwnW p Sh E Dn W O L w ∧ (∀ t ∈ L, t.1 ≠ C ∧ t.1 ≠ Wg) ∧ QL L
theorem zf (hW : Wg < Low) (hC : C < Low) (hCW : C ≠ Wg) (T : Array Value) (w : World) (h1 : WgAt 87 Wg w KK 0) (h2 : Full C [.int .i64 ticks] w) :
   AfterD Tryz.prog 87 Wg C Low [.int .i64 ticks] Mine (G { (baseD 31).at ⟨T, [dcall 32 #[.pointer (some ⟨Wg, 0, none⟩)]]⟩ [] with mode := .returning } [bot]) w := by
 refine ⟨h1, 24, Goes.step rfl fun w₁ h₁ => ?_⟩;rw [stepG_unwind_enter rfl Tryz.func32 (nm_done Tryz.link) rfl];refine ⟨dcs_none (by simp), ?_⟩
 walk_nrmf Tryz.f32
 have hA := @doneD _ Tryz.link Tryz.prog Tryz.wgLib Mine Wg C Low _ [.int .i64 ticks] hW hC hCW;simp only [body_done, doneFn, Option.getD_some] at hA;exact hA rfl (sH _) _ ⟨h₁.k (.inl h1), h2.of_block (h₁.low C hC hCW)⟩
omit [Shy Wg C] in
theorem iC {G : List (Nat × Obj)} {w : World} (hO : (domV p Sh E Dn W O G).Own L w) {t : Nat} {fl : Bool} {cs : Array Value} {ty : TypeId} (hm : (t, fl, Obj.cells cs ty) ∈ L) : (∀ {i : Nat} {v : Value}, cs[i]? = some v → w.cell? ⟨t, i, none⟩ = some v) ∧ ∀ i, EvB p Sh w ⟨.cell ⟨t, i, none⟩, false, false⟩ := by
 have h := (domV p Sh E Dn W O G).has hO hm;exact ⟨fun hv => by simp [World.cell?, h, hv], (domV p Sh E Dn W O G).evc hO hm⟩
theorem pJ (hW : Wg < Low) (hC' : C < Low) (hCW : C ≠ Wg) (hWD : Wg ≠ Dn) (hCD : C ≠ Dn) (h0 : (kb, false, Obj.cells #[.pointer (some ⟨K, 0, none⟩)] 35) ∈ L) (h1 : (C, false, Obj.cells #[.int .i64 ticks] 3) ∈ L) (h2 : (eb, false, Obj.cells #[.chan (some E)] 76) ∈ L) (h3 : (db, false, Obj.cells #[.chan (some Dn)] 77) ∈ L)
   (k : Nat) (es : List Value) (hpass : ∀ w, (domV p Sh E Dn W O (GW Wg)).Own L w → CallsX (tellF Tryz.prog p Sh E Dn (PostW p Sh E Dn W O Wg C QL) (AfterD Tryz.prog 87 Wg C Low [.int .i64 ticks] Mine)) Tryz.prog false 33 #[.pointer (some ⟨K, 0, none⟩), .int .i64 ticks, .chan (some E)] k es w fun s' _ w' => s' = [] ∧ ∃ L', (domV p Sh E Dn W O (GW Wg)).Own L' w' ∧ (C, false, Obj.cells #[.int .i64 ticks] 3) ∈ L' ∧ QL (L'.filter fun t => !decide (t.1 = C)))
   (w : World) (hS : (domV p Sh E Dn W O (GW Wg)).Own L w) : Tells Tryz.prog p Sh E Dn (PostW p Sh E Dn W O Wg C QL) (AfterD Tryz.prog 87 Wg C Low [.int .i64 ticks] Mine) es (born Tryz.prog (call31 Wg db kb C eb)) w := by
 rw [eF];co_apply Exists.intro;co_apply Goes.step rfl;intro w₁ h₁;replace hS := (domV p Sh E Dn W O (GW Wg)).rely hS h₁;clear h₁;obtain ⟨c, hc, hb⟩ := sG Wg db kb C eb w₁;rw [hb];refine ⟨(dX p Sh E Dn).idle _, ?_⟩;simp only [Tryz.f31, Option.some.injEq] at hc;subst hc;clear hb;co_apply bv (dX p Sh E Dn) rfl (fun _ => stepG_seq);co_apply bv (dX p Sh E Dn) rfl (fun _ => stepG_region);simp only [List.size_toArray, List.length_cons, List.length_nil, Nat.reduceAdd, Nat.zero_add, List.range, List.range.loop];co_apply bv (dX p Sh E Dn) rfl (fun _ => stepG_defer rfl rfl (by decide) rfl)
 walk_nrm
 co_apply bv (dX p Sh E Dn) rfl (fun _ => stepG_region_end);co_apply bv (dX p Sh E Dn) rfl (fun _ => stepG_seq);co_apply bv (dX p Sh E Dn) rfl (fun _ => stepG_region);simp only [List.size_toArray, List.length_cons, List.length_nil, Nat.reduceAdd, Nat.zero_add, List.range, List.range.loop];co_apply Goes.step rfl;intro w₁ h₁;replace hS := (domV p Sh E Dn W O (GW Wg)).rely hS h₁;clear h₁;refine goes_oper_k rfl rfl (by decide) (fun K hK => ?_);have hr := iC hS h3;have hc := hr.1 (i := 0) rfl;go_simp;refine hK _ _ ⟨?_, ?_⟩
 · refine jp ?_
   co_evs (exact hr.2 _)
 clear hK K hc hr
 try walk_nrm
 co_apply bv (dX p Sh E Dn) rfl (fun _ => iN rfl rfl (by decide) rfl rfl)
 try walk_nrm
 co_apply bv (dX p Sh E Dn) rfl (fun _ => stepG_region_end);co_apply jG (F := tellF Tryz.prog p Sh E Dn (PostW p Sh E Dn W O Wg C QL) (AfterD Tryz.prog 87 Wg C Low [.int .i64 ticks] Mine)) (s := es) (Q := fun s' e a' w' => e = .normal ∧ s' = [] ∧ (∃ T, a' = ⟨T, [dclose #[77] 0 Dn, dcall 32 #[.pointer (some ⟨Wg, 0, none⟩)]]⟩) ∧ ∃ L', (domV p Sh E Dn W O (GW Wg)).Own L' w' ∧ (C, false, Obj.cells #[.int .i64 ticks] 3) ∈ L' ∧ QL (L'.filter fun t => !decide (t.1 = C))) (b := baseD 31) (k := []) (cs := [bot]) (fn := 31) ?_ rfl (by decide) ?_
 · have hF := hS;clear hS;co_apply ba;simp only [List.size_toArray, List.length_cons, List.length_nil, Nat.reduceAdd, Nat.zero_add, List.range, List.range.loop];co_apply aH rfl (by rfl);intro _ hR K hK;replace hF := (domV p Sh E Dn W O (GW Wg)).rely hF hR;clear hR
   (have hr := iC hF h0; have hc := hr.1 (i := 0) rfl)
   go_simp
   try (unfold stored; go_simp)
   refine hK _ _ ⟨?_, ?_⟩
   · (refine jp ?_; co_evs (exact hr.2 _))
   clear hK K
   try walk_nrm
   clear hc hr;co_apply aH rfl (by rfl);intro _ hR K hK;replace hF := (domV p Sh E Dn W O (GW Wg)).rely hF hR;clear hR
   (have hr := iC hF h1; have hc := hr.1 (i := 0) rfl)
   go_simp
   try (unfold stored; go_simp)
   refine hK _ _ ⟨?_, ?_⟩
   · (refine jp ?_; co_evs (exact hr.2 _))
   clear hK K
   try walk_nrm
   clear hc hr;co_apply aH rfl (by rfl);intro _ hR K hK;replace hF := (domV p Sh E Dn W O (GW Wg)).rely hF hR;clear hR
   (have hr := iC hF h2; have hc := hr.1 (i := 0) rfl)
   go_simp
   try (unfold stored; go_simp)
   refine hK _ _ ⟨?_, ?_⟩
   · (refine jp ?_; co_evs (exact hr.2 _))
   clear hK K
   try walk_nrm
   clear hc hr;co_apply fI rfl (by rfl) rfl
   · walk_nrm
     exact hpass _ hF
   intro s' v w' hv;obtain ⟨rfl, hS⟩ := hv
   walk_nrm
   co_apply bq;exact ⟨rfl, rfl, ⟨_, rfl⟩, hS⟩
 · rintro s' e a' w' ⟨rfl, rfl, ⟨T, rfl⟩, L', hS, hC3, hQ⟩;show Goes Tryz.prog false (RB p E Dn) (DT p Sh E Dn) (AtOver Tryz.prog Dn (PostW p Sh E Dn W O Wg C QL) (AfterD Tryz.prog 87 Wg C Low [.int .i64 ticks] Mine)) _ (G ((baseD 31).at ⟨T, [dclose #[77] 0 Dn, dcall 32 #[.pointer (some ⟨Wg, 0, none⟩)]]⟩ []) [bot]) w';co_apply bv (n := 0) (dX p Sh E Dn) rfl (fun _ => stepG_end);refine Goes.stop fun w₁ h₁ => ?_;replace hS := (domV p Sh E Dn W O (GW Wg)).rely hS h₁;have hwg := hS.2.h (Wg, _) (List.mem_cons_self);have hcc := (domV p Sh E Dn W O (GW Wg)).has hS hC3;refine ⟨rfl, rfl, ⟨L'.filter fun t => !decide (t.1 = C), (domW p Sh E Dn W O).sub hS.1 (fun t ht => (List.mem_filter.1 ht).1) ?_, fun t ht => ⟨by simpa using (List.mem_filter.1 ht).2, hS.2.l (Wg, _) (List.mem_cons_self) t (List.mem_filter.1 ht).1⟩, hQ⟩, _, rfl, fun hD => gS rfl hD (by kernel_rfl), ?_⟩
   · exact ((domW p Sh E Dn W O).nd hS.1).sublist (List.Sublist.map _ List.filter_sublist)
   refine zf hW hC' hCW T _ ?_ ?_
   · unfold WgAt;rw [b7 hWD];exact hwg
   · intro _;rw [b7 hCD];exact hcc
end
end Go.Proofs.YtejkelcaljmnoaaGreatDoor
namespace Go.Proofs.YtejkelcaljmnoaaGreatDoor
open Go.Conc Go.RowKit Go.Hx Go.ConcX Go.Conc.Lib Go.ConcX.Gen
theorem d0Z {w w₁ : World} {P : Program} {Fin : Value → World → Prop} {s : Nat × List Nat} {es : Array Event} (h : ∀ e ∈ es, EvP (Shs s.2) e) : (FZ P Fin).D s w w₁ es := h
theorem Az (w : World) : (Instr.makeChan 76 (.int .i64 0)).run Tryz.prog w = .ok (.chan (some w.heap.size)) (w.alloc (.chan 0 #[] false 0 0 false)) ∧ ∀ es, (Instr.makeChan 76 (.int .i64 0)).events Tryz.prog w es = es := by
 obtain ⟨i, z, h1, _, _, h4, _⟩ := tk;exact ⟨by simpa using run_makeChan (P := Tryz.prog) (w := w) Tryz.underlying76 h1 .i64 0 (by omega) (by rw [h4]; omega), fun es => by simpa using events_makeChan (P := Tryz.prog) (w := w) Tryz.underlying76 h1 .i64 0 (by omega) (by rw [h4]; omega) es⟩
theorem AA (w : World) : (Instr.makeChan 77 (.int .i64 0)).run Tryz.prog w = .ok (.chan (some w.heap.size)) (w.alloc (.chan 0 #[] false 0 0 false)) ∧ ∀ es, (Instr.makeChan 77 (.int .i64 0)).events Tryz.prog w es = es := by
 have h : (Tryz.prog.info? 78).map (·.bytes) = some 0 := by kernel_rfl
 obtain ⟨i, h1, h4⟩ := Option.map_eq_some_iff.1 h;exact ⟨by simpa using run_makeChan (P := Tryz.prog) (w := w) Tryz.underlying77 h1 .i64 0 (by omega) (by rw [h4]; omega), fun es => by simpa using events_makeChan (P := Tryz.prog) (w := w) Tryz.underlying77 h1 .i64 0 (by omega) (by rw [h4]; omega) es⟩
def RanZ (PostB : World → Prop) (N : Nat) (told : Value) (ws : List Wd) (w : World) : Prop := PostB w ∧ Hx.Told (pZ N) told ws.length (ws.flatMap Wd.c) w
theorem AB : ∃ k, ∀ {Fin : Value → World → Prop} (nn : Nat) (s : List Nat) (K : Nat) (ticks : Int) (ht : 0 ≤ ticks ∧ ticks ≤ 2000) (ws : List Wd) (hws : ws.length < 10000) (W : World) (hE : Elder (Shs s) W.heap.size) (PostB : World → Prop)
   (hPb : ∀ w w₁, RB (pZ W.heap.size) (W.heap.size + 2) (W.heap.size + 4) w w₁ → PostB w → PostB w₁) (hPc : ∀ w w₁, Aside2 (W.heap.size + 1) (W.heap.size + 6) w w₁ → PostB w → PostB w₁) (hPn : ∀ w, PostB w → W.heap.size + 7 ≤ w.heap.size)
   (hT : ∀ [Shy (W.heap.size + 6) (W.heap.size + 1)] (w' : World), New W (boxZ W.heap.size K ticks KK) w' → Tells Tryz.prog (pZ W.heap.size) (ShR (Shs s) W.heap.size) (W.heap.size + 2) (W.heap.size + 4) PostB (AfterD Tryz.prog 87 (W.heap.size + 6) (W.heap.size + 1) (W.heap.size + 7) [.int .i64 ticks] Mine0) (ws.map Wd.v) (born Tryz.prog (started W.heap.size)) w'),
   CallsX (FZ Tryz.prog Fin) Tryz.prog true 19 #[.pointer (some ⟨K, 0, none⟩), .int .i64 ticks] k (nn + 1, s) W fun s' v w' => s' = (nn, W.heap.size :: s) ∧ ∃ told, v = .tuple #[told, .int .i64 0] ∧ RanZ PostB W.heap.size told ws w' := by
 co_apply Exists.intro;intro Fin nn s K ticks ht ws hws W hE PostB hPb hPc hPn hT;have hF : New W [] W := New.refl W;have c76 := fun w => (Az w).1;have d76 := fun w => (Az w).2;have c77 := fun w => (AA w).1;have d77 := fun w => (AA w).2;have b1 : ¬ ticks < 0 := by omega
 have b2 : ¬ 2000 < ticks := by omega
 have b3 : ¬ ticks > 2000 := by omega
 co_apply eC Tryz.func19 (by rfl) rfl;simp only [Tryz.ntmps19, List.size_toArray, List.length_cons, List.length_nil, Nat.reduceAdd, Nat.reduceSub, Array.replicate_succ, Array.replicate_zero, List.push_toArray, List.append_toArray, List.nil_append, List.cons_append];co_apply bW;co_apply ba;simp only [List.size_toArray, List.length_cons, List.length_nil, Nat.reduceAdd, Nat.zero_add, List.range, List.range.loop];co_apply aH rfl (by rfl);intro _ hR K hK;replace hF := (New.rely) hF hR;clear hR;have hs := hF.size;go_simp
 try (unfold stored; go_simp)
 refine hK _ _ ⟨?_, ?_⟩
 · (refine d0Z ?_; intro e he; have hm := mem_listed he; simp [go_sem, *] at hm)
 clear hK K
 try walk_nrm
 replace hF := hF.alloc (.cells #[.pointer (some ⟨K, 0, none⟩)] 35)
 try simp only [List.length_cons, List.length_nil, Nat.reduceAdd, Nat.add_zero, Nat.zero_add] at hs
 try simp only [List.nil_append, List.cons_append] at hF
 try simp only [hs]
 clear hs;co_apply aH rfl (by rfl);intro _ hR K hK;replace hF := (New.rely) hF hR;clear hR;have hs := hF.size;go_simp
 try (unfold stored; go_simp)
 refine hK _ _ ⟨?_, ?_⟩
 · (refine d0Z ?_; intro e he; have hm := mem_listed he; simp [go_sem, *] at hm)
 clear hK K
 try walk_nrm
 replace hF := hF.alloc (.cells #[.int .i64 ticks] 3)
 try simp only [List.length_cons, List.length_nil, Nat.reduceAdd, Nat.add_zero, Nat.zero_add] at hs
 try simp only [List.nil_append, List.cons_append] at hF
 try simp only [hs]
 clear hs;co_apply aH rfl (by rfl);intro _ hR K hK;replace hF := (New.rely) hF hR;clear hR
 skip
 go_simp
 try (unfold stored; go_simp)
 refine hK _ _ ⟨?_, ?_⟩
 · (rw [listed_nil (by simp [go_sem, *])]; exact d0Z (by simp))
 clear hK K
 try walk_nrm
 co_apply aH rfl (by rfl);intro _ hR K hK;replace hF := (New.rely) hF hR;clear hR
 skip
 go_simp
 try (unfold stored; go_simp)
 refine hK _ _ ⟨?_, ?_⟩
 · (rw [listed_nil (by simp [go_sem, *])]; exact d0Z (by simp))
 clear hK K
 try walk_nrm
 co_apply bq
 try simp only [ThenX]
 try co_then
 co_apply bW;co_apply bW;co_apply ba;simp only [List.size_toArray, List.length_cons, List.length_nil, Nat.reduceAdd, Nat.zero_add, List.range, List.range.loop];co_apply aH rfl (by rfl);intro _ hR K hK;replace hF := (New.rely) hF hR;clear hR;have hc := hF.cell (i := 1) rfl (j := 0) rfl;go_simp
 try (unfold stored; go_simp)
 refine hK _ _ ⟨?_, ?_⟩
 · (refine d0Z ?_; intro e he; have hm := mem_listed he; simp [go_sem, *] at hm; try (first | (subst hm; exact dI _ _ (hE.not (by omega) _)) | (rcases hm with rfl | rfl <;> exact dI _ _ (hE.not (by omega) _))))
 clear hK K
 try walk_nrm
 clear hc;co_apply aH rfl (by rfl);intro _ hR K hK;replace hF := (New.rely) hF hR;clear hR
 skip
 go_simp
 try (unfold stored; go_simp)
 refine hK _ _ ⟨?_, ?_⟩
 · (rw [listed_nil (by simp [go_sem, *])]; exact d0Z (by simp))
 clear hK K
 try walk_nrm
 co_apply aH rfl (by rfl);intro _ hR K hK;replace hF := (New.rely) hF hR;clear hR
 skip
 go_simp
 try (unfold stored; go_simp)
 refine hK _ _ ⟨?_, ?_⟩
 · (rw [listed_nil (by simp [go_sem, *])]; exact d0Z (by simp))
 clear hK K
 try walk_nrm
 co_apply aH rfl (by rfl);intro _ hR K hK;replace hF := (New.rely) hF hR;clear hR;have hc := hF.cell (i := 1) rfl (j := 0) rfl;go_simp
 try (unfold stored; go_simp)
 refine hK _ _ ⟨?_, ?_⟩
 · (refine d0Z ?_; intro e he; have hm := mem_listed he; simp [go_sem, *] at hm; try (first | (subst hm; exact dI _ _ (hE.not (by omega) _)) | (rcases hm with rfl | rfl <;> exact dI _ _ (hE.not (by omega) _))))
 clear hK K
 try walk_nrm
 clear hc;co_apply aH rfl (by rfl);intro _ hR K hK;replace hF := (New.rely) hF hR;clear hR
 skip
 go_simp
 try (unfold stored; go_simp)
 refine hK _ _ ⟨?_, ?_⟩
 · (rw [listed_nil (by simp [go_sem, *])]; exact d0Z (by simp))
 clear hK K
 try walk_nrm
 co_apply aH rfl (by rfl);intro _ hR K hK;replace hF := (New.rely) hF hR;clear hR
 skip
 go_simp
 try (unfold stored; go_simp)
 refine hK _ _ ⟨?_, ?_⟩
 · (rw [listed_nil (by simp [go_sem, *])]; exact d0Z (by simp))
 clear hK K
 try walk_nrm
 co_apply bq
 try simp only [ThenX]
 try co_then
 co_apply fm (t := false)
 focus (exact rfl)
 simp only [if_true, if_false, Bool.false_eq_true, reduceIte];co_apply iL;co_apply wpC_skip (jF (Shs s))
 try simp only [ThenX]
 try co_then
 co_apply bW;co_apply ba;simp only [List.size_toArray, List.length_cons, List.length_nil, Nat.reduceAdd, Nat.zero_add, List.range, List.range.loop];co_apply aH rfl (by rfl);intro _ hR K hK;replace hF := (New.rely) hF hR;clear hR;have hs := hF.size;go_simp
 try (unfold stored; go_simp)
 refine hK _ _ ⟨?_, ?_⟩
 · (refine d0Z ?_; intro e he; have hm := mem_listed he; simp [go_sem, *] at hm)
 clear hK K
 try walk_nrm
 replace hF := hF.alloc (.chan 0 #[] false 0 0 false)
 try simp only [List.length_cons, List.length_nil, Nat.reduceAdd, Nat.add_zero, Nat.zero_add] at hs
 try simp only [List.nil_append, List.cons_append] at hF
 try simp only [hs]
 clear hs;co_apply aH rfl (by rfl);intro _ hR K hK;replace hF := (New.rely) hF hR;clear hR;have hs := hF.size;go_simp
 try (unfold stored; go_simp)
 refine hK _ _ ⟨?_, ?_⟩
 · (refine d0Z ?_; intro e he; have hm := mem_listed he; simp [go_sem, *] at hm)
 clear hK K
 try walk_nrm
 replace hF := hF.alloc (.cells #[.chan none] 76)
 try simp only [List.length_cons, List.length_nil, Nat.reduceAdd, Nat.add_zero, Nat.zero_add] at hs
 try simp only [List.nil_append, List.cons_append] at hF
 try simp only [hs]
 clear hs;co_apply aH rfl (by rfl);intro _ hR K hK;replace hF := (New.rely) hF hR;clear hR;have hc := hF.cell (i := 3) rfl (j := 0) rfl; have hz := hF.thaw (i := 3) rfl 0;go_simp
 try (unfold stored; go_simp)
 refine hK _ _ ⟨?_, ?_⟩
 · (refine d0Z ?_; intro e he; have hm := mem_listed he; simp [go_sem, *] at hm; try (first | (subst hm; exact dI _ _ (hE.not (by omega) _)) | (rcases hm with rfl | rfl <;> exact dI _ _ (hE.not (by omega) _))))
 clear hK K
 try walk_nrm
 clear hc hz;replace hF := hF.set (i := 3) rfl 0 (.chan (some (W.heap.size + 2)));simp only [List.set_cons_zero, List.set_cons_succ, List.setIfInBounds_toArray] at hF;co_apply bq
 try simp only [ThenX]
 try co_then
 co_apply bW;co_apply ba;simp only [List.size_toArray, List.length_cons, List.length_nil, Nat.reduceAdd, Nat.zero_add, List.range, List.range.loop];co_apply aH rfl (by rfl);intro _ hR K hK;replace hF := (New.rely) hF hR;clear hR;have hs := hF.size;go_simp
 try (unfold stored; go_simp)
 refine hK _ _ ⟨?_, ?_⟩
 · (refine d0Z ?_; intro e he; have hm := mem_listed he; simp [go_sem, *] at hm)
 clear hK K
 try walk_nrm
 replace hF := hF.alloc (.chan 0 #[] false 0 0 false)
 try simp only [List.length_cons, List.length_nil, Nat.reduceAdd, Nat.add_zero, Nat.zero_add] at hs
 try simp only [List.nil_append, List.cons_append] at hF
 try simp only [hs]
 clear hs;co_apply aH rfl (by rfl);intro _ hR K hK;replace hF := (New.rely) hF hR;clear hR;have hs := hF.size;go_simp
 try (unfold stored; go_simp)
 refine hK _ _ ⟨?_, ?_⟩
 · (refine d0Z ?_; intro e he; have hm := mem_listed he; simp [go_sem, *] at hm)
 clear hK K
 try walk_nrm
 replace hF := hF.alloc (.cells #[.chan none] 77)
 try simp only [List.length_cons, List.length_nil, Nat.reduceAdd, Nat.add_zero, Nat.zero_add] at hs
 try simp only [List.nil_append, List.cons_append] at hF
 try simp only [hs]
 clear hs;co_apply aH rfl (by rfl);intro _ hR K hK;replace hF := (New.rely) hF hR;clear hR;have hc := hF.cell (i := 5) rfl (j := 0) rfl; have hz := hF.thaw (i := 5) rfl 0;go_simp
 try (unfold stored; go_simp)
 refine hK _ _ ⟨?_, ?_⟩
 · (refine d0Z ?_; intro e he; have hm := mem_listed he; simp [go_sem, *] at hm; try (first | (subst hm; exact dI _ _ (hE.not (by omega) _)) | (rcases hm with rfl | rfl <;> exact dI _ _ (hE.not (by omega) _))))
 clear hK K
 try walk_nrm
 clear hc hz;replace hF := hF.set (i := 5) rfl 0 (.chan (some (W.heap.size + 4)));simp only [List.set_cons_zero, List.set_cons_succ, List.setIfInBounds_toArray] at hF;co_apply bq
 try simp only [ThenX]
 try co_then
 co_apply bW;co_apply ba;simp only [List.size_toArray, List.length_cons, List.length_nil, Nat.reduceAdd, Nat.zero_add, List.range, List.range.loop];co_apply aH rfl (by rfl);intro _ hR K hK;replace hF := (New.rely) hF hR;clear hR;have hs := hF.size;go_simp
 try (unfold stored; go_simp)
 refine hK _ _ ⟨?_, ?_⟩
 · (refine d0Z ?_; intro e he; have hm := mem_listed he; simp [go_sem, *] at hm)
 clear hK K
 try walk_nrm
 replace hF := hF.alloc (.cells #[.int .u64 0, .int .u32 0] 87)
 try simp only [List.length_cons, List.length_nil, Nat.reduceAdd, Nat.add_zero, Nat.zero_add] at hs
 try simp only [List.nil_append, List.cons_append] at hF
 try simp only [hs]
 clear hs;co_apply bq
 try simp only [ThenX]
 try co_then
 clear b1 b2 b3 c76 d76 c77 d77;have hF' : New W (boxZ W.heap.size K ticks 0) _ := hF;clear hF;intro b k cs m hb hk hc;have hAt : ∀ w w₁, AtRel w w₁ → PostB w → PostB w₁ := fun w w₁ ⟨d, e⟩ h => by subst e; exact hPc w _ ⟨rfl, rfl, rfl, rfl, fun _ _ _ => rfl⟩ h
 have rely : ∀ {told : Value} {w w₁ : World}, RanZ PostB W.heap.size told ws w → AtRel w w₁ → RanZ PostB W.heap.size told ws w₁ := fun {told w w₁} h r => ⟨hAt w w₁ r h.1, by obtain ⟨d, rfl⟩ := r; exact h.2⟩;refine (show Goes Tryz.prog true AtRel (D0 (Shs s)) (StopZ Tryz.prog Fin (nn + 1) s) (m + 15) _ _ from Goes.mono (tx (PostB := PostB) (ws := ws) hb hk hE hws hPb hPc hPn hT ?_ _ hF') (by omega))
 · intro told w' hFJ;have hF : RanZ PostB W.heap.size told ws w' := hFJ;clear hFJ hF' hT;co_apply Exists.intro;co_apply bv (jF (Shs (W.heap.size :: s))) rfl (fun _ => stepG_region_end);co_apply jG (F := FZ Tryz.prog Fin) (s := (nn, W.heap.size :: s)) (m := m) ?_ hb hk hc;simp only [TR, tl10, tl9, tl8, tl7, tl6, Tryz.f19];co_apply bW;co_apply ba;simp only [List.size_toArray, List.length_cons, List.length_nil, Nat.reduceAdd, Nat.zero_add, List.range, List.range.loop];co_apply aH rfl (by rfl);intro _ hR K hK;replace hF := (rely) hF hR;clear hR
   skip
   go_simp
   try (unfold stored; go_simp)
   refine hK _ _ ⟨?_, ?_⟩
   · (rw [listed_nil (by simp [go_sem, *])]; exact d0Z (by simp))
   clear hK K
   try walk_nrm
   co_apply aH rfl (by rfl);intro _ hR K hK;replace hF := (rely) hF hR;clear hR
   skip
   go_simp
   try (unfold stored; go_simp)
   refine hK _ _ ⟨?_, ?_⟩
   · (rw [listed_nil (by simp [go_sem, *])]; exact d0Z (by simp))
   clear hK K
   try walk_nrm
   co_apply aH rfl (by rfl);intro _ hR K hK;replace hF := (rely) hF hR;clear hR
   skip
   go_simp
   try (unfold stored; go_simp)
   refine hK _ _ ⟨?_, ?_⟩
   · (rw [listed_nil (by simp [go_sem, *])]; exact d0Z (by simp))
   clear hK K
   try walk_nrm
   co_apply bq
   try simp only [ThenX]
   try co_then
   co_apply iL;co_apply wpC_ret (jF (Shs (W.heap.size :: s)));exact ⟨rfl, _, resultsC_tmp2 (t := 4) (u := 5) (by rfl) _, rfl, told, rfl, hF⟩
end Go.Proofs.YtejkelcaljmnoaaGreatDoor
namespace Go.Proofs.YtejkelcaljmnoaaGreatDoor
open Go.Conc Go.RowKit Go.Hx Go.Lo Go.ConcX Go.Conc.Lib Go.ConcX.Gen
section
variable {σ : Type} {F : Fam σ} {P : Program} {main : Bool} {f : FuncId} {args : Array Value} {n : Nat} {s : σ} {w : World} {Post Post' : σ → Value → World → Prop}
theorem fC (h : CallsX F P main f args n s w Post) (hp : ∀ s v w, Post s v w → Post' s v w) : CallsX F P main f args n s w Post' := by
 obtain ⟨g, c, hf, hname, hbody, hwp⟩ := h;refine ⟨g, c, hf, hname, hbody, fun b k cs m hb hk hc => hwp b k cs m hb hk fun s' e a' w' q => hc s' e a' w' ?_⟩;cases e with
 | normal => obtain ⟨h1, v, h2, h3⟩ := q; exact ⟨h1, v, h2, hp _ _ _ h3⟩
 | ret => obtain ⟨h1, v, h2, h3⟩ := q; exact ⟨h1, v, h2, hp _ _ _ h3⟩
 | _ => exact q
end
section
variable {K : Nat} {A : Lay} {S : St} {F L : Frag}
theorem Rep.boxes (h : Rep K A S F L) {bx : Frag} (hf : Fun (bx ++ L)) (hn : ∀ t ∈ bx, ∀ u ∈ L, u.1 ≠ t.1) : Rep K A S (bx ++ F) (bx ++ L) :=
 { h.of hf (fun t ht => List.mem_append_right _ ht) with
   fr := fun t ht => by
     rcases List.mem_append.1 ht with h1 | h1
     · exact List.mem_append_left _ h1
     · exact List.mem_append_right _ (h.fr t h1)
   fd := fun t ht => by
     rcases List.mem_append.1 ht with h1 | h1
     · exact ⟨fun e => hn t h1 _ h.k e.symm, fun q hq e => hn t h1 _ (h.p q hq) e.symm, fun i e => let ⟨_, hx⟩ := h.al i _ e; hn t h1 _ hx rfl, fun i e => let ⟨_, hx⟩ := h.yl i _ e; hn t h1 _ hx rfl, fun e => hn t h1 _ h.w e.symm⟩
     · exact h.fd t h1 }
theorem Rep.forget (h : Rep K A S F L) {c : Nat} {cs : Array Value} {fl : Bool} (hc : (c, fl, Obj.cells cs 3) ∈ F) {F' : Frag} (hF : ∀ t ∈ F', t ∈ F ∧ t.1 ≠ c) : Rep K A S F' (L.filter fun t => !decide (t.1 = c)) := by
 obtain ⟨d1, d2, d3, d4, d5⟩ := h.fd _ hc;have hcL := h.fr _ hc;have mem : ∀ t ∈ L, t.1 ≠ c → t ∈ L.filter fun t => !decide (t.1 = c) := fun t ht hne => List.mem_filter.2 ⟨ht, by simpa using hne⟩;have arr : ∀ (a : Sl) (xs : List Value) (e : TypeId), a.b ≠ some c → slOk a xs e L → slOk a xs e (L.filter fun t => !decide (t.1 = c)) := fun a xs e hn ha => by
   refine ha.mono fun d hd o ho => mem _ ho ?_;show d ≠ c;rintro rfl;exact hn hd
 exact { h with
   fn := fun b fl fl' o o' h1 h2 => h.fn b fl fl' o o' (List.mem_filter.1 h1).1 (List.mem_filter.1 h2).1
   k := mem _ h.k (Ne.symm d1)
   g := mem _ h.g (h.fn.ne h.g hcL (aF (by decide)))
   p := fun q hq => mem _ (h.p q hq) (Ne.symm (d2 q hq))
   pa := arr _ _ _ (d3 0) h.pa
   rw := fun l hl => arr _ _ _ (d3 _) (h.rw l hl)
   ya := fun i hi => arr _ _ _ (d4 i) (h.ya i hi)
   w := mem _ h.w (Ne.symm d5)
   wa := fun e he => arr _ _ _ (d3 _) (h.wa e he)
   al := fun i d hd => by obtain ⟨xs, hx⟩ := h.al i d hd; exact ⟨xs, mem _ hx (by rintro rfl; exact d3 i hd)⟩
   yl := fun i d hd => by obtain ⟨xs, hx⟩ := h.yl i d hd; exact ⟨xs, mem _ hx (by rintro rfl; exact d4 i hd)⟩
   fr := fun t ht => mem _ (h.fr t (hF t ht).1) (hF t ht).2
   fd := fun t ht => h.fd t (hF t ht).1 }
end
def Heard (told : Value) (es : List Value) (L : Frag) : Prop := (told = .slice none 0 0 ∧ es = []) ∨ ∃ g cap cur, told = .slice (some ⟨g, 0, none⟩) es.length cap ∧ (g, true, Obj.cells cur 51) ∈ L ∧ es.length ≤ cap ∧ cap ≤ maxLen ∧ cur.size = cap * 4 ∧ cur.toList.take (es.length * 4) = es.flatMap fun v => v.cells.toList
theorem ow (S : St) (b : Nat) (x : PS) (m : Int) : ∃ ws : List Wd, S.grantE b x m = ws.map Wd.v ∧ ws.length ≤ 1 := by
 unfold St.grantE;by_cases e0 : m = 0
 · rw [if_pos e0]; exact ⟨[(_, _, _, _)], rfl, Nat.le_refl _⟩
 rw [if_neg e0];by_cases e3 : m = 3
 · rw [if_pos e3];cases S.find (x.r 0) with
   | none => exact ⟨[], rfl, Nat.zero_le _⟩
   | some q =>
     simp only
     split
     · exact ⟨[], rfl, Nat.zero_le _⟩
     · exact ⟨[(_, _, _, _)], rfl, Nat.le_refl _⟩
 rw [if_neg e3]
 split
 · exact ⟨[(_, _, _, _)], rfl, Nat.le_refl _⟩
 · exact ⟨[], rfl, Nat.zero_le _⟩
theorem sI (S : St) (b : Nat) (x : PS) : ∃ ws : List Wd, S.runE b x = ws.map Wd.v ∧ ws.length ≤ 1 := by
 unfold St.runE
 split
 · exact ⟨[(_, _, _, _)], rfl, Nat.le_refl _⟩
 · split
   · exact ow _ _ _ _
   · split
     · exact ⟨[], rfl, Nat.zero_le _⟩
     · exact ⟨[(_, _, _, _)], rfl, Nat.le_refl _⟩
theorem pK (S : St) : ∃ ws : List Wd, S.tickE = ws.map Wd.v ∧ ws.length ≤ 2 := by
 unfold St.tickE;cases S.lead.first with
 | none => exact ⟨[(_, _, _, _)], rfl, by simp⟩
 | some b =>
   simp only;cases S.lead.get b with
   | none => exact ⟨[], rfl, by simp⟩
   | some x =>
     obtain ⟨ws, h1, h2⟩ := sI S.lead b x;exact ⟨(_, _, _, _) :: ws, by simp only [h1]; rfl, by simp; omega⟩
theorem iD : ∀ (m : Nat) (T : St), ∃ ws : List Wd, St.evs m T = ws.map Wd.v ∧ ws.length ≤ 2 * m
 | 0, _ => ⟨[], rfl, by simp⟩
 | m + 1, T => by
   unfold St.evs
   split
   · exact ⟨[], rfl, by simp⟩
   · obtain ⟨w1, h1, h2⟩ := pK T;obtain ⟨w2, h3, h4⟩ := iD m T.next
     exact ⟨w1 ++ w2, by rw [h1, h3]; simp, by simp; omega⟩
theorem mI : ∀ (s : List Nat) (l : Loc), Shs s l → ∃ b, blk l = some b
 | [], _, h => h.elim
 | N :: s, l, h => by
   rcases h with h | ⟨a, rfl, _⟩
   · exact mI s l h
   · exact ⟨_, rfl⟩
theorem Bj {p : Par} {Sh : Loc → Prop} {E Dn : Nat} {PostB : World → Prop} {Aft : Goroutine → World → Prop} {W : World} {O : Nat} {G : List (Nat × Obj)} (hp : p.ety = 51) : ∀ s, NewT (domT Tryz.prog p Sh E Dn PostB Aft W O G s) := fun s => by
 have h : ∀ (t : TypeId), t ≠ 51 → ∀ cs, (domT Tryz.prog p Sh E Dn PostB Aft W O G s).New (.cells cs t) := fun t ht cs => by
   show isEv p.ety (.cells cs t) = false;rw [hp];simpa [isEv] using ht
 exact { a := h 180 (by decide), b := h 182 (by decide), c := h 196 (by decide), d := h 210 (by decide), r := h 93 (by decide), k := h 96 (by decide), y := h 5 (by decide), i := h 158 (by decide), p := h 99 (by decide), n := h 3 (by decide) }
abbrev bxs (N K : Nat) (m : Nat) : Frag := [(N + 1, false, Obj.cells #[.int .i64 (m : Nat)] 3), (N, false, Obj.cells #[.pointer (some ⟨K, 0, none⟩)] 35), (N + 3, false, Obj.cells #[.chan (some (N + 2))] 76), (N + 5, false, Obj.cells #[.chan (some (N + 4))] 77)]
section
variable {W : World} {O : Nat} {s : List Nat} {L : Frag} {w w' : World} {K m : Nat}
theorem sJ (hO : Own0 (Shs s) W O L w) (hn : New w (boxZ w.heap.size K (m : Nat) KK) w') : (domV (pZ w.heap.size) (ShR (Shs s) w.heap.size) (w.heap.size + 2) (w.heap.size + 4) W O (GW (w.heap.size + 6))).Own (bxs w.heap.size K m ++ L) w' := by
 have hE : Elder (Shs s) w.heap.size := fun l hl => by
   obtain ⟨b, hb⟩ := mI s l hl;exact ⟨b, hb, hO.low l b hl hb⟩
 have lt : ∀ t ∈ L, t.1 < w.heap.size := fun t ht => hO.lt (fl := t.2.1) (o := t.2.2) ht;have hz := hO.old.z;have bx : ∀ t ∈ bxs w.heap.size K m, w'.heap[t.1]? = some t.2.2 ∧ w.heap.size ≤ t.1 ∧ t.1 < w.heap.size + 6 ∧ t.1 ≠ w.heap.size + 2 ∧ t.1 ≠ w.heap.size + 4 ∧ t.2.1 = false := fun t ht => by
   simp only [List.mem_cons, List.mem_nil_iff, or_false] at ht;rcases ht with rfl | rfl | rfl | rfl
   · exact ⟨hn.get (i := 1) rfl, by simp only; omega, by simp only; omega, by simp only; omega, by simp only; omega, rfl⟩
   · exact ⟨hn.get (i := 0) rfl, by simp only; omega, by simp only; omega, by simp only; omega, by simp only; omega, rfl⟩
   · exact ⟨hn.get (i := 3) rfl, by simp only; omega, by simp only; omega, by simp only; omega, by simp only; omega, rfl⟩
   · exact ⟨hn.get (i := 5) rfl, by simp only; omega, by simp only; omega, by simp only; omega, by simp only; omega, rfl⟩
 refine ⟨(show OwnW _ _ _ _ _ _ _ _ from { has := ?_, ap := ?_, own := ?_, nd := ?_, sz := ?_, old := ?_, sh := xG hE, hE := ?_, oo := ?_ }), ⟨?_, ?_, ?_⟩⟩
 · intro t ht;rcases List.mem_append.1 ht with h | h
   · exact (bx t h).1
   · rw [hn.old (lt t h)]; exact hO.has t h
 · intro t ht;rcases List.mem_append.1 ht with h | h
   · obtain ⟨_, h1, h2, h3, h4, _⟩ := bx t h;refine ⟨h3, h4, fun l hl hs => ?_, fun _ => by show t.1 < w.heap.size + 7; omega⟩;rcases hs with hs | ⟨a, rfl, ha⟩
     · have := hO.low l _ hs hl;omega
     · simp only [blk, Option.some.injEq] at hl;omega
   · have := lt t h;refine ⟨by omega, by omega, fun l hl hs => ?_, fun _ => by show t.1 < w.heap.size + 7; omega⟩;rcases hs with hs | ⟨a, rfl, ha⟩
     · exact hO.ap t h l hl hs
     · simp only [blk, Option.some.injEq] at hl;omega
 · intro t ht hfl;rcases List.mem_append.1 ht with h | h
   · have := (bx t h).2.2.2.2.2;rw [hfl] at this;cases this
   · refine ⟨hO.own t h hfl, fun l hl hs => ?_⟩;obtain ⟨a, rfl, ha⟩ := hs;simp only [blk, Option.some.injEq] at hl;have := lt t h;omega
 · rw [List.map_append];refine List.nodup_append.2 ⟨by simp, hO.nd, fun a ha c hc => ?_⟩;obtain ⟨t, ht, rfl⟩ := List.mem_map.1 ha;obtain ⟨u, hu, rfl⟩ := List.mem_map.1 hc;have := (bx t ht).2.1;have := lt u hu;omega
 · rw [hn.size]; exact Nat.le_refl _
 · exact ⟨hn.tape.trans hO.old.t, hn.os'.trans hO.old.o, hn.output.trans hO.old.u, by rw [hn.size]; omega, fun x hx => (hn.old (by omega)).trans (hO.old.b x hx)⟩
 · exact ⟨by show w.heap.size + 2 < w.heap.size + 7; omega, by show w.heap.size + 4 < w.heap.size + 7; omega⟩
 · refine ⟨by omega, by omega, ?_⟩;show O ≤ w.heap.size + 7;omega
 · intro t ht;simp only [List.mem_cons, List.mem_nil_iff, or_false] at ht;subst ht;exact hn.get (i := 6) rfl
 · intro t ht u hu;simp only [List.mem_cons, List.mem_nil_iff, or_false] at ht;subst ht;rcases List.mem_append.1 hu with h | h
   · have := (bx u h).2.2.1;simp only; omega
   · have := lt u h;simp only; omega
 · intro t ht;simp only [List.mem_cons, List.mem_nil_iff, or_false] at ht;subst ht;refine ⟨by simp only; omega, by simp only; omega, ?_⟩;show w.heap.size + 6 < w.heap.size + 7;omega
end
theorem pL (ws : List Wd) : (ws.map Wd.v).flatMap (fun v => v.cells.toList) = ws.flatMap Wd.c := by
 induction ws with
 | nil => rfl
 | cons x ws ih => simp only [List.map_cons, List.flatMap_cons, ih]; rfl
theorem ye : ∃ k, ∀ {Fin : Value → World → Prop} {W : World} {O : Nat} (nn : Nat) (s : List Nat) (K : Nat) (A : Lay) (S T : St) (Fr L : Frag) (eb : Nat → Nat × Nat) (m : Nat), Rep K A S Fr L → Ers eb Fr → Ab S T → m ≤ 2000 → S.now < 1152921504606846976 →
   CallsL (F := FZ Tryz.prog Fin) (fun s => dom0 (Shs s.2) W O) Tryz.prog true 19 [ptr K, .int .i64 (m : Nat)].toArray k (nn + 1, s) L (fun s' v L' => ∃ N told A' S', s' = (nn, N :: s) ∧ v = .tuple #[told, .int .i64 0] ∧ Ab S' (St.runs m T) ∧ Rep K A' S' Fr L' ∧ Heard told (St.evs m T) L') := by
 obtain ⟨k, hk⟩ := AB;obtain ⟨kp, hpass⟩ := ze;refine ⟨k, fun {Fin W O} nn s K A S T Fr L eb m hR hEr hAb hm hnow w hO => ?_⟩;obtain ⟨ws, hws, hwl⟩ := iD m T;have hO' : Own0 (Shs s) W O L w := hO;have hE : Elder (Shs s) w.heap.size := fun l hl => by
   obtain ⟨b, hb⟩ := mI s l hl;exact ⟨b, hb, hO'.low l b hl hb⟩
 have hz := hO'.old.z;have lt : ∀ t ∈ L, t.1 < w.heap.size := fun t ht => hO'.lt (fl := t.2.1) (o := t.2.2) ht
 let QL : Frag → Prop := fun L' => ∃ A' S', Ab S' (St.runs m T) ∧ Rep K A' S' Fr L'
 let PB := PostW (pZ w.heap.size) (ShR (Shs s) w.heap.size) (w.heap.size + 2) (w.heap.size + 4) W O (w.heap.size + 6) (w.heap.size + 1) QL
 refine fC (hk nn s K (m : Nat) ⟨by omega, by omega⟩ ws (by omega) w hE PB ?_ ?_ ?_ ?_) ?_
 · rintro x x₁ r ⟨L', h1, h2, h3⟩;exact ⟨L', h1.rely r, h2, h3⟩
 · rintro x x₁ r ⟨L', h1, h2, h3⟩;refine ⟨L', { h1 with has := fun t ht => (r.block t.1 (h2 t ht).1 (h2 t ht).2).trans (h1.has t ht), sz := by rw [r.size]; exact h1.sz, old := ⟨r.tape.trans h1.old.t, r.os.trans h1.old.o, r.output.trans h1.old.u, by rw [r.size]; exact h1.old.z, fun y hy => (r.block y (by omega) (by omega)).trans (h1.old.b y hy)⟩ }, h2, h3⟩
 · rintro x ⟨L', h1, _⟩;exact h1.sz
 · intro _ w' hn;have hV := sJ hO' hn;have hnd := (domV (pZ w.heap.size) (ShR (Shs s) w.heap.size) (w.heap.size + 2) (w.heap.size + 4) W O (GW (w.heap.size + 6))).nd hV;have hR1 : Rep K A S (bxs w.heap.size K m ++ Fr) (bxs w.heap.size K m ++ L) := hR.boxes (bA hnd) fun t ht u hu e => by
     rw [List.map_append] at hnd;exact (List.nodup_append.1 hnd).2.2 t.1 (List.mem_map.2 ⟨t, ht, rfl⟩) u.1 (List.mem_map.2 ⟨u, hu, rfl⟩) e.symm
   have hP := hpass (p := pZ w.heap.size) (Sh := ShR (Shs s) w.heap.size) (E := w.heap.size + 2) (Dn := w.heap.size + 4) (PostB := PB) (Aft := AfterD Tryz.prog 87 (w.heap.size + 6) (w.heap.size + 1) (w.heap.size + 7) [.int .i64 (m : Nat)] Mine0) (W := W) (O := O) (G0 := GW (w.heap.size + 6)) (vs := []) K A S T (bxs w.heap.size K m ++ Fr) (bxs w.heap.size K m ++ L) eb m (Bj rfl) hR1 (hEr.mono fun t ht => List.mem_append_right _ ht) hAb hm hnow;rw [List.append_nil, hws] at hP;refine pJ (kb := w.heap.size) (db := w.heap.size + 5) (eb := w.heap.size + 3) (C := w.heap.size + 1) (Wg := w.heap.size + 6) (Low := w.heap.size + 7) (K := K) (L := bxs w.heap.size K m ++ L) (QL := QL) (by omega) (by omega) (by omega) (by omega) (by omega) (by simp) (by simp) (by simp) (by simp) kp _ (fun x hx => fC (hP x hx) ?_) w' hV;rintro s' v x' ⟨L', hL', h1, _, A', S', h2, h3⟩;refine ⟨h1.symm, L', hL', h3.fr _ (by simp), A', S', h2, h3.forget (c := w.heap.size + 1) (cs := #[.int .i64 (m : Nat)]) (fl := false) (by simp) fun t ht => ⟨List.mem_append_right _ ht, ?_⟩⟩;have := lt t (hR.fr t ht);omega
 · rintro s' v x' ⟨h1, told, h2, ⟨L', hW, hne, A', S', hA', hR'⟩, hT⟩;have hdom : Own0 (Shs (w.heap.size :: s)) W O L' x' := ⟨hW.has, fun t ht => (hW.ap t ht).2.2.1, fun t ht hf => (hW.own t ht hf).1, hW.nd, fun l b hl hb => by have := hW.sh.low l b hl hb; have := hW.sz; omega, hW.old⟩;subst h1;rw [show (St.evs m T) = ws.map Wd.v from hws];obtain ⟨hl, hT⟩ := hT;rcases hT with ⟨rfl, h0⟩ | ⟨g, cap, cur, rfl, hg, hcur, hn, hcm, hcs, htk⟩
   · refine ⟨L', hdom, w.heap.size, _, A', S', rfl, h2, hA', hR', .inl ⟨rfl, ?_⟩⟩;have : ws = [] := List.length_eq_zero_iff.1 h0;rw [this]; rfl
   · have hgN : w.heap.size + 7 ≤ g := hg;have hgn : ∀ t ∈ L', t.1 ≠ g := fun t ht e => by
       have h3 := hW.has t ht;rw [e, hcur] at h3;have h4 := (hW.ap t ht).2.2.2 (by rw [← Option.some.inj h3]; rfl);have : t.1 < w.heap.size + 7 := h4;omega
     refine ⟨(g, true, Obj.cells cur 51) :: L', ?_, w.heap.size, _, A', S', rfl, h2, hA', hR'.of ?_ (fun t ht => List.mem_cons_of_mem _ ht), .inr ⟨g, cap, cur, by rw [List.length_map], List.mem_cons_self, by rw [List.length_map]; exact hn, hcm, hcs, ?_⟩⟩
     · show Own0 (Shs (w.heap.size :: s)) W O _ x';refine ⟨fun t ht => ?_, fun t ht => ?_, fun t ht hf => ?_, ?_, hdom.low, hdom.old⟩
       · rcases List.mem_cons.1 ht with rfl | ht
         · exact hcur
         · exact hdom.has t ht
       · rcases List.mem_cons.1 ht with rfl | ht
         · intro l hl hs;have := hW.sh.low l g hs hl;have : g < w.heap.size + 7 := this;omega
         · exact hdom.ap t ht
       · rcases List.mem_cons.1 ht with rfl | ht
         · simp only; omega
         · exact hdom.own t ht hf
       · simp only [List.map_cons, List.nodup_cons];exact ⟨fun hm => by obtain ⟨t, ht, e⟩ := List.mem_map.1 hm; exact hgn t ht e, hdom.nd⟩
     · refine bA ?_;simp only [List.map_cons, List.nodup_cons];exact ⟨fun hm => by obtain ⟨t, ht, e⟩ := List.mem_map.1 hm; exact hgn t ht e, hdom.nd⟩
     · rw [List.length_map, pL]; exact htk
end Go.Proofs.YtejkelcaljmnoaaGreatDoor
namespace Go.Proofs.YtejkelcaljmnoaaGreatDoor
open Go.Conc Go.Hx Go.Lo
def rowv (a : Sl) (sz n : Nat) : Value := match a.b with
 | none => .slice none 0 0
 | some b => .slice (some ⟨b, 0, none⟩) n (n + a.junk.length / sz)
structure ApN (L : Frag) (e : TypeId) (a : Sl) (zs : List Value) (a' : Sl) (L' : Frag) : Prop where
 ok : slOk a' zs e L'
 fn : Fun L'
 sub : ∀ t ∈ L, a.b ≠ some t.1 → t ∈ L'
 d : ∀ b, a'.b = some b → a.b = some b ∨ ∀ t ∈ L, t.1 ≠ b
theorem kC : ∀ (vs : List Value) (cs : Array Value) (o k : Nat), (vs.zipIdx k).foldl (fun cs (c, j) => cs.setIfInBounds (o + j) c) cs = puts cs (o + k) vs
 | [], cs, o, k => by simp [puts]
 | v :: vs, cs, o, k => by
   simp only [List.zipIdx_cons, List.foldl_cons, puts];rw [kC vs _ o (k + 1)]; rfl
section
variable {New : Obj → Prop} {N : Nat} {ε : Env} {L : Frag} {d : Option Tmp} {ty : TypeId} {ps : String} {af : Array Edge} {g : Option (Nat × Bool)} {x y : Operand} {P : Program}
theorem vi {t e : TypeId} {x : Operand} {v z : Value} {sz : Nat} (hN : New (.cells v.cells e)) (hv : v.cells.size = sz) (hx : ev ε x = some v := by rfl) (hu : P.underlying t = some (.slice e)) (hs : sizeAt P e = some sz) (hz : zeroAt P e = some z) (h0 : 0 < sz) (h24 : sz ≤ 1000) :
   EO P New N ε L ⟨d, .buildSlice t 1 #[(0, x)], ty, ps, af, g⟩ (fun r L'' => ∃ b, (∀ t ∈ L, t.1 ≠ b) ∧ r = .slice (some ⟨b, 0, none⟩) 1 1 ∧ L'' = (b, true, .cells v.cells e) :: L) := by
 intro a ha;simp only [execOp, List.map_toArray, List.map_cons, List.map_nil];unfold Instr.buildSlice newRow;have hf : Instr.fill (fun i => some (i * sz, sz)) ((Array.range (1 * sz)).map (z.cells[· % z.cells.size]!)) [(0, v)] = some v.cells := by
   have e1 : ((Array.range (1 * sz)).map (z.cells[· % z.cells.size]!)).size = sz := by simp
   generalize (Array.range (1 * sz)).map (z.cells[· % z.cells.size]!) = cs at e1;simp only [Instr.fill];rw [if_neg (by simp [hv, e1])];congr 1;have e2 : v.cells.zipIdx.foldl (fun cs (c, j) => cs.setIfInBounds (0 * sz + j) c) cs = puts cs (0 * sz + 0) v.cells.toList := by
     rw [← kC, ← Array.foldl_toList, Array.toList_zipIdx]
   rw [e2];obtain ⟨l⟩ := cs;rw [bX _ _ _ (by simp at e1 ⊢; omega)];apply Array.ext';have : l.drop (0 * sz + 0 + v.cells.toList.length) = [] := List.drop_eq_nil_of_le (by simp at e1 ⊢; omega);rw [this]; simp
 rw [au, au, aQ hu, ha.ev hx];simp only [];rw [au, bM hs];rw [if_neg (by omega), if_neg (by omega), au, cx hz, au, bm];simp only [hf, au];exact b8 hN fun b hb => ⟨b, hb, rfl, rfl⟩
theorem xo {a : Sl} {xs : List Value} {e : TypeId} {sz n : Nat} (ha : slOk a xs e L) (hn : xs.length = n * sz) (h0 : 0 < sz) : Reads P L sz n (rowv a sz n) xs.toArray := by
 cases hab : a.b with
 | none =>
   unfold slOk at ha;rw [hab] at ha;obtain rfl : xs = [] := ha.1;obtain rfl : n = 0 := by
     rcases Nat.eq_zero_or_pos n with h | h
     · exact h
     · have := Nat.mul_pos h h0; simp at hn; omega
   have e3 : rowv a sz 0 = .slice none 0 0 := by unfold rowv; rw [hab]
   rw [e3]; exact dw
 | some b =>
   have hm := ha.mem hab;have e3 : rowv a sz n = .slice (some ⟨b, 0, none⟩) n (n + a.junk.length / sz) := by unfold rowv; rw [hab]
   rw [e3];have := bZ (P := P) (sz := sz) (n := n) (len := n) (cap := n + a.junk.length / sz) (o := 0) hm (by simp; omega);have e7 : (xs ++ a.junk).take (n * sz) = xs := by rw [← hn, List.take_append_of_le_length (by simp)]; exact List.take_of_length_le (by simp)
   simpa [e7] using this
theorem sK {ρ : Operand → Value} {Q : Next → Frag → Prop} {t u e e2 : TypeId} {sz : Nat} {yb : Option Addr} {yc : Nat} {vs : Array Value} (hx : ρ x = .slice none 0 0) (hy : ρ y = .slice yb 0 yc) (hu : P.underlying t = some (.slice e)) (hv : P.underlying u = some (.slice e2)) (hs : sizeAt P e = some sz)
   (hr : Reads P L sz 0 (.slice yb 0 yc) vs) (hQ : Q (.value (.slice none 0 0)) L) : wpS P New (execOp ρ ⟨d, .call ⟨.builtin .append, #[x, y], #[t, u]⟩, ty, ps, af, g⟩) Q L := by
 refine cu (s := Builtin.append_ #[t, u] ty #[.slice none 0 0, .slice yb 0 yc]) (fun _ => by simp [builtin, hx, hy]) ?_;unfold Builtin.append_;simp only [List.getElem?_toArray, List.getElem?_cons_zero, List.getElem?_cons_succ];rw [au, aQ hu];simp only [];rw [au, bM hs];rw [au, aQ hv, au, bm];simp only [Bool.false_eq_true, if_false, Bool.not_false, if_true, Builtin.lenOf];rw [au, bm];simp only [Nat.le_refl, if_true];rw [au];refine hr.r New _ ?_;exact hQ
theorem qF {t e : TypeId} {a : Sl} {xs ys : List Value} {n m sz by_ : Nat} {z : Value} {yb : Option Addr} {yc : Nat} (hx : ev ε x = some (rowv a sz n) := by rfl) (hy : ev ε y = some (.slice yb m yc) := by rfl) (hnd : (L.map (·.1)).Nodup) (hu : P.underlying t = some (.slice e)) (hs : sizeAt P e = some sz) (hb : bytesAt P e = some (by_ + 1)) (hz : zeroAt P e = some z) (hzs : z.cells.size = sz) (hN : ∀ cs, New (.cells cs e)) (ha : slOk a xs e L) (hn : xs.length = n * sz) (hr : Reads P L sz m (.slice yb m yc) ys.toArray) (hm : ys.length = m * sz) (hpl : ys.all plainV = true) (h0 : 0 < sz) (h8 : (2 * (n + m) + 192) * (by_ + 1) ≤ 281474976710656) :
   EO P New N ε L ⟨d, .call ⟨.builtin .append, #[x, y], #[t, t]⟩, ty, ps, af, g⟩ (fun r L' => ∃ a', r = rowv a' sz (n + m) ∧ ApN L e a (xs ++ ys) a' L') := by
 have hws := xo (P := P) ha hn h0
 have grow : ∀ (cap0 : Nat), (∃ base, rowv a sz n = .slice base n cap0) → cap0 < n + m →
     EO P New N ε L ⟨d, .call ⟨.builtin .append, #[x, y], #[t, t]⟩, ty, ps, af, g⟩ (fun r L' => ∃ a', r = rowv a' sz (n + m) ∧ ApN L e a (xs ++ ys) a' L') := by
   rintro cap0 ⟨base, hbs⟩ hc;rw [hbs] at hws hx;intro ac hac;refine bO ?_ _ _ (lg (by_ := by_) (New := New) hx hy (bA hnd) hu hu hs hb hz hws hr hc h8 hN ac hac);intro r L' q;cases r <;> try exact q.elim
   · obtain ⟨b, cap, h1, h2, rfl, hA⟩ := q;have hzl : (Builtin.zeroCells z.cells (cap - (n + m))).toList.length = (cap - (n + m)) * sz := by unfold Builtin.zeroCells; simp [hzs]
     refine ⟨⟨some b, (Builtin.zeroCells z.cells (cap - (n + m))).toList⟩, ?_, ?_, hA.fn, fun t ht _ => hA.sub t ht, fun b' hb' => .inr ?_⟩
     · unfold rowv; simp only []; rw [hzl, Nat.mul_div_cancel _ h0, show n + m + (cap - (n + m)) = cap by omega]
     · have e5 : xs.toArray ++ ys.toArray ++ Builtin.zeroCells z.cells (cap - (n + m)) = ((xs ++ ys) ++ (Builtin.zeroCells z.cells (cap - (n + m))).toList).toArray := by
         apply Array.ext'; simp
       rw [e5] at hA;exact hA.self
     · obtain rfl : b = b' := by simpa using hb'
       exact hA.new
   · obtain ⟨b, cap, _, _, e, _⟩ := q; cases e
 cases hab : a.b with
 | none =>
   have h2 := ha;unfold slOk at h2;rw [hab] at h2;obtain ⟨e1, e2⟩ := h2;obtain rfl : xs = [] := e1;obtain rfl : n = 0 := by
     rcases Nat.eq_zero_or_pos n with h | h
     · exact h
     · have := Nat.mul_pos h h0; simp at hn; omega
   have e3 : rowv a sz 0 = .slice none 0 0 := by unfold rowv; rw [hab]
   by_cases hm0 : m = 0
   · subst hm0;obtain rfl : ys = [] := List.length_eq_zero_iff.1 (by simpa using hm);rw [e3] at hx;intro ac hac;exact sK (hac.ev hx) (hac.ev hy) hu hu hs hr ⟨a, by rw [Nat.add_zero, e3], by simpa using ha, bA hnd, fun t ht _ => ht, fun b hb => .inl hb⟩
   exact grow 0 ⟨none, e3⟩ (by omega)
 | some b =>
   have hmm := ha.mem hab;have e3 : rowv a sz n = .slice (some ⟨b, 0, none⟩) n (n + a.junk.length / sz) := by unfold rowv; rw [hab]
   by_cases hj : m ≤ a.junk.length / sz
   · intro ac hac;rw [e3] at hx;have hj' : m * sz ≤ a.junk.length := (Nat.le_div_iff_mul_le h0).1 hj;refine bO ?_ _ _ (jP (New := New) hx hy hnd hu hu hs hr (by omega) hmm (by simp; omega) (by simpa using hpl) ac hac);intro r L' q;cases r <;> try exact q.elim
     · obtain ⟨rfl, hU⟩ := q;have e4 : puts (xs ++ a.junk).toArray (0 + n * sz) ys.toArray.toList = ((xs ++ ys) ++ a.junk.drop (m * sz)).toArray := by
         rw [bX _ _ _ (by simp; omega)];have e6 : (xs ++ a.junk).drop (0 + n * sz + ys.toArray.toList.length) = a.junk.drop (m * sz) := by
           rw [show 0 + n * sz + ys.toArray.toList.length = xs.length + m * sz by simp; omega, List.drop_append]; simp
         have e7 : (xs ++ a.junk).take (0 + n * sz) = xs := by rw [Nat.zero_add, ← hn, List.take_append_of_le_length (by simp)]; exact List.take_of_length_le (by simp)
         rw [e6, e7]
       rw [e4] at hU;refine ⟨⟨some b, a.junk.drop (m * sz)⟩, ?_, hU.self, hU.fn, fun t ht hne => hU.ne t ht fun e => hne (by rw [hab, e]), fun b' hb' => .inl (by rw [hab]; exact hb')⟩;unfold rowv;simp only [List.length_drop];rw [Nat.mul_comm m sz, Nat.sub_mul_div];rw [show n + m + (a.junk.length / sz - m) = n + a.junk.length / sz by omega]
     · exact absurd q.1 (by simp [undef])
   · exact grow (n + a.junk.length / sz) ⟨_, e3⟩ (by omega)
end
end Go.Proofs.YtejkelcaljmnoaaGreatDoor
namespace Go.Lo
open Go.Conc Go.Hx
section
variable {σ : Type} {F : Fam σ} {Δ : ∀ s, Dom (F.R s) (F.D s)} {P : Program} {main : Bool} {fn : FuncId} {N : Nat} {Q : σ → Exit → Env → Frag → Prop} {s : σ} {ε : Env} {L : Frag} {ops : Array Oper} {nf : Nat} {R L0 : Frag} {e : Nat} {s0 : σ} {fuel : Nat} {ls : Array Bool}
theorem t2 {i j : Nat} {d d' : Option Tmp} {k k' : Op} {ot ot' : TypeId} {ps ps' : String} {af af' : Array Edge} {g g' : Option (Nat × Bool)} {f : FuncId} {args : Array Operand} {ats : Array TypeId} {vs : List Value} {Post : σ → Value → Frag → Prop} {post : Value → Frag → Prop} (ho : ops[i]? = some ⟨d, k, ot, ps, af, g⟩) (hop : k = .call { callee := .value (.func f), args, argTypes := ats }) (ha : args.toList.map (ev ε) = vs.map some) (hcall : CallsL Δ P main f vs.toArray nf s L Post)
   (ho' : ops[j]? = some ⟨d', k', ot', ps', af', g'⟩) (hy : EO P (Δ s).New N ε L ⟨d', k', ot', ps', af', g'⟩ post)
   (hr : Region.ready .any ops ls = [i, j] := by kernel_rfl) (hw : wantedE ops N ε g = some true := by rfl) (hd : dstOk N d = true := by rfl) (hw' : wantedE ops N ε g' = some true := by rfl) (hd' : dstOk N d' = true := by rfl)
   (h1 : ∀ s' v L', Post s' v L' → Pre R L0 e s0 (ls.setIfInBounds i true) s' L' ∧ AnyE Δ P main fn N ops Q nf R L0 e s0 fuel (ls.setIfInBounds i true) s' (putE d v ε) L')
   (h2 : ∀ v L', post v L' → Pre R L0 e s0 (ls.setIfInBounds j true) s L' ∧ AnyE Δ P main fn N ops Q nf R L0 e s0 fuel (ls.setIfInBounds j true) s (putE d' v ε) L') : AnyE Δ P main fn N ops Q nf R L0 e s0 (fuel + 1) ls s ε L := by
 intro a hf;have e' : args.map a.eval = vs.toArray := by
   apply Array.ext';simp only [Array.toList_map];have : ∀ (l : List Operand) (vs : List Value), l.map (ev ε) = vs.map some → l.map a.eval = vs := by
     intro l
     induction l with
     | nil => intro vs h; cases vs <;> simp_all
     | cons x l ih =>
       intro vs h;cases vs with
       | nil => simp at h
       | cons v vs =>
         simp only [List.map_cons, List.cons.injEq] at h ⊢;exact ⟨hf.ev h.1, ih vs h.2⟩
   exact this _ _ ha
 refine tM hr (fun w hO hD => ?_) fun w hO hD => ?_
 · have hrm : i ∈ Region.ready .any ops ls := by simp [hr]
   have hc := hcall w hO;rw [← e'] at hc;exact .inr ⟨_, f, args, ats, _, ho, hf.wanted hw, hop, hc, fun s' v w' ⟨L', hL, hp⟩ => ⟨⟨L', hL, (h1 s' v L' hp).1⟩, (h1 s' v L' hp).2 _ (hf.put hd v) (hD.step hrm) _ hL⟩⟩
 · have hrm : j ∈ Region.ready .any ops ls := by simp [hr]
   refine .inl ?_;unfold OpC;have hww : Region.wanted ⟨d', k', ot', ps', af', g'⟩ (yielded ops a.tmps) = true := hf.wanted hw';simp only [ho', hww, if_true];intro w₁ h₁
   have hy' : wpS P (Δ s).New (execOp a.eval ⟨d', k', ot', ps', af', g'⟩) (fun x L' => onNext ⟨d', k', ot', ps', af', g'⟩ a (fun a' => Pre R L0 e s0 (ls.setIfInBounds j true) s L' ∧ AnyL Δ P main fn ops (upE N Q) nf R L0 e s0 fuel (ls.setIfInBounds j true) s a' L') x) L :=
     bO (fun x L' q => by cases x <;> first | exact ⟨(h2 _ _ q).1, (h2 _ _ q).2 _ (hf.put hd' _)⟩ | exact q.elim) _ _ (hy a hf)
   obtain ⟨x, w', hrun, hg, he, L', hL, hx⟩ := oS (Δ s) ((Δ s).rely hO h₁) hy';exact lS (Δ := Δ) (s := s) (KL := fun a' L' => Pre R L0 e s0 (ls.setIfInBounds j true) s L' ∧ AnyL Δ P main fn ops (upE N Q) nf R L0 e s0 fuel (ls.setIfInBounds j true) s a' L') hrun hL hx fun a' k => ⟨(Δ s).dd hg fun e hm => he e (mem_listed hm), ⟨L', hL, k.1⟩, k.2 (hD.step hrm) _ hL⟩
end
end Go.Lo
