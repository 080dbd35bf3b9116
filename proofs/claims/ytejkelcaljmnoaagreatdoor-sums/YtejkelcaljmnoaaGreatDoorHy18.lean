/-
  Part 18 of the proof.
  No condition but those that each statement names.
-/
import Derived.Test.YtejkelcaljmnoaaGreatDoorHy16
import Derived.Test.YtejkelcaljmnoaaGreatDoorHy14
set_option maxRecDepth 100000
set_option linter.unusedVariables false
set_option linter.unusedSimpArgs false
set_option linter.unusedSectionVars false
namespace Go.Proofs.YtejkelcaljmnoaaGreatDoor
open Go.Conc Go.Hx Go.Lo
section
variable {K : Nat} {A : Lay} {S : St} {Fr L : Frag}
theorem Rep.kat (h : Rep K A S Fr L) {i : Nat} {v : Value} (hv : (kcells (kst A S))[i]? = some v) : At L K i v := ⟨true, _, _, _, h.k, hv⟩
theorem Rep.pat (h : Rep K A S Fr L) {b : Nat} {x : PS} (hb : (b, x) ∈ S.ps) {i : Nat} {v : Value} (hv : (pcells x)[i]? = some v) : At L b i v := ⟨true, _, _, _, h.p _ hb, hv⟩
end
theorem all_s : ∃ n, ∀ {σ : Type} {F : Fam σ} {Δ : ∀ s, Dom (F.R s) (F.D s)} {main : Bool} {s : σ} (K : Nat) (A : Lay) (S : St) (Fr L : Frag), Rep K A S Fr L →
   CallsL Δ Tryz.prog main 36 [ptr K].toArray n s L (fun s' v L' => s = s' ∧ L = L' ∧ v = slv (A.a 0) S.ps.length) := by
 apply Exists.intro
 intro σ F Δ main s K A S Fr L hR
 have h1 : At L K 5 _ := hR.kat rfl
 co_applyP callsE 9 Tryz.func36 Tryz.ntmps36
 co_applyP c_seq
 co_applyP c_region
 co_applyP oy rfl E_as
 co_applyP o_nil
 change wpE ..
 co_applyP c_seq
 co_applyP c_seq
 co_applyP c_region
 co_applyP oy rfl E_mv
 co_applyP oy rfl (E_eqn (hu := Tryz.underlying35))
 co_applyP o_nil
 change wpE ..
 co_applyP c_false rfl
 co_applyP c_skip
 change wpE ..
 co_applyP c_seq
 co_applyP c_region
 co_applyP oy rfl E_mv
 co_applyP oy rfl E_nc
 co_applyP oy rfl (E_fa (hf := fo_115_2))
 co_applyP oy rfl (E_ld (ht := ag_91))
 co_applyP oy rfl E_as
 co_applyP o_nil
 change wpE ..
 co_applyP c_ret
 change ∃ v, resE .. = some v ∧ _
 exact ⟨_, rfl, rfl, rfl, rfl⟩
def St.find (S : St) (id : Int) : Option (Nat × PS) := S.ps.find? fun q => (q.2.id : Int) == id
def optPtr : Option Nat → Value
 | none => .pointer none
 | some b => ptr b
theorem find_at {S : St} {id : Int} {l1 l2 : List (Nat × PS)} {q : Nat × PS} (hl : S.ps = l1 ++ q :: l2) (hn : ∀ q ∈ l1, ((q.2.id : Int) == id) = false) (hq : ((q.2.id : Int) == id) = true) : S.find id = some q := by
 unfold St.find
 rw [hl, List.find?_append, List.find?_cons, hq]
 have : l1.find? (fun q => (q.2.id : Int) == id) = none := List.find?_eq_none.2 fun r hr => by simp [hn r hr]
 rw [this]; rfl
theorem find_none {S : St} {id : Int} (hn : ∀ q ∈ S.ps, ((q.2.id : Int) == id) = false) : S.find id = none := List.find?_eq_none.2 fun r hr => by simp [hn r hr]
theorem find_s : ∃ n, ∀ {σ : Type} {F : Fam σ} {Δ : ∀ s, Dom (F.R s) (F.D s)} {main : Bool} {s : σ} (K : Nat) (A : Lay) (S : St) (Fr L : Frag) (id : Int), Rep K A S Fr L →
   CallsL Δ Tryz.prog main 37 [ptr K, .int .i64 id].toArray n s L (fun s' v L' => s = s' ∧ L = L' ∧ v = optPtr ((S.find id).map (·.1))) := by
 obtain ⟨n1, g1⟩ := all_s
 apply Exists.intro
 intro σ F Δ main s K A S Fr L id hR
 obtain ⟨base, cap, hv, hat⟩ := slv_view hR.pa
 simp only [List.length_map] at hv
 co_applyP callsE 23 Tryz.func37 Tryz.ntmps37
 co_applyP c_seq
 co_applyP c_region
 co_applyP oy rfl E_as
 co_applyP o_nil
 change wpE ..
 co_applyP c_seq
 co_applyP c_seq
 co_applyP c_region
 co_applyP oy rfl E_mv
 co_applyP oc rfl rfl rfl (g1 K A S Fr L hR)
 rintro _ _ _ ⟨rfl, rfl, rfl⟩
 rw [hv]
 co_applyP oy rfl (E_len (hu := Tryz.underlying91))
 co_applyP oy rfl E_mv
 co_applyP o_nil
 change wpE ..
 co_applyP c_block
 co_applyP c_loop (fun k s' ε' L' => s' = s ∧ L' = L ∧ ∃ l1 l2, S.ps = l1 ++ l2 ∧ (∀ q ∈ l1, ((q.2.id : Int) == id) = false) ∧ k + l1.length = 8 ∧ kn ε' [(10, .int .i64 l1.length), (9, .int .i64 S.ps.length), (8, .slice base S.ps.length cap), (1, .int .i64 id), (0, ptr K)]) 8
 · exact ⟨rfl, rfl, [], S.ps, rfl, by simp, rfl, rfl⟩
 rintro k s' ε' L' ⟨rfl, rfl, l1, l2, hl, hn, hk, he⟩
 co_applyP wpE_kn he
 have hlen := congrArg List.length hl
 simp only [List.length_append] at hlen
 have h8 := hR.p8
 co_applyP c_seq
 co_applyP c_region
 co_applyP oy rfl E_lss
 co_applyP o_nil
 change wpE ..
 co_applyP c_seq
 co_applyP c_if rfl
 intro hc
 · cases l2 with
   | nil => simp at hc hlen; omega
   | cons q l2 =>
     obtain ⟨b, hb, hbs, hbv⟩ := hat l1.length (ptr q.1) (by rw [hl]; simp)
     subst hbs
     have hq := hR.pat (b := q.1) (x := q.2) (by rw [hl]; simp) (i := 0) rfl
     simp at hlen
     co_applyP c_skip
     change wpE ..
     co_applyP c_seq
     co_applyP c_block
     co_applyP c_seq
     co_applyP c_region
     co_applyP oy rfl (E_ixs Tryz.underlying91 sz_93)
     co_applyP oy rfl (E_ld (ht := ag_93))
     co_applyP oy rfl E_as
     co_applyP o_nil
     change wpE ..
     co_applyP c_seq
     co_applyP c_region
     co_applyP oy rfl E_mv
     co_applyP oy rfl E_nc
     co_applyP oy rfl (E_fa (hf := fo_99_0))
     co_applyP oy rfl (E_fa (hf := fo_49_0))
     co_applyP oy rfl (E_ld (ht := ag_3))
     co_applyP oy rfl E_mv
     co_applyP oy rfl E_eql
     co_applyP o_nil
     change wpE ..
     co_applyP c_if rfl
     intro hid
     co_applyP c_seq
     co_applyP c_region
     co_applyP oy rfl E_mv
     co_applyP oy rfl E_as
     co_applyP o_nil
     change wpE ..
     co_applyP c_ret
     change ∃ v, resE .. = some v ∧ _
     exact ⟨_, rfl, rfl, rfl, by rw [find_at hl hn hid]; rfl⟩
     intro hid
     co_applyP c_skip
     change wpE ..
     co_applyP c_region
     co_applyP oy rfl E_add
     co_applyP oy rfl E_mv
     co_applyP o_nil
     change ∃ k', k' < _ ∧ _
     refine ⟨k - 1, by omega, rfl, rfl, l1 ++ [q], l2, by simp [hl], ?_, by simp; omega, ?_⟩
     · intro r hr
       rcases List.mem_append.1 hr with h | h
       · exact hn r h
       · simp at h; rw [h]; exact hid
     · have e : IntKind.i64.wrap ((l1.length : Int) + 1) = ((l1 ++ [q]).length : Int) := by simp [IntKind.wrap_i64]; omega
       rw [← e]; rfl
 intro hc
 co_applyP c_exit
 change wpE ..
 co_applyP c_seq
 co_applyP c_region
 co_applyP oy rfl E_as
 co_applyP o_nil
 change wpE ..
 co_applyP c_ret
 change ∃ v, resE .. = some v ∧ _
 cases l2 with
 | nil => exact ⟨_, rfl, rfl, rfl, by rw [find_none (by rw [hl]; simpa using hn)]; rfl⟩
 | cons q l2 => simp at hc hlen; omega
theorem over_s : ∃ n, ∀ {σ : Type} {F : Fam σ} {Δ : ∀ s, Dom (F.R s) (F.D s)} {main : Bool} {s : σ} (K : Nat) (A : Lay) (S : St) (Fr L : Frag) (b : Nat) (x : PS), Rep K A S Fr L → S.find 1 = some (b, x) →
   CallsL Δ Tryz.prog main 62 [ptr K].toArray n s L (fun s' v L' => s = s' ∧ L = L' ∧ v = .bool ((x.st : Int) == 6)) := by
 obtain ⟨n1, g1⟩ := find_s
 apply Exists.intro
 intro σ F Δ main s K A S Fr L b x hR hf
 have hb : (b, x) ∈ S.ps := List.mem_of_find?_eq_some hf
 have h1 := hR.pat hb (i := 2) rfl
 co_applyP callsE 16 Tryz.func62 Tryz.ntmps62
 co_applyP c_seq
 co_applyP c_region
 co_applyP oy rfl E_as
 co_applyP o_nil
 change wpE ..
 co_applyP c_seq
 co_applyP c_region
 co_applyP oy rfl E_mv
 co_applyP oc rfl rfl rfl (g1 K A S Fr L 1 hR)
 rintro _ _ _ ⟨rfl, rfl, rfl⟩
 rw [hf]
 co_applyP oy rfl E_as
 co_applyP o_nil
 change wpE ..
 co_applyP c_seq
 co_applyP c_region
 co_applyP oy rfl E_mv
 co_applyP oy rfl (E_eqn (hu := Tryz.underlying93))
 co_applyP oy rfl E_mv
 co_applyP oy rfl (E_mv)
 co_applyP oy rfl (E_nc)
 co_applyP oy rfl ((E_fa (hf := fo_99_0)))
 co_applyP oy rfl ((E_fa (hf := fo_49_2)))
 co_applyP oy rfl ((E_ld (ht := ag_3)))
 co_applyP oy rfl (E_eql)
 co_applyP oy rfl E_pick
 co_applyP oy rfl E_as
 co_applyP o_nil
 change wpE ..
 co_applyP c_ret
 change ∃ v, resE .. = some v ∧ _
 exact ⟨_, rfl, rfl, rfl, rfl⟩
theorem kc_row (k : KS) {l : Nat} (hl : l < 3) : (kcells k)[7 + l]? = some (k.row l) := by
 rcases l with _ | _ | _ | l
 · rfl
 · rfl
 · rfl
 · omega
def St.first (S : St) : Option Nat := (S.rows 0 ++ (S.rows 1 ++ S.rows 2)).head?
theorem first_s : ∃ n, ∀ {σ : Type} {F : Fam σ} {Δ : ∀ s, Dom (F.R s) (F.D s)} {main : Bool} {s : σ} (K : Nat) (A : Lay) (S : St) (Fr L : Frag), Rep K A S Fr L →
   CallsL Δ Tryz.prog main 82 [.pointer (some ⟨K, 7, none⟩)].toArray n s L (fun s' v L' => s = s' ∧ L = L' ∧ v = optPtr S.first) := by
 apply Exists.intro
 intro σ F Δ main s K A S Fr L hR
 co_applyP callsE 19 Tryz.func82 Tryz.ntmps82
 co_applyP c_seq
 co_applyP c_region
 co_applyP oy rfl E_as
 co_applyP o_nil
 change wpE ..
 co_applyP c_seq
 co_applyP c_seq
 co_applyP c_region
 co_applyP oy rfl E_mv
 co_applyP oy rfl E_nc
 co_applyP oy rfl E_mv
 co_applyP o_nil
 change wpE ..
 co_applyP c_block
 co_applyP c_loop (fun k s' ε' L' => s' = s ∧ L' = L ∧ ∃ i : Nat, k + i = 3 ∧ (∀ j, j < i → S.rows j = []) ∧ kn ε' [(7, .int .i64 i), (5, .pointer (some ⟨K, 7, none⟩)), (0, .pointer (some ⟨K, 7, none⟩))]) 3
 · exact ⟨rfl, rfl, 0, rfl, by simp, rfl⟩
 rintro k s' ε' L' ⟨rfl, rfl, i, hk, hn, he⟩
 co_applyP wpE_kn he
 co_applyP c_seq
 co_applyP c_region
 co_applyP oy rfl E_lss
 co_applyP o_nil
 change wpE ..
 co_applyP c_seq
 co_applyP c_if rfl
 intro hc
 · have hi : i < 3 := by simp at hc; omega
   obtain ⟨base, cap, hv, hat⟩ := slv_view (hR.rw i hi)
   simp only [List.length_map] at hv
   have hrow : At L' K (7 + i) (.slice base (S.rows i).length cap) := by
     rw [← hv]; exact hR.kat (kc_row _ hi)
   co_applyP c_skip
   change wpE ..
   co_applyP c_seq
   co_applyP c_block
   co_applyP c_seq
   co_applyP c_region
   co_applyP oy rfl E_nc
   co_applyP oy rfl (E_ixa Tryz.underlying112 sz_91)
   co_applyP oy rfl (E_ld (ht := ag_91))
   co_applyP oy rfl E_as
   co_applyP o_nil
   change wpE ..
   co_applyP c_seq
   co_applyP c_region
   co_applyP oy rfl E_mv
   co_applyP oy rfl (E_len (hu := Tryz.underlying91))
   co_applyP oy rfl E_gtr
   co_applyP o_nil
   change wpE ..
   co_applyP c_if rfl
   intro hz
   cases hxs : S.rows i with
   | nil => rw [hxs] at hz; simp at hz
   | cons b bs =>
     obtain ⟨c, hc1, hc2, hc3⟩ := hat 0 (ptr b) (by rw [hxs]; rfl)
     subst hc2
     have hb0 : 0 < ((S.rows i).length : Int) := by rw [hxs]; simp
     co_applyP c_seq
     co_applyP c_region
     co_applyP oy rfl E_mv
     co_applyP oy rfl (E_ixs Tryz.underlying91 sz_93)
     co_applyP oy rfl (E_ld (ht := ag_93))
     co_applyP oy rfl E_as
     co_applyP o_nil
     change wpE ..
     co_applyP c_ret
     change ∃ v, resE .. = some v ∧ _
     refine ⟨_, rfl, rfl, rfl, ?_⟩
     have : S.first = some b := by
       unfold St.first
       rcases i with _ | _ | _ | i
       · rw [hxs]; rfl
       · rw [hn 0 (by omega), hxs]; rfl
       · rw [hn 0 (by omega), hn 1 (by omega), hxs]; rfl
       · omega
     rw [this]; rfl
   intro hz
   co_applyP c_skip
   change wpE ..
   co_applyP c_region
   co_applyP oy rfl E_add
   co_applyP oy rfl E_mv
   co_applyP o_nil
   change ∃ k', k' < _ ∧ _
   refine ⟨k - 1, by omega, rfl, rfl, i + 1, by omega, fun j hj => ?_, ?_⟩
   · rcases Nat.lt_succ_iff_lt_or_eq.1 hj with h | rfl
     · exact hn j h
     · simpa using hz
   · have e : IntKind.i64.wrap ((i : Int) + 1) = ((i + 1 : Nat) : Int) := by simp [IntKind.wrap_i64]; omega
     rw [← e]; rfl
 intro hc
 co_applyP c_exit
 change wpE ..
 co_applyP c_seq
 co_applyP c_region
 co_applyP oy rfl E_as
 co_applyP o_nil
 change wpE ..
 co_applyP c_ret
 change ∃ v, resE .. = some v ∧ _
 have h3 : 3 ≤ i := by simp at hc; omega
 refine ⟨_, rfl, rfl, rfl, ?_⟩
 have : S.first = none := by unfold St.first; rw [hn 0 (by omega), hn 1 (by omega), hn 2 (by omega)]; rfl
 rw [this]; rfl
def idx (xs : List Nat) (b : Nat) : Int := match xs.findIdx? (· == b) with
 | some i => i
 | none => -1
theorem idx_at {xs l1 l2 : List Nat} {q b : Nat} (hl : xs = l1 ++ q :: l2) (hn : ∀ c ∈ l1, c ≠ b) (hq : q = b) : idx xs b = l1.length := by
 have : xs.findIdx? (· == b) = some l1.length := by
   rw [hl, List.findIdx?_append, List.findIdx?_cons]
   have h1 : l1.findIdx? (· == b) = none := List.findIdx?_eq_none_iff.2 fun c hc => by simpa using hn c hc
   simp [h1, hq]
 unfold idx; rw [this]
theorem idx_none {xs : List Nat} {b : Nat} (hn : ∀ c ∈ xs, c ≠ b) : idx xs b = -1 := by
 have : xs.findIdx? (· == b) = none := List.findIdx?_eq_none_iff.2 fun c hc => by simpa using hn c hc
 unfold idx; rw [this]
theorem index_s : ∃ n, ∀ {σ : Type} {F : Fam σ} {Δ : ∀ s, Dom (F.R s) (F.D s)} {main : Bool} {s : σ} (L : Frag) (a : Sl) (xs : List Nat) (b : Nat), xs.length ≤ 8 → slOk a (xs.map ptr) 93 L → (∀ c ∈ xs, ∃ x, pb c x ∈ L) → (∃ x, pb b x ∈ L) →
   CallsL Δ Tryz.prog main 115 [slv a xs.length, ptr b].toArray n s L (fun s' v L' => s = s' ∧ L = L' ∧ v = .int .i64 (idx xs b)) := by
 apply Exists.intro
 intro σ F Δ main s L a xs b h8 ha hxs hb
 obtain ⟨base, cap, hv, hat⟩ := slv_view ha
 simp only [List.length_map] at hv
 rw [hv]
 obtain ⟨xb, hxb⟩ := hb
 co_applyP callsE 19 Tryz.func115 Tryz.ntmps115
 co_applyP c_seq
 co_applyP c_region
 co_applyP oy rfl E_as
 co_applyP o_nil
 change wpE ..
 co_applyP c_seq
 co_applyP c_seq
 co_applyP c_region
 co_applyP oy rfl E_mv
 co_applyP oy rfl (E_len (hu := Tryz.underlying91))
 co_applyP oy rfl E_mv
 co_applyP o_nil
 change wpE ..
 co_applyP c_block
 co_applyP c_loop (fun k s' ε' L' => s' = s ∧ L' = L ∧ ∃ l1 l2, xs = l1 ++ l2 ∧ (∀ c ∈ l1, c ≠ b) ∧ k + l1.length = 8 ∧ kn ε' [(8, .int .i64 l1.length), (7, .int .i64 xs.length), (1, ptr b), (0, .slice base xs.length cap)]) 8
 · exact ⟨rfl, rfl, [], xs, rfl, by simp, rfl, rfl⟩
 rintro k s' ε' L' ⟨rfl, rfl, l1, l2, hl, hn, hk, he⟩
 co_applyP wpE_kn he
 have hlen := congrArg List.length hl
 simp only [List.length_append] at hlen
 co_applyP c_seq
 co_applyP c_region
 co_applyP oy rfl E_lss
 co_applyP o_nil
 change wpE ..
 co_applyP c_seq
 co_applyP c_if rfl
 intro hc
 · cases l2 with
   | nil => simp at hc hlen; omega
   | cons q l2 =>
     obtain ⟨c, hc1, hc2, hc3⟩ := hat l1.length (ptr q) (by rw [hl]; simp)
     subst hc2
     simp at hlen
     obtain ⟨xq, hxq⟩ := hxs q (by rw [hl]; simp)
     co_applyP c_skip
     change wpE ..
     co_applyP c_seq
     co_applyP c_block
     co_applyP c_seq
     co_applyP c_region
     co_applyP oy rfl E_mv
     co_applyP oy rfl E_as
     co_applyP o_nil
     change wpE ..
     co_applyP c_seq
     co_applyP c_region
     co_applyP oy rfl E_mv
     co_applyP oy rfl E_mv
     co_applyP oy rfl E_mv
     co_applyP oy rfl (E_ixs Tryz.underlying91 sz_93)
     co_applyP oy rfl (E_ld (ht := ag_93))
     co_applyP oy rfl (E_eqa hxb hxq (hu := Tryz.underlying93) (hs := sz_99))
     co_applyP o_nil
     change wpE ..
     co_applyP c_if rfl
     intro hq
     co_applyP c_seq
     co_applyP c_region
     co_applyP oy rfl E_mv
     co_applyP oy rfl E_as
     co_applyP o_nil
     change wpE ..
     co_applyP c_ret
     change ∃ v, resE .. = some v ∧ _
     · refine ⟨_, rfl, rfl, rfl, ?_⟩
       have : q = b := by simp at hq; exact hq.symm
       rw [idx_at hl hn this]
     intro hq
     co_applyP c_skip
     change wpE ..
     co_applyP c_region
     co_applyP oy rfl E_add
     co_applyP oy rfl E_mv
     co_applyP o_nil
     change ∃ k', k' < _ ∧ _
     refine ⟨k - 1, by omega, rfl, rfl, l1 ++ [q], l2, by simp [hl], ?_, by simp; omega, ?_⟩
     · intro r hr
       rcases List.mem_append.1 hr with h | h
       · exact hn r h
       · simp at h hq; rw [h]; exact fun e => hq e.symm
     · have e : IntKind.i64.wrap ((l1.length : Int) + 1) = ((l1 ++ [q]).length : Int) := by simp [IntKind.wrap_i64]; omega
       rw [← e]; rfl
 intro hc
 co_applyP c_exit
 change wpE ..
 co_applyP c_seq
 co_applyP c_region
 co_applyP oy rfl E_as
 co_applyP o_nil
 change wpE ..
 co_applyP c_ret
 change ∃ v, resE .. = some v ∧ _
 cases l2 with
 | nil => exact ⟨_, rfl, rfl, rfl, by rw [idx_none (by rw [hl]; simpa using hn)]⟩
 | cons q l2 => simp at hc hlen; omega
theorem zr_93 : zeroAt Tryz.prog 93 = some (.pointer none) := by kernel_rfl
theorem del_vs {xs junk : List Value} {i : Nat} (hi : i < xs.length) : ((xs ++ junk).toArray.extract (cutAt 0 ((i : Int) + 1).toNat (xs.length + junk.length) 1) (cutAt 0 ((i : Int) + 1).toNat (xs.length + junk.length) 1 + (xs.length - ((i : Int) + 1).toNat) * 1)).toList = xs.drop (i + 1) := by
 have h1 : ((i : Int) + 1).toNat = i + 1 := by omega
 rw [h1]
 simp only [Array.toList_extract, List.extract_eq_take_drop]
 unfold cutAt
 split
 · rename_i e
   have : xs.length = i + 1 := by omega
   simp [this]
 · have e1 : 0 + (i + 1) * 1 + (xs.length - (i + 1)) * 1 - (0 + (i + 1) * 1) = xs.length - (i + 1) := by omega
   have e2 : 0 + (i + 1) * 1 = i + 1 := by omega
   rw [e1, e2, List.drop_append_of_le_length (by omega), List.take_append_of_le_length (by simp)]
   rw [List.take_of_length_le (by simp)]
theorem del_first {xs junk : List Value} {i : Nat} (hi : i < xs.length) :
   puts (xs ++ junk).toArray (0 + ((i : Int).toNat - 0) * 1) ((xs ++ junk).toArray.extract (cutAt 0 ((i : Int) + 1).toNat (xs.length + junk.length) 1) (cutAt 0 ((i : Int) + 1).toNat (xs.length + junk.length) 1 + (xs.length - ((i : Int) + 1).toNat) * 1)).toList = (xs.eraseIdx i ++ (xs.drop (xs.length - 1) ++ junk)).toArray := by
 have h2 : 0 + ((i : Int).toNat - 0) * 1 = i := by omega
 rw [h2, del_vs hi, puts_list _ _ _ (by simp; omega)]
 congr 1
 rw [List.take_append_of_le_length (by omega), List.length_drop, show i + (xs.length - (i + 1)) = xs.length - 1 by omega, List.drop_append_of_le_length (by omega), List.eraseIdx_eq_take_drop_succ]
theorem del_second {xs junk : List Value} {i : Nat} (hi : i < xs.length) : puts (xs.eraseIdx i ++ (xs.drop (xs.length - 1) ++ junk)).toArray (xs.length - 1) (List.replicate 1 (.pointer none)) = (xs.eraseIdx i ++ .pointer none :: junk).toArray := by
 have hl : (xs.eraseIdx i).length = xs.length - 1 := by rw [List.length_eraseIdx]; simp [hi]
 rw [puts_list _ _ _ (by simp [hl]; omega)]
 congr 1
 rw [List.take_append_of_le_length (by omega), List.take_of_length_le (by omega)]
 have : (xs.eraseIdx i ++ (xs.drop (xs.length - 1) ++ junk)).drop (xs.length - 1 + (List.replicate 1 (Value.pointer none)).length) = junk := by
   rw [← List.append_assoc, List.drop_append_of_le_length (by simp [hl]; omega), List.drop_of_length_le (by simp [hl]; omega)]; rfl
 rw [this]; simp
theorem delete_s : ∃ n, ∀ {σ : Type} {F : Fam σ} {Δ : ∀ s, Dom (F.R s) (F.D s)} {main : Bool} {s : σ} (L : Frag) (b : Nat) (xs junk : List Value) (i : Nat), i < xs.length → xs.length < 1000000 → xs.all plainV = true → (b, true, Obj.cells (xs ++ junk).toArray 93) ∈ L →
   CallsL Δ Tryz.prog main 116 [.slice (some ⟨b, 0, none⟩) xs.length (xs.length + junk.length), .int .i64 i, .int .i64 ((i : Int) + 1)].toArray n s L (fun s' v L' => s = s' ∧ v = .slice (some ⟨b, 0, none⟩) (xs.length - 1) (xs.length + junk.length) ∧ Upd L b (.cells (xs.eraseIdx i ++ .pointer none :: junk).toArray 93) L') := by
 apply Exists.intro
 intro σ F Δ main s L b xs junk i hi hxs hpl hb
 co_applyP callsE 33 Tryz.func116 Tryz.ntmps116
 co_applyP c_seq
 co_applyP c_region
 co_applyP oy rfl E_as
 co_applyP o_nil
 change wpE ..
 co_applyP c_seq
 co_applyP c_region
 co_applyP oy rfl E_mv
 co_applyP oy rfl E_mv
 co_applyP oy rfl E_mv
 co_applyP oy rfl E_mv
 co_applyP oy rfl (E_len (hu := Tryz.underlying91))
 co_applyP oy rfl (E_sl3 Tryz.underlying91 sz_93)
 co_applyP o_nil
 change wpE ..
 co_applyP c_seq
 co_applyP c_seq
 co_applyP c_region
 co_applyP oy rfl E_mv
 co_applyP oy rfl E_mv
 co_applyP oy rfl E_eql
 co_applyP o_nil
 change wpE ..
 have e0 : ((i : Int) == (i : Int) + 1) = false := by simp; omega
 rw [e0]
 co_applyP c_false rfl
 co_applyP c_skip
 change wpE ..
 co_applyP c_seq
 co_applyP c_region
 co_applyP oy rfl E_mv
 co_applyP oy rfl (E_len (hu := Tryz.underlying91))
 co_applyP oy rfl E_as
 co_applyP o_nil
 change wpE ..
 co_applyP c_seq
 have hsz : (xs ++ junk).toArray.size = xs.length + junk.length := by simp
 have hcut : cutAt 0 ((i : Int) + 1).toNat (xs.length + junk.length) 1 + (xs.length - ((i : Int) + 1).toNat) * 1 ≤ (xs ++ junk).toArray.size := by unfold cutAt; rw [hsz]; split <;> omega
 co_applyP c_draw [] 6 (nf := 0) mixed
 co_applyP tr (i := 0) rfl E_mv (pre_init (by simp))
 co_applyP tr (i := 1) rfl E_mv (pre_init (by simp))
 co_applyP tr (i := 2) rfl (E_slh Tryz.underlying91 sz_93) (pre_init (by simp))
 co_applyP tr (i := 3) rfl E_mv (pre_init (by simp))
 co_applyP tr (i := 4) rfl E_mv (pre_init (by simp))
 co_applyP tr (i := 5) rfl (E_sll Tryz.underlying91 sz_93) (pre_init (by simp))
 co_applyP anyE_nd
 intro hnd
 co_applyP te (i := 6) rfl (O_api (hnd := hnd) (hu := Tryz.underlying91) (hv := Tryz.underlying91) (hs := sz_93) (hr := reads_m hb hcut) (hc := by omega) (hm := hb) (ho := by simp; unfold cutAt; split <;> split <;> omega) (hp := by rw [del_vs hi]; rw [List.all_eq_true] at hpl ⊢; exact fun v hv => hpl v (List.mem_of_mem_drop hv)))
 rintro _ _ ⟨rfl, hU⟩
 refine ⟨pre_late (by simp), ?_⟩
 co_applyP to (i := 7) rfl (E_as) (pre_late (by simp))
 have ec : cutAt 0 0 (xs.length + junk.length) 1 = 0 := by unfold cutAt; split <;> omega
 have el : (i : Int).toNat - 0 + (xs.length - ((i : Int) + 1).toNat) = xs.length - 1 := by omega
 have ek : xs.length + junk.length - 0 = xs.length + junk.length := rfl
 rw [ec, del_first hi] at hU
 rw [ec, el, ek]
 co_applyP td (by kernel_rfl)
 change wpE ..
 co_applyP c_seq
 co_applyP c_region
 co_applyP oy rfl E_mv
 co_applyP oy rfl E_mv
 co_applyP oy rfl (E_len (hu := Tryz.underlying91))
 co_applyP oy rfl E_mv
 co_applyP oy rfl (E_sllh Tryz.underlying91 sz_93)
 co_applyP opsE_nd
 intro hnd'
 co_applyP oe rfl (O_clr (hnd := hnd') (hu := Tryz.underlying91) (hz0 := zr_93) (hzp := rfl) (hm := hU.self) (ho := by have hl : (xs.eraseIdx i).length = xs.length - 1 := (by rw [List.length_eraseIdx]; simp [hi]); simp [hl]; unfold cutAt; split <;> omega))
 rintro _ _ ⟨rfl, hU'⟩
 co_applyP o_nil
 change wpE ..
 co_applyP c_seq
 co_applyP c_region
 co_applyP oy rfl E_mv
 co_applyP oy rfl E_as
 co_applyP o_nil
 change wpE ..
 co_applyP c_ret
 change ∃ v, resE .. = some v ∧ _
 have e3 : cutAt 0 (((xs.length - 1 : Nat) : Int)).toNat (xs.length + junk.length) 1 = xs.length - 1 := by unfold cutAt; split <;> omega
 have e4 : (xs.length : Int).toNat - ((xs.length - 1 : Nat) : Int).toNat = 1 := by omega
 rw [e3, e4, del_second hi] at hU'
 exact ⟨_, rfl, rfl, rfl, hU'.self, fun t ht hne => hU'.ne t (hU.ne t ht hne) hne, hU'.fn⟩
theorem byt_93 : bytesAt Tryz.prog 93 = some 8 := by kernel_rfl
theorem slv_plain (a : Sl) (n : Nat) : plainV (slv a n) = true := by unfold slv; split <;> rfl
theorem zeroCells1 {z : Value} (h : plainV z = true) (n : Nat) : Builtin.zeroCells z.cells n = (List.replicate n z).toArray := by
 rw [cells_plain h]
 unfold Builtin.zeroCells
 apply Array.ext'
 apply List.ext_getElem
 · simp
 · intro i h1 h2; simp [Nat.mod_one]
structure Ap1 (L : Frag) (a : Sl) (xs : List Nat) (c : Nat) (a' : Sl) (L' : Frag) : Prop where
 ok : slOk a' ((xs ++ [c]).map ptr) 93 L'
 fn : Fun L'
 sub : ∀ t ∈ L, a.b ≠ some t.1 → t ∈ L'
 d : ∀ b, a'.b = some b → a.b = some b ∨ ∀ t ∈ L, t.1 ≠ b
section
variable {New : Obj → Prop} {N : Nat} {ε : Env} {L : Frag} {d : Option Tmp} {ty : TypeId} {ps : String} {af : Array Edge} {g : Option (Nat × Bool)} {x y : Operand}
theorem O_ap1 {a : Sl} {xs : List Nat} {c nb : Nat} (hx : ev ε x = some (slv a xs.length) := by rfl) (hy : ev ε y = some (.slice (some ⟨nb, 0, none⟩) 1 1) := by rfl) (hnd : (L.map (·.1)).Nodup) (hN : ∀ cs, New (.cells cs 93)) (ha : slOk a (xs.map ptr) 93 L) (h8 : xs.length ≤ 1000) (hnb : (nb, true, .cells #[ptr c] 93) ∈ L) :
   EO Tryz.prog New N ε L ⟨d, .call ⟨.builtin .append, #[x, y], #[91, 91]⟩, ty, ps, af, g⟩ (fun r L' => ∃ a', r = slv a' (xs.length + 1) ∧ Ap1 L a xs c a' L') := by
 have hr : Reads Tryz.prog L 1 1 (.slice (some ⟨nb, 0, none⟩) 1 1) #[ptr c] := by
   have := reads_m (P := Tryz.prog) (sz := 1) (n := 1) (len := 1) (cap := 1) (o := 0) hnb (by simp)
   simpa using this
 have grow : ∀ (ws : Array Value) (cap0 : Nat), Reads Tryz.prog L 1 xs.length (slv a xs.length) ws → ws = (xs.map ptr).toArray → (∃ base, slv a xs.length = .slice base xs.length cap0) → cap0 < xs.length + 1 →
     EO Tryz.prog New N ε L ⟨d, .call ⟨.builtin .append, #[x, y], #[91, 91]⟩, ty, ps, af, g⟩ (fun r L' => ∃ a', r = slv a' (xs.length + 1) ∧ Ap1 L a xs c a' L') := by
   rintro ws cap0 hws rfl ⟨base, hb⟩ hc
   rw [hb] at hws hx
   intro ac hac
   refine wpS_mono ?_ _ _ (O_apn (by_ := 7) (New := New) hx hy (fun_of_nd hnd) Tryz.underlying91 Tryz.underlying91 sz_93 byt_93 zr_93 hws hr hc (by omega) hN ac hac)
   intro r L' q
   cases r <;> try exact q.elim
   · obtain ⟨b, cap, h1, h2, rfl, hA⟩ := q
     rw [zeroCells1 rfl] at hA
     refine ⟨⟨some b, List.replicate (cap - (xs.length + 1)) (.pointer none)⟩, ?_, ?_, hA.fn, fun t ht _ => hA.sub t ht, fun b' hb' => .inr ?_⟩
     · unfold slv; simp; omega
     · have e5 : (xs.map ptr).toArray ++ #[ptr c] ++ (List.replicate (cap - (xs.length + 1)) (Value.pointer none)).toArray = ((xs ++ [c]).map ptr ++ List.replicate (cap - (xs.length + 1)) (Value.pointer none)).toArray := by
         apply Array.ext'; simp
       rw [e5] at hA
       exact hA.self
     · obtain rfl : b = b' := by simpa using hb'
       exact hA.new
   · obtain ⟨b, cap, _, _, e, _⟩ := q; cases e
 cases hab : a.b with
 | none =>
   have h2 := ha
   unfold slOk at h2
   rw [hab] at h2
   obtain ⟨e1, e2⟩ := h2
   obtain rfl : xs = [] := by simpa using e1
   have e3 : slv a 0 = .slice none 0 0 := by unfold slv; rw [hab]
   exact grow #[] 0 (by rw [List.length_nil, e3]; exact reads_none) rfl ⟨none, e3⟩ (by simp)
 | some b =>
   have hm := ha.mem hab
   have e3 : slv a xs.length = .slice (some ⟨b, 0, none⟩) xs.length (xs.length + a.junk.length) := by unfold slv; rw [hab]
   cases hj : a.junk with
   | nil =>
     rw [hj] at e3 hm
     refine grow _ xs.length ?_ rfl ⟨_, e3⟩ (by omega)
     rw [e3]
     have := reads_m (P := Tryz.prog) (sz := 1) (n := xs.length) (len := xs.length) (cap := xs.length + ([] : List Value).length) (o := 0) hm (by simp)
     have e7 : (xs.map ptr).take xs.length = xs.map ptr := List.take_of_length_le (by simp)
     simpa [e7] using this
   | cons u junk =>
     rw [hj] at e3 hm
     intro ac hac
     rw [e3] at hx
     refine wpS_mono ?_ _ _ (O_api (New := New) hx hy hnd Tryz.underlying91 Tryz.underlying91 sz_93 hr (by simp) hm (by simp) (by simp [plainV]) ac hac)
     intro r L' q
     cases r <;> try exact q.elim
     · obtain ⟨rfl, hU⟩ := q
       have e4 : puts (xs.map ptr ++ u :: junk).toArray (0 + xs.length * 1) #[ptr c].toList = ((xs ++ [c]).map ptr ++ junk).toArray := by
         rw [puts_list _ _ _ (by simp)]
         have e6 : (xs.map ptr ++ u :: junk).drop (xs.length + 1) = junk := by
           rw [List.drop_append]; simp
         simp [e6]
       rw [e4] at hU
       refine ⟨⟨some b, junk⟩, ?_, hU.self, hU.fn, fun t ht hne => hU.ne t ht fun e => hne (by rw [hab, e]), fun b' hb' => .inl (by rw [hab]; exact hb')⟩
       unfold slv; simp; omega
     · exact absurd q.1 (by simp [undef])
end
theorem Rep.row_ne {K : Nat} {A : Lay} {S : St} {Fr L : Frag} (h : Rep K A S Fr L) {l : Nat} (hl : l < 3) {t : Nat × Bool × Obj} (ht : t ∈ L) (ho : ∀ c, t.2.2 ≠ .cells c 93) : (A.a (l + 1)).b ≠ some t.1 := fun e =>
 ho _ (h.fn _ _ _ _ _ ht ((h.rw l hl).mem e)).2
theorem cells_ne' {c : Array Value} {t : TypeId} (h : t ≠ 93) : ∀ c', Obj.cells c t ≠ .cells c' 93 := fun _ => cells_ne h
theorem kset_row (k : KS) {l : Nat} (hl : l < 3) (v : Value) : (kcells k).setIfInBounds (7 + l) v = kcells { k with row := put k.row l v } := by
 rcases l with _ | _ | _ | l
 · rfl
 · rfl
 · rfl
 · omega
theorem kst_row (A : Lay) (S : St) (l : Nat) (a' : Sl) (xs : List Nat) (h0 : l + 1 ≠ 0) : kst (A.setA (l + 1) a') (S.setRow l xs) = { kst A S with row := put (kst A S).row l (slv a' xs.length) } := by
 unfold kst Lay.setA St.setRow
 simp only [KS.mk.injEq, true_and]
 refine ⟨by simp [put], ?_, ?_⟩
 · funext l'
   unfold put
   by_cases e : l' = l
   · subst e; simp
   · simp [e]
 · simp
end Go.Proofs.YtejkelcaljmnoaaGreatDoor
