/- What the document's pick comes to, as numbers: beside a plan's. -/
import Derived.Test.YtgdkgoiagjjccaaSRefR
namespace Go.Proofs.Ytgdkgoiagjjccaa

theorem map_set {α : Type} (n : Nat) (f : Nat → α) (i : Nat) (v : α) : ((List.range n).map f).set i v = (List.range n).map (upd f i v) := by
  apply List.ext_getElem
  · simp
  · intro j h1 h2
    simp only [List.getElem_set, List.getElem_map, List.getElem_range, upd]
    by_cases e : i = j
    · subst e; simp
    · have e2 : ¬ j = i := fun h => e h.symm
      simp [e, e2]
theorem map_eq {α : Type} {n : Nat} {f g : Nat → α} (h : ∀ i, i < n → f i = g i) : (List.range n).map f = (List.range n).map g :=
  List.map_congr_left fun x hx => h x (List.mem_range.1 hx)
theorem Inv.all_of_left {ls : List (List Int)} {s : PS} (h : Inv ls s) (h0 : s.left = 0) : ∀ i, i < s.n → s.kd i = 3 := by
  intro i hi
  have h1 := h.left
  have h2 : (List.range s.n).filter (fun i => !decide (s.kd i = 3)) = [] := List.eq_nil_of_length_eq_zero (by omega)
  have := (List.filter_eq_nil_iff.1 h2) i (List.mem_range.2 hi)
  simpa using this
theorem rdyTo_nil {s : PS} (h : ∀ j, j < s.n → s.rdy j = false) : rdyTo s s.n = [] := by
  unfold rdyTo
  rw [List.filter_eq_nil_iff.2 (by intro x hx; simp [h x (List.mem_range.1 hx)])]
  rfl
theorem rdyTo_cons {s : PS} {i : Nat} (hi : i < s.n) (hr : s.rdy i = true) (hno : ∀ j, j < i → s.rdy j = false) : ∃ t, rdyTo s s.n = (i : Int) :: t := by
  have h1 : ∀ m, i < m → ∃ t, rdyTo s m = (i : Int) :: t := by
    intro m
    induction m with
    | zero => intro h; omega
    | succ m ih =>
      intro hm
      rw [rdyTo_succ]
      rcases Nat.lt_succ_iff_lt_or_eq.1 hm with h2 | h2
      · obtain ⟨t, ht⟩ := ih h2
        exact ⟨t ++ _, by rw [ht]; rfl⟩
      · subst h2
        have h3 : rdyTo s i = [] := by
          unfold rdyTo
          rw [List.filter_eq_nil_iff.2 (by intro x hx; simp [hno x (List.mem_range.1 hx)])]
          rfl
        exact ⟨[], by rw [h3, hr]; rfl⟩
  exact h1 s.n hi
/-- Who is helped: seen from the end. -/
def whoS (s : PS) (w : Int) : Nat → Int
  | 0 => w
  | t + 1 => if s.wk (s.n - 1 - t) = -1 then whoS s w t else s.wk (s.n - 1 - t)
theorem whoS_at {s : PS} {w : Int} {i : Nat} (hi : i < s.n) (hk : s.wk i ≠ -1) (hno : ∀ j, j < i → s.wk j = -1) : whoS s w s.n = s.wk i := by
  have h1 : ∀ t, s.n - i ≤ t → t ≤ s.n → whoS s w t = s.wk i := by
    intro t
    induction t with
    | zero => intro h; omega
    | succ t ih =>
      intro h1 h2
      unfold whoS
      by_cases e : s.n - 1 - t = i
      · rw [e, if_neg hk]
      · rw [if_pos (hno _ (by omega))]
        exact ih (by omega) (by omega)
  exact h1 s.n (by omega) (Nat.le_refl _)
/-- What a pick comes to. -/
inductive Way (ls : List (List Int)) (s : PS) (k : Nat) : PS × PS.Out → Prop where
  | ended (h0 : s.left = 0) : Way ls s k (s, .ended)
  | has (i : Nat) (hl : s.left ≠ 0) (hi : i < s.n) (hw : s.ws k = (i : Int)) (hk : s.wk i = (k : Int)) (h12 : s.kd i = 1 ∨ s.kd i = 2) : Way ls s k (s.act i)
  | took (i : Nat) (t : List Int) (hl : s.left ≠ 0) (hi : i < s.n) (hw : s.ws k = -1) (hr : rdyTo s s.n = (i : Int) :: t) (hk : s.kd i = 0) (hwk : s.wk i = -1) : Way ls s k ((s.took i k).act i)
  | help (i v : Nat) (hl : s.left ≠ 0) (hi : i < s.n) (hw : s.ws k = -1) (hr : rdyTo s s.n = []) (hwho : whoS s (k : Int) s.n = (v : Int)) (hv : v < s.m) (hws : s.ws v = (i : Int)) (hk : s.wk i = (v : Int)) (h12 : s.kd i = 1 ∨ s.kd i = 2) : Way ls s k (s.act i)
theorem way {ls : List (List Int)} {s : PS} (h : Inv ls s) (k : Nat) (hk : k < s.m) : Way ls s k (s.pick k) := by
  have old : ∀ i, i < s.n → s.wk i ≠ -1 → s.left ≠ 0 ∧ (s.kd i = 1 ∨ s.kd i = 2) := by
    intro i hi hw
    have h1 := h.kd i hi
    have h2 := h.has i hi
    have h3 : s.kd i ≠ 3 := fun e => hw (h2.2 (.inr e))
    have h4 : s.kd i ≠ 0 := fun e => hw (h2.2 (.inl e))
    exact ⟨fun e => h3 (h.all_of_left e i hi), by omega⟩
  unfold PS.pick
  rw [if_neg (by omega), Int.toNat_natCast]
  by_cases h1 : s.ws k ≠ -1
  · rw [if_pos h1]
    obtain ⟨a, b, c⟩ := h.ws k hk h1
    obtain ⟨i, hi⟩ : ∃ i : Nat, s.ws k = (i : Int) := ⟨(s.ws k).toNat, by omega⟩
    rw [hi, Int.toNat_natCast] at c ⊢
    obtain ⟨o1, o2⟩ := old i (by omega) (by omega)
    exact .has i o1 (by omega) hi c o2
  rw [if_neg h1]
  have h1' : s.ws k = -1 := by omega
  rcases idx_cases s.n s.rdy with ⟨i, hi, he, hr, hno⟩ | ⟨he, hnr⟩
  · rw [he, if_pos (by omega), Int.toNat_natCast]
    obtain ⟨h0, _⟩ := (h.ready hi).1 hr
    obtain ⟨t, ht⟩ := rdyTo_cons hi hr hno
    exact .took i t (fun e => by have := h.all_of_left e i hi; omega) hi h1' ht h0 ((h.has i hi).2 (.inl h0))
  · rw [if_neg (by omega)]
    rcases idx_cases s.n s.had with ⟨i, hi, he2, hr, hno⟩ | ⟨he2, hnh⟩
    · rw [he2, if_pos (by omega), Int.toNat_natCast]
      have hw : s.wk i ≠ -1 := by simpa [PS.had] using hr
      obtain ⟨o1, o2⟩ := old i hi hw
      obtain ⟨a, b, c⟩ := h.wk i hi hw
      have hv : s.wk i = ((s.wk i).toNat : Int) := by omega
      refine .help i (s.wk i).toNat o1 hi h1' (rdyTo_nil hnr) ?_ (by omega) c hv o2
      rw [← hv]
      exact whoS_at hi hw fun j hj => by simpa [PS.had] using hno j hj
    · rw [if_neg (by omega)]
      refine .ended (h.left_end fun i hi => ?_)
      apply Classical.byContradiction
      intro hc
      obtain ⟨j, hj, hjr⟩ := h.some hi hc hnh
      rw [hnr j hj] at hjr; cases hjr
theorem act1_enL {s : PS} {i : Nat} (h : s.kd i = 1) : enL (s.step i) = enL s := by
  unfold PS.step
  rw [if_neg (by omega), h]
  refine map_eq (n := s.n) fun j _ => ?_
  show decide (upd s.kd i (1 + 1) j = 3) = _
  by_cases e : j = i
  · subst e; rw [upd_same, h]; decide
  · rw [upd_other _ _ e]
theorem act1_haL {s : PS} {i : Nat} (h : s.kd i = 1) : haL (s.step i) = haL s := by
  unfold PS.step
  rw [if_neg (by omega)]
  rfl
theorem act1_raL {ls : List (List Int)} {s : PS} (hI : Inv ls s) {i v : Nat} (h : s.kd i = 1) (hw : s.ws v = (i : Int)) (hk : s.wk i = (v : Int)) : raL (s.step i) = (raL s).set v true := by
  unfold raL
  rw [map_set]
  unfold PS.step
  rw [if_neg (by omega), h]
  refine map_eq (n := s.m) fun j hj => ?_
  show (!decide (s.ws j = -1) && decide (upd s.kd i (1 + 1) (s.ws j).toNat = 2)) = upd (ranB s) v true j
  by_cases e : j = v
  · subst e; rw [upd_same, hw, Int.toNat_natCast, upd_same]; simp
  · rw [upd_other _ _ e]
    unfold ranB
    by_cases h1 : s.ws j = -1
    · simp [h1]
    · obtain ⟨a, b, c⟩ := hI.ws j hj h1
      rw [upd_other _ _ (fun e2 => by rw [e2] at c; omega)]
theorem act2_enL {s : PS} {i : Nat} (h : s.kd i = 2) : enL (s.step i) = (enL s).set i true := by
  unfold enL
  rw [map_set]
  unfold PS.step
  rw [if_pos (by omega), h]
  refine map_eq (n := s.n) fun j _ => ?_
  show decide (upd s.kd i (2 + 1) j = 3) = upd (fun i => decide (s.kd i = 3)) i true j
  by_cases e : j = i
  · subst e; rw [upd_same, upd_same]; decide
  · rw [upd_other _ _ e, upd_other _ _ e]
theorem act2_haL {s : PS} {i v : Nat} (h : s.kd i = 2) (hk : s.wk i = (v : Int)) : haL (s.step i) = (haL s).set v (-1) := by
  unfold haL
  rw [map_set]
  unfold PS.step
  rw [if_pos (by omega), hk, Int.toNat_natCast]
theorem act2_raL {ls : List (List Int)} {s : PS} (hI : Inv ls s) {i v : Nat} (h : s.kd i = 2) (hk : s.wk i = (v : Int)) : raL (s.step i) = (raL s).set v false := by
  unfold raL
  rw [map_set]
  unfold PS.step
  rw [if_pos (by omega), h, hk, Int.toNat_natCast]
  refine map_eq (n := s.m) fun j hj => ?_
  show (!decide (upd s.ws v (-1) j = -1) && decide (upd s.kd i (2 + 1) (upd s.ws v (-1) j).toNat = 2)) = upd (ranB s) v false j
  by_cases e : j = v
  · subst e; rw [upd_same, upd_same]; simp
  · rw [upd_other _ _ e, upd_other _ _ e]
    unfold ranB
    by_cases h1 : s.ws j = -1
    · simp [h1]
    · obtain ⟨a, b, c⟩ := hI.ws j hj h1
      rw [upd_other _ _ (fun e2 => by rw [e2] at c; omega)]
theorem took_enL {s : PS} {i k : Nat} (h : s.kd i = 0) : enL ((s.took i k).step i) = enL s := by
  unfold PS.step
  rw [if_neg (by show ¬ s.kd i + 1 = 3; omega)]
  refine map_eq (n := s.n) fun j _ => ?_
  show decide (upd s.kd i (s.kd i + 1) j = 3) = _
  by_cases e : j = i
  · subst e; rw [upd_same, h]; decide
  · rw [upd_other _ _ e]
theorem took_haL {s : PS} {i k : Nat} (h : s.kd i = 0) : haL ((s.took i k).step i) = (haL s).set k i := by
  unfold haL
  rw [map_set]
  unfold PS.step
  rw [if_neg (by show ¬ s.kd i + 1 = 3; omega)]
  rfl
theorem took_raL {ls : List (List Int)} {s : PS} (hI : Inv ls s) {i k : Nat} (h : s.kd i = 0) (hwk : s.wk i = -1) : raL ((s.took i k).step i) = (raL s).set k false := by
  unfold raL
  rw [map_set]
  unfold PS.step
  rw [if_neg (by show ¬ s.kd i + 1 = 3; omega)]
  refine map_eq (n := s.m) fun j hj => ?_
  show (!decide (upd s.ws k (i : Int) j = -1) && decide (upd s.kd i (s.kd i + 1) (upd s.ws k (i : Int) j).toNat = 2)) = upd (ranB s) k false j
  by_cases e : j = k
  · subst e; rw [upd_same, upd_same, Int.toNat_natCast, upd_same, h]; simp
  · rw [upd_other _ _ e, upd_other _ _ e]
    unfold ranB
    by_cases h1 : s.ws j = -1
    · simp [h1]
    · obtain ⟨a, b, c⟩ := hI.ws j hj h1
      rw [upd_other _ _ (fun e2 => by rw [e2] at c; omega)]
end Go.Proofs.Ytgdkgoiagjjccaa
