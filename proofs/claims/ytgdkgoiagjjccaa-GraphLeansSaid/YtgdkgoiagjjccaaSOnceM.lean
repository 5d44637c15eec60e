/- Whoever is picked, a task goes a step on. -/
import Derived.Test.YtgdkgoiagjjccaaSEv
namespace Go.Proofs.Ytgdkgoiagjjccaa

theorem step_kd (s : PS) (i : Nat) : (s.step i).kd = upd s.kd i (s.kd i + 1) := by
  unfold PS.step
  split <;> rfl
theorem Inv.pick_ev {ls : List (List Int)} {s : PS} (h : Inv ls s) (w : Nat) (hw : w < s.m) (hx : ∃ i, i < s.n ∧ s.kd i ≠ 3) :
    ∃ i v, i < s.n ∧ (s.pick w).2 = .ev (s.kd i + 1) i v ∧ (s.pick w).1.kd = upd s.kd i (s.kd i + 1) ∧ 0 ≤ s.kd i ∧ s.kd i ≤ 2 ∧ (s.kd i = 0 → ∀ j ∈ ls.getD i [], s.kd j.toNat = 3) ∧ (s.pick w).1.picks = s.picks + 1 := by
  have old : ∀ i, i < s.n → s.wk i ≠ -1 → s.pick w = s.act i → ∃ i v, i < s.n ∧ (s.pick w).2 = .ev (s.kd i + 1) i v ∧ (s.pick w).1.kd = upd s.kd i (s.kd i + 1) ∧ 0 ≤ s.kd i ∧ s.kd i ≤ 2 ∧ (s.kd i = 0 → ∀ j ∈ ls.getD i [], s.kd j.toNat = 3) ∧ (s.pick w).1.picks = s.picks + 1 := by
    intro i hi hk he
    have h1 := h.kd i hi
    have h2 := h.has i hi
    refine ⟨i, s.wk i, hi, by rw [he]; rfl, by rw [he]; exact step_kd s i, h1.1, ?_, fun h0 => absurd (h2.2 (.inl h0)) hk, by rw [he]; exact (step_picks s i).1⟩
    have : s.kd i ≠ 3 := fun e => hk (h2.2 (.inr e))
    omega
  have e0 : s.pick w = if s.ws w ≠ -1 then s.act (s.ws w).toNat
      else if idx s.n s.rdy ≠ -1 then (s.took (idx s.n s.rdy).toNat w).act (idx s.n s.rdy).toNat
      else if idx s.n s.had ≠ -1 then s.act (idx s.n s.had).toNat else (s, .ended) := by
    unfold PS.pick
    rw [if_neg (by omega), Int.toNat_natCast]
  by_cases h1 : s.ws w ≠ -1
  · obtain ⟨a, b, c⟩ := h.ws w hw h1
    rw [if_pos h1] at e0
    exact old _ (by omega) (by omega) e0
  rw [if_neg h1] at e0
  rcases idx_cases s.n s.rdy with ⟨i, hi, he, hr, _⟩ | ⟨he, hnr⟩
  · rw [if_pos (by omega), he, Int.toNat_natCast] at e0
    obtain ⟨hk0, hall⟩ := (h.ready hi).1 hr
    have e1 : (s.took i w).kd i = s.kd i := rfl
    refine ⟨i, w, hi, ?_, ?_, by omega, by omega, fun _ => hall, ?_⟩
    · rw [e0]
      show PS.Out.ev ((s.took i w).kd i + 1) i ((s.took i w).wk i) = _
      rw [e1, show (s.took i w).wk i = (w : Int) from upd_same _ _ _]
    · rw [e0]; exact step_kd (s.took i w) i
    · rw [e0]; exact (step_picks (s.took i w) i).1
  · rw [if_neg (by omega)] at e0
    rcases idx_cases s.n s.had with ⟨i, hi, he2, hr, _⟩ | ⟨he2, hnh⟩
    · rw [if_pos (by omega), he2, Int.toNat_natCast] at e0
      exact old i hi (by simpa [PS.had] using hr) e0
    · obtain ⟨i, hi, hk⟩ := hx
      obtain ⟨j, hj, hjr⟩ := h.some hi hk hnh
      rw [hnr j hj] at hjr; cases hjr
theorem Inv.pick_end {ls : List (List Int)} {s : PS} (h : Inv ls s) (w : Nat) (hw : w < s.m) (hx : ∀ i, i < s.n → s.kd i = 3) : s.pick w = (s, .ended) := by
  unfold PS.pick
  rw [if_neg (by omega), Int.toNat_natCast]
  have hk : ∀ i, i < s.n → s.wk i = -1 := fun i hi => (h.has i hi).2 (.inr (hx i hi))
  have h1 : s.ws w = -1 := by
    apply Classical.byContradiction
    intro hc
    obtain ⟨a, b, c⟩ := h.ws w hw hc
    have := hk (s.ws w).toNat (by omega)
    omega
  rw [if_neg (by omega), idx_miss (fun j hj => by simp [PS.rdy, hx j hj]), if_neg (by decide), idx_miss (fun j hj => by simp [PS.had, hk j hj]), if_neg (by decide)]
theorem Inv.left_end {ls : List (List Int)} {s : PS} (h : Inv ls s) (hx : ∀ i, i < s.n → s.kd i = 3) : s.left = 0 := by
  rw [h.left, List.filter_eq_nil_iff.2 (by
    intro x hx'
    simp [hx x (List.mem_range.1 hx')])]
  rfl
/-- How many steps were done of all tasks. -/
def sumK : Nat → (Nat → Int) → Int
  | 0, _ => 0
  | n + 1, f => sumK n f + f n
theorem sumK_upd (n : Nat) (f : Nat → Int) (i : Nat) (v : Int) (hi : i < n) : sumK n (upd f i v) = sumK n f + (v - f i) := by
  induction n with
  | zero => omega
  | succ n ih =>
    by_cases e : i = n
    · subst e
      have hs : ∀ m, m ≤ i → sumK m (upd f i v) = sumK m f := by
        intro m
        induction m with
        | zero => intro _; rfl
        | succ m ih2 => intro hm; show sumK m _ + upd f i v m = _; rw [ih2 (by omega), upd_other _ _ (by omega)]; rfl
      show sumK i _ + upd f i v i = sumK i f + f i + _
      rw [hs i (Nat.le_refl _), upd_same]; omega
    · show sumK n _ + upd f i v n = sumK n f + f n + _
      rw [ih (by omega), upd_other _ _ (by omega)]; omega
theorem sumK_le (n : Nat) (f : Nat → Int) (h : ∀ i, i < n → f i ≤ 3) : sumK n f ≤ 3 * n := by
  induction n with
  | zero => simp [sumK]
  | succ n ih =>
    have h1 := ih fun i hi => h i (by omega)
    have h2 := h n (by omega)
    show sumK n f + f n ≤ _
    omega
theorem sumK_full (n : Nat) (f : Nat → Int) (h : ∀ i, i < n → f i ≤ 3) (hs : sumK n f = 3 * n) : ∀ i, i < n → f i = 3 := by
  induction n with
  | zero => intro i hi; omega
  | succ n ih =>
    have h1 := sumK_le n f fun i hi => h i (by omega)
    have h2 := h n (by omega)
    change sumK n f + f n = _ at hs
    intro i hi
    rcases Nat.lt_succ_iff_lt_or_eq.1 hi with h3 | h3
    · exact ih (fun i hi => h i (by omega)) (by omega) i h3
    · subst h3; omega
theorem sumK_less (n : Nat) (f : Nat → Int) (hs : sumK n f < 3 * n) : ∃ i, i < n ∧ f i ≠ 3 := by
  apply Classical.byContradiction
  intro hc
  have h3 : ∀ i, i < n → f i = 3 := fun i hi => Classical.byContradiction fun hne => hc ⟨i, hi, hne⟩
  have : ∀ m, m ≤ n → sumK m f = 3 * m := by
    intro m
    induction m with
    | zero => intro _; rfl
    | succ m ih => intro hm; show sumK m f + f m = _; rw [ih (by omega), h3 m (by omega)]; omega
  have := this n (Nat.le_refl _)
  omega
theorem sumK_new (idl : Nat → Bool) (ls : List (List Int)) (n m : Nat) : sumK n (nS idl ls n m n n 0).kd = 3 * n - 3 * leftN idl n := by
  have : ∀ k, k ≤ n → sumK k (nS idl ls n m n n 0).kd = 3 * k - 3 * leftN idl k := by
    intro k
    induction k with
    | zero => intro _; rfl
    | succ k ih =>
      intro hk
      show sumK k _ + (if k < n ∧ idl k = true then (3 : Int) else 0) = _
      rw [ih (by omega), leftN_succ]
      cases h : idl k
      · simp; omega
      · rw [if_pos ⟨by omega, rfl⟩, if_pos rfl]; omega
  exact this n (Nat.le_refl _)
end Go.Proofs.Ytgdkgoiagjjccaa
