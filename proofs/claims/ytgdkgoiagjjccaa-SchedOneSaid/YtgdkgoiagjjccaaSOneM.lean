/- One worker takes the tasks in their order. -/
import Derived.Test.YtgdkgoiagjjccaaSEv
namespace Go.Proofs.Ytgdkgoiagjjccaa

/-- Tasks ahead of i have ended, k steps of task i are done, none of those behind it. -/
structure One (ls : List (List Int)) (i : Nat) (k : Int) (s : PS) : Prop where
  inv : Inv ls s
  m : s.m = 1
  before : ∀ j, j < i → s.kd j = 3
  here : i < s.n → s.kd i = k
  behind : ∀ j, i < j → j < s.n → s.kd j = 0
  none : k = 0 → s.ws 0 = -1
  has : k ≠ 0 → s.ws 0 = (i : Int) ∧ s.wk i = 0
  picks : s.picks = 3 * i + k
theorem One.start (ls : List (List Int)) (idl : Nat → Bool) (n : Nat) (hi : ∀ i, idl i = false) (hg : GoodL ls) (hl : ls.length = n) : One ls 0 0 (nS idl ls n 1 n n 0) := by
  refine ⟨nS_inv idl ls n 1 hg hl (by decide), rfl, fun j hj => absurd hj (by omega), fun _ => ?_, fun j _ _ => ?_, fun _ => rfl, fun h => absurd rfl h, rfl⟩
  · show (if 0 < n ∧ idl 0 = true then (3 : Int) else 0) = 0
    rw [hi, if_neg (by simp)]
  · show (if j < n ∧ idl j = true then (3 : Int) else 0) = 0
    rw [hi, if_neg (by simp)]
theorem One.next {ls : List (List Int)} {i : Nat} {k : Int} {s : PS} (h : One ls i k s) (hi : i < s.n) (hk : 0 ≤ k ∧ k < 3) :
    (s.pick 0).2 = .ev (k + 1) i 0 ∧ (k < 2 → One ls i (k + 1) (s.pick 0).1) ∧ (k = 2 → One ls (i + 1) 0 (s.pick 0).1) := by
  have hI := h.inv.pick 0
  have hP := pick_picks s 0
  have h0 := h.here hi
  by_cases hz : k = 0
  · subst hz
    have hw := h.none rfl
    have hr : s.rdy i = true := (h.inv.ready hi).2 ⟨h0, fun j hj => by
      have := h.inv.good.mem hj
      exact h.before _ (by omega)⟩
    have he : idx s.n s.rdy = (i : Int) := idx_hit hi hr fun j hj => by simp [PS.rdy, h.before j hj]
    have e : s.pick 0 = (s.took i 0).act i := by
      unfold PS.pick
      have hm := h.m
      rw [if_neg (by omega), show (0 : Int).toNat = 0 from rfl, if_neg (by omega), he, if_pos (by omega), Int.toNat_natCast]
    rw [e] at hI hP ⊢
    have e1 : (s.took i 0).kd i + 1 = 1 := by show s.kd i + 1 = 1; omega
    have e2 : (s.took i 0).wk i = 0 := upd_same _ _ _
    unfold PS.act
    rw [e1, e2]
    refine ⟨rfl, fun _ => ?_, fun h => absurd h (by decide)⟩
    have e3 : (s.took i 0).step i = { s with picks := s.picks + 1, kd := upd s.kd i 1, wk := upd s.wk i 0, ws := upd s.ws 0 i } := by
      unfold PS.step
      rw [e1, if_neg (by decide)]
      rfl
    have hI2 : Inv ls ((s.took i 0).step i) := hI
    refine ⟨hI2, ?_, ?_, ?_, ?_, fun h => absurd h (by decide), fun _ => ?_, ?_⟩
    all_goals rw [e3]
    · exact h.m
    · intro j hj
      show upd s.kd i 1 j = 3
      rw [upd_other _ _ (by omega)]
      exact h.before j hj
    · intro _
      exact upd_same _ _ _
    · intro j hj hjn
      show upd s.kd i 1 j = 0
      rw [upd_other _ _ (by omega)]
      exact h.behind j hj hjn
    · show upd s.ws 0 (i : Int) 0 = _ ∧ upd s.wk i 0 i = 0
      exact ⟨upd_same _ _ _, upd_same _ _ _⟩
    · show s.picks + 1 = _
      rw [h.picks]; omega
  · obtain ⟨hw, hwk⟩ := h.has hz
    have e : s.pick 0 = s.act i := by
      unfold PS.pick
      have hm := h.m
      rw [if_neg (by omega), show (0 : Int).toNat = 0 from rfl, if_pos (by omega), hw, Int.toNat_natCast]
    rw [e] at hI hP ⊢
    unfold PS.act
    rw [h0, hwk]
    refine ⟨rfl, fun h2 => ?_, fun h2 => ?_⟩
    · have e3 : s.step i = { s with picks := s.picks + 1, kd := upd s.kd i (k + 1) } := by
        unfold PS.step
        rw [h0, if_neg (by omega)]
      have hI2 : Inv ls (s.step i) := hI
      refine ⟨hI2, ?_, ?_, ?_, ?_, fun h => absurd h (by omega), fun _ => ?_, ?_⟩
      all_goals dsimp only; rw [e3]
      · exact h.m
      · intro j hj
        show upd s.kd i (k + 1) j = 3
        rw [upd_other _ _ (by omega)]
        exact h.before j hj
      · intro _
        exact upd_same _ _ _
      · intro j hj hjn
        show upd s.kd i (k + 1) j = 0
        rw [upd_other _ _ (by omega)]
        exact h.behind j hj hjn
      · exact ⟨hw, hwk⟩
      · show s.picks + 1 = _
        rw [h.picks]; omega
    · subst h2
      have e3 : s.step i = { s with picks := s.picks + 1, kd := upd s.kd i 3, left := s.left - 1, ws := upd s.ws 0 (-1), wk := upd s.wk i (-1), wt := decs (s.ln i) s.wt } := by
        unfold PS.step
        rw [h0, if_pos (by decide), hwk]
        rfl
      have hI2 : Inv ls (s.step i) := hI
      refine ⟨hI2, ?_, ?_, ?_, ?_, fun _ => ?_, fun h => absurd rfl h, ?_⟩
      all_goals dsimp only; rw [e3]
      · exact h.m
      · intro j hj
        show upd s.kd i 3 j = 3
        by_cases ej : j = i
        · subst ej; exact upd_same _ _ _
        · rw [upd_other _ _ ej]
          exact h.before j (by omega)
      · intro hj
        change i + 1 < s.n at hj
        show upd s.kd i 3 (i + 1) = 0
        rw [upd_other _ _ (by omega)]
        exact h.behind _ (by omega) hj
      · intro j hj hjn
        show upd s.kd i 3 j = 0
        rw [upd_other _ _ (by omega)]
        exact h.behind j (by omega) hjn
      · show upd s.ws 0 (-1) 0 = -1
        exact upd_same _ _ _
      · show s.picks + 1 = _
        rw [h.picks]; omega
theorem One.done {ls : List (List Int)} {s : PS} (h : One ls s.n 0 s) : s.left = 0 := by
  rw [h.inv.left, List.filter_eq_nil_iff.2 (by
    intro x hx
    have := h.before x (List.mem_range.1 hx)
    simp [this])]
  rfl
end Go.Proofs.Ytgdkgoiagjjccaa
