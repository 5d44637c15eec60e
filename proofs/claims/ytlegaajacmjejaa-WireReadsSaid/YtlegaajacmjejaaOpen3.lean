/- Where the bytes that came in lie. -/
import Derived.Test.YtlegaajacmjejaaOpen2
namespace Go.Proofs.Ytlegaajacmjejaa
set_option maxRecDepth 100000
open Go.ChangeShapes Go.WideShapes Go.ChangeAt Go.RowKit

theorem open_place {W : World} {base : Nat} {r : Reach} {A : Option Addr} {n c : Nat} (hv : Value.okWide Try.prog W r base 26 (.slice A n c)) : (A = none ∧ n = 0 ∧ c = 0) ∨ ∃ b off, A = some ⟨b, off, none⟩ ∧ b < W.heap.size ∧ n ≤ c := by
  unfold Value.okWide at hv
  rw [Try.underlying26] at hv
  simp only at hv
  unfold Cell.okWide at hv
  rw [Try.underlying26] at hv
  simp only at hv
  unfold Cell.ok at hv
  rw [Try.underlying26] at hv
  rcases A with _ | ⟨b, off, spot⟩
  · match n, c, hv with
    | 0, 0, _ => exact .inl ⟨rfl, rfl, rfl⟩
  · simp only at hv
    obtain ⟨h1, _, _, h2, row, cells, h3, _⟩ := hv
    simp only at h2
    subst h2
    refine .inr ⟨b, off, rfl, ?_, h1⟩
    unfold World.shape? at h3
    rcases Nat.lt_or_ge b W.heap.size with h | h
    · exact h
    · rw [Array.getElem?_eq_none h] at h3
      cases h3
end Go.Proofs.Ytlegaajacmjejaa
