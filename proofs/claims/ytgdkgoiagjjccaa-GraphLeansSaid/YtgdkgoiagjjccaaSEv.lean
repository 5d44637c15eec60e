/- Events side by side; a plan's picks one behind the other; the chapter's example. -/
import Derived.Test.YtgdkgoiagjjccaaSNew
import Derived.Test.YtgdkgoiagjjccaaSAcc
import Derived.DeepKeys
import Derived.Deep.QuietTactic
import Derived.BigQuiet
namespace Go.Proofs.Ytgdkgoiagjjccaa
set_option maxRecDepth 100000
open Go.RowKit

theorem fields78 : (Try.prog.fieldsOf 78).toList = [{ name := "Kind", type := 3, offset := 0, embedded := false, tag := "", pkgPath := "", byteOffset := 0 }, { name := "Task", type := 3, offset := 1, embedded := false, tag := "", pkgPath := "", byteOffset := 8 }, { name := "Worker", type := 3, offset := 2, embedded := false, tag := "", pkgPath := "", byteOffset := 16 }] := by kernel_rfl
theorem eq_step3 (d : Nat) (w : World) (xs ys : Array Value) (f : Field) (fs : List Field) (a b : Int) (r : Bool) (h3 : f.type = 3) (hn : f.name ≠ "_") (hx : (part 3 xs f.offset).run Try.prog w = .ok (.int .i64 a) w) (hy : (part 3 ys f.offset).run Try.prog w = .ok (.int .i64 b) w)
    (hr : (Op.eqFields (d + 1) xs ys fs).run Try.prog w = .ok r w) : (Op.eqFields (d + 1) xs ys (f :: fs)).run Try.prog w = .ok (decide (a = b) && r) w := by
  unfold Op.eqFields
  rw [if_pos hn, h3]
  by_cases h : a = b <;> simp [hx, hy, hr, run_equalIn_int w d 3 .i64 .i64 _ _ Try.underlying3, h]
theorem part_int3 (w : World) (xs : Array Value) (k : Nat) (a : Int) (h : xs[k]? = some (.int .i64 a)) : (part 3 xs k).run Try.prog w = .ok (.int .i64 a) w := by
  simp [go_sem, part, h]
theorem run_ev (d : Nat) (w : World) (a b c a' b' c' : Int) : (Op.equalIn (d + 2) 78 (evV a b c) (evV a' b' c')).run Try.prog w = .ok (decide (a = a' ∧ b = b' ∧ c = c')) w := by
  have e : decide (a = a' ∧ b = b' ∧ c = c') = (decide (a = a') && (decide (b = b') && (decide (c = c') && true))) := by
    rw [Bool.eq_iff_iff]; simp
  rw [e]
  unfold evV
  rw [run_equalIn_struct w (d + 1) 78 _ _ Try.underlying78 (by kernel_rfl), fields78]
  refine eq_step3 _ w _ _ _ _ _ _ _ rfl (by decide) (part_int3 w _ _ _ rfl) (part_int3 w _ _ _ rfl) ?_
  refine eq_step3 _ w _ _ _ _ _ _ _ rfl (by decide) (part_int3 w _ _ _ rfl) (part_int3 w _ _ _ rfl) ?_
  refine eq_step3 _ w _ _ _ _ _ _ _ rfl (by decide) (part_int3 w _ _ _ rfl) (part_int3 w _ _ _ rfl) ?_
  simp [Op.eqFields]
theorem neq_ev (w : World) (a b c a' b' c' : Int) : (binOp .neq 78 (evV a b c) (evV a' b' c')).run Try.prog w = .ok (.bool (!decide (a = a' ∧ b = b' ∧ c = c'))) w := by
  have h := run_ev 9998 w a b c a' b' c'
  unfold evV at h ⊢
  rw [run_neq_struct, show (10000 : Nat) = 9998 + 2 from rfl, h]
  rfl

theorem Inv.pick {ls : List (List Int)} {s : PS} (h : Inv ls s) (w : Int) : Inv ls (s.pick w).1 := by
  unfold PS.pick
  by_cases h0 : w < 0 ∨ (s.m : Int) ≤ w
  · rw [if_pos h0]; exact h
  rw [if_neg h0]
  obtain ⟨k, rfl⟩ : ∃ k : Nat, w = (k : Int) := ⟨w.toNat, by omega⟩
  have hk : k < s.m := by omega
  rw [Int.toNat_natCast]
  by_cases h1 : s.ws k ≠ -1
  · rw [if_pos h1]
    obtain ⟨a, b, c⟩ := h.ws k hk h1
    exact h.step (by omega) (by omega)
  rw [if_neg h1]
  by_cases h2 : idx s.n s.rdy ≠ -1
  · rw [if_pos h2]
    rcases idx_cases s.n s.rdy with ⟨i, hi, he, hr, _⟩ | ⟨he, _⟩
    · rw [he, Int.toNat_natCast]
      exact h.took hi hk (by omega) ((h.ready hi).1 hr).1
    · exact absurd he h2
  rw [if_neg h2]
  by_cases h3 : idx s.n s.had ≠ -1
  · rw [if_pos h3]
    rcases idx_cases s.n s.had with ⟨i, hi, he, hr, _⟩ | ⟨he, _⟩
    · rw [he, Int.toNat_natCast]
      exact h.step hi (by simpa [PS.had] using hr)
    · exact absurd he h3
  rw [if_neg h3]; exact h
theorem step_picks (s : PS) (i : Nat) : (s.step i).picks = s.picks + 1 ∧ (s.step i).n = s.n ∧ (s.step i).m = s.m := by
  unfold PS.step
  split <;> exact ⟨rfl, rfl, rfl⟩
theorem pick_picks (s : PS) (w : Int) : s.picks ≤ (s.pick w).1.picks ∧ (s.pick w).1.picks ≤ s.picks + 1 ∧ (s.pick w).1.n = s.n ∧ (s.pick w).1.m = s.m := by
  unfold PS.pick PS.act
  split
  · exact ⟨by dsimp only; omega, by dsimp only; omega, rfl, rfl⟩
  split
  · obtain ⟨a, b, c⟩ := step_picks s (s.ws w.toNat).toNat
    exact ⟨by dsimp only; omega, by dsimp only; omega, b, c⟩
  split
  · obtain ⟨a, b, c⟩ := step_picks (s.took (idx s.n s.rdy).toNat w.toNat) (idx s.n s.rdy).toNat
    change _ = s.picks + 1 at a
    exact ⟨by dsimp only; omega, by dsimp only; omega, b, c⟩
  split
  · obtain ⟨a, b, c⟩ := step_picks s (idx s.n s.had).toNat
    exact ⟨by dsimp only; omega, by dsimp only; omega, b, c⟩
  · exact ⟨by dsimp only; omega, by dsimp only; omega, rfl, rfl⟩

/-- The chapter's example. -/
def exS : Nat → PS
  | 0 => nS (fun i => [false, false].getD i false) [[], [0]] 2 2 2 2 0
  | k + 1 => ((exS k).pick ([0, 1, 1, 1].getD k 0)).1
def exE (k : Nat) : PS.Out := ((exS k).pick ([0, 1, 1, 1].getD k 0)).2
theorem exE0 : exE 0 = .ev 1 0 0 := by decide +kernel
theorem exE1 : exE 1 = .ev 2 0 0 := by decide +kernel
theorem exE2 : exE 2 = .ev 3 0 0 := by decide +kernel
theorem exE3 : exE 3 = .ev 1 1 1 := by decide +kernel
theorem exS4 : (exS 4).picks = 4 ∧ (exS 4).left = 1 := by decide +kernel
theorem exGood : GoodL [[], [0]] := by
  intro i l hl k x hx
  match i, k with
  | 0, k => simp at hl; subst hl; simp at hx
  | 1, 0 => simp at hl; subst hl; simp at hx; subst hx; exact ⟨by decide, by decide, fun y h => absurd h (by decide)⟩
  | 1, k + 1 => simp at hl; subst hl; simp at hx
  | i + 2, k => simp at hl
theorem exInv (k : Nat) : Inv [[], [0]] (exS k) := by
  induction k with
  | zero => exact nS_inv _ _ 2 2 exGood rfl (by decide)
  | succ k ih => exact ih.pick _
theorem exPicks (k : Nat) : 0 ≤ (exS k).picks ∧ (exS k).picks ≤ k := by
  induction k with
  | zero => exact ⟨by decide, by decide⟩
  | succ k ih =>
    obtain ⟨a, b, _, _⟩ := pick_picks (exS k) ([0, 1, 1, 1].getD k 0)
    show 0 ≤ ((exS k).pick _).1.picks ∧ ((exS k).pick _).1.picks ≤ ((k + 1 : Nat) : Int)
    omega
end Go.Proofs.Ytgdkgoiagjjccaa
