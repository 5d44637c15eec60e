/- A row turned round: slices.Reverse. -/
import Derived.Test.YtgdkgoiagjjccaaGReachD
import Derived.Deep.CutRange
import Derived.Deep.CutBlock
namespace Go.Proofs.Ytgdkgoiagjjccaa
set_option maxRecDepth 100000
open Go.RowKit

/-- Turned as far as the first i and the last i. -/
def swF (f : Nat → Int) (n i : Nat) : Nat → Int := fun x => if x < i ∨ n < x + i + 1 then f (n - 1 - x) else f x
theorem swF_zero (f : Nat → Int) (n x : Nat) (h : x < n) : swF f n 0 x = f x := by
  unfold swF
  rw [if_neg (by omega)]
theorem swF_end (f : Nat → Int) (n i x : Nat) (h : x < n) (hi : n ≤ i + i + 1) : swF f n i x = f (n - 1 - x) := by
  unfold swF
  by_cases e : x < i ∨ n < x + i + 1
  · rw [if_pos e]
  · rw [if_neg e, show n - 1 - x = x by omega]
theorem swF_next (f : Nat → Int) (n i : Nat) (hi : i + i + 1 < n) : ∀ x, x < n → upd (upd (swF f n i) i (f (n - 1 - i))) (n - 1 - i) (f i) x = swF f n (i + 1) x := by
  intro x hx
  unfold swF
  by_cases e : x = n - 1 - i
  · subst e
    rw [upd_same, if_pos (by omega), show n - 1 - (n - 1 - i) = i by omega]
  · rw [upd_other _ _ e]
    by_cases e2 : x = i
    · subst e2
      rw [upd_same, if_pos (by omega)]
    · rw [upd_other _ _ e2]
      by_cases e3 : x < i ∨ n < x + i + 1
      · rw [if_pos e3, if_pos (by omega)]
      · rw [if_neg e3, if_neg (by omega)]
theorem LV.same {B : Nat} {W0 W : World} {g n : Nat} {f k : Nat → Int} (h : LV B W0 g n f W) (e : ∀ x, x < n → f x = k x) : LV B W0 g n k W := ⟨h.below, h.lo, h.lt, fun x hx => by rw [← e x hx]; exact h.cells x hx, h.fr⟩
set_option maxHeartbeats 2000000 in
theorem reverse_any {B : Nat} {W0 w : World} {g n : Nat} {f : Nat → Int} (h : LV B W0 g n f w) (c : Nat) (hn : n ≤ 10000) :
    Calls Try.prog 67 #[.slice (some ⟨g, 0, none⟩) n c] w fun e w' => e = .returned (.tuple #[]) ∧ LV B W0 g n (fun x => f (n - 1 - x)) w' ∧ Only1 w g w' := by
  have HV := Lib.hid (h.same fun x hx => (swF_zero f n x hx).symm)
  clear h
  go_enter Try.func67, Try.ntmps67
  go_wp2_with fail
  go_loopw [2, 3] (fun x y wr => ∃ i : Nat, x = .int .i64 (i : Int) ∧ y = .int .i64 ((n : Int) - 1 - (i : Int)) ∧ i + i ≤ n + 1 ∧ LV B W0 g n (swF f n i) wr ∧ Only1 w g wr) (fun x _ _ => n - (intOf x).toNat)
  case atStart => exact ⟨0, rfl, by simp, by omega, HV.out, Only1.refl⟩
  case round =>
    obtain ⟨i, rfl, rfl, hi, hV, hO⟩ := hrel
    have HO := Lib.hid hO
    rename World => wx
    clear HV
    by_cases hlt : i + i + 1 < n
    · obtain ⟨j, hj⟩ : ∃ j, j = n - 1 - i := ⟨_, rfl⟩
      have ej : ((n : Int) - 1 - (i : Int)) = (j : Int) := by omega
      rw [ej]
      have hij : i < j := by omega
      have hjn : j < n := by omega
      have ci := hV.cells i (by omega)
      have cj := hV.cells j hjn
      have e1 : swF f n i i = f i := by unfold swF; rw [if_neg (by omega)]
      have e2 : swF f n i j = f j := by unfold swF; rw [if_neg (by omega)]
      rw [e1] at ci
      rw [e2] at cj
      have hnx := swF_next f n i hlt
      rw [← hj] at hnx
      obtain ⟨a, ha⟩ : ∃ a, a = f i := ⟨_, rfl⟩
      obtain ⟨b, hb⟩ : ∃ b, b = f j := ⟨_, rfl⟩
      rw [← ha] at ci hnx
      rw [← hb] at cj hnx
      have fri := hV.fr i
      have frj := hV.fr j
      have HV := Lib.hid hV
      have HNX := Lib.hid hnx
      have HJ := Lib.hid hj
      have hne : i ≠ j := by omega
      clear hV hO e1 e2 hnx ha hb hj ej
      go_wp2_with fail
      go_region
      all_goals
        go_wp2_with fail
        go_roundw
        case rel => exact ⟨i + 1, by go_num, by rw [HJ.out]; congr 1; omega, by omega, ((HV.out.set i b).set j a).drew.same HNX.out, ((HO.out.set i _).set j _).drew⟩
        case measure => simp [intOf]; omega
    · have hV2 := hV.same fun x hx => swF_end f n i x hx (by omega)
      have HV := Lib.hid hV2
      have hno : ¬ (i : Int) < (n : Int) - 1 - (i : Int) := by omega
      clear hV hV2 hO
      go_wp2_with fail
      exact bodyPost_end (v := .tuple #[]) (by simp [results, Try.results67, go_sem]) rfl ⟨rfl, HV.out, HO.out⟩
theorem reverse_none (A : Option Addr) (c : Nat) (w : World) : Calls Try.prog 67 #[.slice A 0 c] w fun e w' => e = .returned (.tuple #[]) ∧ w = w' := by
  go_enter Try.func67, Try.ntmps67
  go_wp2_with fail
  go_loopw [2, 3] (fun x y wr => x = .int .i64 0 ∧ y = .int .i64 (-1) ∧ wr = w) (fun _ _ _ => 0)
  case atStart => exact ⟨rfl, rfl, rfl⟩
  case round =>
    obtain ⟨rfl, rfl, rfl⟩ := hrel
    go_wp2_with fail
    exact bodyPost_end (v := .tuple #[]) (by simp [results, Try.results67, go_sem]) rfl ⟨rfl, rfl⟩
end Go.Proofs.Ytgdkgoiagjjccaa
