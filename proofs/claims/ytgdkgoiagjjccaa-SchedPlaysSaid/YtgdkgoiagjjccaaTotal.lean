/- The contract of arith.Total. -/
import Derived.Test.YtgdkgoiagjjccaaErr
import Derived.BigQuiet
import Derived.Deep.QuietTactic
import Derived.Deep.RegionWith
namespace Go.Proofs.Ytgdkgoiagjjccaa
set_option maxRecDepth 100000
open Go.RowKit

/-- A slice that reads as whole numbers of 64 bits. -/
def Nums (w : World) (A : Option Addr) (n : Nat) (xs : List Int) : Prop :=
  xs.length = n ∧ (∀ x ∈ xs, Fits x) ∧ (0 < n → ∃ b off, A = some ⟨b, off, none⟩ ∧ ∀ j, j < n → w.cell? ⟨b, off + j, none⟩ = some (.int .i64 (xs.getD j 0)))
def sumZ (xs : List Int) : Int := xs.foldl (· + ·) 0
theorem sumZ_snoc (xs : List Int) (k : Nat) (h : k < xs.length) : sumZ (xs.take (k + 1)) = sumZ (xs.take k) + xs.getD k 0 := by
  unfold sumZ
  rw [List.take_succ_eq_append_getElem h, List.foldl_append]
  simp [List.getD_eq_getElem?_getD, h]
theorem getD_fits {xs : List Int} (h : ∀ x ∈ xs, Fits x) (k : Nat) : Fits (xs.getD k 0) := by
  rw [List.getD_eq_getElem?_getD]
  by_cases hk : k < xs.length
  · rw [List.getElem?_eq_getElem hk]; exact h _ (List.getElem_mem hk)
  · rw [List.getElem?_eq_none (by omega)]; unfold Fits; simp
theorem sumZ_bound {xs : List Int} (h : ∀ x ∈ xs, Fits x) (k : Nat) (hk : k ≤ xs.length) : -(9223372036854775808 * (k : Int)) ≤ sumZ (xs.take k) ∧ sumZ (xs.take k) ≤ 9223372036854775808 * (k : Int) := by
  induction k with
  | zero => simp [sumZ]
  | succ k ih =>
    have := ih (by omega)
    have hf := getD_fits h k
    unfold Fits at hf
    rw [sumZ_snoc xs k (by omega)]
    omega

set_option maxHeartbeats 1000000 in
theorem total_any (A : Option Addr) (n c : Nat) (xs : List Int) (w : World) (hb : Nums w A n xs) (hn : n ≤ 9223372036854775807) :
    Calls Try.prog 77 #[.slice A n c] w fun e w' => e = .returned (.tuple #[.int .i64 (numN (sumZ xs)), numE (sumZ xs)]) ∧ Below w.heap.size w w' := by
  obtain ⟨hl, hx, hc⟩ := hb
  have hbd := sumZ_bound hx n (by omega)
  rw [List.take_of_length_le (by omega)] at hbd
  have hwd : Wide (sumZ xs) := by unfold Wide; omega
  have N := fun w => number_any (sumZ xs) hwd w
  unfold wideV at N
  obtain ⟨m, hm⟩ : ∃ m, m = numN (sumZ xs) := ⟨_, rfl⟩
  obtain ⟨v, hv⟩ : ∃ v, v = numE (sumZ xs) := ⟨_, rfl⟩
  rw [← hm, ← hv] at N ⊢
  have HN := Lib.hid N
  have HL := Lib.hid hl
  clear hl N hm hv hwd hbd
  go_enter Try.func77, Try.ntmps77
  go_wp2
  go_loopw [6, 10] (fun _ i wr => ∃ k : Nat, k ≤ n ∧ i = .int .i64 k ∧ wr.cell? ⟨w.heap.size, 0, none⟩ = some (.int .u64 (hi (sumZ (xs.take k)))) ∧ wr.cell? ⟨w.heap.size, 1, none⟩ = some (.int .u64 (lo (sumZ (xs.take k)))) ∧
      wr.frozen? ⟨w.heap.size, 0, none⟩ = false ∧ wr.frozen? ⟨w.heap.size, 1, none⟩ = false ∧ w.heap.size < wr.heap.size ∧ Below w.heap.size w wr) (fun _ i _ => n - (intOf i).toNat)
  case atStart => exact ⟨0, Nat.zero_le _, rfl, by simp [go_sem]; rfl, by simp [go_sem]; rfl, by simp [go_sem], by simp [go_sem], by simp, (Below.refl _ _).alloc (Nat.le_refl _) _⟩
  case round =>
    obtain ⟨k, hk, rfl, c0, c1, f0, f1, hsz, hbr⟩ := hrel
    by_cases hlt : k < n
    · obtain ⟨b, off, rfl, hc'⟩ := hc (by omega)
      have hck := hc' k hlt
      obtain ⟨x, hxe⟩ : ∃ x, x = xs.getD k 0 := ⟨_, rfl⟩
      have hxf : Fits x := by rw [hxe]; exact getD_fits hx k
      rw [← hxe] at hck
      have hckr := (hbr.cell (p := ⟨b, off + k, none⟩) (World.block_lt_of_cell? _ _ hck)).trans hck
      have hsn := sumZ_snoc xs k (by rw [HL.out]; exact hlt)
      rw [← hxe] at hsn
      obtain ⟨s, hs⟩ : ∃ s, s = sumZ (xs.take k) := ⟨_, rfl⟩
      rw [← hs] at c0 c1 hsn
      have W1 := fun w => widen_any x hxf w
      have P := fun w => plus_any s x w
      unfold wideV at W1 P
      have hsx : s + x = sumZ (xs.take (k + 1)) := hsn.symm
      rw [hsx] at P
      obtain ⟨t, ht⟩ : ∃ t, t = sumZ (xs.take (k + 1)) := ⟨_, rfl⟩
      rw [← ht] at P
      have HW := Lib.hid W1
      have HP := Lib.hid P
      have HT := Lib.hid ht
      clear hxe hsn hs hsx ht W1 P hck hc' hc hx
      go_wp2_with fail
      go_region_with (first | (go_at_call 93; refine Calls.mono (HW.out _) ?_; rintro e w1 ⟨rfl, hb1⟩; have q0 := (hb1.cell (p := ⟨w.heap.size, 0, none⟩) (by simpa using hsz)); have q1 := (hb1.cell (p := ⟨w.heap.size, 1, none⟩) (by simpa using hsz)); have g0 := (hb1.frozen (p := ⟨w.heap.size, 0, none⟩) (by simpa using hsz)); have g1 := (hb1.frozen (p := ⟨w.heap.size, 1, none⟩) (by simpa using hsz)); have z1 := hb1.size) | (go_at_call 92; refine Calls.mono (HP.out _) ?_; rintro e w2 ⟨rfl, hb2⟩; have q2 := (hb2.cell (p := ⟨w.heap.size, 0, none⟩) (by simp at z1 ⊢; omega)); have q3 := (hb2.cell (p := ⟨w.heap.size, 1, none⟩) (by simp at z1 ⊢; omega)); have g2 := (hb2.frozen (p := ⟨w.heap.size, 0, none⟩) (by simp at z1 ⊢; omega)); have g3 := (hb2.frozen (p := ⟨w.heap.size, 1, none⟩) (by simp at z1 ⊢; omega)); have z2 := hb2.size))
      all_goals
        have hb12 : Below w.heap.size w w2 := (hbr.drew.trans (hb1.mono (by simp; omega))).trans (hb2.mono (by simp at z1; omega))
        have r0 : w2.cell? ⟨w.heap.size, 0, none⟩ = some (.int .u64 (hi s)) := q2.trans (q0.trans c0)
        have r1 : w2.cell? ⟨w.heap.size, 1, none⟩ = some (.int .u64 (lo s)) := q3.trans (q1.trans c1)
        have r2 : w2.frozen? ⟨w.heap.size, 0, none⟩ = false := g2.trans (g0.trans f0)
        have r3 : w2.frozen? ⟨w.heap.size, 1, none⟩ = false := g3.trans (g1.trans f1)
        have hsz2 : w.heap.size < w2.heap.size := by simp at z1; omega
        clear q0 q1 q2 q3 g0 g1 g2 g3 c0 c1 f0 f1 hb1 hb2 hckr hbr
        go_wp2_with fail
        go_roundw
        case rel => exact ⟨k + 1, by omega, by go_num, by rw [← HT.out]; simp [go_sem, r0], by rw [← HT.out]; simp [go_sem, r1], by simp [go_sem, r2], by simp [go_sem, r3], by simpa using hsz2, (hb12.setCell (by simp) _).setCell (by simp) _⟩
        case measure => simp [intOf]; omega
    · have hfl : xs.take k = xs := List.take_of_length_le (by rw [HL.out]; omega)
      rw [hfl] at c0 c1
      clear hfl
      go_wp2_with fail
      refine Calls.mono (HN.out _) ?_
      rintro e w3 ⟨rfl, hb3⟩
      have hbw := hbr.trans (hb3.mono (by omega))
      have HB := Lib.hid hbw
      clear hb3 hbw
      go_wp2_with fail
      go_ret2
      exact ⟨rfl, HB.out⟩
end Go.Proofs.Ytgdkgoiagjjccaa
