/- The contracts of a product, and of Add, Sub, Mul. -/
import Derived.Test.YtgdkgoiagjjccaaNumber
import Derived.Shelf.Bits.Mul64
namespace Go.Proofs.Ytgdkgoiagjjccaa
set_option maxRecDepth 100000
open Go.RowKit Go.Shelf

def ren : Go.Shelf.Ren := ⟨fun | 264 => 100 | n => n, fun | 53 => 102 | 46 => 86 | n => n, fun | n => n⟩
theorem lays264 : Go.Proofs.Lays.n264 Try.prog ren := {
  mixed := by kernel_rfl
  f264 := Try.func100.trans (congrArg some (by kernel_rfl))
  t46 := Try.underlying86
  a46 := Try.isAgg86
  z46 := Try.sizeOf86
  v46 := Try.zeroValue86
  t53 := Try.underlying102
  a53 := Try.isAgg102
  z53 := Try.sizeOf102
  v53 := Try.zeroValue102 }
theorem mul64 (A B : Nat) (hA : A < 18446744073709551616) (hB : B < 18446744073709551616) (w : World) :
    Calls Try.prog 100 #[.int .u64 (lo A), .int .u64 (lo B)] w fun e w' => e = .returned (.tuple #[.int .u64 (hi ((A * B : Nat) : Int)), .int .u64 (lo ((A * B : Nat) : Int))]) ∧ w = w' := by
  have h := Any.bits_Mul64 lays264 A B hA hB w
  have e1 : lo (A : Int) = (A : Int) := by unfold lo; omega
  have e2 : lo (B : Int) = (B : Int) := by unfold lo; omega
  have hAB : A * B < 340282366920938463463374607431768211456 := by
    calc A * B < 18446744073709551616 * 18446744073709551616 := Nat.mul_lt_mul'' hA hB
      _ = _ := by decide
  obtain ⟨m, hm⟩ : ∃ m, m = A * B := ⟨_, rfl⟩
  rw [← hm] at hAB h ⊢
  have e3 : hi (m : Int) = ((m / 18446744073709551616 : Nat) : Int) := by unfold hi; omega
  have e4 : lo (m : Int) = ((m % 18446744073709551616 : Nat) : Int) := by unfold lo; omega
  rw [e1, e2, e3, e4]
  exact Calls.mono h fun e w' hh => ⟨hh.1, hh.2.symm⟩

theorem run_lower (x y : Int) (w : World) : (Instr.field 145 (.agg #[.int .u64 x, .int .u64 y]) 1).run Try.prog w = .ok (.int .u64 y) w := by kernel_rfl
theorem size_any (z : Int) (hz : Wide z) (w : World) :
    Calls Try.prog 101 #[wideV z] w fun e w' => e = .returned (wideV (z.natAbs : Int)) ∧ Below w.heap.size w w' := by
  by_cases h0 : z < 0
  · have : ((z.natAbs : Nat) : Int) = -z := by omega
    rw [this]; exact size_neg z hz h0 w
  · have : ((z.natAbs : Nat) : Int) = z := by omega
    rw [this]; exact size_pos z hz h0 w
theorem below_any (z : Int) (hz : Wide z) (w : World) :
    Calls Try.prog 102 #[wideV z] w fun e w' => e = .returned (.bool (decide (z < 0))) ∧ Below w.heap.size w w' := by
  by_cases h0 : z < 0
  · rw [decide_eq_true h0]; exact below_yes z hz h0 w
  · rw [decide_eq_false h0]; exact below_no z hz h0 w

set_option maxHeartbeats 1000000 in
theorem product_any (a b : Int) (ha : Fits a) (hb : Fits b) (w : World) :
    Calls Try.prog 90 #[.int .i64 a, .int .i64 b] w fun e w' => e = .returned (wideV (a * b)) ∧ Below w.heap.size w w' := by
  have W1 := fun w => widen_any a ha w
  have W2 := fun w => widen_any b hb w
  have S1 := fun w => size_any a (fits_wide ha) w
  have S2 := fun w => size_any b (fits_wide hb) w
  have B1 := fun w => below_any a (fits_wide ha) w
  have B2 := fun w => below_any b (fits_wide hb) w
  have M := fun w => mul64 a.natAbs b.natAbs (by unfold Fits at ha; omega) (by unfold Fits at hb; omega) w
  have O := fun w => opposite_any ((a.natAbs * b.natAbs : Nat) : Int) w
  have hab : ((a.natAbs * b.natAbs : Nat) : Int) = if (decide (a < 0) != decide (b < 0)) = true then -(a * b) else a * b := by
    rw [Int.natCast_mul]
    by_cases h1 : a < 0 <;> by_cases h2 : b < 0
    · have e1 : ((a.natAbs : Nat) : Int) = -a := by omega
      have e2 : ((b.natAbs : Nat) : Int) = -b := by omega
      rw [e1, e2]; simp [h1, h2, Int.neg_mul_neg]
    · have e1 : ((a.natAbs : Nat) : Int) = -a := by omega
      have e2 : ((b.natAbs : Nat) : Int) = b := by omega
      rw [e1, e2]; simp [h1, h2, Int.neg_mul]
    · have e1 : ((a.natAbs : Nat) : Int) = a := by omega
      have e2 : ((b.natAbs : Nat) : Int) = -b := by omega
      rw [e1, e2]; simp [h1, h2, Int.mul_neg]
    · have e1 : ((a.natAbs : Nat) : Int) = a := by omega
      have e2 : ((b.natAbs : Nat) : Int) = b := by omega
      rw [e1, e2]; simp [h1, h2]
  obtain ⟨A, hA⟩ : ∃ A, A = ((a.natAbs : Nat) : Int) := ⟨_, rfl⟩
  obtain ⟨B, hB⟩ : ∃ B, B = ((b.natAbs : Nat) : Int) := ⟨_, rfl⟩
  obtain ⟨m, hm⟩ : ∃ m, m = ((a.natAbs * b.natAbs : Nat) : Int) := ⟨_, rfl⟩
  obtain ⟨p, hp⟩ : ∃ p, p = a * b := ⟨_, rfl⟩
  rw [← hA] at S1 M
  rw [← hB] at S2 M
  rw [← hm] at M O hab
  rw [← hp] at hab ⊢
  obtain ⟨x, hx⟩ : ∃ x, x = decide (a < 0) := ⟨_, rfl⟩
  obtain ⟨y, hy⟩ : ∃ y, y = decide (b < 0) := ⟨_, rfl⟩
  rw [← hx] at B1 hab
  rw [← hy] at B2 hab
  unfold wideV at *
  have HW1 := Lib.hid W1
  have HW2 := Lib.hid W2
  have HS1 := Lib.hid S1
  have HS2 := Lib.hid S2
  have HB1 := Lib.hid B1
  have HB2 := Lib.hid B2
  have HM := Lib.hid M
  have HO := Lib.hid O
  clear W1 W2 S1 S2 B1 B2 M O hA hB hm hp hx hy ha hb
  have hfd := run_lower
  by_cases hd : (x != y) = true
  · rw [if_pos hd] at hab
    have hpm : -m = p := by omega
    rw [hpm] at HO
    have he : (x == y) = false := by cases x <;> cases y <;> simp_all
    clear hab hpm hd
    go_enter Try.func90, Try.ntmps90
    go_wp2_with fail
    refine Calls.mono (HW1.out _) ?_
    rintro e w1 ⟨rfl, hb1⟩
    go_wp2_with fail
    refine Calls.mono (HW2.out _) ?_
    rintro e w2 ⟨rfl, hb2⟩
    have hb12 := hb1.trans (hb2.mono hb1.size)
    have hk2 := kept_new hb12 (heap_alloc_new w _)
    have hbw2 : Below w.heap.size w w2 := ((Below.refl _ w).alloc (Nat.le_refl _) _).trans (hb12.mono (by simp))
    have hsz2 : w.heap.size < w2.heap.size := by have := hb12.size; simp at this; omega
    have HK := Lib.hid hk2
    clear hb1 hb2 hb12 hk2
    go_wp2_with fail
    go_region_held3 (fun w' => w'.cell? ⟨w2.heap.size, 0, none⟩ = some (.int .u64 (hi a)) ∧ w'.cell? ⟨w2.heap.size, 1, none⟩ = some (.int .u64 (lo a)) ∧ w'.cell? ⟨w2.heap.size + 1, 0, none⟩ = some (.int .u64 (hi b)) ∧ w'.cell? ⟨w2.heap.size + 1, 1, none⟩ = some (.int .u64 (lo b)) ∧ w2.heap.size + 1 < w'.heap.size ∧ Below w2.heap.size w2 w')
      (first | (refine ⟨by simp [go_sem], by simp [go_sem], by simp [go_sem], by simp [go_sem], by simp, ?_⟩; exact (((Below.refl _ w2).alloc (Nat.le_refl _) _).alloc (by simp) _).drew) | go_keep | (go_split_ands; exact ⟨(hbK.cell (p := ⟨w2.heap.size, 0, none⟩) (by simp; omega)).trans (by assumption), (hbK.cell (p := ⟨w2.heap.size, 1, none⟩) (by simp; omega)).trans (by assumption), (hbK.cell (p := ⟨w2.heap.size + 1, 0, none⟩) (by assumption)).trans (by assumption), (hbK.cell (p := ⟨w2.heap.size + 1, 1, none⟩) (by assumption)).trans (by assumption), Nat.lt_of_lt_of_le (by assumption) hbK.size, Below.trans (by assumption) (hbK.mono (by omega))⟩))
      (first | (go_at_call 101; refine Calls.mono (HS1.out _) ?_; rintro e w3 ⟨rfl, hbK⟩) | (go_at_call 101; refine Calls.mono (HS2.out _) ?_; rintro e w3 ⟨rfl, hbK⟩) | (go_at_call 100; refine Calls.mono (HM.out _) ?_; rintro e w3 ⟨rfl, rfl⟩))
    rename_i hHeld
    obtain ⟨k1, k2, k3, k4, k5, k6⟩ := hHeld
    clear hbK
    go_wp2_with fail
    go_region_held3 (fun w' => w'.cell? ⟨w2.heap.size, 0, none⟩ = some (.int .u64 (hi a)) ∧ w'.cell? ⟨w2.heap.size, 1, none⟩ = some (.int .u64 (lo a)) ∧ w'.cell? ⟨w2.heap.size + 1, 0, none⟩ = some (.int .u64 (hi b)) ∧ w'.cell? ⟨w2.heap.size + 1, 1, none⟩ = some (.int .u64 (lo b)) ∧ w2.heap.size + 1 < w'.heap.size ∧ Below w2.heap.size w2 w')
      (first | (exact ⟨k1, k2, k3, k4, k5, k6.drew⟩) | go_keep | (go_split_ands; exact ⟨(hbK.cell (p := ⟨w2.heap.size, 0, none⟩) (by simp; omega)).trans (by assumption), (hbK.cell (p := ⟨w2.heap.size, 1, none⟩) (by simp; omega)).trans (by assumption), (hbK.cell (p := ⟨w2.heap.size + 1, 0, none⟩) (by assumption)).trans (by assumption), (hbK.cell (p := ⟨w2.heap.size + 1, 1, none⟩) (by assumption)).trans (by assumption), Nat.lt_of_lt_of_le (by assumption) hbK.size, Below.trans (by assumption) (hbK.mono (by omega))⟩))
      (first | (go_at_call 102; refine Calls.mono (HB1.out _) ?_; rintro e w4 ⟨rfl, hbK⟩) | (go_at_call 102; refine Calls.mono (HB2.out _) ?_; rintro e w4 ⟨rfl, hbK⟩))
    rename_i hHeld2
    obtain ⟨m1, m2, m3, m4, m5, m6⟩ := hHeld2
    have hc4 : ∀ j, w4.cell? ⟨w.heap.size, j, none⟩ = #[Value.int .u64 0, Value.int .u64 0][j]? := fun j => (m6.cell (p := ⟨w.heap.size, j, none⟩) hsz2).trans (HK.out.1 j)
    have hf4 : ∀ j, w4.frozen? ⟨w.heap.size, j, none⟩ = false := fun j => (m6.frozen (p := ⟨w.heap.size, j, none⟩) hsz2).trans (HK.out.2 j)
    have hbw4 : Below w.heap.size w w4 := hbw2.trans (m6.mono hbw2.size)
    have hsz4 := m6.size
    clear k1 k2 k3 k4 k5 k6 m1 m2 m3 m4 m5 m6 hbK
    go_wp2_with fail
    refine Calls.mono (HO.out _) ?_
    rintro e w5 ⟨rfl, hb5⟩
    have hc5 : ∀ j, w5.cell? ⟨w.heap.size, j, none⟩ = w4.cell? ⟨w.heap.size, j, none⟩ := fun j => hb5.cell (p := ⟨w.heap.size, j, none⟩) (by show w.heap.size < _; omega)
    have hf5 : ∀ j, w5.frozen? ⟨w.heap.size, j, none⟩ = w4.frozen? ⟨w.heap.size, j, none⟩ := fun j => hb5.frozen (p := ⟨w.heap.size, j, none⟩) (by show w.heap.size < _; omega)
    have hbw5 := hbw4.trans (hb5.mono (by omega))
    clear hb5
    go_wp2_with fail
    exact bodyPost_ret (v := .agg #[.int .u64 (hi p), .int .u64 (lo p)]) (by simp [results, Try.results90, go_sem, hc5, hc4]) rfl ⟨rfl, (hbw5.setCell (by simp) _).setCell (by simp) _⟩
  · rw [if_neg hd] at hab
    rw [hab] at HM
    have he : (x == y) = true := by cases x <;> cases y <;> simp_all
    clear hd hab
    go_enter Try.func90, Try.ntmps90
    go_wp2_with fail
    refine Calls.mono (HW1.out _) ?_
    rintro e w1 ⟨rfl, hb1⟩
    go_wp2_with fail
    refine Calls.mono (HW2.out _) ?_
    rintro e w2 ⟨rfl, hb2⟩
    have hb12 := hb1.trans (hb2.mono hb1.size)
    have hk2 := kept_new hb12 (heap_alloc_new w _)
    have hbw2 : Below w.heap.size w w2 := ((Below.refl _ w).alloc (Nat.le_refl _) _).trans (hb12.mono (by simp))
    have hsz2 : w.heap.size < w2.heap.size := by have := hb12.size; simp at this; omega
    have HK := Lib.hid hk2
    clear hb1 hb2 hb12 hk2
    go_wp2_with fail
    go_region_held3 (fun w' => w'.cell? ⟨w2.heap.size, 0, none⟩ = some (.int .u64 (hi a)) ∧ w'.cell? ⟨w2.heap.size, 1, none⟩ = some (.int .u64 (lo a)) ∧ w'.cell? ⟨w2.heap.size + 1, 0, none⟩ = some (.int .u64 (hi b)) ∧ w'.cell? ⟨w2.heap.size + 1, 1, none⟩ = some (.int .u64 (lo b)) ∧ w2.heap.size + 1 < w'.heap.size ∧ Below w2.heap.size w2 w')
      (first | (refine ⟨by simp [go_sem], by simp [go_sem], by simp [go_sem], by simp [go_sem], by simp, ?_⟩; exact (((Below.refl _ w2).alloc (Nat.le_refl _) _).alloc (by simp) _).drew) | go_keep | (go_split_ands; exact ⟨(hbK.cell (p := ⟨w2.heap.size, 0, none⟩) (by simp; omega)).trans (by assumption), (hbK.cell (p := ⟨w2.heap.size, 1, none⟩) (by simp; omega)).trans (by assumption), (hbK.cell (p := ⟨w2.heap.size + 1, 0, none⟩) (by assumption)).trans (by assumption), (hbK.cell (p := ⟨w2.heap.size + 1, 1, none⟩) (by assumption)).trans (by assumption), Nat.lt_of_lt_of_le (by assumption) hbK.size, Below.trans (by assumption) (hbK.mono (by omega))⟩))
      (first | (go_at_call 101; refine Calls.mono (HS1.out _) ?_; rintro e w3 ⟨rfl, hbK⟩) | (go_at_call 101; refine Calls.mono (HS2.out _) ?_; rintro e w3 ⟨rfl, hbK⟩) | (go_at_call 100; refine Calls.mono (HM.out _) ?_; rintro e w3 ⟨rfl, rfl⟩))
    rename_i hHeld
    obtain ⟨k1, k2, k3, k4, k5, k6⟩ := hHeld
    clear hbK
    go_wp2_with fail
    go_region_held3 (fun w' => w'.cell? ⟨w2.heap.size, 0, none⟩ = some (.int .u64 (hi a)) ∧ w'.cell? ⟨w2.heap.size, 1, none⟩ = some (.int .u64 (lo a)) ∧ w'.cell? ⟨w2.heap.size + 1, 0, none⟩ = some (.int .u64 (hi b)) ∧ w'.cell? ⟨w2.heap.size + 1, 1, none⟩ = some (.int .u64 (lo b)) ∧ w2.heap.size + 1 < w'.heap.size ∧ Below w2.heap.size w2 w')
      (first | (exact ⟨k1, k2, k3, k4, k5, k6.drew⟩) | go_keep | (go_split_ands; exact ⟨(hbK.cell (p := ⟨w2.heap.size, 0, none⟩) (by simp; omega)).trans (by assumption), (hbK.cell (p := ⟨w2.heap.size, 1, none⟩) (by simp; omega)).trans (by assumption), (hbK.cell (p := ⟨w2.heap.size + 1, 0, none⟩) (by assumption)).trans (by assumption), (hbK.cell (p := ⟨w2.heap.size + 1, 1, none⟩) (by assumption)).trans (by assumption), Nat.lt_of_lt_of_le (by assumption) hbK.size, Below.trans (by assumption) (hbK.mono (by omega))⟩))
      (first | (go_at_call 102; refine Calls.mono (HB1.out _) ?_; rintro e w4 ⟨rfl, hbK⟩) | (go_at_call 102; refine Calls.mono (HB2.out _) ?_; rintro e w4 ⟨rfl, hbK⟩))
    rename_i hHeld2
    obtain ⟨m1, m2, m3, m4, m5, m6⟩ := hHeld2
    have hc4 : ∀ j, w4.cell? ⟨w.heap.size, j, none⟩ = #[Value.int .u64 0, Value.int .u64 0][j]? := fun j => (m6.cell (p := ⟨w.heap.size, j, none⟩) hsz2).trans (HK.out.1 j)
    have hf4 : ∀ j, w4.frozen? ⟨w.heap.size, j, none⟩ = false := fun j => (m6.frozen (p := ⟨w.heap.size, j, none⟩) hsz2).trans (HK.out.2 j)
    have hbw4 : Below w.heap.size w w4 := hbw2.trans (m6.mono hbw2.size)
    have hsz4 := m6.size
    clear k1 k2 k3 k4 k5 k6 m1 m2 m3 m4 m5 m6 hbK
    go_wp2_with fail
    exact bodyPost_ret (v := .agg #[.int .u64 (hi p), .int .u64 (lo p)]) (by simp [results, Try.results90, go_sem, hc4]) rfl ⟨rfl, (hbw4.setCell (by simp) _).setCell (by simp) _⟩
end Go.Proofs.Ytgdkgoiagjjccaa
