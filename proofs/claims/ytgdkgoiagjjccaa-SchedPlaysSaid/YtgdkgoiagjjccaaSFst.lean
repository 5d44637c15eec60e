/- Tasks in memory; which is the first one of which it is so. -/
import Derived.Test.YtgdkgoiagjjccaaRowW
import Derived.Test.YtgdkgoiagjjccaaInts
import Derived.Test.YtgdkgoiagjjccaaSMath
import Derived.Shelf.GgClosure.Gives
namespace Go.Proofs.Ytgdkgoiagjjccaa
set_option maxRecDepth 100000
open Go.RowKit Go.Shelf

/-- Tasks: of each three numbers and a slice. -/
def Tks (W : World) (bt n : Nat) (kd wk wt : Nat → Int) (sa : Nat → Option Addr) (sn sc : Nat → Nat) : Prop :=
  ∀ i, i < n → W.cell? ⟨bt, i * 4, none⟩ = some (.int .i64 (kd i)) ∧ W.cell? ⟨bt, i * 4 + 1, none⟩ = some (.int .i64 (wk i)) ∧ W.cell? ⟨bt, i * 4 + 2, none⟩ = some (.int .i64 (wt i)) ∧ W.cell? ⟨bt, i * 4 + 3, none⟩ = some (.slice (sa i) (sn i) (sc i))
theorem Tks.below {W W' : World} {bt n : Nat} {kd wk wt : Nat → Int} {sa : Nat → Option Addr} {sn sc : Nat → Nat} (h : Tks W bt n kd wk wt sa sn sc) (hb : Below W.heap.size W W') : Tks W' bt n kd wk wt sa sn sc := fun i hi => by
  obtain ⟨a, b, c, d⟩ := h i hi
  exact ⟨(hb.cell (World.block_lt_of_cell? _ _ a)).trans a, (hb.cell (World.block_lt_of_cell? _ _ b)).trans b, (hb.cell (World.block_lt_of_cell? _ _ c)).trans c, (hb.cell (World.block_lt_of_cell? _ _ d)).trans d⟩
def taskV (k w t : Int) (A : Option Addr) (n c : Nat) : Value := .agg #[.int .i64 k, .int .i64 w, .int .i64 t, .slice A n c]

set_option maxHeartbeats 400000 in
theorem ready_any (k w t : Int) (A : Option Addr) (n c : Nat) (W : World) : Calls Try.prog 70 #[taskV k w t A n c] W fun e W' => e = .returned (.bool (decide (k = 0) && decide (t = 0))) ∧ Below W.heap.size W W' := by
  have HB := Lib.hid (show Below W.heap.size W (W.alloc (.cells #[.int .i64 k, .int .i64 w, .int .i64 t, .slice A n c] 127)) from (Below.refl _ W).alloc (Nat.le_refl _) _)
  unfold taskV
  by_cases h1 : k = 0
  · subst h1
    by_cases h2 : t = 0
    · subst h2
      go_enter Try.func70, Try.ntmps70
      go_wp2_with fail
      go_ret
      exact ⟨rfl, HB.out⟩
    · have e2 : (t == 0) = false := beq_eq_false_iff_ne.2 h2
      go_enter Try.func70, Try.ntmps70
      go_wp2_with fail
      go_ret
      exact ⟨by simp [h2], HB.out⟩
  · have e1 : (k == 0) = false := beq_eq_false_iff_ne.2 h1
    go_enter Try.func70, Try.ntmps70
    go_wp2_with fail
    go_ret
    exact ⟨by simp [h1], HB.out⟩
set_option maxHeartbeats 400000 in
theorem had_any (k w t : Int) (A : Option Addr) (n c : Nat) (W : World) : Calls Try.prog 71 #[taskV k w t A n c] W fun e W' => e = .returned (.bool (!decide (w = -1))) ∧ Below W.heap.size W W' := by
  have HB := Lib.hid (show Below W.heap.size W (W.alloc (.cells #[.int .i64 k, .int .i64 w, .int .i64 t, .slice A n c] 127)) from (Below.refl _ W).alloc (Nat.le_refl _) _)
  unfold taskV
  by_cases h1 : w = -1
  · subst h1
    go_enter Try.func71, Try.ntmps71
    go_wp2_with fail
    go_ret
    exact ⟨rfl, HB.out⟩
  · have e1 : (w != -1) = true := by simp [h1]
    go_enter Try.func71, Try.ntmps71
    go_wp2_with fail
    go_ret
    exact ⟨by simp [h1], HB.out⟩

set_option maxHeartbeats 1000000 in
theorem index_task (g : Nat) (p : Int → Int → Int → Bool) (hp : ∀ k w t A n c W, Calls Try.prog g #[taskV k w t A n c] W fun e W' => e = .returned (.bool (p k w t)) ∧ Below W.heap.size W W')
    (eg : ∀ args w, (callFunc g args).run Try.prog w = .ok (.enter g args) w) (bt n c : Nat) (kd wk wt : Nat → Int) (sa : Nat → Option Addr) (sn sc : Nat → Nat) (w : World) (h : Tks w bt n kd wk wt sa sn sc) (hn : n ≤ 9223372036854775807) :
    Calls Try.prog 89 #[.slice (some ⟨bt, 0, none⟩) n c, .func (.func g) #[] #[]] w fun e w' => e = .returned (.int .i64 (idx n fun i => p (kd i) (wk i) (wt i))) ∧ Below w.heap.size w w' := by
  have HH := Lib.hid h
  have HP := Lib.hid hp
  have HX := Lib.hid (show (∀ k, k < n → p (kd k) (wk k) (wt k) = true → (∀ j, j < k → p (kd j) (wk j) (wt j) = false) → idx n (fun i => p (kd i) (wk i) (wt i)) = (k : Int)) from fun k hk h1 h2 => idx_hit hk h1 h2)
  have HY := Lib.hid (show ((∀ j, j < n → p (kd j) (wk j) (wt j) = false) → idx n (fun i => p (kd i) (wk i) (wt i)) = -1) from fun h => idx_miss h)
  obtain ⟨R, hR⟩ : ∃ R, R = idx n (fun i => p (kd i) (wk i) (wt i)) := ⟨_, rfl⟩
  rw [← hR] at HX HY ⊢
  clear h hp hR
  go_enter Try.func89, Try.ntmps89
  go_wp2_with fail
  go_loopw [5, 8] (fun _ i wr => ∃ k : Nat, i = .int .i64 (k : Int) ∧ k ≤ n ∧ (∀ j, j < k → p (kd j) (wk j) (wt j) = false) ∧ Below w.heap.size w wr) (fun _ i _ => n - (intOf i).toNat)
  case atStart => exact ⟨0, rfl, by omega, fun j hj => by omega, Below.refl _ _⟩
  case round =>
    obtain ⟨k, rfl, hk, hno, hbr⟩ := hrel
    have HN := Lib.hid hno
    have HR := Lib.hid hbr
    clear hno hbr
    by_cases hlt : k < n
    · obtain ⟨c0, c1, c2, c3⟩ := (HH.out.below HR.out) k hlt
      have C := HP.out (kd k) (wk k) (wt k) (sa k) (sn k) (sc k) wr
      unfold taskV at C
      have HC := Lib.hid C
      have HK := Lib.hid (HX.out k hlt)
      clear C HX HH HP
      cases hq : p (kd k) (wk k) (wt k) with
      | true =>
        have C := HC.out
        rw [hq] at C
        have HC := Lib.hid C
        have HQ := Lib.hid hq
        clear C hq
        go_wp2_with fail
        refine Calls.mono HC.out ?_
        rintro e w2 ⟨rfl, hb⟩
        have HB := Lib.hid (HR.out.trans (hb.mono HR.out.size))
        clear hb
        go_wp2_with fail
        go_ret
        exact ⟨by rw [HK.out HQ.out HN.out]; rfl, HB.out⟩
      | false =>
        have C := HC.out
        rw [hq] at C
        have HC := Lib.hid C
        have HQ := Lib.hid hq
        clear C hq
        go_wp2_with fail
        refine Calls.mono HC.out ?_
        rintro e w2 ⟨rfl, hb⟩
        have HB := Lib.hid (HR.out.trans (hb.mono HR.out.size))
        clear hb
        go_wp2_with fail
        go_roundw
        case rel =>
          refine ⟨k + 1, by go_num, by omega, fun j hj => ?_, HB.out⟩
          rcases Nat.lt_succ_iff_lt_or_eq.1 hj with h1 | h1
          · exact HN.out j h1
          · rw [h1]; exact HQ.out
        case measure => simp [intOf]; omega
    · obtain rfl : k = n := by omega
      go_wp2_with fail
      go_ret
      exact ⟨by rw [HY.out HN.out]; rfl, HR.out⟩
end Go.Proofs.Ytgdkgoiagjjccaa
