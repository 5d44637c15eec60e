/- The contracts of the reference's at, less. -/
import Derived.Test.YtfajalhpenincaaBigRow
namespace Go.Proofs.Ytfajalhpenincaa
open Go.RowKit

set_option maxHeartbeats 400000 in
theorem at_any (A : Option Addr) (n c : Nat) (ds : List Nat) (i : Nat) (w : World) (h : Dg w A n ds) (hi : i ≤ 9223372036854775807) (hn : n ≤ 9223372036854775807) :
    Calls Try.prog 43 #[.slice A n c, .int .i64 (i : Int)] w fun e w' => e = .returned (.int .i64 ((ds.getD i 0 : Nat) : Int)) ∧ w = w' := by
  obtain ⟨hl, _, hc⟩ := h
  by_cases hlt : i < n
  · obtain ⟨b, off, rfl, hcc⟩ := hc (by omega)
    have hcell := hcc i hlt
    obtain ⟨x, hx⟩ : ∃ x, x = ds.getD i 0 := ⟨_, rfl⟩
    rw [← hx] at hcell ⊢
    clear hcc hc hl hx
    go_enter Try.func43, Try.ntmps43
    go_wp2_with fail
    go_ret
    exact ⟨rfl, rfl⟩
  · have hx : ds.getD i 0 = 0 := by rw [List.getD_eq_getElem?_getD, List.getElem?_eq_none (by omega)]; rfl
    rw [hx]
    clear hc hl hx
    go_enter Try.func43, Try.ntmps43
    go_wp2_with fail
    go_ret
    exact ⟨rfl, rfl⟩

theorem ret_bool {a b : Bool} (h : a = b) : Ending.returned (.bool a) = .returned (.bool b) := by rw [h]

set_option maxHeartbeats 1000000 in
theorem less_any (A : Option Addr) (n c : Nat) (xs : List Nat) (A2 : Option Addr) (n2 c2 : Nat) (ys : List Nat) (w : World) (ha : Dg w A n xs) (hb : Dg w A2 n2 ys) (hn : n ≤ 1000000) (hn2 : n2 ≤ 1000000) :
    Calls Try.prog 35 #[.slice A n c, .slice A2 n2 c2] w fun e w' => e = .returned (.bool (decide (val xs < val ys))) ∧ w = w' := by
  have hfx := ha.2.1
  have hfy := hb.2.1
  have hlx := ha.1
  have hly := hb.1
  have C1 := Lib.hid (fun i (hi : i ≤ 9223372036854775807) => at_any A n c xs i w ha hi (by omega))
  have C2 := Lib.hid (fun i (hi : i ≤ 9223372036854775807) => at_any A2 n2 c2 ys i w hb hi (by omega))
  obtain ⟨X, hX⟩ : ∃ X, X = val xs := ⟨_, rfl⟩
  obtain ⟨Y, hY⟩ : ∃ Y, Y = val ys := ⟨_, rfl⟩
  have hdx := fun k => val_div hfx k
  have hdy := fun k => val_div hfy k
  have htx := fun k hk => val_top hfx k (by rw [hlx]; exact hk)
  have hty := fun k hk => val_top hfy k (by rw [hly]; exact hk)
  rw [← hX] at hdx htx ⊢
  rw [← hY] at hdy hty ⊢
  have HDX := Lib.hid hdx
  have HDY := Lib.hid hdy
  have h0 : X / 10 ^ (n + n2 + 1) = Y / 10 ^ (n + n2 + 1) := by rw [htx _ (by omega), hty _ (by omega)]
  have H0 := Lib.hid h0
  clear hdx hdy htx hty hX hY ha hb hfx hfy hlx hly h0
  go_enter Try.func35, Try.ntmps35
  go_wp2_with fail
  go_loop [5] (fun i => ∃ q : Int, i = .int .i64 q ∧ -1 ≤ q ∧ q ≤ n + n2 ∧ X / 10 ^ (q + 1).toNat = Y / 10 ^ (q + 1).toNat) (fun i => (intOf i + 1).toNat)
  case atStart => exact ⟨(n : Int) + n2, rfl, by omega, by omega, H0.out⟩
  case round =>
    obtain ⟨q, rfl, hq1, hq2, heq⟩ := hrel
    by_cases hneg : q < 0
    · obtain rfl : q = -1 := by omega
      have hXY : ¬ X < Y := by
        simp at heq
        omega
      have e1 : decide (X < Y) = false := decide_eq_false hXY
      have E1 := Lib.hid e1
      clear heq H0 e1 hXY
      go_wp2_with fail
      go_ret
      exact ⟨ret_bool E1.out.symm, rfl⟩
    · obtain ⟨k, rfl⟩ := Int.eq_ofNat_of_zero_le (Int.not_lt.1 hneg)
      have e2 : ((k : Int) + 1).toNat = k + 1 := by omega
      rw [e2] at heq
      have hx := HDX.out k
      have hy := HDY.out k
      have D1 := Lib.hid (C1.out k (by omega))
      have D2 := Lib.hid (C2.out k (by omega))
      obtain ⟨x, hxe⟩ : ∃ x, x = xs.getD k 0 := ⟨_, rfl⟩
      obtain ⟨y, hye⟩ : ∃ y, y = ys.getD k 0 := ⟨_, rfl⟩
      rw [← hxe] at hx D1
      rw [← hye] at hy D2
      have HX := Lib.hid hx
      have HY := Lib.hid hy
      have HEQ := Lib.hid heq
      clear hx hy hxe hye heq H0 e2
      by_cases hxy : x = y
      · subst hxy
        go_wp2_with fail
        refine Calls.mono D1.out ?_
        rintro e w9 ⟨rfl, rfl⟩
        go_wp2_with fail
        refine Calls.mono D2.out ?_
        rintro e w9 ⟨rfl, rfl⟩
        go_wp2_with fail
        go_round
        case rel =>
          refine ⟨(k : Int) - 1, by go_num, by omega, by omega, ?_⟩
          have e3 : ((k : Int) - 1 + 1).toNat = k := by omega
          rw [e3, HX.out, HY.out, HEQ.out]
        case measure => simp [intOf]
      · have e4 : ((x : Int) != (y : Int)) = true := by rw [bne_iff_ne]; omega
        have e5 : decide (x < y) = decide (X < Y) := by
          have h1 := HX.out
          have h2 := HY.out
          rw [← HEQ.out] at h2
          rw [decide_eq_decide]
          constructor
          · intro h
            exact less_step (P := 10 ^ k) (by omega)
          · intro h
            have := Nat.div_le_div_right (c := 10 ^ k) (Nat.le_of_lt h)
            omega
        have E5 := Lib.hid e5
        clear e5
        go_wp2_with fail
        refine Calls.mono D1.out ?_
        rintro e w9 ⟨rfl, rfl⟩
        go_wp2_with fail
        refine Calls.mono D2.out ?_
        rintro e w9 ⟨rfl, rfl⟩
        go_wp2_with fail
        refine Calls.mono D1.out ?_
        rintro e w9 ⟨rfl, rfl⟩
        go_wp2_with fail
        refine Calls.mono D2.out ?_
        rintro e w9 ⟨rfl, rfl⟩
        go_wp2_with fail
        go_ret
        exact ⟨ret_bool E5.out, rfl⟩
end Go.Proofs.Ytfajalhpenincaa
