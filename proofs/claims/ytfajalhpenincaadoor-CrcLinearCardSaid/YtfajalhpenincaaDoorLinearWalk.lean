/- CrcLinear answers true of whatever sum, rows and number. -/
import Derived.Test.YtfajalhpenincaaDoorTurn
import Derived.Test.YtfajalhpenincaaDoorTurnMath
import Derived.Test.YtfajalhpenincaaDoorFindsWalk
namespace Go.Proofs.YtfajalhpenincaaDoor
open Go.RowKit

theorem turnN_lt {s : Nat} (hs : s < 4294967296) {ys : List Nat} (hy : Small ys) (b : Nat) : turnN s ys b < 4294967296 :=
  xor_lt32 hs (nl_lt oneN_words 64 b (feedL_lt (by decide) hy))
theorem turnN_zeros (s n b : Nat) : turnN s (List.replicate n 0) b = s := by
  unfold turnN
  rw [feed_zero0, nl_zero, Nat.xor_zero]
theorem turnN_twice (s : Nat) (xs : List Nat) (b : Nat) : turnN (turnN s xs b) xs b = s := by
  unfold turnN
  rw [Nat.xor_assoc, Nat.xor_self, Nat.xor_zero]
theorem turnN_both (s : Nat) (xs ys : List Nat) (b : Nat) (h : xs.length = ys.length) : turnN (turnN s xs b) ys b = turnN s (xorL xs ys) b := by
  have h1 := feedL_xor 0 0 xs ys h
  rw [Nat.xor_self] at h1
  unfold turnN
  rw [h1, nl_xor, Nat.xor_assoc]
theorem Bts.take {w : World} {A : Option Addr} {n : Nat} {xs : List Nat} (h : Bts w A n xs) (k : Nat) (hk : k ≤ n) : Bts w A k (xs.take k) := by
  obtain ⟨h1, h2, h3⟩ := h
  refine ⟨by simp; omega, small_take h2 k, fun h0 => ?_⟩
  obtain ⟨b, off, e, hc⟩ := h3 (by omega)
  refine ⟨b, off, e, fun j hj => ?_⟩
  rw [hc j (by omega)]
  simp [List.getD_eq_getElem?_getD, hj]
theorem xorL_snoc (xs ys : List Nat) (k : Nat) (h1 : k < xs.length) (h2 : k < ys.length) : xorL (xs.take (k + 1)) (ys.take (k + 1)) = xorL (xs.take k) (ys.take k) ++ [xs.getD k 0 ^^^ ys.getD k 0] := by
  rw [take_succ_getD xs k h1, take_succ_getD ys k h2, xorL_append _ _ _ _ (by simp; omega)]
  rfl
theorem small_one {q : Nat} (h : q < 256) : Small [q] := by intro x hx; simp at hx; subst hx; exact h
theorem bts_one (w : World) (q : Nat) (h : q < 256) : Bts (w.alloc (.cells #[.int .u8 (q : Int)] 5)) (some ⟨w.heap.size, 0, none⟩) 1 [q] :=
  bts_at w [q] 5 (0, 0) _ w.heap.size 1 rfl rfl rfl (small_one h)
theorem vals_zeros (n : Nat) : (madeCells (Value.int .u8 0).cells (n * 1)).toList = vals (List.replicate n 0) := by
  have hc : (Value.int .u8 0).cells = #[Value.int .u8 0] := rfl
  rw [hc, Nat.mul_one]
  apply List.ext_getElem
  · simp [madeCells, vals]
  · intro i h1 h2
    simp [madeCells, vals, Nat.mod_one]
theorem small_zeros (n : Nat) : Small (List.replicate n 0) := by
  intro x hx
  obtain ⟨_, rfl⟩ := List.mem_replicate.1 hx
  decide

set_option maxHeartbeats 1000000 in
theorem linear_any (s : Nat) (hs : s < 4294967296) (A : Option Addr) (n c : Nat) (xs : List Nat) (A2 : Option Addr) (n2 c2 : Nat) (zs : List Nat) (z : Int) (w : World)
    (ha : Bts w A n xs) (hnil : A = none → c = 0) (hb : Bts w A2 n2 zs) (hnil2 : A2 = none → c2 = 0) (hc2 : n2 ≤ c2) (hz : z ≤ 9223372036854775807) (hT : Tab w) (hn : n ≤ 9223372036854775807) :
    Calls Tryd.prog 18 #[.int .u32 (s : Int), .slice A n c, .slice A2 n2 c2, .int .i64 z] w fun e w' => e = .returned (.bool true) ∧ Below w.heap.size w w' := by
  have HA := Lib.hid (alive_any w hT)
  by_cases h1 : 2000 < n
  · go_enter Tryd.func18, Tryd.ntmps18
    go_wp2_with fail
    refine Calls.mono HA.out ?_
    rintro e w1 ⟨rfl, hb1⟩
    go_wp2_with fail
    go_ret
    exact ⟨rfl, hb1⟩
  by_cases h2 : n2 < n
  · go_enter Tryd.func18, Tryd.ntmps18
    go_wp2_with fail
    refine Calls.mono HA.out ?_
    rintro e w1 ⟨rfl, hb1⟩
    go_wp2_with fail
    go_ret
    exact ⟨rfl, hb1⟩
  have hla := ha.1
  have hlb := hb.1
  have hsx := ha.2.1
  have hsy := hb.2.1
  have HLA := Lib.hid hla
  have HLB := Lib.hid hlb
  clear hla hlb
  go_enter Tryd.func18, Tryd.ntmps18
  go_wp2_with fail
  refine Calls.mono HA.out ?_
  rintro e w1 ⟨rfl, hb1⟩
  have hsz1 := hb1.size
  go_wp2_with fail
  have hown0 : Own (w1.alloc (.cells #[] 5)) w.heap.size (.slice (some ⟨w1.heap.size, 0, none⟩) 0 0) [] := ⟨rfl, .inr ⟨_, _, _, rfl, hsz1, heap_alloc_new w1 _, Nat.le_refl _, by unfold maxLen; omega, rfl, rfl⟩⟩
  have hbw2 : Below w.heap.size w (w1.alloc (.cells #[] 5)) := hb1.alloc hsz1 _
  have hbt := hb.take n (by omega)
  obtain ⟨ys, hys⟩ : ∃ ys, ys = zs.take n := ⟨_, rfl⟩
  rw [← hys] at hbt
  have hsz := hbt.2.1
  have hlz := hbt.1
  have HLZ := Lib.hid hlz
  clear hb hsy hys hb1 hlz
  go_loopw [9, 10, 11, 32] (fun v _ _ i wr => ∃ k : Nat, k ≤ n ∧ i = .int .i64 k ∧ Own wr w.heap.size v (xorL (xs.take k) (ys.take k)) ∧ Below w.heap.size w wr) (fun _ _ _ i _ => n - (intOf i).toNat)
  case atStart => exact ⟨0, by omega, rfl, hown0, hbw2⟩
  case round =>
    obtain ⟨k, hk, rfl, hown, hbr⟩ := hrel
    clear hown0 hbw2
    have hsr := hbr.size
    by_cases hlt : k < n
    · obtain ⟨b1, off1, hA, hcx⟩ := (ha.ext (stays_below hbr)).2.2 (by omega)
      obtain ⟨b2, off2, hA2, hcy⟩ := (hbt.ext (stays_below hbr)).2.2 (by omega)
      subst hA hA2
      have hcxk := hcx k hlt
      have hcyk := hcy k hlt
      have hx8 : xs.getD k 0 < 256 := getD_small hsx k
      have hy8 : ys.getD k 0 < 256 := getD_small hsz k
      have hnext := xorL_snoc xs ys k (by rw [HLA.out]; exact hlt) (by rw [HLZ.out]; exact hlt)
      obtain ⟨x, hx⟩ : ∃ x, x = xs.getD k 0 := ⟨_, rfl⟩
      obtain ⟨y, hy⟩ : ∃ y, y = ys.getD k 0 := ⟨_, rfl⟩
      rw [← hx] at hcxk hx8 hnext
      rw [← hy] at hcyk hy8 hnext
      obtain ⟨q, hq⟩ : ∃ q, q = x ^^^ y := ⟨_, rfl⟩
      have hq8 : q < 256 := by rw [hq]; exact Nat.xor_lt_two_pow (n := 8) hx8 hy8
      have e5 : bits BinOp.xor IntKind.u8 (x : Int) (y : Int) = (q : Int) := by
        rw [hq]; exact u8_xor_nat x y hx8 hy8
      rw [← hq] at hnext
      have hlx : (xorL (xs.take k) (ys.take k)).length = k := by rw [xorL_length _ _ (by simp [HLA.out, HLZ.out])]; simp [HLA.out]; omega
      have HLX := Lib.hid hlx
      have HNX := Lib.hid hnext
      have hbr1 := hbr.alloc hsr (.cells #[.int .u8 (q : Int)] 5)
      have HO := Lib.hid (hown.alloc (.cells #[.int .u8 (q : Int)] 5))
      clear hx hy hq hcx hcy hnext hlx hown ha hbt hT HA
      go_wp2_with (at_builtin; refine wpList_append_bts rfl (.tmp 37) (.tmp 44) rfl w.heap.size _ _ rfl HO.out _ 1 1 [q] rfl (bts_one wr q hq8) (fun h => by cases h) (by rw [HLX.out]; omega) hbr1.size ?_; intro v3 w3 hown3 hb3)
      rw [← HNX.out] at hown3
      have hbw3 := hbr1.trans hb3
      clear hb3 HO hbr1 hbr
      go_roundw
      case rel => exact ⟨k + 1, by omega, by go_num, hown3, hbw3⟩
      case measure => simp [intOf]; omega
    · obtain rfl : k = n := by omega
      rw [List.take_of_length_le (by rw [HLA.out]; omega), List.take_of_length_le (by rw [HLZ.out]; omega)] at hown
      obtain ⟨i0, hi, hz0, hz1, hz2⟩ := info_parts u8_info
      have hlb : (xorL xs ys).length = k := by rw [xorL_length _ _ (by rw [HLA.out, HLZ.out])]; exact HLA.out
      obtain ⟨A4, c4, rfl, hb4, _⟩ := hown.bts (xorL_small xs ys hsx hsz)
      rw [hlb]
      rw [hlb] at hb4
      have hall : ∀ W, Below wr.heap.size wr W → Bts W A k xs ∧ Bts W A2 k ys ∧ Bts W A4 k (xorL xs ys) ∧ Tab W := fun W h =>
        ⟨(ha.ext (stays_below hbr)).ext (stays_below h), (hbt.ext (stays_below hbr)).ext (stays_below h), hb4.ext (stays_below h), (hT.ext (stays_below hbr)).ext (stays_below h)⟩
      have r0 := hall wr (Below.refl _ _)
      have C1 := turn_any s hs A k c xs z hz wr r0.1 hn r0.2.2.2
      obtain ⟨t, ht⟩ : ∃ t, t = turnN s xs z.toNat := ⟨_, rfl⟩
      rw [← ht] at C1
      have ht32 : t < 4294967296 := by rw [ht]; exact turnN_lt hs hsx _
      have b1 := turnN_twice s xs z.toNat
      have b2 := turnN_both s xs ys z.toNat (by rw [HLA.out, HLZ.out])
      rw [← ht] at b1 b2
      obtain ⟨v, hv⟩ : ∃ v, v = turnN t ys z.toNat := ⟨_, rfl⟩
      rw [← hv] at b2
      have D1 := Lib.hid C1
      have B1 := Lib.hid b1
      have B2 := Lib.hid b2
      have HV := Lib.hid hv
      have HALL := Lib.hid hall
      clear C1 b1 b2 hv hall r0 ha hbt hb4 hT hown ht hlb HA
      go_wp2_with fail
      refine Calls.mono D1.out ?_
      rintro e w3 ⟨rfl, hb3⟩
      have hs3 := hb3.size
      clear D1
      go_wp2_with (at_make; refine wpList_make_full w3 rfl _ _ 22 rfl wr.heap.size 5 i0 (.int .u8 0) 1 Tryd.underlying22 hi hz0 hz1 .i64 .i64 (k : Int) (k : Int) k rfl rfl rfl rfl (by rw [hz2]; omega) (by unfold maxLen; omega) hs3 ?_; intro w4 hown4 hg4; have hb4 : Below wr.heap.size wr w4 := hb3.grown hg4 hs3 (fun k hk => by cases hk))
      rw [vals_zeros] at hown4
      obtain ⟨A5, c5, hv5, hb5, _⟩ := (own_of_row' hown4 (by simp)).bts (small_zeros k)
      rw [List.length_replicate] at hv5 hb5
      have C2 := turn_any s hs A5 k c5 (List.replicate k 0) z hz w4 hb5 hn (HALL.out w4 hb4).2.2.2
      rw [turnN_zeros, ← hv5] at C2
      have D2 := Lib.hid C2
      clear C2 hown4 hg4 hb3 hs3 hb5 hv5
      refine Calls.mono D2.out ?_
      rintro e w5 ⟨rfl, hb5⟩
      have hb5' := hb4.trans (hb5.mono hb4.size)
      have C3 := turn_any t ht32 A k c xs z hz w5 (HALL.out w5 hb5').1 hn (HALL.out w5 hb5').2.2.2
      rw [B1.out] at C3
      have D3 := Lib.hid C3
      clear C3 D2 hb4 hb5
      go_wp2_with fail
      refine Calls.mono D3.out ?_
      rintro e w6 ⟨rfl, hb6⟩
      have hb6' := hb5'.trans (hb6.mono hb5'.size)
      have C4 := turn_any t ht32 A2 k c2 ys z hz w6 (HALL.out w6 hb6').2.1 hn (HALL.out w6 hb6').2.2.2
      rw [← HV.out] at C4
      have D4 := Lib.hid C4
      clear C4 D3 hb6 hb5'
      go_wp2_with fail
      refine Calls.mono D4.out ?_
      rintro e w7 ⟨rfl, hb7⟩
      have hb7' := hb6'.trans (hb7.mono hb6'.size)
      have C5 := turn_any s hs A4 k c4 (xorL xs ys) z hz w7 (HALL.out w7 hb7').2.2.1 hn (HALL.out w7 hb7').2.2.2
      rw [← B2.out] at C5
      have D5 := Lib.hid C5
      clear C5 D4 hb7 hb6'
      go_wp2_with fail
      refine Calls.mono D5.out ?_
      rintro e w8 ⟨rfl, hb8⟩
      have hb8' := hbr.trans ((hb7'.trans (hb8.mono hb7'.size)).mono hsr)
      clear D5 hb8 hb7'
      go_wp2_with fail
      go_ret
      exact ⟨rfl, hb8'⟩
end Go.Proofs.YtfajalhpenincaaDoor
