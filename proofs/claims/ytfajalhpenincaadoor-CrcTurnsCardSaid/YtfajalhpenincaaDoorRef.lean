/- The contracts of the document's answer: over, Add, Sum; they come to what crc.Add comes to. -/
import Derived.Test.YtfajalhpenincaaDoorBits
import Derived.Test.YtfajalhpenincaaDoorApp
namespace Go.Proofs.YtfajalhpenincaaDoor
open Go.RowKit

set_option maxHeartbeats 400000 in
theorem over_any (r : Nat) (hr : r < 4294967296) (m : Nat) (hm : m ≤ 1000) (w : World) :
    Calls Tryd.prog 20 #[.int .u32 (r : Int), .int .i64 (m : Int)] w fun e w' => e = .returned (.int .u32 ((iter bit m r : Nat) : Int)) ∧ w = w' := by
  go_enter Tryd.func20, Tryd.ntmps20
  go_wp2
  go_loop [0, 5] (fun g i => ∃ k : Nat, k ≤ m ∧ i = .int .i64 k ∧ g = .int .u32 ((iter bit k r : Nat) : Int) ∧ iter bit k r < 4294967296) (fun _ i => m - (intOf i).toNat)
  case atStart => exact ⟨0, Nat.zero_le _, rfl, rfl, hr⟩
  case round =>
    obtain ⟨k, hk, rfl, rfl, hg⟩ := hrel
    by_cases hlt : k < m
    · obtain ⟨g, hge⟩ : ∃ g, g = iter bit k r := ⟨_, rfl⟩
      rw [← hge] at hg ⊢
      have hn : bit g = iter bit (k + 1) r := by rw [hge]; rfl
      have hb := bit_lt hg
      have HN := Lib.hid hn
      have HG := Lib.hid hge
      clear hn hge
      by_cases hodd : g % 2 = 1
      · have e1 : (((g : Int) % 2) == 1) = true := by rw [beq_iff_eq]; omega
        have e2 : bits BinOp.xor IntKind.u32 ((g : Int) / 2) 3988292384 = ((bit g : Nat) : Int) := by
          have h := u32_xor_nat (g / 2) poly (by omega) poly_lt
          unfold bit
          rw [if_pos hodd, ← h]
          congr 1
        clear hodd hb
        go_wp2
        go_round
        case rel => exact ⟨k + 1, by omega, by go_num, by rw [HN.out], by rw [← HN.out]; exact bit_lt hg⟩
        case measure => simp [intOf]; omega
      · have e1 : (((g : Int) % 2) == 1) = false := by rw [beq_eq_false_iff_ne]; omega
        have e2 : bit g = g / 2 := by unfold bit; rw [if_neg hodd]
        have HE := Lib.hid e2
        clear hodd hb e2
        go_wp2
        go_round
        case rel => exact ⟨k + 1, by omega, by go_num, by rw [← HN.out, HE.out]; go_num, by rw [← HN.out]; exact bit_lt hg⟩
        case measure => simp [intOf]; omega
    · obtain rfl : k = m := by omega
      go_wp2
      go_ret
      exact ⟨rfl, rfl⟩

theorem inv_sub {s : Nat} (h : s < 4294967296) : inv s = 4294967295 - s := by
  have e := congrArg BitVec.toNat (BitVec.not_def (x := BitVec.ofNat 32 s))
  rw [BitVec.toNat_xor, BitVec.toNat_not, BitVec.toNat_allOnes, BitVec.toNat_ofNat, Nat.mod_eq_of_lt (by omega)] at e
  rw [inv_eq]
  exact e.symm

set_option maxHeartbeats 400000 in
theorem radd_any (s : Nat) (hs : s < 4294967296) (A : Option Addr) (n c : Nat) (xs : List Nat) (w : World) (hb : Bts w A n xs) (hn : n ≤ 9223372036854775807) :
    Calls Tryd.prog 14 #[.int .u32 (s : Int), .slice A n c] w fun e w' => e = .returned (.int .u32 ((addN s xs : Nat) : Int)) ∧ w = w' := by
  have hinv := inv_sub hs
  have hi32 := inv_lt hs
  have e0 : (4294967295 : Int) - (s : Int) = ((inv s : Nat) : Int) := by omega
  obtain ⟨s', hs'⟩ : ∃ x, x = inv s := ⟨_, rfl⟩
  rw [← hs'] at e0 hi32
  have HS := Lib.hid hs'
  clear hinv hs'
  go_enter Tryd.func14, Tryd.ntmps14
  go_wp2_with fail
  clear e0
  go_loop [5, 6] (fun g i => ∃ k : Nat, k ≤ n ∧ i = .int .i64 k ∧ g = .int .u32 ((feedL s' (xs.take k) : Nat) : Int)) (fun _ i => n - (intOf i).toNat)
  case atStart => exact ⟨0, Nat.zero_le _, rfl, rfl⟩
  case round =>
    obtain ⟨k, hk, rfl, rfl⟩ := hrel
    obtain ⟨hl, hx, hc⟩ := hb
    have HL := Lib.hid hl
    clear hl
    by_cases hlt : k < n
    · obtain ⟨b, off, rfl, hc'⟩ := hc (by omega)
      have hck := hc' k hlt
      obtain ⟨x, hxe⟩ : ∃ x, x = xs.getD k 0 := ⟨_, rfl⟩
      have hx256 : x < 256 := by rw [hxe]; exact getD_small hx k
      rw [← hxe] at hck
      obtain ⟨g, hge⟩ : ∃ g, g = feedL s' (xs.take k) := ⟨_, rfl⟩
      rw [← hge]
      have hg : g < 4294967296 := by rw [hge]; exact feedL_lt hi32 (small_take hx k)
      obtain ⟨y, hy⟩ : ∃ y, y = g ^^^ x := ⟨_, rfl⟩
      have hy32 : y < 4294967296 := by rw [hy]; exact xor_lt32 hg (by omega)
      have e1 : bits BinOp.xor IntKind.u32 (g : Int) (x : Int) = (y : Int) := by rw [hy]; exact u32_xor_nat g x hg (by omega)
      obtain ⟨z, hz⟩ : ∃ z, z = iter bit 8 y := ⟨_, rfl⟩
      have hzf : z = feedL s' (xs.take (k + 1)) := by
        rw [feedL_snoc s' xs k (by rw [HL.out]; exact hlt), ← hge, ← hxe, feed1_bit, ← hy, hz]
      have C : Calls Tryd.prog 20 #[.int .u32 (y : Int), .int .i64 8] w fun e w' => e = .returned (.int .u32 (z : Int)) ∧ w = w' := by
        rw [hz]; exact over_any y hy32 8 (by omega) w
      have HC := Lib.hid C
      have HZ := Lib.hid hzf
      clear hxe hge hc' hc hx C hzf hz hy
      go_wp2_with fail
      refine Calls.mono HC.out ?_
      rintro e w' ⟨rfl, rfl⟩
      clear e1
      go_wp2_with fail
      go_round
      case rel => exact ⟨k + 1, by omega, by go_num, by rw [HZ.out]⟩
      case measure => simp [intOf]; omega
    · have hfl : feedL s' (xs.take k) = feedL s' xs := by rw [List.take_of_length_le (by rw [HL.out]; omega)]
      rw [hfl]
      obtain ⟨g, hge⟩ : ∃ g, g = feedL s' xs := ⟨_, rfl⟩
      have hg : g < 4294967296 := by rw [hge]; exact feedL_lt hi32 hx
      rw [← hge]
      have hinv := inv_sub hg
      have e2 : addN s xs = 4294967295 - g := by unfold addN; rw [← HS.out, ← hge, hinv]
      have HE := Lib.hid e2
      clear hfl hge hinv e2
      go_wp2_with fail
      go_ret
      refine ⟨?_, rfl⟩
      rw [HE.out]
      exact congrArg (fun z : Int => Ending.returned (.int .u32 z)) (by omega)

set_option maxHeartbeats 400000 in
theorem rsum_any (A : Option Addr) (n c : Nat) (xs : List Nat) (w : World) (hb : Bts w A n xs) (hn : n ≤ 9223372036854775807) :
    Calls Tryd.prog 11 #[.slice A n c] w fun e w' => e = .returned (.int .u32 ((addN 0 xs : Nat) : Int)) ∧ w = w' := by
  have HC : Hid (Calls Tryd.prog 14 #[.int .u32 0, .slice A n c] w fun e w' => e = .returned (.int .u32 ((addN 0 xs : Nat) : Int)) ∧ w = w') :=
    Lib.hid (radd_any 0 (by decide) A n c xs w hb hn)
  go_enter Tryd.func11, Tryd.ntmps11
  go_wp2_with fail
  refine Calls.mono HC.out ?_
  rintro e w' ⟨rfl, rfl⟩
  go_wp2_with fail
  go_ret
  exact ⟨rfl, rfl⟩
end Go.Proofs.YtfajalhpenincaaDoor
