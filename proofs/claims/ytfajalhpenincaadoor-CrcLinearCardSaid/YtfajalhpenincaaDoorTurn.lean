/- The contract of crc.Turn. -/
import Derived.Test.YtfajalhpenincaaDoorNoughts
namespace Go.Proofs.YtfajalhpenincaaDoor
open Go.RowKit

set_option maxHeartbeats 1000000 in
theorem turn_any (s : Nat) (hs : s < 4294967296) (A : Option Addr) (n c : Nat) (ys : List Nat) (z : Int) (hz : z ≤ 9223372036854775807) (w : World) (ha : Bts w A n ys) (hn : n ≤ 9223372036854775807) (hT : Tab w) :
    Calls Tryd.prog 16 #[.int .u32 (s : Int), .slice A n c, .int .i64 z] w fun e w' => e = .returned (.int .u32 ((turnN s ys z.toNat : Nat) : Int)) ∧ Below w.heap.size w w' := by
  have hf := feedL_lt (r := 0) (by decide) ha.2.1
  have C1 := Lib.hid (feed_any 0 (by decide) A n c ys w ha hT hn)
  have C2 := Lib.hid (noughts_any (feedL 0 ys) hf z hz w hT)
  have hq := nl_lt oneN_words 64 z.toNat hf
  have e1 := u32_xor_nat s (nl 64 oneN z.toNat (feedL 0 ys)) hs hq
  have e2 : turnN s ys z.toNat = s ^^^ nl 64 oneN z.toNat (feedL 0 ys) := rfl
  rw [← e2] at e1
  obtain ⟨t, ht⟩ : ∃ t, t = turnN s ys z.toNat := ⟨_, rfl⟩
  rw [← ht] at e1 ⊢
  obtain ⟨q, hqe⟩ : ∃ q, q = nl 64 oneN z.toNat (feedL 0 ys) := ⟨_, rfl⟩
  rw [← hqe] at C2 e1
  obtain ⟨f, hfe⟩ : ∃ f, f = feedL 0 ys := ⟨_, rfl⟩
  rw [← hfe] at C1 C2
  clear hf hq ht hqe hfe e2 ha hT
  go_enter Tryd.func16, Tryd.ntmps16
  go_wp2_with fail
  refine Calls.mono C1.out ?_
  rintro e w9 ⟨rfl, rfl⟩
  go_wp2_with fail
  refine Calls.mono C2.out ?_
  rintro e w9 ⟨rfl, hb9⟩
  go_wp2_with fail
  go_ret
  exact ⟨rfl, hb9⟩
end Go.Proofs.YtfajalhpenincaaDoor
