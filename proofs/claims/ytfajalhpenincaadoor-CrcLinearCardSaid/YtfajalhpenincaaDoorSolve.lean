/- The contract of crc.Solve: the four bytes that bring a check sum to another one. -/
import Derived.Test.YtfajalhpenincaaDoorBack
import Derived.LoopN
namespace Go.Proofs.YtfajalhpenincaaDoor
open Go.RowKit

def word (s t : Nat) : Nat := inv s ^^^ iter ub 32 (inv t)
theorem word_lt {s t : Nat} (hs : s < 4294967296) (ht : t < 4294967296) : word s t < 4294967296 := xor_lt32 (inv_lt hs) (iter_ub_lt (inv_lt ht) 32)
theorem feed_zeros (s : Nat) : feedL s [0, 0, 0, 0] = iter bit 32 s := by
  show feed1 (feed1 (feed1 (feed1 s 0) 0) 0) 0 = _
  rw [feed1_bit, feed1_bit, feed1_bit, feed1_bit, Nat.xor_zero, Nat.xor_zero, Nat.xor_zero, Nat.xor_zero, ← iter_add, ← iter_add, ← iter_add]
theorem feed_four {s b : Nat} (hb : b < 4294967296) : feedL s [xb b 0, xb b 1, xb b 2, xb b 3] = iter bit 32 (s ^^^ b) := by
  have h := feedL_xor s 0 [0, 0, 0, 0] [xb b 0, xb b 1, xb b 2, xb b 3] rfl
  have e : xorL [0, 0, 0, 0] [xb b 0, xb b 1, xb b 2, xb b 3] = [xb b 0, xb b 1, xb b 2, xb b 3] := by simp [xorL]
  rw [Nat.xor_zero, e, feed_zeros, feed_word hb] at h
  rw [h, iter_xor bit_xor]
theorem solved {s t : Nat} (hs : s < 4294967296) (ht : t < 4294967296) : addN s [xb (word s t) 0, xb (word s t) 1, xb (word s t) 2, xb (word s t) 3] = t := by
  unfold addN
  rw [feed_four (word_lt hs ht)]
  unfold word
  rw [← Nat.xor_assoc, Nat.xor_self, Nat.zero_xor, iter_back, inv_inv]

set_option maxHeartbeats 1000000 in
theorem solve_any (s t : Nat) (hs : s < 4294967296) (ht : t < 4294967296) (w : World) :
    Calls Tryd.prog 17 #[.int .u32 (s : Int), .int .u32 (t : Int)] w fun e w' =>
      e = .returned (.agg #[.int .u8 ((xb (word s t) 0 : Nat) : Int), .int .u8 ((xb (word s t) 1 : Nat) : Int), .int .u8 ((xb (word s t) 2 : Nat) : Int), .int .u8 ((xb (word s t) 3 : Nat) : Int)]) ∧ Below w.heap.size w w' := by
  obtain ⟨s', h1⟩ : ∃ x, x = inv s := ⟨_, rfl⟩
  obtain ⟨t', h2⟩ : ∃ x, x = inv t := ⟨_, rfl⟩
  have hs' : s' < 4294967296 := by rw [h1]; exact inv_lt hs
  have ht' : t' < 4294967296 := by rw [h2]; exact inv_lt ht
  have e1 : bits BinOp.xor IntKind.u32 IntKind.u32.max (s : Int) = (s' : Int) := by rw [h1]; exact inv_bits hs
  have e2 : bits BinOp.xor IntKind.u32 IntKind.u32.max (t : Int) = (t' : Int) := by rw [h2]; exact inv_bits ht
  have C := fun w => back_any t' ht' w
  obtain ⟨b, hb⟩ : ∃ x, x = iter ub 32 t' := ⟨_, rfl⟩
  have hb32 : b < 4294967296 := by rw [hb]; exact iter_ub_lt ht' 32
  rw [← hb] at C
  obtain ⟨v, hv⟩ : ∃ x, x = word s t := ⟨_, rfl⟩
  have hv32 : v < 4294967296 := by rw [hv]; exact word_lt hs ht
  have e3 : bits BinOp.xor IntKind.u32 (s' : Int) (b : Int) = (v : Int) := by rw [u32_xor_nat s' b hs' hb32, hv, hb, h1, h2]; rfl
  rw [← hv]
  have k0 : ((xb v 0 : Nat) : Int) = (v : Int) % 256 := by unfold xb; omega
  have k1 : ((xb v 1 : Nat) : Int) = (v : Int) / 256 % 256 := by unfold xb; omega
  have k2 : ((xb v 2 : Nat) : Int) = (v : Int) / 65536 % 256 := by unfold xb; omega
  have k3 : ((xb v 3 : Nat) : Int) = (v : Int) / 16777216 := by unfold xb; omega
  rw [k0, k1, k2, k3]
  have HC := Lib.hid C
  clear C h1 h2 hb hv k0 k1 k2 k3
  go_enter Tryd.func17, Tryd.ntmps17
  go_wp2_with fail
  refine Calls.mono (HC.out _) ?_
  rintro e w' ⟨rfl, rfl⟩
  go_wp2_with fail
  clear e1 e2 e3
  refine wp_loop_rounds 5 ?_
  rw [rounds_succ]
  go_wp2
  rw [rounds_succ]
  go_wp2
  rw [rounds_succ]
  go_wp2
  rw [rounds_succ]
  go_wp2
  rw [rounds_succ]
  go_wp2
  exact bodyPost_ret (v := .agg #[.int .u8 ((v : Int) % 256), .int .u8 ((v : Int) / 256 % 256), .int .u8 ((v : Int) / 65536 % 256), .int .u8 ((v : Int) / 16777216)]) (by simp [results, Tryd.results17, go_sem]) rfl ⟨rfl, ((Below.refl _ _).alloc (Nat.le_refl _) _).alloc (by simp) _⟩
end Go.Proofs.YtfajalhpenincaaDoor
