/- The contracts of crc.feed and crc.Add: what they answer of a register and bytes. -/
import Derived.Test.YtfajalhpenincaaDoorRows
import Derived.Test.YtfajalhpenincaaDoorMath
import Derived.WalkKit
import Derived.WalkLawsBesides
import Derived.WalkSpells
import Derived.Lib.Hide
import Derived.Outline
namespace Go.Proofs.YtfajalhpenincaaDoor
open Go.RowKit

def Tab (w : World) : Prop := ∀ i, i < 16 → w.cell? ⟨0, i, none⟩ = some (.int .u32 ((tabN.getD i 0 : Nat) : Int))

/-- A slice that reads as bytes. -/
def Bts (w : World) (A : Option Addr) (n : Nat) (xs : List Nat) : Prop :=
  xs.length = n ∧ Small xs ∧ (0 < n → ∃ b off, A = some ⟨b, off, none⟩ ∧ ∀ j, j < n → w.cell? ⟨b, off + j, none⟩ = some (.int .u8 ((xs.getD j 0 : Nat) : Int)))

theorem ret_u32 {a b : Nat} (h : a = b) : Ending.returned (.int .u32 (a : Int)) = .returned (.int .u32 (b : Int)) := by rw [h]

set_option maxHeartbeats 400000 in
theorem feed_any (r : Nat) (hr : r < 4294967296) (A : Option Addr) (n c : Nat) (xs : List Nat) (w : World) (hb : Bts w A n xs) (hT : Tab w) (hn : n ≤ 9223372036854775807) :
    Calls Tryd.prog 19 #[.int .u32 (r : Int), .slice A n c] w fun e w' => e = .returned (.int .u32 ((feedL r xs : Nat) : Int)) ∧ w = w' := by
  go_enter Tryd.func19, Tryd.ntmps19
  go_wp2
  go_loop [0, 6, 9] (fun g _ i => ∃ k : Nat, k ≤ n ∧ i = .int .i64 k ∧ g = .int .u32 ((feedL r (xs.take k) : Nat) : Int)) (fun _ _ i => n - (intOf i).toNat)
  case atStart => exact ⟨0, Nat.zero_le _, rfl, rfl⟩
  case round =>
    obtain ⟨k, hk, rfl, rfl⟩ := hrel
    obtain ⟨hl, hx, hc⟩ := hb
    have HL := Lib.hid hl
    clear hl
    by_cases hlt : k < n
    · obtain ⟨b, off, rfl, hc'⟩ := hc (by omega)
      have hck := hc' k hlt
      obtain ⟨x, hxe⟩ : ∃ x, x = xs.getD k 0 := ⟨_, rfl⟩
      have hx256 : x < 256 := by rw [hxe]; exact getD_small hx k
      rw [← hxe] at hck
      obtain ⟨g, hge⟩ : ∃ g, g = feedL r (xs.take k) := ⟨_, rfl⟩
      rw [← hge]
      have hg : g < 4294967296 := by rw [hge]; exact feedL_lt hr (small_take hx k)
      have HX := Lib.hid hxe
      have HG := Lib.hid hge
      clear hxe hge hc' hc hx
      have e1 : bits BinOp.xor IntKind.u32 (g : Int) (x : Int) = ((g ^^^ x : Nat) : Int) := u32_xor_nat g x hg (by omega)
      go_wp2
      go_loop [0, 17] (fun g' i => ∃ j : Nat, j ≤ 2 ∧ i = .int .i64 j ∧ g' = .int .u32 ((iter nib j (g ^^^ x) : Nat) : Int) ∧ iter nib j (g ^^^ x) < 4294967296) (fun _ i => 2 - (intOf i).toNat)
      case atStart => exact ⟨0, Nat.zero_le _, rfl, rfl, xor_lt32 hg (by omega)⟩
      case round =>
        obtain ⟨j, hj, rfl, rfl, hq32⟩ := hrel
        by_cases hlj : j < 2
        · obtain ⟨q, hq⟩ : ∃ q, q = iter nib j (g ^^^ x) := ⟨_, rfl⟩
          rw [← hq] at hq32 ⊢
          have HQ := Lib.hid hq
          clear hq
          obtain ⟨m, hm⟩ : ∃ m, m = q % 16 := ⟨_, rfl⟩
          have hm16 : m < 16 := by omega
          have e2 : bits BinOp.and IntKind.u32 (q : Int) 15 = (m : Int) := by
            have h := u32_and_nat q 15 hq32 (by omega)
            rw [nat_mask4, ← hm] at h
            exact h
          have hcm := hT m hm16
          obtain ⟨t, ht⟩ : ∃ t, t = tabN.getD m 0 := ⟨_, rfl⟩
          have ht32 : t < 4294967296 := by rw [ht]; exact tab_lt m
          rw [← ht] at hcm
          have e3 : bits BinOp.xor IntKind.u32 (t : Int) ((q : Int) / 16) = ((t ^^^ (q / 16) : Nat) : Int) := by
            have h := u32_xor_nat t (q / 16) ht32 (by omega)
            simpa using h
          have HM := Lib.hid hm
          have HT := Lib.hid ht
          have hq33 := nib_lt hq32
          clear hm ht ht32
          go_wp2
          go_round
          case rel =>
            have en : t ^^^ q / 16 = iter nib (j + 1) (g ^^^ x) := by
              show _ = nib (iter nib j (g ^^^ x))
              rw [← HQ.out, nib, ← HM.out, ← HT.out]
            refine ⟨j + 1, by omega, by go_num, by rw [en], ?_⟩
            show nib (iter nib j (g ^^^ x)) < _
            rw [← HQ.out]; exact hq33
          case measure => simp [intOf]; omega
        · obtain rfl : j = 2 := by omega
          have e4 : iter nib 2 (g ^^^ x) = feedL r (xs.take (k + 1)) := by
            rw [feedL_snoc r xs k (by rw [HL.out]; exact hlt), ← HG.out, ← HX.out]; rfl
          rw [e4] at hq32 ⊢
          clear e1
          go_wp2
          go_round
          case rel => exact ⟨k + 1, by omega, by go_num, rfl⟩
          case measure => simp [intOf]; omega
    · go_wp2
      go_ret
      exact ⟨ret_u32 (by rw [List.take_of_length_le (by rw [HL.out]; omega)]), rfl⟩
end Go.Proofs.YtfajalhpenincaaDoor
