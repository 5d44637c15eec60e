/- The contract of linear.of: what the 32 columns make of a register. -/
import Derived.Test.YtfajalhpenincaaDoorSolve
import Derived.Test.YtfajalhpenincaaDoorLinMath
namespace Go.Proofs.YtfajalhpenincaaDoor
open Go.RowKit

def cols (m : List Nat) : Array Value := (m.map fun (x : Nat) => Value.int .u32 (x : Int)).toArray
theorem cols_size (m : List Nat) : (cols m).size = m.length := by simp [cols]
theorem cols_at (m : List Nat) (k : Nat) (h : k < m.length) : (cols m)[k]? = some (.int .u32 ((m.getD k 0 : Nat) : Int)) := by
  simp [cols, h, List.getD_eq_getElem?_getD]
theorem cols_cell (w : World) (m : List Nat) (t : TypeId) (k : Nat) (h : k < m.length) : (w.alloc (.cells (cols m) t)).cell? ⟨w.heap.size, k, none⟩ = some (.int .u32 ((m.getD k 0 : Nat) : Int)) := by
  exact (World.cell?_alloc_new _ _ _ _).trans (cols_at m k h)

set_option maxHeartbeats 1000000 in
theorem of_any (m : List Nat) (hl : m.length = 32) (hm : Words m) (r : Nat) (hr : r < 4294967296) (w : World) :
    Calls Tryd.prog 24 #[.agg (cols m), .int .u32 (r : Int)] w fun e w' => e = .returned (.int .u32 ((ofL m r : Nat) : Int)) ∧ Below w.heap.size w w' := by
  go_enter Tryd.func24, Tryd.ntmps24
  go_wp2
  have hc : ∀ k, k < 32 → (w.alloc (.cells (cols m) 48)).cell? ⟨w.heap.size, k, none⟩ = some (.int .u32 ((m.getD k 0 : Nat) : Int)) := fun k hk => cols_cell w m 48 k (by omega)
  have HC := Lib.hid hc
  clear hc
  go_loop [5, 6, 7] (fun g _ i => ∃ k : Nat, k ≤ 32 ∧ i = .int .i64 k ∧ g = .int .u32 ((ofK m r k : Nat) : Int)) (fun _ _ i => 32 - (intOf i).toNat)
  case atStart => exact ⟨0, Nat.zero_le _, rfl, rfl⟩
  case round =>
    obtain ⟨k, hk, rfl, rfl⟩ := hrel
    obtain ⟨g, hge⟩ : ∃ g, g = ofK m r k := ⟨_, rfl⟩
    have hg : g < 4294967296 := by rw [hge]; exact ofK_lt hm r k
    have hn : ofK m r (k + 1) = if r / 2 ^ k % 2 = 1 then g ^^^ m.getD k 0 else g := by rw [hge]; rfl
    rw [← hge]
    have hx32 := getD_words hm k
    obtain ⟨x, hxe⟩ : ∃ x, x = m.getD k 0 := ⟨_, rfl⟩
    rw [← hxe] at hn hx32
    by_cases hlt : k < 32
    · have hck := HC.out k hlt
      rw [← hxe] at hck
      obtain ⟨q, hq⟩ : ∃ q, q = r / 2 ^ k := ⟨_, rfl⟩
      have e0 : (r : Int) / 2 ^ k = (q : Int) := by rw [hq]; simp
      rw [← hq] at hn
      have hq32 : q < 4294967296 := by rw [hq]; exact Nat.lt_of_le_of_lt (Nat.div_le_self _ _) hr
      have e1 : bits BinOp.and IntKind.u32 (q : Int) 1 = ((q % 2 : Nat) : Int) := by
        have h := u32_and_nat q 1 hq32 (by decide)
        rw [Nat.and_one_is_mod] at h
        exact h
      obtain ⟨p, hp⟩ : ∃ p, p = q % 2 := ⟨_, rfl⟩
      rw [← hp] at e1 hn
      have e2 : bits BinOp.xor IntKind.u32 (g : Int) (x : Int) = ((g ^^^ x : Nat) : Int) := u32_xor_nat g x hg hx32
      obtain ⟨z, hz⟩ : ∃ z, z = g ^^^ x := ⟨_, rfl⟩
      rw [← hz] at e2 hn
      have HN := Lib.hid hn
      clear hn hz hge hxe hq hl hm
      have H1 := Lib.hid hp
      by_cases h1 : p = 1
      · have e3 : (((q : Int) % 2) == 1) = true := by rw [beq_iff_eq]; omega
        go_wp2
        go_round
        case rel => exact ⟨k + 1, by omega, by go_num, by rw [HN.out, if_pos h1]⟩
        case measure => simp [intOf]; omega
      · have e3 : (((q : Int) % 2) == 1) = false := by rw [beq_eq_false_iff_ne]; omega
        go_wp2
        go_round
        case rel => exact ⟨k + 1, by omega, by go_num, by rw [HN.out, if_neg h1]⟩
        case measure => simp [intOf]; omega
    · obtain rfl : k = 32 := by omega
      have HG := Lib.hid hge
      clear hge hn hxe
      go_wp2
      go_ret
      exact ⟨ret_u32 HG.out, (Below.refl _ _).alloc (Nat.le_refl _) _⟩
end Go.Proofs.YtfajalhpenincaaDoor
