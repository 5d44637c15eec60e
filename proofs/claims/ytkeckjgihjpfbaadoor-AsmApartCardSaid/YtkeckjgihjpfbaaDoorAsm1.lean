/- Layer 7: tables of words, figures, the words of fields. -/
import Derived.Test.YtkeckjgihjpfbaaDoorItoa
import Derived.Test.YtkeckjgihjpfbaaDoorAlive
namespace Go.Proofs.YtkeckjgihjpfbaaDoor
set_option maxRecDepth 100000
open Go.RowKit

/-- A text of bytes. -/
def tx (l : List UInt8) : ByteArray := ⟨l.toArray⟩
theorem tx_append (a b : List UInt8) : tx a ++ tx b = tx (a ++ b) := by
  apply ByteArray.ext
  simp [tx, ByteArray.data_append]
theorem strN_tx (l : List Nat) : strN l = tx (l.map UInt8.ofNat) := by
  apply ByteArray.ext
  apply Array.toList_inj.1
  rw [strN_data]; simp [tx]
def wordsS : List (List UInt8) := [[115, 101, 116], [109, 111, 118, 101], [97, 100, 100], [115, 117, 98], [109, 117, 108], [100, 105, 118], [109, 111, 100], [103, 101, 116], [104, 97, 115], [112, 117, 116], [100, 101, 108], [115, 117, 109], [99, 111, 117, 110, 116], [115, 107, 105, 112], [97, 98, 111, 114, 116], [111, 117, 116]]
def relsS : List (List UInt8) := [[60], [61], [62], [60, 62]]
def wordL (op : Int) : List UInt8 := if 0 ≤ op then (wordsS[op.toNat]?).getD [] else []
theorem wordL_none (op : Int) (h : op < 0 ∨ 16 ≤ op) : wordL op = [] := by
  unfold wordL
  split
  · rw [List.getElem?_eq_none (by simp [wordsS]; omega)]; rfl
  · rfl
structure AT (w : World) : Prop where
  shapes : Tab w
  words : ∀ i : Nat, i < 16 → w.cell? ⟨1, i, none⟩ = some (.string (tx ((wordsS[i]?).getD [])))
  rels : ∀ i : Nat, i < 4 → w.cell? ⟨2, i, none⟩ = some (.string (tx ((relsS[i]?).getD [])))
  pow : Lib.TabIs Tryd.prog w "internal/strconv.uint64pow10" .u64 Lib.pow10Tab
set_option maxHeartbeats 400000 in
theorem word_yes (k : Nat) (hk : k < 16) (w : World) (hT : AT w) : Calls Tryd.prog 34 #[.int .i64 (k : Int)] w fun e w' => e = .returned (.tuple #[.string (tx (wordL k)), .bool true]) ∧ w = w' := by
  have hc := hT.words k hk
  rw [show wordL k = (wordsS[k]?).getD [] from by unfold wordL; rw [if_pos (by omega)]; rfl]
  obtain ⟨s, hs⟩ : ∃ s, s = tx ((wordsS[k]?).getD []) := ⟨_, rfl⟩
  rw [← hs] at hc ⊢
  clear hs hT
  have d1 : decide ((k : Int) < 0) = false := decide_eq_false (by omega)
  have d2 : decide ((16 : Int) ≤ (k : Int)) = false := decide_eq_false (by omega)
  go_enter Tryd.func34, Tryd.ntmps34
  go_wp2_with fail
  go_ret2
  exact ⟨rfl, rfl⟩
set_option maxHeartbeats 400000 in
theorem word_no (op : Int) (h : op < 0 ∨ 16 ≤ op) (w : World) : Calls Tryd.prog 34 #[.int .i64 op] w fun e w' => e = .returned (.tuple #[.string (tx (wordL op)), .bool false]) ∧ w = w' := by
  rw [wordL_none op h]
  by_cases h1 : op < 0
  · have d1 : decide (op < 0) = true := decide_eq_true h1
    clear h
    go_enter Tryd.func34, Tryd.ntmps34
    go_wp2_with fail
    go_ret2
    exact ⟨rfl, rfl⟩
  · have d1 : decide (op < 0) = false := decide_eq_false h1
    have d2 : decide ((16 : Int) ≤ op) = true := decide_eq_true (by omega)
    clear h
    go_enter Tryd.func34, Tryd.ntmps34
    go_wp2_with fail
    go_ret2
    exact ⟨rfl, rfl⟩
theorem word_any (op : Int) (w : World) (hT : AT w) : Calls Tryd.prog 34 #[.int .i64 op] w fun e w' => e = .returned (.tuple #[.string (tx (wordL op)), .bool (okOp op)]) ∧ w = w' := by
  by_cases h : 0 ≤ op ∧ op < 16
  · obtain ⟨k, rfl⟩ := Int.eq_ofNat_of_zero_le h.1
    have e : okOp k = true := decide_eq_true h
    rw [e]
    exact word_yes k (by omega) w hT
  · have e : okOp op = false := decide_eq_false h
    rw [e]
    exact word_no op (by omega) w
set_option maxHeartbeats 800000 in
theorem refword_any (op : Int) (w : World) : Calls Tryd.prog 35 #[.int .i64 op] w fun e w' => e = .returned (.string (tx (wordL op))) ∧ Below w.heap.size w w' := by
  by_cases h : 0 ≤ op ∧ op < 16
  · have h16 : op = 0 ∨ op = 1 ∨ op = 2 ∨ op = 3 ∨ op = 4 ∨ op = 5 ∨ op = 6 ∨ op = 7 ∨ op = 8 ∨ op = 9 ∨ op = 10 ∨ op = 11 ∨ op = 12 ∨ op = 13 ∨ op = 14 ∨ op = 15 := by omega
    clear h
    rcases h16 with rfl | rfl | rfl | rfl | rfl | rfl | rfl | rfl | rfl | rfl | rfl | rfl | rfl | rfl | rfl | rfl
    all_goals
      go_enter Tryd.func35, Tryd.ntmps35
      go_wp2_with fail
      go_ret
      exact ⟨rfl, (Below.refl _ _).alloc (Nat.le_refl _) _⟩
  · have h' : op < 0 ∨ 16 ≤ op := by omega
    rw [wordL_none op h']
    rcases h' with h | h
    · have d1 : decide (op < 0) = true := decide_eq_true h
      clear h
      go_enter Tryd.func35, Tryd.ntmps35
      go_wp2_with fail
      go_ret
      exact ⟨rfl, (Below.refl _ _).alloc (Nat.le_refl _) _⟩
    · have d1 : decide (op < 0) = false := decide_eq_false (by omega)
      have d2 : decide ((16 : Int) ≤ op) = true := decide_eq_true (by omega)
      clear h
      go_enter Tryd.func35, Tryd.ntmps35
      go_wp2_with fail
      go_ret
      exact ⟨rfl, (Below.refl _ _).alloc (Nat.le_refl _) _⟩
end Go.Proofs.YtkeckjgihjpfbaaDoor
