/- What is more than is looked at; where a number stands in an order. -/
import Derived.Test.YtgdkgoiagjjccaaGLevM
import Derived.Test.YtgdkgoiagjjccaaZA
namespace Go.Proofs.Ytgdkgoiagjjccaa
set_option maxRecDepth 100000
open Go.RowKit

/-- No more than is looked at. -/
def SmallG (ls : List (List Int)) : Prop := ls.length ≤ 41 ∧ ∀ i, (ls.getD i []).length ≤ 60
noncomputable instance (ls : List (List Int)) : Decidable (SmallG ls) := Classical.propDecidable _
set_option maxHeartbeats 1000000 in
theorem largeg_any (A : Option Addr) (n c : Nat) (ls : List (List Int)) (w : World) (h : Rws w A n ls) :
    Calls Try.prog 32 #[.slice A n c] w fun e w' => e = .returned (.bool (!decide (SmallG ls))) ∧ w = w' := by
  have HH := Lib.hid h
  have hn := h.2.1
  have HF := Lib.hid (show ∀ i, i < n → (40 < i ∨ 60 < (ls.getD i []).length) → (!decide (SmallG ls)) = true from fun i hi hb => by
    have : ¬ SmallG ls := fun ⟨h1, h2⟩ => by
      have := h2 i
      have := h.1
      omega
    simp [this])
  have HT := Lib.hid (show (∀ i, i < n → i ≤ 40 ∧ (ls.getD i []).length ≤ 60) → (!decide (SmallG ls)) = false from fun hall => by
    have hs : SmallG ls := by
      refine ⟨?_, fun i => ?_⟩
      · have h1 := h.1
        rcases Nat.lt_or_ge 41 n with h2 | h2
        · have := (hall 41 h2).1; omega
        · omega
      · rcases Nat.lt_or_ge i n with h2 | h2
        · exact (hall i h2).2
        · rw [List.getD_eq_getElem?_getD, List.getElem?_eq_none (by have := h.1; omega)]; simp
    simp [hs])
  obtain ⟨R, hR⟩ : ∃ R, R = (!decide (SmallG ls)) := ⟨_, rfl⟩
  rw [← hR] at HF HT ⊢
  clear h hR
  go_enter Try.func32, Try.ntmps32
  go_wp2_with fail
  go_loop [3, 4, 7] (fun _ _ i => ∃ k : Nat, i = .int .i64 (k : Int) ∧ k ≤ n ∧ Hid (∀ i, i < k → i ≤ 40 ∧ (ls.getD i []).length ≤ 60)) (fun _ _ i => n - (intOf i).toNat)
  case atStart => exact ⟨0, rfl, by omega, fun i hi => by omega⟩
  case round =>
    obtain ⟨k, rfl, hk, hall⟩ := hrel
    by_cases hlt : k < n
    · obtain ⟨b, off, rfl, hc⟩ := HH.out.2.2 (by omega)
      obtain ⟨A', c', hc1, _, hm'⟩ := hc k hlt
      have HB := Lib.hid (HF.out k hlt)
      have HN := Lib.hid (show k ≤ 40 → (ls.getD k []).length ≤ 60 → ∀ i, i < k + 1 → i ≤ 40 ∧ (ls.getD i []).length ≤ 60 from fun h1 h2 i hi => by
        rcases Nat.lt_succ_iff_lt_or_eq.1 hi with h3 | h3
        · exact hall.out i h3
        · subst h3; exact ⟨h1, h2⟩)
      obtain ⟨L, hL⟩ : ∃ L, L = (ls.getD k []).length := ⟨_, rfl⟩
      rw [← hL] at hc1 hm' HB HN
      clear hc hL HF HH
      by_cases h1 : 40 < k
      · have h1' : (40 : Int) < (k : Int) := by omega
        go_wp2_with fail
        go_ret
        exact ⟨by rw [HB.out (.inl h1)]; rfl, rfl⟩
      by_cases h2 : 60 < L
      · have h1' : ¬ (40 : Int) < (k : Int) := by omega
        have h2' : (60 : Int) < (L : Int) := by omega
        go_wp2_with fail
        go_ret
        exact ⟨by rw [HB.out (.inr h2)]; rfl, rfl⟩
      · have h1' : ¬ (40 : Int) < (k : Int) := by omega
        have h2' : ¬ (60 : Int) < (L : Int) := by omega
        go_wp2_with fail
        go_round
        case rel => exact ⟨k + 1, by go_num, by omega, HN.out (by omega) (by omega)⟩
        case measure => simp [intOf]; omega
    · obtain rfl : k = n := by omega
      have HE := Lib.hid (HT.out hall.out)
      clear HF HT
      go_wp2_with fail
      go_ret
      exact ⟨by rw [HE.out]; rfl, rfl⟩
set_option maxHeartbeats 1000000 in
theorem at_any (A : Option Addr) (n c : Nat) (o : List Int) (i : Int) (w : World) (h : Nums w A n o) (hn : n ≤ 9223372036854775807) :
    Calls Try.prog 64 #[.slice A n c, .int .i64 i] w fun e w' => e = .returned (.int .i64 (atL o i)) ∧ w = w' := by
  have HH := Lib.hid h
  have hl := h.1
  have HF := Lib.hid (show ∀ k : Nat, k < n → o.getD k 0 = i → (∀ j, j < k → o.getD j 0 ≠ i) → atL o i = (k : Int) from fun k hk h1 h2 => idx_hit (by omega) (by simpa using h1) fun j hj => by simpa using h2 j hj)
  have HT := Lib.hid (show (∀ j, j < n → o.getD j 0 ≠ i) → atL o i = -1 from fun h2 => idx_miss fun j hj => by simpa using h2 j (by omega))
  obtain ⟨R, hR⟩ : ∃ R, R = atL o i := ⟨_, rfl⟩
  rw [← hR] at HF HT ⊢
  clear h hR hl
  go_enter Try.func64, Try.ntmps64
  go_wp2_with fail
  go_loop [5] (fun x => ∃ k : Nat, x = .int .i64 (k : Int) ∧ k ≤ n ∧ Hid (∀ j, j < k → o.getD j 0 ≠ i)) (fun x => n - (intOf x).toNat)
  case atStart => exact ⟨0, rfl, by omega, fun j hj => by omega⟩
  case round =>
    obtain ⟨k, rfl, hk, hall⟩ := hrel
    by_cases hlt : k < n
    · obtain ⟨b, off, rfl, hc⟩ := HH.out.2.2 (by omega)
      have c0 := hc k hlt
      have HB := Lib.hid (HF.out k hlt)
      have HN := Lib.hid (show o.getD k 0 ≠ i → ∀ j, j < k + 1 → o.getD j 0 ≠ i from fun h1 j hj => by
        rcases Nat.lt_succ_iff_lt_or_eq.1 hj with h3 | h3
        · exact hall.out j h3
        · subst h3; exact h1)
      obtain ⟨y, hy⟩ : ∃ y, y = o.getD k 0 := ⟨_, rfl⟩
      rw [← hy] at c0 HB HN
      clear hc hy HF HT HH
      by_cases he : y = i
      · have HE := Lib.hid (HB.out he hall.out)
        go_wp2_with fail
        go_ret
        exact ⟨by rw [HE.out]; rfl, rfl⟩
      · go_wp2_with fail
        go_round
        case rel => exact ⟨k + 1, by go_num, by omega, HN.out he⟩
        case measure => simp [intOf]; omega
    · obtain rfl : k = n := by omega
      have HE := Lib.hid (HT.out hall.out)
      clear HF HT
      go_wp2_with fail
      go_ret
      exact ⟨by rw [HE.out]; rfl, rfl⟩
end Go.Proofs.Ytgdkgoiagjjccaa
