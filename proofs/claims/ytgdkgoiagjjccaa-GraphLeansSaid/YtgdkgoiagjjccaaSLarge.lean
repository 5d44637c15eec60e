/- What is more than is played; the document's Good; idle ones made. -/
import Derived.Test.YtgdkgoiagjjccaaSNew
namespace Go.Proofs.Ytgdkgoiagjjccaa
set_option maxRecDepth 100000
open Go.RowKit

/-- No more than is played. -/
def SmallL (ls : List (List Int)) : Prop := ls.length ≤ 31 ∧ ∀ i, (ls.getD i []).length ≤ 40
noncomputable instance (ls : List (List Int)) : Decidable (SmallL ls) := Classical.propDecidable _
set_option maxHeartbeats 1000000 in
theorem large_any (A : Option Addr) (n c : Nat) (A2 : Option Addr) (m c2 : Nat) (ls : List (List Int)) (w : World) (h : Rws w A n ls) (hm : m ≤ 9223372036854775807) :
    Calls Try.prog 41 #[.slice A n c, .slice A2 m c2] w fun e w' => e = .returned (.bool (!decide (SmallL ls ∧ m ≤ 200))) ∧ w = w' := by
  have HH := Lib.hid h
  have hn := h.2.1
  have HF := Lib.hid (show ∀ i, i < n → (30 < i ∨ 40 < (ls.getD i []).length) → (!decide (SmallL ls ∧ m ≤ 200)) = true from fun i hi hb => by
    have : ¬ (SmallL ls ∧ m ≤ 200) := fun ⟨⟨h1, h2⟩, _⟩ => by
      have := h2 i
      have := h.1
      omega
    simp [this])
  have HT := Lib.hid (show (∀ i, i < n → i ≤ 30 ∧ (ls.getD i []).length ≤ 40) → (!decide (SmallL ls ∧ m ≤ 200)) = decide (200 < m) from fun hall => by
    have hs : SmallL ls := by
      refine ⟨?_, fun i => ?_⟩
      · have h1 := h.1
        rcases Nat.lt_or_ge 31 n with h2 | h2
        · have := (hall 31 h2).1; omega
        · omega
      · rcases Nat.lt_or_ge i n with h2 | h2
        · exact (hall i h2).2
        · rw [List.getD_eq_getElem?_getD, List.getElem?_eq_none (by have := h.1; omega)]; simp
    by_cases h2 : m ≤ 200
    · rw [decide_eq_true ⟨hs, h2⟩, decide_eq_false (by omega)]; rfl
    · rw [decide_eq_false (fun h => h2 h.2), decide_eq_true (by omega)]; rfl)
  obtain ⟨R, hR⟩ : ∃ R, R = (!decide (SmallL ls ∧ m ≤ 200)) := ⟨_, rfl⟩
  rw [← hR] at HF HT ⊢
  clear h hR
  go_enter Try.func41, Try.ntmps41
  go_wp2_with fail
  go_loop [5, 6, 9] (fun _ _ i => ∃ k : Nat, i = .int .i64 (k : Int) ∧ k ≤ n ∧ Hid (∀ i, i < k → i ≤ 30 ∧ (ls.getD i []).length ≤ 40)) (fun _ _ i => n - (intOf i).toNat)
  case atStart => exact ⟨0, rfl, by omega, fun i hi => by omega⟩
  case round =>
    obtain ⟨k, rfl, hk, hall⟩ := hrel
    by_cases hlt : k < n
    · obtain ⟨b, off, rfl, hc⟩ := HH.out.2.2 (by omega)
      obtain ⟨A', c', hc1, _, hm'⟩ := hc k hlt
      have HB := Lib.hid (HF.out k hlt)
      have HN := Lib.hid (show k ≤ 30 → (ls.getD k []).length ≤ 40 → ∀ i, i < k + 1 → i ≤ 30 ∧ (ls.getD i []).length ≤ 40 from fun h1 h2 i hi => by
        rcases Nat.lt_succ_iff_lt_or_eq.1 hi with h3 | h3
        · exact hall.out i h3
        · subst h3; exact ⟨h1, h2⟩)
      obtain ⟨L, hL⟩ : ∃ L, L = (ls.getD k []).length := ⟨_, rfl⟩
      rw [← hL] at hc1 hm' HB HN
      clear hc hL HF HH
      by_cases h1 : 30 < k
      · have h1' : (30 : Int) < (k : Int) := by omega
        go_wp2_with fail
        go_ret
        exact ⟨by rw [HB.out (.inl h1)]; rfl, rfl⟩
      by_cases h2 : 40 < L
      · have h1' : ¬ (30 : Int) < (k : Int) := by omega
        have h2' : (40 : Int) < (L : Int) := by omega
        go_wp2_with fail
        go_ret
        exact ⟨by rw [HB.out (.inr h2)]; rfl, rfl⟩
      · have h1' : ¬ (30 : Int) < (k : Int) := by omega
        have h2' : ¬ (40 : Int) < (L : Int) := by omega
        go_wp2_with fail
        go_round
        case rel => exact ⟨k + 1, by go_num, by omega, HN.out (by omega) (by omega)⟩
        case measure => simp [intOf]; omega
    · obtain rfl : k = n := by omega
      have e := HT.out hall.out
      by_cases h2 : 200 < m
      · rw [decide_eq_true h2] at e
        have h2' : (200 : Int) < (m : Int) := by omega
        have HE := Lib.hid e
        clear e HF
        go_wp2_with fail
        go_ret
        exact ⟨by rw [HE.out]; rfl, rfl⟩
      · rw [decide_eq_false h2] at e
        have h2' : ¬ (200 : Int) < (m : Int) := by omega
        have HE := Lib.hid e
        clear e HF
        go_wp2_with fail
        go_ret
        exact ⟨by rw [HE.out]; rfl, rfl⟩

set_option maxHeartbeats 2000000 in
theorem refgood_any (A : Option Addr) (n c : Nat) (ls : List (List Int)) (w : World) (h : Rws w A n ls) :
    Calls Try.prog 33 #[.slice A n c] w fun e w' => e = .returned (.bool (decide (GoodL ls))) ∧ w = w' := by
  have HH := Lib.hid h
  have hn := h.2.1
  have HT := Lib.hid (show GoodTo ls n → decide (GoodL ls) = true from fun h1 => decide_eq_true (goodTo_all.2 (by rw [h.1]; exact h1)))
  have HF := Lib.hid (show ∀ i k, i < n → k < (ls.getD i []).length → ((ls.getD i []).getD k 0 < 0 ∨ (i : Int) ≤ (ls.getD i []).getD k 0 ∨ (0 < k ∧ (ls.getD i []).getD k 0 ≤ (ls.getD i []).getD (k - 1) 0)) → decide (GoodL ls) = false from fun i k hi hk hb => decide_eq_false fun hg => by
    obtain ⟨a, b, c⟩ := goodTo_all.1 hg i (by have := h.1; omega) k _ (getD_some hk)
    rcases hb with h1 | h1 | ⟨h1, h2⟩
    · omega
    · omega
    · have := c _ h1 (getD_some (by omega)); omega)
  obtain ⟨R, hR⟩ : ∃ R, R = decide (GoodL ls) := ⟨_, rfl⟩
  rw [← hR] at HT HF ⊢
  clear h hR
  go_enter Try.func33, Try.ntmps33
  go_wp2_with fail
  go_loop [3, 4, 5] (fun i _ _ => ∃ k : Nat, i = .int .i64 (k : Int) ∧ k ≤ n ∧ Hid (GoodTo ls k)) (fun i _ _ => n - (intOf i).toNat)
  case atStart => exact ⟨0, rfl, by omega, fun i hi => by omega⟩
  case round =>
    obtain ⟨k, rfl, hk, hg⟩ := hrel
    by_cases hlt : k < n
    · obtain ⟨b, off, rfl, hc⟩ := HH.out.2.2 (by omega)
      obtain ⟨A', c', hc1, hnums, hm⟩ := hc k hlt
      obtain ⟨l, hl⟩ : ∃ l, l = ls.getD k [] := ⟨_, rfl⟩
      have HX := Lib.hid (show ∀ q, q < l.length → (l.getD q 0 < 0 ∨ (k : Int) ≤ l.getD q 0 ∨ (0 < q ∧ l.getD q 0 ≤ l.getD (q - 1) 0)) → R = false from fun q hq hno => HF.out k q hlt (by rw [← hl]; exact hq) (by rw [← hl]; exact hno))
      have HY := Lib.hid (show RowTo l k l.length → GoodTo ls (k + 1) from fun hr => goodTo_row.2 ⟨hg.out, by rw [← hl]; exact hr⟩)
      rw [← hl] at hc1 hnums hm
      have HN := Lib.hid hnums
      clear hc hl hnums HF HH
      go_wp2_with fail
      go_loop [4, 5] (fun j _ => ∃ q : Nat, j = .int .i64 (q : Int) ∧ q ≤ l.length ∧ Hid (RowTo l k q)) (fun j _ => l.length - (intOf j).toNat)
      case atStart => exact ⟨0, rfl, by omega, fun i hi => by omega⟩
      case round =>
        obtain ⟨q, rfl, hq, hr⟩ := hrel
        by_cases hql : q < l.length
        · obtain ⟨b2, off2, rfl, hc2⟩ := HN.out.2.2 (by omega)
          have c2 := hc2 q hql
          have HB := Lib.hid (HX.out q hql)
          have HA := Lib.hid (show 0 ≤ l.getD q 0 → l.getD q 0 < (k : Int) → (0 < q → l.getD (q - 1) 0 < l.getD q 0) → RowTo l k (q + 1) from fun h0 h1 h2 => rowTo_next hr.out hql (by
            unfold lastOf
            by_cases hz : q = 0
            · rw [if_pos hz]; omega
            · rw [if_neg hz]; exact h2 (by omega)) h1)
          obtain ⟨x, hx⟩ : ∃ x, x = l.getD q 0 := ⟨_, rfl⟩
          rw [← hx] at c2 HB HA
          by_cases hz : q = 0
          · subst hz
            rw [Nat.add_zero] at c2
            clear hc2 hx HX
            by_cases h1 : x < 0
            · go_wp2_with fail
              go_ret
              exact ⟨by rw [HB.out (.inl h1)]; rfl, rfl⟩
            by_cases h2 : (k : Int) ≤ x
            · go_wp2_with fail
              go_ret
              exact ⟨by rw [HB.out (.inr (.inl h2))]; rfl, rfl⟩
            · go_wp2_with fail
              go_round
              case rel => exact ⟨0 + 1, rfl, by omega, HA.out (by omega) (by omega) (fun h => absurd h (by decide))⟩
              case measure => simp [intOf]; omega
          · have c3 := hc2 (q - 1) (by omega)
            have e1 : ((q - 1 : Nat) : Int) = (q : Int) - 1 := by omega
            obtain ⟨p, hp⟩ : ∃ p, q = p + 1 := ⟨q - 1, by omega⟩
            subst hp
            rw [Nat.add_sub_cancel] at c3 HB HA
            obtain ⟨y, hy⟩ : ∃ y, y = l.getD p 0 := ⟨_, rfl⟩
            rw [← hy] at c3 HB HA
            clear hc2 hx HX hz e1 hy
            by_cases h1 : x < 0
            · go_wp2_with fail
              go_ret
              exact ⟨by rw [HB.out (.inl h1)]; rfl, rfl⟩
            by_cases h2 : (k : Int) ≤ x
            · go_wp2_with fail
              go_ret
              exact ⟨by rw [HB.out (.inr (.inl h2))]; rfl, rfl⟩
            by_cases h3 : x ≤ y
            · go_wp2_with fail
              go_ret
              exact ⟨by rw [HB.out (.inr (.inr ⟨by omega, h3⟩))]; rfl, rfl⟩
            · go_wp2_with fail
              go_round
              case rel => exact ⟨p + 1 + 1, by go_num, by omega, HA.out (by omega) (by omega) (fun _ => by omega)⟩
              case measure => simp [intOf]; omega
        · obtain rfl : q = l.length := by omega
          go_wp2_with fail
          go_round
          case rel => exact ⟨k + 1, by go_num, by omega, HY.out hr.out⟩
          case measure => simp [intOf]; omega
    · obtain rfl : k = n := by omega
      go_wp2_with fail
      go_ret
      exact ⟨by rw [HT.out hg.out]; rfl, rfl⟩

theorem info4 : (Try.prog.info? 4).map (fun i => (i.zero, i.size, i.bytes)) = some (some (.bool false), 1, 1) := by kernel_rfl
def zB : Array Value := #[.bool false]
theorem make_bools (n : Nat) (hn : n ≤ 100000) (w : World) : (Instr.makeSlice 67 (.int .i64 (n : Int)) (.int .i64 (n : Int))).run Try.prog w = .ok (.slice (some ⟨w.heap.size, 0, none⟩) n n) (w.alloc (.cells (madeCells zB n) 4)) := by
  obtain ⟨i, hi, hz, hs, hb⟩ := info_parts info4
  have := run_make (P := Try.prog) w 67 4 i _ Try.underlying67 hi hz .i64 .i64 n n (by omega) (Int.le_refl _) (by rw [hb]; omega) (by omega)
  rw [hs, Int.toNat_natCast, Nat.mul_one] at this
  exact this
theorem made_bls (w : World) (n : Nat) (hn : n ≤ 100000) : Bls (w.alloc (.cells (madeCells zB n) 4)) (some ⟨w.heap.size, 0, none⟩) n (List.replicate n false) := by
  refine ⟨by simp, by omega, fun _ => ⟨_, _, rfl, fun j hj => ?_⟩⟩
  rw [cell_of_row _ _ _ _ _ (0, 0) (heap_alloc_new w _), Nat.zero_add, made_at _ _ _ hj]
  simp [zB, Nat.mod_one, List.getD_eq_getElem?_getD, hj]
end Go.Proofs.Ytgdkgoiagjjccaa
