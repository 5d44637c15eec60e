/- Rows of numbers in memory; graph.Good. -/
import Derived.Test.YtgdkgoiagjjccaaSPick
namespace Go.Proofs.Ytgdkgoiagjjccaa
set_option maxRecDepth 100000
open Go.RowKit

/-- A slice that reads as rows of numbers. -/
def Rws (w : World) (A : Option Addr) (n : Nat) (ls : List (List Int)) : Prop :=
  ls.length = n ∧ n ≤ 9223372036854775807 ∧ (0 < n → ∃ b off, A = some ⟨b, off, none⟩ ∧ ∀ j, j < n → ∃ A' c', w.cell? ⟨b, off + j, none⟩ = some (.slice A' (ls.getD j []).length c') ∧ Nums w A' (ls.getD j []).length (ls.getD j []) ∧ (ls.getD j []).length ≤ 9223372036854775807)
theorem Rws.ext {w w' : World} {A : Option Addr} {n : Nat} {ls : List (List Int)} (h : Rws w A n ls) (hs : ∀ p : Addr, p.block < w.heap.size → w'.cell? p = w.cell? p) : Rws w' A n ls :=
  ⟨h.1, h.2.1, fun hn => by
    obtain ⟨b, off, e, hc⟩ := h.2.2 hn
    refine ⟨b, off, e, fun j hj => ?_⟩
    obtain ⟨A', c', h1, h2, h3⟩ := hc j hj
    exact ⟨A', c', (hs _ (World.block_lt_of_cell? _ _ h1)).trans h1, h2.ext hs, h3⟩⟩
theorem Rws.below {w w' : World} {A : Option Addr} {n : Nat} {ls : List (List Int)} (h : Rws w A n ls) (hb : Below w.heap.size w w') : Rws w' A n ls := h.ext fun _ hp => hb.cell hp

/-- The first rows are good. -/
def GoodTo (ls : List (List Int)) (k : Nat) : Prop := ∀ i, i < k → ∀ q : Nat, ∀ x, (ls.getD i [])[q]? = some x → 0 ≤ x ∧ x < (i : Int) ∧ ∀ y, 0 < q → (ls.getD i [])[q - 1]? = some y → y < x
theorem goodTo_all {ls : List (List Int)} : GoodL ls ↔ GoodTo ls ls.length := by
  constructor
  · intro h i hi q x hx
    have e2 : ls.getD i [] = ls[i] := by simp [List.getD_eq_getElem?_getD, hi]
    rw [e2] at hx ⊢
    exact h i _ (List.getElem?_eq_getElem hi) q x hx
  · intro h i l hl q x hx
    have hi : i < ls.length := by
      rcases Nat.lt_or_ge i ls.length with h1 | h1
      · exact h1
      · rw [List.getElem?_eq_none h1] at hl; cases hl
    have e2 : ls.getD i [] = l := by simp [List.getD_eq_getElem?_getD, hl]
    have := h i hi q x (by rw [e2]; exact hx)
    rw [e2] at this
    exact this
/-- The first numbers of a row are good. -/
def RowTo (l : List Int) (i k : Nat) : Prop := ∀ q : Nat, q < k → ∀ x, l[q]? = some x → 0 ≤ x ∧ x < (i : Int) ∧ ∀ y, 0 < q → l[q - 1]? = some y → y < x
/-- The number ahead of a place; -1: there is none. -/
def lastOf (l : List Int) (k : Nat) : Int := if k = 0 then -1 else l.getD (k - 1) 0
theorem rowTo_next {l : List Int} {i k : Nat} (h : RowTo l i k) (hk : k < l.length) (h1 : lastOf l k < l.getD k 0) (h2 : l.getD k 0 < (i : Int)) : RowTo l i (k + 1) := by
  intro q hq x hx
  rcases Nat.lt_succ_iff_lt_or_eq.1 hq with h3 | h3
  · exact h q h3 x hx
  · subst h3
    have ex : l.getD q 0 = x := by simp [List.getD_eq_getElem?_getD, hx]
    rw [ex] at h1 h2
    unfold lastOf at h1
    by_cases h0 : q = 0
    · rw [if_pos h0] at h1
      exact ⟨by omega, h2, fun y h4 => by omega⟩
    · rw [if_neg h0] at h1
      have hp := h (q - 1) (by omega) (l.getD (q - 1) 0) (by rw [List.getElem?_eq_getElem (by omega)]; simp [List.getD_eq_getElem?_getD, show q - 1 < l.length by omega])
      refine ⟨by omega, h2, fun y _ hy => ?_⟩
      have ey : l.getD (q - 1) 0 = y := by simp [List.getD_eq_getElem?_getD, hy]
      omega
theorem rowTo_bad {l : List Int} {i k : Nat} (hk : k < l.length) (h1 : ¬ (lastOf l k < l.getD k 0 ∧ l.getD k 0 < (i : Int))) (h0 : RowTo l i l.length) : False := by
  have hx : l[k]? = some (l.getD k 0) := by rw [List.getElem?_eq_getElem hk]; simp [List.getD_eq_getElem?_getD, hk]
  obtain ⟨a, b, c⟩ := h0 k hk _ hx
  apply h1
  refine ⟨?_, b⟩
  unfold lastOf
  by_cases h2 : k = 0
  · rw [if_pos h2]; omega
  · rw [if_neg h2]
    exact c _ (by omega) (by rw [List.getElem?_eq_getElem (by omega)]; simp [List.getD_eq_getElem?_getD, show k - 1 < l.length by omega])
theorem goodTo_row {ls : List (List Int)} {i : Nat} : GoodTo ls (i + 1) ↔ GoodTo ls i ∧ RowTo (ls.getD i []) i (ls.getD i []).length := by
  constructor
  · intro h
    exact ⟨fun j hj => h j (by omega), fun q _ x hx => h i (by omega) q x hx⟩
  · rintro ⟨h1, h2⟩ j hj q x hx
    rcases Nat.lt_succ_iff_lt_or_eq.1 hj with h3 | h3
    · exact h1 j h3 q x hx
    · subst h3
      have hq : q < (ls.getD j []).length := by
        rcases Nat.lt_or_ge q (ls.getD j []).length with h4 | h4
        · exact h4
        · rw [List.getElem?_eq_none h4] at hx; cases hx
      exact h2 q hq x hx
theorem goodTo_mono {ls : List (List Int)} {a b : Nat} (h : GoodTo ls b) (hab : a ≤ b) : GoodTo ls a := fun i hi => h i (by omega)

set_option maxHeartbeats 1000000 in
theorem goodg_any (A : Option Addr) (n c : Nat) (ls : List (List Int)) (w : World) (h : Rws w A n ls) :
    Calls Try.prog 31 #[.slice A n c] w fun e w' => e = .returned (.bool (decide (GoodL ls))) ∧ w = w' := by
  have HH := Lib.hid h
  have HL := Lib.hid h.1
  have hn := h.2.1
  have HT := Lib.hid (show GoodTo ls n → decide (GoodL ls) = true from fun h1 => decide_eq_true (goodTo_all.2 (by rw [h.1]; exact h1)))
  have HF := Lib.hid (show ∀ i k, i < n → k < (ls.getD i []).length → ¬ (lastOf (ls.getD i []) k < (ls.getD i []).getD k 0 ∧ (ls.getD i []).getD k 0 < (i : Int)) → decide (GoodL ls) = false from fun i k hi hk hno => decide_eq_false fun hg =>
    rowTo_bad hk hno (goodTo_row.1 (goodTo_mono (goodTo_all.1 hg) (by have := h.1; omega))).2)
  obtain ⟨R, hR⟩ : ∃ R, R = decide (GoodL ls) := ⟨_, rfl⟩
  rw [← hR] at HT HF ⊢
  clear h hR
  go_enter Try.func31, Try.ntmps31
  go_wp2_with fail
  go_loop [3, 4, 5, 7, 10] (fun _ _ _ _ i => ∃ k : Nat, i = .int .i64 (k : Int) ∧ k ≤ n ∧ Hid (GoodTo ls k)) (fun _ _ _ _ i => n - (intOf i).toNat)
  case atStart => exact ⟨0, rfl, by omega, fun i hi => by omega⟩
  case round =>
    obtain ⟨k, rfl, hk, hg⟩ := hrel
    by_cases hlt : k < n
    · obtain ⟨b, off, rfl, hc⟩ := HH.out.2.2 (by omega)
      obtain ⟨A', c', hc1, hnums, hm⟩ := hc k hlt
      obtain ⟨l, hl⟩ : ∃ l, l = ls.getD k [] := ⟨_, rfl⟩
      have HX := Lib.hid (show ∀ q, q < l.length → ¬ (lastOf l q < l.getD q 0 ∧ l.getD q 0 < (k : Int)) → R = false from fun q hq hno => HF.out k q hlt (by rw [← hl]; exact hq) (by rw [← hl]; exact hno))
      have HY := Lib.hid (show RowTo l k l.length → GoodTo ls (k + 1) from fun hr => goodTo_row.2 ⟨hg.out, by rw [← hl]; exact hr⟩)
      rw [← hl] at hc1 hnums hm
      have HN := Lib.hid hnums
      clear hc hl hnums HF HH
      go_wp2_with fail
      go_loop [5, 7, 17] (fun t _ j => ∃ q : Nat, j = .int .i64 (q : Int) ∧ q ≤ l.length ∧ t = .int .i64 (lastOf l q) ∧ Hid (RowTo l k q)) (fun _ _ j => l.length - (intOf j).toNat)
      case atStart => exact ⟨0, rfl, by omega, rfl, fun i hi => by omega⟩
      case round =>
        obtain ⟨q, rfl, hq, rfl, hr⟩ := hrel
        by_cases hql : q < l.length
        · obtain ⟨b2, off2, rfl, hc2⟩ := HN.out.2.2 (by omega)
          have c2 := hc2 q hql
          have HB := Lib.hid (HX.out q hql)
          have HA := Lib.hid (fun h1 h2 => rowTo_next hr.out hql h1 h2)
          have HS := Lib.hid (show lastOf l (q + 1) = l.getD q 0 from by simp [lastOf])
          obtain ⟨x, hx⟩ : ∃ x, x = l.getD q 0 := ⟨_, rfl⟩
          obtain ⟨y, hy⟩ : ∃ y, y = lastOf l q := ⟨_, rfl⟩
          rw [← hx] at c2 HB HA HS
          rw [← hy] at HB HA ⊢
          clear hc2 hx hy HX
          by_cases h1 : x ≤ y
          · go_wp2_with fail
            go_ret
            exact ⟨by rw [HB.out (by omega)]; rfl, rfl⟩
          by_cases h2 : (k : Int) ≤ x
          · go_wp2_with fail
            go_ret
            exact ⟨by rw [HB.out (by omega)]; rfl, rfl⟩
          · go_wp2_with fail
            go_round
            case rel => exact ⟨q + 1, by go_num, by omega, by rw [HS.out], HA.out (by omega) (by omega)⟩
            case measure => simp [intOf]; omega
        · obtain rfl : q = l.length := by omega
          go_wp2_with fail
          go_round
          case rel => exact ⟨k + 1, by go_num, by omega, HY.out hr.out⟩
          case measure => simp [intOf]; omega
    · obtain rfl : k = n := by omega
      go_wp2_with fail
      go_ret
      exact ⟨by rw [HT.out hg.out]; rfl, rfl⟩
end Go.Proofs.Ytgdkgoiagjjccaa
