/- Keys in lists: the library's search. -/
import Derived.Test.YtmicheheibkmjaaFKey
namespace Go.Proofs.Ytmicheheibkmjaa
set_option maxRecDepth 100000
open Go.RowKit

set_option maxHeartbeats 1000000 in
theorem index_any (A : Option Addr) (n c : Nat) (l : List K) (x : K) (w : World) (h : Keys w A n l) (hn : n ≤ 9223372036854775807) : Calls Try.prog 75 #[.slice A n c, x.val] w fun e w' => (∃ z : Int, e = .returned (.int .i64 z) ∧ decide (0 ≤ z) = decide (x ∈ l)) ∧ Below w.heap.size w w' := by
  have hbx := (Below.refl w.heap.size w).alloc (Nat.le_refl _) (.cells #[.int .i64 x.t, .int .i64 x.k] 24)
  have HI0 := Lib.hid (show HI w A n l x (w.alloc (.cells #[.int .i64 x.t, .int .i64 x.k] 24)) from ⟨hbx, h.below hbx, heap_alloc_new w _⟩)
  have HL := Lib.hid h.len
  have HX := Lib.hid (show ∀ q : Nat, q = n → (∀ j (hj : j < l.length), j < q → l[j] ≠ x) → decide (x ∈ l) = false from fun q hq hno => by
    rw [decide_eq_false_iff_not]
    intro hm
    obtain ⟨i, hi, he⟩ := List.getElem_of_mem hm
    exact hno i hi (by have := h.len; omega) he)
  have HE := Lib.hid (show ∀ j (hj : j < l.length), l[j] = x → decide (x ∈ l) = true from fun j hj he => decide_eq_true (he ▸ List.getElem_mem hj))
  obtain ⟨R, hR⟩ : ∃ R, R = decide (x ∈ l) := ⟨_, rfl⟩
  rw [← hR] at HX HE ⊢
  unfold K.val
  clear hR h hbx
  go_enter Try.func75, Try.ntmps75
  go_wp2_with fail
  go_loopw [8] (fun i wr => ∃ k : Nat, i = .int .i64 (k : Int) ∧ k ≤ n ∧ (∀ j (hj : j < l.length), j < k → l[j] ≠ x) ∧ HI w A n l x wr) (fun i _ => n - (intOf i).toNat)
  case atStart => exact ⟨0, rfl, by omega, fun j _ h => by omega, HI0.out⟩
  case round =>
    obtain ⟨k, rfl, hk, hno, hhi⟩ := hrel
    have HNO := Lib.hid hno
    have HH := Lib.hid hhi
    have x0 : wr.cell? ⟨w.heap.size, 0, none⟩ = some (.int .i64 x.t) := cell_of_row wr _ 0 _ 24 (0, 0) hhi.box
    have x1 : wr.cell? ⟨w.heap.size, 1, none⟩ = some (.int .i64 x.k) := cell_of_row wr _ 1 _ 24 (0, 0) hhi.box
    clear hno hhi
    by_cases hlt : k < n
    · have hkl : k < l.length := by rw [HL.out]; exact hlt
      obtain ⟨b, off, rfl, hc⟩ := Keys.cells HH.out.keys (by omega)
      obtain ⟨k0, k1⟩ := hc k hkl
      have heq0 := fun w => eql_key w x l[k]
      have HEK := Lib.hid (HE.out k hkl)
      have HNK := Lib.hid (show l[k] ≠ x → ∀ j (hj : j < l.length), j < k + 1 → l[j] ≠ x from fun h j hj hj2 => by
        by_cases e : j = k
        · subst e; exact h
        · exact HNO.out j hj (by omega))
      obtain ⟨y, hy⟩ : ∃ y, y = l[k] := ⟨_, rfl⟩
      rw [← hy] at k0 k1 heq0 HEK HNK
      unfold K.val at heq0
      clear hc hy
      by_cases he : y = x
      · have hR := HEK.out he
        rw [decide_eq_true he.symm] at heq0
        clear he
        go_wp2_with fail
        go_quiet (fail)
        go_wp2_with fail
        go_ret
        exact ⟨⟨(k : Int), rfl, by rw [hR]; exact decide_eq_true (by omega)⟩, (HH.out.drewN _).below⟩
      · rw [decide_eq_false (fun q => he q.symm)] at heq0
        have HN2 := Lib.hid (HNK.out he)
        clear he
        go_wp2_with fail
        go_quiet (fail)
        go_wp2_with fail
        go_roundw
        case rel => exact ⟨k + 1, by go_num, by omega, HN2.out, HH.out.drewN _⟩
        case measure => simp [intOf]; omega
    · have hR := HX.out k (by omega) HNO.out
      go_wp2_with fail
      go_ret
      exact ⟨⟨-1, rfl, by rw [hR]; rfl⟩, HH.out.below⟩
set_option maxHeartbeats 400000 in
theorem contains_any (A : Option Addr) (n c : Nat) (l : List K) (x : K) (w : World) (h : Keys w A n l) (hn : n ≤ 9223372036854775807) : Calls Try.prog 38 #[.slice A n c, x.val] w fun e w' => e = .returned (.bool (decide (x ∈ l))) ∧ Below w.heap.size w w' := by
  have hbx := (Below.refl w.heap.size w).alloc (Nat.le_refl _) (.cells #[.int .i64 x.t, .int .i64 x.k] 24)
  have HB := Lib.hid hbx
  have hi := index_any A n c l x _ (h.below hbx) hn
  unfold K.val at hi ⊢
  have HI := Lib.hid hi
  clear h hbx hi
  go_enter Try.func38, Try.ntmps38
  go_wp2_with fail
  refine Calls.mono HI.out ?_
  rintro e w1 ⟨⟨z, rfl, hz⟩, hb1⟩
  have HB1 := Lib.hid (HB.out.trans (hb1.mono HB.out.size))
  clear hb1
  go_wp2_with fail
  go_ret
  exact ⟨by rw [← hz]; exact rfl, HB1.out⟩
end Go.Proofs.Ytmicheheibkmjaa
