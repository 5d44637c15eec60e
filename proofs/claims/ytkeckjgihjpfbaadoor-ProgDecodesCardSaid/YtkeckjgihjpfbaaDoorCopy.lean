/- The contracts of num.Copy and num.Kept: a copy with two marks behind it, and the look at them. -/
import Derived.Test.YtkeckjgihjpfbaaDoorOver
import Derived.Laws.MakeOwn
namespace Go.Proofs.YtkeckjgihjpfbaaDoor
set_option maxRecDepth 100000
open Go.RowKit

/-- A copy: its bytes, and two marks in its spare room, in a block of its own. -/
structure Mk (w : World) (g n cap : Nat) (xs : List Nat) : Prop where
  len : xs.length = n
  cap : n + 2 ≤ cap
  block : ∃ cs, w.heap[g]? = some (.cells cs 5 (0, 0)) ∧ ∀ j, j < n + 2 → cs[j]? = some (.int .u8 (((xs ++ [165, 90]).getD j 0 : Nat) : Int))
theorem Mk.cells {w : World} {g n cap : Nat} {xs : List Nat} (h : Mk w g n cap xs) (j : Nat) (hj : j < n + 2) : w.cell? ⟨g, j, none⟩ = some (.int .u8 (((xs ++ [165, 90]).getD j 0 : Nat) : Int)) := by
  obtain ⟨cs, hb, hc⟩ := h.block
  rw [cell_of_row w g j cs 5 (0, 0) hb]
  exact hc j hj
theorem Mk.row {w : World} {g n cap : Nat} {xs : List Nat} (h : Mk w g n cap xs) : Rdv w (some ⟨g, 0, none⟩) n 1 (valsB xs) := by
  have hl := h.len
  refine ⟨by rw [valsB_length]; omega, fun _ => ⟨g, 0, rfl, fun j u hj => ?_⟩⟩
  rw [valsB_get] at hj
  cases hx : xs[j]? with
  | none => rw [hx] at hj; cases hj
  | some x =>
    rw [hx] at hj
    cases hj
    have hjl := (List.getElem?_eq_some_iff.1 hx).1
    rw [Nat.zero_add, h.cells j (by omega)]
    simp [List.getD_eq_getElem?_getD, List.getElem?_append_left hjl, hx]
theorem Mk.lt {w : World} {g n cap : Nat} {xs : List Nat} (h : Mk w g n cap xs) : g < w.heap.size := by
  obtain ⟨cs, hb, _⟩ := h.block
  exact (Array.getElem?_eq_some_iff.1 hb).1
theorem Mk.at {w w' : World} {g n cap : Nat} {xs : List Nat} (h : Mk w g n cap xs) (hb : w'.heap[g]? = w.heap[g]?) : Mk w' g n cap xs := by
  obtain ⟨cs, h1, h2⟩ := h.block
  exact ⟨h.len, h.cap, cs, hb.trans h1, h2⟩
theorem Mk.bt {w : World} {g n cap : Nat} {xs : List Nat} (h : Mk w g n cap xs) (hs : ∀ x ∈ xs, x < 256) : Bt w g 0 n := by
  obtain ⟨cs, h1, _⟩ := h.block
  exact Bt.of h.row hs rfl h1
theorem rdv_two (w : World) : Rdv (w.alloc (.cells #[Value.int .u8 165, Value.int .u8 90] 5)) (some ⟨w.heap.size, 0, none⟩) 2 1 (valsB [165, 90]) := by
  refine ⟨rfl, fun _ => ⟨_, _, rfl, fun j u hj => ?_⟩⟩
  rw [cell_of_row _ _ _ _ 5 (0, 0) (heap_alloc_new w (.cells #[.int .u8 165, .int .u8 90] 5 (0, 0)))]
  rw [Nat.zero_add]
  exact (show (#[Value.int .u8 165, .int .u8 90])[j]? = (valsB [165, 90])[j]? by simp [valsB]).trans hj
theorem mk_of_own {w : World} {B n : Nat} {v : Value} {xs : List Nat} (h : OwnB w B v ([] ++ xs ++ [165, 90])) (hl : xs.length = n) :
    ∃ g cap, v = .slice (some ⟨g, 0, none⟩) (n + 2) cap ∧ Mk w g n cap xs ∧ B ≤ g ∧ cap ≤ 9223372036854775807 := by
  have hlen : ([] ++ xs ++ [165, 90]).length = n + 2 := by simp [hl]
  rcases h.2 with ⟨rfl, h0⟩ | ⟨g, cap, cur, rfl, hB, hg, h1, h2, h3, h4⟩
  · omega
  · rw [hlen] at h1
    unfold maxLen at h2
    refine ⟨g, cap, by rw [hlen], ⟨hl, h1, cur, hg, fun j hj => ?_⟩, hB, h2⟩
    have hc := h.cells (g := g) rfl j (.int .u8 (((xs ++ [165, 90]).getD j 0 : Nat) : Int)) (by
      rw [valsB_get, List.nil_append, List.getElem?_eq_getElem (show j < (xs ++ [165, 90]).length by simp [hl]; omega)]
      simp [List.getD_eq_getElem?_getD, List.getElem?_eq_getElem (show j < (xs ++ [165, 90]).length by simp [hl]; omega)])
    rw [addr_plus, Nat.zero_add, cell_of_row w g j cur 5 (0, 0) hg] at hc
    exact hc

set_option maxHeartbeats 1000000 in
theorem copy_any (A : Option Addr) (n c : Nat) (xs : List Nat) (w : World) (hb : Rdv w A n 1 (valsB xs)) (hnil : A = none → c = 0) (hn : n ≤ 8796093000000) :
    Calls Tryd.prog 22 #[.slice A n c] w fun e w' => ∃ g cap, e = .returned (.slice (some ⟨g, 0, none⟩) n cap) ∧ Mk w' g n cap xs ∧ w.heap.size ≤ g ∧ Below w.heap.size w w' := by
  obtain ⟨i0, hi, hz0, hz1, hz2⟩ := info_parts (show (Tryd.prog.info? 5).map (fun i => (i.zero, i.size, i.bytes)) = some (some (.int .u8 0), 1, 1) by kernel_rfl)
  have hl : xs.length = n := by have := hb.1; rw [valsB_length] at this; omega
  have HL := Lib.hid hl
  have HR := Lib.hid hb
  clear hl hb
  go_enter Tryd.func22, Tryd.ntmps22
  go_wp2_with (first
    | (at_make; refine wpList_make_own w rfl _ _ 28 rfl w.heap.size 5 i0 (.int .u8 0) 1 Tryd.underlying28 hi hz0 hz1 .i64 .i64 ((n : Int) + 2) (n + 2) rfl rfl (by omega) (by rw [hz2]; omega) (by unfold maxLen; omega) (Nat.le_refl _) ?_; intro w1 hown1 hg1; have hb1 : Below w.heap.size w w1 := (Below.refl _ w).grown hg1 (Nat.le_refl _) (fun k hk => by cases hk))
    | (at_builtin; refine wpList_appB rfl (.tmp 6) (.tmp 7) rfl w.heap.size _ [] rfl hown1 A n c xs rfl (HR.out.ext (stays_b hb1)) hnil (by show 0 + n ≤ _; omega) hb1.size ?_; intro v2 w2 hown2 hb2 _ _; have hbw2 := hb1.trans hb2; have hbw3 := hbw2.alloc hbw2.size (.cells #[Value.int .u8 165, Value.int .u8 90] 5))
    | (at_builtin; refine wpList_appB rfl (.tmp 8) (.tmp 9) rfl w.heap.size _ ([] ++ xs) rfl (World.ownsRow.alloc hown2 _) _ 2 2 [165, 90] rfl (rdv_two w2) (fun h => by cases h) (by rw [List.nil_append, HL.out]; omega) (by have := hbw2.size; rw [World.size_alloc]; omega) ?_; intro v4 w4 hown4 hb4 _ _; obtain ⟨g, cap, rfl, hmk, hBg, hcap2⟩ := mk_of_own hown4 HL.out; have hcap := hmk.cap))
  go_ret
  exact ⟨g, cap, rfl, hmk, hBg, hbw3.trans hb4⟩
set_option maxHeartbeats 400000 in
theorem kept_any (g n cap : Nat) (xs : List Nat) (A : Option Addr) (c : Nat) (w : World) (hm : Mk w g n cap xs) (hb : Rdv w A n 1 (valsB xs)) (hn : n ≤ 8796093000000) :
    Calls Tryd.prog 24 #[.slice (some ⟨g, 0, none⟩) n cap, .slice A n c] w fun e w' => e = .returned (.bool true) ∧ w = w' := by
  have h1 := run_str w (some ⟨g, 0, none⟩) n cap xs hm.row
  have h2 := run_str w A n c xs hb
  obtain ⟨s, hs⟩ : ∃ s, s = strN xs := ⟨_, rfl⟩
  rw [← hs] at h1 h2
  have c1 := hm.cells n (by omega)
  have c2 := hm.cells (n + 1) (by omega)
  have hl := hm.len
  have hcap := hm.cap
  have e1 : (xs ++ [165, 90]).getD n 0 = 165 := by simp [List.getD_eq_getElem?_getD, ← hl]
  have e2 : (xs ++ [165, 90]).getD (n + 1) 0 = 90 := by simp [List.getD_eq_getElem?_getD, ← hl]
  rw [e1] at c1
  rw [e2] at c2
  have c1' : w.cell? ⟨g, n, none⟩ = some (.int .u8 165) := c1
  have c2' : w.cell? ⟨g, n + 1, none⟩ = some (.int .u8 90) := c2
  clear c1 c2 e1 e2 hl hs hb hm
  go_enter Tryd.func24, Tryd.ntmps24
  go_wp2
  go_ret
  exact ⟨rfl, rfl⟩
end Go.Proofs.YtkeckjgihjpfbaaDoor
