/- Levels: the mathematics; numbers that a function makes and turns. -/
import Derived.Test.YtgdkgoiagjjccaaSLarge
namespace Go.Proofs.Ytgdkgoiagjjccaa
set_option maxRecDepth 100000
open Go.RowKit

/-- A place's level, over the ones ahead. -/
def lv1 (out l : List Int) : Int := l.foldl (fun a j => max a (out.getD j.toNat 0 + 1)) 0
/-- The first levels. -/
def lvTo (ls : List (List Int)) : Nat → List Int
  | 0 => []
  | k + 1 => lvTo ls k ++ [lv1 (lvTo ls k) (ls.getD k [])]
theorem lvTo_len (ls : List (List Int)) (k : Nat) : (lvTo ls k).length = k := by
  induction k with
  | zero => rfl
  | succ k ih => simp [lvTo, ih]
theorem lvTo_old (ls : List (List Int)) {k i : Nat} (h : i < k) : (lvTo ls (k + 1)).getD i 0 = (lvTo ls k).getD i 0 := by
  show (lvTo ls k ++ [lv1 (lvTo ls k) (ls.getD k [])]).getD i 0 = _
  rw [List.getD_eq_getElem?_getD, List.getElem?_append_left (by rw [lvTo_len]; exact h), List.getD_eq_getElem?_getD]
theorem lvTo_new (ls : List (List Int)) (k : Nat) : (lvTo ls (k + 1)).getD k 0 = lv1 (lvTo ls k) (ls.getD k []) := by
  show (lvTo ls k ++ [lv1 (lvTo ls k) (ls.getD k [])]).getD k 0 = _
  rw [List.getD_eq_getElem?_getD, List.getElem?_append_right (by rw [lvTo_len]; exact Nat.le_refl _), lvTo_len, Nat.sub_self]
  rfl
theorem lvTo_far (ls : List (List Int)) {k i : Nat} (h : k ≤ i) : (lvTo ls k).getD i 0 = 0 := by
  rw [List.getD_eq_getElem?_getD, List.getElem?_eq_none (by rw [lvTo_len]; exact h)]
  rfl
theorem lv1_take {out l : List Int} {q : Nat} (h : q < l.length) : lv1 out (l.take (q + 1)) = max (lv1 out (l.take q)) (out.getD (l.getD q 0).toNat 0 + 1) := by
  unfold lv1
  rw [List.take_succ_eq_append_getElem h, List.foldl_append]
  simp [List.getD_eq_getElem?_getD, h]
theorem lv1_le {out l : List Int} {k : Nat} (hl : ∀ x ∈ l, 0 ≤ x ∧ x < (k : Int)) (ho : ∀ i, i < k → 0 ≤ out.getD i 0 ∧ out.getD i 0 ≤ (i : Int)) : 0 ≤ lv1 out l ∧ lv1 out l ≤ (k : Int) := by
  unfold lv1
  have : ∀ (l : List Int) (a : Int), (∀ x ∈ l, 0 ≤ x ∧ x < (k : Int)) → 0 ≤ a ∧ a ≤ (k : Int) → 0 ≤ l.foldl (fun a j => max a (out.getD j.toNat 0 + 1)) a ∧ l.foldl (fun a j => max a (out.getD j.toNat 0 + 1)) a ≤ (k : Int) := by
    intro l
    induction l with
    | nil => exact fun a _ h => h
    | cons x l ih =>
      intro a hl ha
      have hx := hl x (List.mem_cons_self ..)
      have := ho x.toNat (by omega)
      refine ih _ (fun y hy => hl y (List.mem_cons_of_mem _ hy)) ?_
      show 0 ≤ max a (out.getD x.toNat 0 + 1) ∧ max a (out.getD x.toNat 0 + 1) ≤ (k : Int)
      omega
  exact this l 0 hl (by omega)
theorem lvTo_bd {ls : List (List Int)} (h : GoodL ls) (k : Nat) : ∀ i, i < k → 0 ≤ (lvTo ls k).getD i 0 ∧ (lvTo ls k).getD i 0 ≤ (i : Int) := by
  induction k with
  | zero => intro i hi; omega
  | succ k ih =>
    intro i hi
    by_cases e : i = k
    · subst e
      rw [lvTo_new]
      exact lv1_le (fun x hx => h.mem hx) ih
    · rw [lvTo_old ls (by omega)]
      exact ih i (by omega)
theorem lv1_row {ls : List (List Int)} (h : GoodL ls) (k q : Nat) : 0 ≤ lv1 (lvTo ls k) ((ls.getD k []).take q) ∧ lv1 (lvTo ls k) ((ls.getD k []).take q) ≤ (k : Int) :=
  lv1_le (fun _ hx => h.mem (List.mem_of_mem_take hx)) (lvTo_bd h k)
/-- What the numbers are while a place is looked at. -/
def lvF (ls : List (List Int)) (k q : Nat) : Nat → Int := upd (fun x => (lvTo ls k).getD x 0) k (lv1 (lvTo ls k) ((ls.getD k []).take q))
theorem lvF_zero (ls : List (List Int)) (k : Nat) : lvF ls k 0 = fun x => (lvTo ls k).getD x 0 := by
  unfold lvF
  rw [List.take_zero, show lv1 (lvTo ls k) [] = (fun x => (lvTo ls k).getD x 0) k from (lvTo_far ls (Nat.le_refl k)).symm, upd_self]
theorem lvF_end (ls : List (List Int)) (k : Nat) : lvF ls k (ls.getD k []).length = fun x => (lvTo ls (k + 1)).getD x 0 := by
  funext x
  unfold lvF
  rw [List.take_length]
  by_cases e : x = k
  · subst e; rw [upd_same, lvTo_new]
  · rw [upd_other _ _ e]
    rcases Nat.lt_or_ge x k with h | h
    · rw [lvTo_old ls h]
    · rw [lvTo_far ls h, lvTo_far ls (by omega)]
theorem lvF_next (ls : List (List Int)) (k q : Nat) (h : q < (ls.getD k []).length) : upd (lvF ls k q) k (max (lv1 (lvTo ls k) ((ls.getD k []).take q)) ((lvTo ls k).getD ((ls.getD k []).getD q 0).toNat 0 + 1)) = lvF ls k (q + 1) := by
  unfold lvF
  rw [lv1_take h]
  funext x
  by_cases e : x = k
  · subst e; rw [upd_same, upd_same]
  · rw [upd_other _ _ e, upd_other _ _ e, upd_other _ _ e]

/-- Numbers in a block of one's own. -/
structure LV (B : Nat) (W0 : World) (g n : Nat) (f : Nat → Int) (W : World) : Prop where
  below : Below B W0 W
  lo : B ≤ g
  lt : g < W.heap.size
  cells : ∀ x, x < n → W.cell? ⟨g, x, none⟩ = some (.int .i64 (f x))
  fr : ∀ o, W.frozen? ⟨g, o, none⟩ = false
section
variable {B : Nat} {W0 W : World} {g n : Nat} {f : Nat → Int}
theorem LV.drew (h : LV B W0 g n f W) : LV B W0 g n f W.drew := ⟨h.below.drew, h.lo, h.lt, h.cells, h.fr⟩
theorem LV.set (h : LV B W0 g n f W) (k : Nat) (z : Int) : LV B W0 g n (upd f k z) (W.setCell ⟨g, k, none⟩ (.int .i64 z)) := by
  refine ⟨h.below.setCell (p := ⟨g, k, none⟩) h.lo _, h.lo, by rw [World.size_setCell]; exact h.lt, fun x hx => ?_, fun o => by rw [World.frozen?_setCell]; exact h.fr o⟩
  by_cases e : x = k
  · subst e; rw [upd_same]; exact set_same (h.cells x hx)
  · rw [upd_other _ _ e, set_off e]; exact h.cells x hx
theorem LV.made (w : World) (n : Nat) : LV w.heap.size w w.heap.size n (fun _ => 0) (w.alloc (.cells (madeCells zI n) 3)) := by
  refine ⟨(Below.refl _ w).alloc (Nat.le_refl _) _, Nat.le_refl _, by simp, fun x hx => ?_, fun o => frozen_of_row _ _ _ _ _ (heap_alloc_new w _)⟩
  rw [cell_of_row _ _ _ _ _ (0, 0) (heap_alloc_new w _), made_at _ _ _ hx]
  simp [zI, Nat.mod_one]
end
end Go.Proofs.Ytgdkgoiagjjccaa
