/- A walk shows a range. -/
import Derived.Test.YtdbckolndaodeaaTGet
namespace Go.Proofs.Ytdbckolndaodeaa
set_option maxRecDepth 100000
open Go.RowKit

/-- What is shown goes where. -/
structure Shows (G cb : Nat) (w0 : World) (Q : List Ix → World → Prop) : Prop where
  below : ∀ l w, Q l w → Below w0.heap.size w0 w
  later : ∀ l w w', Q l w → Below w.heap.size w w' → Q l w'
  shows : ∀ l w (x : Ix), Q l w → l.length < 100000 → Calls Try.prog G #[.agg #[.int .i64 x.c.v, .int .i64 x.c.s, .bool x.c.dead, .int .i64 x.k], .pointer (some ⟨cb, 0, none⟩)] w fun e w' => e = .returned (.tuple #[]) ∧ Q (l ++ [x]) w'
section
variable {hi : Int} {l : List Ix} {z : Nat} {x : Ix}
theorem lastL (hi : Int) (h : l.length ≤ z) : (l.drop z).takeWhile (fun y => decide (y.k ≤ hi)) = [] := by rw [List.drop_of_length_le h]; rfl
theorem drop_at {β : Type} {l : List β} {z : Nat} {x : β} (hx : l[z]? = some x) : l.drop z = x :: l.drop (z + 1) := by
  obtain ⟨h, e⟩ := List.getElem?_eq_some_iff.1 hx
  rw [List.drop_eq_getElem_cons h, e]
theorem stopL (hi : Int) (hx : l[z]? = some x) (h : hi < x.k) : (l.drop z).takeWhile (fun y => decide (y.k ≤ hi)) = [] := by
  rw [drop_at hx, List.takeWhile_cons, if_neg (by simp; omega)]
theorem goL (hi : Int) (hx : l[z]? = some x) (h : ¬ hi < x.k) : (l.drop z).takeWhile (fun y => decide (y.k ≤ hi)) = x :: (l.drop (z + 1)).takeWhile (fun y => decide (y.k ≤ hi)) := by
  rw [drop_at hx, List.takeWhile_cons, if_pos (by simp; omega)]
variable {β : Type} {bs : List β} {b : β}
theorem lastK (f : β → List Ix) (hi : Int) (h : l.length ≤ z) (hb : bs[z]? = some b) : walkN f hi (l.drop z) (bs.drop z) = f b := by
  rw [List.drop_of_length_le h, drop_at hb]; rfl
theorem preK (f : β → List Ix) (hi : Int) {l : List Ix} {bs : List β} {b : β} (hb : bs[0]? = some b) : ∃ r, walkN f hi l bs = f b ++ r := by
  cases bs with
  | nil => cases hb
  | cons b' bs =>
    have e : b' = b := by simpa using hb
    subst e
    cases l with
    | nil => exact ⟨[], by simp [walkN]⟩
    | cons x l => exact ⟨_, rfl⟩
theorem stopK (f : β → List Ix) (hi : Int) (hx : l[z]? = some x) (hb : bs[z]? = some b) (h : hi < x.k) : walkN f hi (l.drop z) (bs.drop z) = f b := by
  rw [drop_at hx, drop_at hb, walkN, if_pos h, List.append_nil]
theorem goK (f : β → List Ix) (hi : Int) (hx : l[z]? = some x) (hb : bs[z]? = some b) (h : ¬ hi < x.k) : walkN f hi (l.drop z) (bs.drop z) = f b ++ x :: walkN f hi (l.drop (z + 1)) (bs.drop (z + 1)) := by
  rw [drop_at hx, drop_at hb, walkN, if_neg h]
end
end Go.Proofs.Ytdbckolndaodeaa
