/- Plain facts on the register: numbers below 2^32, no program. -/
import Derived.Laws.BitsAllLaws
import Derived.Laws.BitsLemmas
namespace Go.Proofs.YtfajalhpenincaaDoor
def tabN : List Nat := [0, 498536548, 997073096, 651767980, 1994146192, 1802195444, 1303535960, 1342533948, 3988292384, 4027552580, 3604390888, 3412177804, 2607071920, 2262029012, 2685067896, 3183342108]
def iter (f : Nat → Nat) : Nat → Nat → Nat
  | 0, a => a
  | n + 1, a => f (iter f n a)
def nib (r : Nat) : Nat := tabN.getD (r % 16) 0 ^^^ (r / 16)
def feed1 (r x : Nat) : Nat := nib (nib (r ^^^ x))
def feedL (r : Nat) (xs : List Nat) : Nat := xs.foldl feed1 r
def Small (xs : List Nat) : Prop := ∀ x ∈ xs, x < 256
theorem xor_lt32 {a b : Nat} (ha : a < 4294967296) (hb : b < 4294967296) : a ^^^ b < 4294967296 := Nat.xor_lt_two_pow (n := 32) ha hb
theorem tab_lt (i : Nat) : tabN.getD i 0 < 4294967296 := by
  by_cases h : i < 16
  · have : ∀ j, j < 16 → tabN.getD j 0 < 4294967296 := by decide
    exact this i h
  · have : tabN.getD i 0 = 0 := by
      rw [List.getD_eq_getElem?_getD, List.getElem?_eq_none (by simp [tabN]; omega)]; rfl
    omega
theorem nib_lt {r : Nat} (h : r < 4294967296) : nib r < 4294967296 := xor_lt32 (tab_lt _) (by omega)
theorem feed1_lt {r x : Nat} (h : r < 4294967296) (hx : x < 256) : feed1 r x < 4294967296 := nib_lt (nib_lt (xor_lt32 h (by omega)))
theorem feedL_lt {r : Nat} (h : r < 4294967296) : ∀ {xs : List Nat}, Small xs → feedL r xs < 4294967296 := by
  intro xs
  induction xs generalizing r with
  | nil => intro _; exact h
  | cons x xs ih =>
    intro hs
    exact ih (feed1_lt h (hs x (List.mem_cons_self))) (fun y hy => hs y (List.mem_cons_of_mem _ hy))
theorem feedL_append (r : Nat) (xs ys : List Nat) : feedL r (xs ++ ys) = feedL (feedL r xs) ys := List.foldl_append
theorem take_succ_getD (xs : List Nat) (k : Nat) (h : k < xs.length) : xs.take (k + 1) = xs.take k ++ [xs.getD k 0] := by
  rw [List.take_succ_eq_append_getElem h]
  simp [List.getD_eq_getElem?_getD, h]
theorem feedL_snoc (r : Nat) (xs : List Nat) (k : Nat) (h : k < xs.length) : feedL r (xs.take (k + 1)) = feed1 (feedL r (xs.take k)) (xs.getD k 0) := by
  rw [take_succ_getD xs k h, feedL_append]; rfl
theorem small_take {xs : List Nat} (h : Small xs) (k : Nat) : Small (xs.take k) := fun x hx => h x (List.mem_of_mem_take hx)
theorem getD_small {xs : List Nat} (h : Small xs) (k : Nat) : xs.getD k 0 < 256 := by
  rw [List.getD_eq_getElem?_getD]
  by_cases hk : k < xs.length
  · rw [List.getElem?_eq_getElem hk]; exact h _ (List.getElem_mem hk)
  · rw [List.getElem?_eq_none (by omega)]; decide
end Go.Proofs.YtfajalhpenincaaDoor
