/- Appending bytes to a row that the call made itself; such a row read as bytes. -/
import Derived.Test.YtfajalhpenincaaDoorAlive
import Derived.Laws.AppendOwnNone
import Derived.OwnWalk
namespace Go.Proofs.YtfajalhpenincaaDoor
open Go.RowKit

theorem addr_add (b off j : Nat) : (⟨b, off, none⟩ : Addr).add j = ⟨b, off + j, none⟩ := by
  unfold Addr.add
  by_cases h : j = 0
  · subst h; simp
  · simp [h]
def vals (xs : List Nat) : List Value := xs.map fun (x : Nat) => Value.int .u8 (x : Int)
theorem vals_append (xs ys : List Nat) : vals (xs ++ ys) = vals xs ++ vals ys := by simp [vals]
theorem vals_length (xs : List Nat) : (vals xs).length = xs.length := by simp [vals]
theorem vals_one (xs : List Nat) : ∀ u ∈ vals xs, u.oneCell' = true := by
  intro u hu
  simp only [vals, List.mem_map] at hu
  obtain ⟨x, _, rfl⟩ := hu
  rfl
theorem vals_at (xs : List Nat) (j : Nat) (u : Value) (h : (vals xs)[j]? = some u) : j < xs.length ∧ u = .int .u8 ((xs.getD j 0 : Nat) : Int) := by
  have hj : j < xs.length := by
    rcases Nat.lt_or_ge j xs.length with h' | h'
    · exact h'
    · rw [List.getElem?_eq_none (by rw [vals_length]; omega)] at h; cases h
  refine ⟨hj, ?_⟩
  simp [vals, hj] at h
  rw [← h]; simp [List.getD_eq_getElem?_getD, hj]
theorem u8_info : (Tryd.prog.info? 5).map (fun i => (i.zero, i.size, i.bytes)) = some (some (.int .u8 0), 1, 1) := by kernel_rfl

/-- A row of the call's own that reads as bytes. -/
def Own (w : World) (B : Nat) (v : Value) (xs : List Nat) : Prop := w.ownsRow B 5 1 v xs.length (vals xs)

theorem Own.bts {w : World} {B : Nat} {v : Value} {xs : List Nat} (h : Own w B v xs) (hs : Small xs) : ∃ A c, v = .slice A xs.length c ∧ Bts w A xs.length xs ∧ (A = none → c = 0) := by
  rcases h.2 with ⟨rfl, h0⟩ | ⟨g, cap, cur, rfl, _⟩
  · have : xs = [] := List.eq_nil_of_length_eq_zero h0
    subst this
    exact ⟨none, 0, rfl, ⟨rfl, hs, fun hn => absurd hn (by simp)⟩, fun _ => rfl⟩
  · refine ⟨_, _, rfl, ⟨rfl, hs, fun _ => ⟨g, 0, rfl, fun j hj => ?_⟩⟩, fun he => by cases he⟩
    have hc := h.cells (g := g) rfl j (.int .u8 ((xs.getD j 0 : Nat) : Int)) (by simp [vals, List.getD_eq_getElem?_getD, hj])
    rw [addr_add] at hc
    exact hc
theorem own_of_row {w : World} {B : Nat} {v : Value} {n : Nat} {xs : List Nat} (h : w.ownsRow B 5 1 v n (vals xs)) (hn : n = xs.length) : Own w B v xs := by subst hn; exact h

theorem wpList_append_bts {w : World} {ops : Array Oper} {rest : List Oper} {o : Oper} {a : Act} {Q : Exit → Act → World → Prop} (hgd : o.guard = none) (s x : Operand)
    (ho : o.op = .call { callee := .builtin .append, args := #[s, x], argTypes := #[22, 22] })
    (B : Nat) (v : Value) (xs : List Nat) (hs : a.eval s = v) (hown : Own w B v xs)
    (A : Option Addr) (m c : Nat) (ys : List Nat) (hx : a.eval x = .slice A m c) (hr : Bts w A m ys) (hnil : A = none → c = 0)
    (hlen : xs.length + m ≤ 140737488355328) (hbase : B ≤ w.heap.size)
    (h : ∀ v' w', Own w' B v' (xs ++ ys) → Below B w w' → wpList Tryd.prog ops Q rest (a.put o.dst v') w') : wpList Tryd.prog ops Q (o :: rest) a w := by
  obtain ⟨i0, hi, hz0, hz1, hz2⟩ := info_parts u8_info
  obtain ⟨hl, _, hc⟩ := hr
  rcases A with _ | ad
  · have hm : m = 0 := by
      rcases Nat.eq_zero_or_pos m with h0 | h0
      · exact h0
      · obtain ⟨b, off, h1, _⟩ := hc h0; cases h1
    have hc0 := hnil rfl
    subst hm hc0
    have hy : ys = [] := List.eq_nil_of_length_eq_zero hl
    subst hy
    refine wpList_append_own_none hgd s x 22 ho B 5 i0 1 Tryd.underlying22 hi v xs.length (vals xs) hs hown hx (h v w ?_ (Below.refl _ _))
    rw [List.append_nil]; exact hown
  · refine wpList_append_own w hgd s x 22 ho B 5 i0 (.int .u8 0) 1 1 Tryd.underlying22 hi hz0 hz1 hz2 rfl (by decide) v xs.length (vals xs) hs hown ad m c (vals ys) hx (by rw [vals_length, hl, Nat.mul_one]) ?_ (vals_one ys)
      (by unfold maxLen; omega) (by omega) hbase ?_
    · intro j u hu
      obtain ⟨hj, rfl⟩ := vals_at ys j u hu
      obtain ⟨b, off, h1, h2⟩ := hc (by omega)
      have h3 := h2 j (by omega)
      injection h1 with h1
      subst h1
      rw [addr_add]
      exact h3
    · intro v' w' h1 h2 _
      refine h v' w' (own_of_row (n := xs.length + m) (by rw [vals_append]; exact h1) (by simp [hl])) ?_
      exact (Below.refl B w).grown h2 hbase (fun k hk => (hown.lt k hk).1)
end Go.Proofs.YtfajalhpenincaaDoor
