/- Rows of figures in memory: read, and made by the call itself. -/
import Derived.Test.YtfajalhpenincaaTotal
import Derived.Test.YtfajalhpenincaaBigMath
import Derived.Laws.AppendOwnNone
import Derived.Laws.CopyOwn
import Derived.OwnWalk
import Derived.Lib.SmallJoins
import Derived.Lib.SlBytesConst
namespace Go.Proofs.Ytfajalhpenincaa
open Go.RowKit

def Stays (w w' : World) : Prop := ∀ p : Addr, p.block < w.heap.size → w'.cell? p = w.cell? p
theorem stays_below {w w' : World} (h : Below w.heap.size w w') : Stays w w' := fun _ hp => h.cell hp
theorem stays_alloc (w : World) (o : Obj) : Stays w (w.alloc o) := fun _ hp => World.cell?_alloc_lt w o _ hp
theorem Stays.cell {w w' : World} (h : Stays w w') {p : Addr} {v : Value} (hp : w.cell? p = some v) : w'.cell? p = some v := by
  rw [h p (World.block_lt_of_cell? _ _ hp)]; exact hp

/-- A slice that reads as figures. -/
def Dg (w : World) (A : Option Addr) (n : Nat) (ds : List Nat) : Prop :=
  ds.length = n ∧ Fig ds ∧ (0 < n → ∃ b off, A = some ⟨b, off, none⟩ ∧ ∀ j, j < n → w.cell? ⟨b, off + j, none⟩ = some (.int .i64 ((ds.getD j 0 : Nat) : Int)))
theorem Dg.ext {w w' : World} {A : Option Addr} {n : Nat} {ds : List Nat} (h : Dg w A n ds) (hs : Stays w w') : Dg w' A n ds :=
  ⟨h.1, h.2.1, fun hn => by
    obtain ⟨b, off, e, hc⟩ := h.2.2 hn
    exact ⟨b, off, e, fun j hj => hs.cell (hc j hj)⟩⟩
theorem Dg.take {w : World} {A : Option Addr} {n : Nat} {ds : List Nat} (h : Dg w A n ds) (k : Nat) (hk : k ≤ n) : Dg w A k (ds.take k) := by
  obtain ⟨h1, h2, h3⟩ := h
  refine ⟨by simp; omega, fig_take h2 k, fun h0 => ?_⟩
  obtain ⟨b, off, e, hc⟩ := h3 (by omega)
  refine ⟨b, off, e, fun j hj => ?_⟩
  rw [hc j (by omega)]
  simp [List.getD_eq_getElem?_getD, hj]
theorem dg_new (w : World) (ds : List Nat) (t : TypeId) (C : Array Value) (n : Nat) (hn : ds.length = n) (hC : C = (ds.map fun (x : Nat) => Value.int .i64 (x : Int)).toArray) (hs : Fig ds) :
    Dg (w.alloc (.cells C t)) (some ⟨w.heap.size, 0, none⟩) n ds := by
  subst hn
  refine ⟨rfl, hs, fun _ => ⟨_, _, rfl, fun j hj => ?_⟩⟩
  rw [World.cell?_alloc_mark, hC]
  simp [List.getD_eq_getElem?_getD, hj]

theorem addr_add (b off j : Nat) : (⟨b, off, none⟩ : Addr).add j = ⟨b, off + j, none⟩ := by
  unfold Addr.add
  by_cases h : j = 0
  · subst h; simp
  · simp [h]
def vals (xs : List Nat) : List Value := xs.map fun (x : Nat) => Value.int .i64 (x : Int)
theorem vals_append (xs ys : List Nat) : vals (xs ++ ys) = vals xs ++ vals ys := by simp [vals]
theorem vals_length (xs : List Nat) : (vals xs).length = xs.length := by simp [vals]
theorem vals_one (xs : List Nat) : ∀ u ∈ vals xs, u.oneCell' = true := by
  intro u hu
  simp only [vals, List.mem_map] at hu
  obtain ⟨x, _, rfl⟩ := hu
  rfl
theorem vals_at (xs : List Nat) (j : Nat) (u : Value) (h : (vals xs)[j]? = some u) : j < xs.length ∧ u = .int .i64 ((xs.getD j 0 : Nat) : Int) := by
  have hj : j < xs.length := by
    rcases Nat.lt_or_ge j xs.length with h' | h'
    · exact h'
    · rw [List.getElem?_eq_none (by rw [vals_length]; omega)] at h; cases h
  refine ⟨hj, ?_⟩
  simp [vals, hj] at h
  rw [← h]; simp [List.getD_eq_getElem?_getD, hj]
theorem i64_info : (Try.prog.info? 3).map (fun i => (i.zero, i.size, i.bytes)) = some (some (.int .i64 0), 1, 8) := by kernel_rfl

/-- A row of the call's own that reads as figures. -/
def Own (w : World) (B : Nat) (v : Value) (xs : List Nat) : Prop := w.ownsRow B 3 1 v xs.length (vals xs)
theorem own_nil (w : World) (B : Nat) : Own w B (.slice none 0 0) [] := ⟨rfl, .inl ⟨rfl, rfl⟩⟩
theorem Own.dg {w : World} {B : Nat} {v : Value} {xs : List Nat} (h : Own w B v xs) (hs : Fig xs) : ∃ A c, v = .slice A xs.length c ∧ Dg w A xs.length xs ∧ (A = none → c = 0) ∧ xs.length ≤ c := by
  rcases h.2 with ⟨rfl, h0⟩ | ⟨g, cap, cur, rfl, _, _, hle, _⟩
  · have : xs = [] := List.eq_nil_of_length_eq_zero h0
    subst this
    exact ⟨none, 0, rfl, ⟨rfl, hs, fun hn => absurd hn (by simp)⟩, fun _ => rfl, Nat.le_refl _⟩
  · refine ⟨_, _, rfl, ⟨rfl, hs, fun _ => ⟨g, 0, rfl, fun j hj => ?_⟩⟩, (fun he => by cases he), hle⟩
    have hc := h.cells (g := g) rfl j (.int .i64 ((xs.getD j 0 : Nat) : Int)) (by simp [vals, List.getD_eq_getElem?_getD, hj])
    rw [addr_add] at hc
    exact hc
theorem own_of_row {w : World} {B : Nat} {v : Value} {n : Nat} {xs : List Nat} (h : w.ownsRow B 3 1 v n (vals xs)) (hn : n = xs.length) : Own w B v xs := by subst hn; exact h

theorem wpList_append_dg {w : World} {ops : Array Oper} {rest : List Oper} {o : Oper} {a : Act} {Q : Exit → Act → World → Prop} (hgd : o.guard = none) (s x : Operand)
    (ho : o.op = .call { callee := .builtin .append, args := #[s, x], argTypes := #[23, 23] })
    (B : Nat) (v : Value) (xs : List Nat) (hs : a.eval s = v) (hown : Own w B v xs)
    (A : Option Addr) (m c : Nat) (ys : List Nat) (hx : a.eval x = .slice A m c) (hr : Dg w A m ys) (hnil : A = none → c = 0)
    (hlen : xs.length + m ≤ 17592186044416) (hbase : B ≤ w.heap.size)
    (h : ∀ v' w', Own w' B v' (xs ++ ys) → Below B w w' → wpList Try.prog ops Q rest (a.put o.dst v') w') : wpList Try.prog ops Q (o :: rest) a w := by
  obtain ⟨i0, hi, hz0, hz1, hz2⟩ := info_parts i64_info
  obtain ⟨hl, _, hc⟩ := hr
  rcases A with _ | ad
  · have hm : m = 0 := by
      rcases Nat.eq_zero_or_pos m with h0 | h0
      · exact h0
      · obtain ⟨b, off, h1, _⟩ := hc h0; cases h1
    have hc0 := hnil rfl
    subst hm hc0
    have hy : ys = [] := List.eq_nil_of_length_eq_zero hl
    subst hy
    refine wpList_append_own_none hgd s x 23 ho B 3 i0 1 Try.underlying23 hi v xs.length (vals xs) hs hown hx (h v w ?_ (Below.refl _ _))
    rw [List.append_nil]; exact hown
  · refine wpList_append_own w hgd s x 23 ho B 3 i0 (.int .i64 0) 1 8 Try.underlying23 hi hz0 hz1 hz2 rfl (by decide) v xs.length (vals xs) hs hown ad m c (vals ys) hx (by rw [vals_length, hl, Nat.mul_one]) ?_ (vals_one ys)
      (by unfold maxLen; omega) (by omega) hbase ?_
    · intro j u hu
      obtain ⟨hj, rfl⟩ := vals_at ys j u hu
      obtain ⟨b, off, h1, h2⟩ := hc (by omega)
      have h3 := h2 j (by omega)
      injection h1 with h1
      subst h1
      rw [addr_add]
      exact h3
    · intro v' w' h1 h2 _
      refine h v' w' (own_of_row (n := xs.length + m) (by rw [vals_append]; exact h1) (by simp [hl])) ?_
      exact (Below.refl B w).grown h2 hbase (fun k hk => (hown.lt k hk).1)
end Go.Proofs.Ytfajalhpenincaa
