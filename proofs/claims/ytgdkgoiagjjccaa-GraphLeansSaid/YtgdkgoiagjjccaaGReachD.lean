/- A search's memory: a stack of one's own, numbers of one's own, all else as it was. -/
import Derived.Test.YtgdkgoiagjjccaaZA
import Derived.Test.YtgdkgoiagjjccaaGLevM
import Derived.Test.YtgdkgoiagjjccaaSRefN
namespace Go.Proofs.Ytgdkgoiagjjccaa
set_option maxRecDepth 100000
open Go.RowKit

theorem rdv_one1 (w : World) (v : Value) (t : TypeId) : Rdv (w.alloc (.cells #[v] t)) (some ⟨w.heap.size, 0, none⟩) 1 1 [v] :=
  ⟨rfl, fun _ => ⟨_, _, rfl, fun j u hj => by
    rcases j with _ | j
    · simp at hj; subst hj; rw [cell_of_row _ _ _ _ _ (0, 0) (heap_alloc_new w _)]; rfl
    · simp at hj⟩⟩
theorem one_slice1 (A : Option Addr) (n c : Nat) : ∀ u ∈ [Value.slice A n c], u.oneCell' = true := by
  intro u hu; simp at hu; subst hu; rfl
theorem one_int1 (z : Int) : ∀ u ∈ [Value.int .i64 z], u.oneCell' = true := by
  intro u hu; simp at hu; subst hu; rfl
theorem valsZ_snoc (l : List Int) (x : Int) : valsZ (l ++ [x]) = valsZ l ++ [.int .i64 x] := by simp [valsZ]
/-- An own row cut by its last one. -/
theorem own_pop {w : World} {B e n c : Nat} {A : Option Addr} {xs : List Value} {v : Value} (h : w.ownsRow B e 1 (.slice A (n + 1) c) (n + 1) (xs ++ [v])) : w.ownsRow B e 1 (.slice A n c) n xs := by
  obtain ⟨hl, h⟩ := h
  have hx : xs.length = n := by simp at hl; omega
  refine ⟨by omega, ?_⟩
  rcases h with ⟨_, h0⟩ | ⟨g, cap, cur, hv, hB, hg, h1, h2, h3, h4⟩
  · omega
  · injection hv with a1 a2 a3
    subst a1 a3
    refine .inr ⟨g, c, cur, rfl, hB, hg, by omega, h2, h3, ?_⟩
    have e : cur.toList.take (n * 1) = (cur.toList.take ((n + 1) * 1)).take n := by
      rw [List.take_take]
      congr 1
      omega
    rw [e, h4, ← hx, List.take_left]
/-- One made of one thing. -/
theorem own_single (w : World) (B e : Nat) (v : Value) (hB : B ≤ w.heap.size) : (w.alloc (.cells #[v] e)).ownsRow B e 1 (.slice (some ⟨w.heap.size, 0, none⟩) 1 1) 1 [v] :=
  ⟨rfl, .inr ⟨w.heap.size, 1, #[v], rfl, hB, heap_alloc_new w _, Nat.le_refl _, by unfold maxLen; omega, rfl, rfl⟩⟩
/-- Nothing older turned but one block. -/
structure Only1 (W1 : World) (g : Nat) (W : World) : Prop where
  os : W.os = W1.os
  tape : W.tape = W1.tape
  output : W.output = W1.output
  size : W1.heap.size ≤ W.heap.size
  block : ∀ q, q < W1.heap.size → q ≠ g → W.heap[q]? = W1.heap[q]?
section
variable {W1 W W' : World} {g : Nat}
theorem Only1.refl : Only1 W1 g W1 := ⟨rfl, rfl, rfl, Nat.le_refl _, fun _ _ _ => rfl⟩
theorem Only1.set (h : Only1 W1 g W) (k : Nat) (v : Value) : Only1 W1 g (W.setCell ⟨g, k, none⟩ v) :=
  ⟨h.os, h.tape, h.output, by rw [World.size_setCell]; exact h.size, fun q hq hne => (Below.heap_setCell _ _ _ _ hne).trans (h.block q hq hne)⟩
theorem Only1.drew (h : Only1 W1 g W) : Only1 W1 g W.drew := ⟨h.os, h.tape, h.output, h.size, h.block⟩
theorem Only1.below (h : Only1 W1 g W) (hb : Below W1.heap.size W W') : Only1 W1 g W' :=
  ⟨hb.os.trans h.os, hb.tape.trans h.tape, hb.output.trans h.output, Nat.le_trans h.size hb.size, fun q hq hne => (hb.block q hq).trans (h.block q hq hne)⟩
end
/-- Numbers of one's own stay where nothing older turns. -/
theorem LV.ext {B : Nat} {W0 W W' : World} {g n : Nat} {f : Nat → Int} (h : LV B W0 g n f W) (_ : B ≤ W.heap.size) {C : Nat} (hC : g < C) (hBC : B ≤ C) (hb : Below C W W') : LV B W0 g n f W' := by
  have hg := hb.block g hC
  refine ⟨h.below.trans (hb.mono hBC), h.lo, Nat.lt_of_lt_of_le h.lt hb.size, fun x hx => ?_, fun o => ?_⟩
  · rw [(cell_frozen hg).1]; exact h.cells x hx
  · rw [(cell_frozen hg).2]; exact h.fr o
end Go.Proofs.Ytgdkgoiagjjccaa
