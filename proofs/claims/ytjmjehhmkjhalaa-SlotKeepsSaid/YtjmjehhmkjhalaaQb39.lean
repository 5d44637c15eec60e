/- SlWI: put together. -/
import Derived.Test.YtjmjehhmkjhalaaQb07
import Derived.Test.YtjmjehhmkjhalaaQb03
/- A writer of one's own beside other blocks. -/
namespace Go.Proofs.Ytjmjehhmkjhalaa
set_option maxRecDepth 100000
open Go.RowKit

/-- The writer g between two rounds of a call that was entered in w; O: blocks of the call that it leaves. -/
structure WI (w : World) (g : Nat) (xs : List Nat) (O : Nat → Prop) (W : World) : Prop where
  b : Below w.heap.size w W
  gw : w.heap.size ≤ g
  low : ∀ q, O q → w.heap.size ≤ q
  lt : ∀ q, O q → q < W.heap.size
  wt : ∃ v, Wtr W w.heap.size g v xs ∧ ∀ q, O q → q ≠ g ∧ v.ownBlock ≠ some q
theorem WI.new {w W : World} {g : Nat} {O : Nat → Prop} (hb : Below w.heap.size w W) (hg : w.heap.size ≤ g) (hb2 : W.heap[g]? = some (.cells #[.slice none 0 0] 204 (0, 0))) (hO : ∀ q, O q → w.heap.size ≤ q ∧ q < W.heap.size ∧ q ≠ g) : WI w g [] O W :=
  ⟨hb, hg, fun q e => (hO q e).1, fun q e => (hO q e).2.1, .slice none 0 0, ⟨hg, hb2, World.ownsRow_nil _ _ _ _⟩, fun q e => ⟨(hO q e).2.2, by simp [Value.ownBlock]⟩⟩
/-- What was made since. -/
theorem WI.later {w W W' : World} {g : Nat} {xs : List Nat} {O : Nat → Prop} (h : WI w g xs O W) (hb : Below W.heap.size W W') : WI w g xs (fun q => O q ∨ (W.heap.size ≤ q ∧ q < W'.heap.size)) W' := by
  obtain ⟨h1, h2, h3, h4, v, h5, h6⟩ := h
  have hs := h1.size
  refine ⟨h1.trans (hb.mono hs), h2, fun q e => e.elim (h3 q) (fun e => by omega), fun q e => e.elim (fun e => Nat.lt_of_lt_of_le (h4 q e) hb.size) (fun e => e.2), v, ⟨h5.low, (hb.block g h5.lt).trans h5.block, row_stays h5.own fun k e => hb.block k (h5.own.lt k e).2⟩, fun q e => ?_⟩
  rcases e with e | e
  · exact h6 q e
  · refine ⟨fun c => ?_, fun c => ?_⟩
    · have := h5.lt; omega
    · have := (h5.own.lt q c).2; omega
theorem WI.few {w W : World} {g : Nat} {xs : List Nat} {O O' : Nat → Prop} (h : WI w g xs O W) (hs : ∀ q, O' q → O q) : WI w g xs O' W :=
  ⟨h.b, h.gw, fun q e => h.low q (hs q e), fun q e => h.lt q (hs q e), h.wt.elim fun v hv => ⟨v, hv.1, fun q e => hv.2 q (hs q e)⟩⟩
/-- Something is written. -/
theorem WI.call {w W : World} {g f : Nat} {xs ys : List Nat} {args : Array Value} {O : Nat → Prop} (h : WI w g xs O W)
    (hc : ∀ v, Wtr W w.heap.size g v xs → Calls Try.prog f args W fun e w' => e = .returned (.tuple #[]) ∧ ∃ v', Wrote W w' w.heap.size g v v' ys) :
    Calls Try.prog f args W fun e w' => e = .returned (.tuple #[]) ∧ WI w g ys O w' ∧ (∀ q, O q → w'.heap[q]? = W.heap[q]?) ∧ (∀ q, q < w.heap.size → w'.heap[q]? = W.heap[q]?) := by
  obtain ⟨h1, h2, h3, h4, v, h5, h6⟩ := h
  refine Calls.mono (hc v h5) ?_
  rintro e w' ⟨rfl, v', hW⟩
  have hbb := hW.touch.below h2 (row_low h5.own) h1.size
  refine ⟨rfl, ⟨h1.trans hbb, h2, h3, fun q e => Nat.lt_of_lt_of_le (h4 q e) hW.touch.size, v', hW.wtr, fun q e => ⟨(h6 q e).1, fun c => ?_⟩⟩, fun q e => hW.touch.block q (h4 q e) (h6 q e).1 (h6 q e).2, fun q e => hbb.block q e⟩
  rcases hW.row with c2 | ⟨k, c2, c3⟩
  · exact (h6 q e).2 (c2.symm.trans c)
  · rw [c] at c2
    cases c2
    have := h4 q e
    omega
theorem WI.count {w W : World} {g : Nat} {xs : List Nat} {O : Nat → Prop} (h : WI w g xs O W) (n : Nat) (hn : n < 18446744073709551616) (hx : xs.length ≤ 8796093022208) :
    Calls Try.prog 111 #[.pointer (some ⟨g, 0, none⟩), .int .u64 (n : Int)] W fun e w' => e = .returned (.tuple #[]) ∧ WI w g (xs ++ cntN n) O w' ∧ (∀ q, O q → w'.heap[q]? = W.heap[q]?) ∧ (∀ q, q < w.heap.size → w'.heap[q]? = W.heap[q]?) :=
  h.call fun v hv => count_any w.heap.size g v xs n hn W hv hx
theorem WI.out {w W : World} {g : Nat} {xs : List Nat} {O : Nat → Prop} (h : WI w g xs O W) (hn : xs.length ≤ 140737488355328) :
    Calls Try.prog 114 #[.pointer (some ⟨g, 0, none⟩)] W fun e w' => ∃ v, e = .returned v ∧ ∃ A' c', v = .slice A' xs.length c' ∧ Rdv w' A' xs.length 1 (valsB xs) ∧ NewAt W w' A' xs.length c' ∧ Below W.heap.size W w' := by
  obtain ⟨v, hv, _⟩ := h.wt
  exact out_any w.heap.size g v xs W hv hn
end Go.Proofs.Ytjmjehhmkjhalaa
