/- SPutM: put together. -/
import Derived.Test.YtejpjbmbcdgomaaPa42
import Derived.Test.YtejpjbmbcdgomaaPa45
/- A store's text. -/
namespace Go.Proofs.Ytejpjbmbcdgomaa
set_option maxRecDepth 100000
open Go.RowKit

theorem callsIn_round {l n : Nat} {P : Program} {f : FuncId} {args : Array Value} {w : World} {R : Ending → World → Prop} (h : Calls P f args w R) : CallsIn (Fence.wide.inRound l) n P f args w R :=
  ⟨trivial, fun cs hr => ((callsIn_wide (n := n)).2 h).2 cs hr⟩
def entB (e : En) : List Nat := cntN e.t ++ (cntN (foldN e.x.k) ++ (cntN (foldN e.x.c.v) ++ cntN e.x.c.s.toNat))
def putB (ts : Tb) : List Nat := cntN (liveT ts) ++ ((liveE (ents ts)).flatMap entB ++ [83])
theorem cntN_len (n : Nat) (h : n < 18446744073709551616) : (cntN n).length ≤ 10 := by
  unfold cntN preN
  have : sizeN n ≤ 10 := by
    unfold sizeN
    have := Lib.bitLen_le n 64 (Nat.le_refl _) h
    omega
  simp
  omega
/-- Numbers are numbers. -/
def CellOk (x : Ix) : Prop := Fits x.k ∧ Fits x.c.v ∧ 0 ≤ x.c.s ∧ x.c.s ≤ 9223372036854775807
def NumT (ts : Tb) : Prop := ∀ i, i < 4 → ∀ x ∈ ts i, CellOk x
theorem NumT.ents {ts : Tb} (h : NumT ts) : ∀ e ∈ ents ts, e.t < 4 ∧ CellOk e.x := fun e he => by
  unfold Go.Proofs.Ytejpjbmbcdgomaa.ents at he
  simp only [allE, tag, List.mem_append, List.mem_map, List.not_mem_nil, or_false] at he
  rcases he with ⟨x, hx, rfl⟩ | ⟨x, hx, rfl⟩ | ⟨x, hx, rfl⟩ | ⟨x, hx, rfl⟩
  · exact ⟨by show 0 < 4; omega, h 0 (by omega) x hx⟩
  · exact ⟨by show 1 < 4; omega, h 1 (by omega) x hx⟩
  · exact ⟨by show 2 < 4; omega, h 2 (by omega) x hx⟩
  · exact ⟨by show 3 < 4; omega, h 3 (by omega) x hx⟩
theorem NumT.numL {ts : Tb} (h : NumT ts) : ∀ i, i < 4 → NumL (ts i) := fun i hi x hx => (h i hi x hx).1
theorem entB_len {e : En} (ht : e.t < 4) (h : CellOk e.x) : (entB e).length ≤ 40 := by
  unfold entB
  have h1 := cntN_len e.t (by omega)
  have h2 := cntN_len (foldN e.x.k) (foldN_lt h.1)
  have h3 := cntN_len (foldN e.x.c.v) (foldN_lt h.2.1)
  have h4 := cntN_len e.x.c.s.toNat (by have := h.2.2; omega)
  simp only [List.length_append]
  omega
theorem flat_len : ∀ (l : List En), (∀ e ∈ l, e.t < 4 ∧ CellOk e.x) → (l.flatMap entB).length ≤ 40 * l.length
  | [], _ => by simp
  | e :: l, h => by
    have h1 := entB_len (h e (by simp)).1 (h e (by simp)).2
    have h2 := flat_len l fun e he => h e (by simp [he])
    simp only [List.flatMap_cons, List.length_append, List.length_cons]
    omega
theorem ents_len {ts : Tb} {n : Nat} (h : ∀ i, i < 4 → (ts i).length ≤ n) : (ents ts).length ≤ 4 * n := by
  unfold ents
  simp only [allE, List.length_append, tag_len, List.length_nil]
  have h0 := h 0 (by omega)
  have h1 := h 1 (by omega)
  have h2 := h 2 (by omega)
  have h3 := h 3 (by omega)
  show (ts 0).length + ((ts 1).length + ((ts 2).length + ((ts 3).length + 0))) ≤ _
  omega
theorem live_take {l : List En} {k : Nat} {e : En} (h : l[k]? = some e) : liveE (l.take (k + 1)) = liveE (l.take k) ++ (if e.x.c.dead then [] else [e]) := by
  obtain ⟨hk, he⟩ := List.getElem?_eq_some_iff.1 h
  have : l.take (k + 1) = l.take k ++ [e] := by rw [← he]; exact (List.take_append_getElem hk).symm
  rw [this]
  unfold liveE
  rw [List.filter_append]
  congr 1
  cases hd : e.x.c.dead <;> simp [hd]
theorem TabAt.below {W W' : World} {sb i : Nat} {l : List Ix} (h : TabAt W sb i l) (hb : Below W.heap.size W W') : TabAt W' sb i l := by
  obtain ⟨b, F, d, h1, h2⟩ := h
  exact ⟨b, F, d, (hb.cell (p := ⟨sb, i, none⟩) (World.block_lt_of_cell? _ _ h1)).trans h1, h2.below hb⟩
theorem first_any (w : World) : Calls Try.prog 72 #[] w fun e w' => e = .returned (.agg #[.int .i64 0, .int .i64 (-9223372036854775808)]) ∧ Below w.heap.size w w' := by
  have hb : Below w.heap.size w (w.alloc (.cells #[.int .i64 0, .int .i64 (-9223372036854775808)] 42)) := (Below.refl _ _).alloc (Nat.le_refl _) _
  have hn := heap_alloc_new w (.cells #[.int .i64 0, .int .i64 (-9223372036854775808)] 42)
  have c0 : (w.alloc (.cells #[.int .i64 0, .int .i64 (-9223372036854775808)] 42)).cell? ⟨w.heap.size, 0, none⟩ = some (.int .i64 0) := by rw [cell_of_row _ _ 0 _ _ _ hn]; rfl
  have c1 : (w.alloc (.cells #[.int .i64 0, .int .i64 (-9223372036854775808)] 42)).cell? ⟨w.heap.size, 1, none⟩ = some (.int .i64 (-9223372036854775808)) := by rw [cell_of_row _ _ 1 _ _ _ hn]; rfl
  have HC := Lib.hid (And.intro c0 (And.intro c1 hb))
  clear c0 c1 hb hn
  go_enter Try.func72, Try.ntmps72
  go_wp2_with fail
  refine bodyPost_ret (v := .agg #[.int .i64 0, .int .i64 (-9223372036854775808)]) (by simp [results, Try.results72, go_sem, HC.out.1, HC.out.2.1]) rfl ⟨rfl, HC.out.2.2⟩
theorem entries_any {w : World} {p : Option Addr} {t k : Int} : Calls Try.prog 55 #[.pointer p, .agg #[.int .i64 t, .int .i64 k]] w fun e w' =>
    e = .returned (.func (.func 89) #[] #[.pointer (some ⟨w.heap.size + 1, 0, none⟩), .pointer (some ⟨w.heap.size, 0, none⟩)]) ∧
      w'.heap[w.heap.size + 1]? = some (.cells #[.int .i64 t, .int .i64 k] 42 (0, 0)) ∧ w'.heap[w.heap.size]? = some (.cells #[.pointer p] 27 (0, 0)) ∧ Below w.heap.size w w' ∧ w'.heap.size = w.heap.size + 2 := by
  obtain ⟨W, hW⟩ : ∃ W, W = (w.alloc (.cells #[.pointer p] 27)).alloc (.cells #[.int .i64 t, .int .i64 k] 42) := ⟨_, rfl⟩
  have hb : Below w.heap.size w W := by rw [hW]; exact ((Below.refl _ _).alloc (Nat.le_refl _) _).alloc (by simp) _
  have hs : W.heap.size = w.heap.size + 2 := by rw [hW]; simp
  have e2 : W.heap[w.heap.size]? = some (.cells #[.pointer p] 27 (0, 0)) := by
    rw [hW, ((Below.refl _ (w.alloc (.cells #[.pointer p] 27))).alloc (Nat.le_refl _) _).block _ (by simp)]
    exact heap_alloc_new w _
  have e1 : W.heap[w.heap.size + 1]? = some (.cells #[.int .i64 t, .int .i64 k] 42 (0, 0)) := by
    have := heap_alloc_new (w.alloc (.cells #[.pointer p] 27)) (.cells #[.int .i64 t, .int .i64 k] 42)
    have e : (w.alloc (.cells #[.pointer p] 27)).heap.size = w.heap.size + 1 := by simp
    rw [e, ← hW] at this
    exact this
  have HE := Lib.hid (And.intro e1 (And.intro e2 (And.intro hb hs)))
  have HW := Lib.hid hW
  clear hW hb hs e1 e2
  go_enter Try.func55, Try.ntmps55
  go_wp2_with fail
  go_ret
  rw [← HW.out]
  exact ⟨rfl, HE.out⟩
/-- The writer between two rounds. -/
structure PI (w : World) (g : Nat) (xs : List Nat) (O : Nat → Prop) (W : World) : Prop where
  b : Below w.heap.size w W
  low : ∀ q, O q → w.heap.size ≤ q
  wt : ∃ v, Wtr W w.heap.size g v xs ∧ ∀ q, O q → q ≠ g ∧ v.ownBlock ≠ some q
theorem PI.st (w : World) (g : Nat) (xs : List Nat) : St2 (PI w g xs) := by
  intro O O' W W' ⟨h1, h2, v, h3, h4⟩ hC hG
  have hs := h1.size
  refine ⟨⟨hC.os.trans h1.os, hC.tape.trans h1.tape, hC.output.trans h1.output, Nat.le_trans hs hC.size, fun q hq => (hC.block q (by omega) (fun e => by have := h2 q e; omega)).trans (h1.block q hq)⟩, fun q e => ?_, v, ⟨h3.low, (hC.block g h3.lt (fun e => (h4 g e).1 rfl)).trans h3.block, ?_⟩, fun q e => ?_⟩
  · rcases hG.2 q e with e | e
    · exact h2 q e
    · omega
  · exact row_stays h3.own fun k e => hC.block k (h3.own.lt k e).2 (fun c => (h4 k c).2 e)
  · rcases hG.2 q e with c | c
    · exact h4 q c
    · refine ⟨fun c2 => ?_, fun c2 => ?_⟩
      · have := h3.lt; omega
      · have := (h3.own.lt q c2).2; omega
/-- Something was written. -/
theorem PI.wrote {w W W' : World} {g : Nat} {xs ys : List Nat} {O : Nat → Prop} {v v' : Value} (hg : w.heap.size ≤ g) (h1 : Below w.heap.size w W) (h2 : ∀ q, O q → w.heap.size ≤ q) (hlt : ∀ q, O q → q < W.heap.size) (h3 : Wtr W w.heap.size g v xs) (h4 : ∀ q, O q → q ≠ g ∧ v.ownBlock ≠ some q) (hW : Wrote W W' w.heap.size g v v' ys) : PI w g ys O W' ∧ Kps O W W' := by
  refine ⟨⟨?_, h2, v', hW.wtr, fun q e => ⟨(h4 q e).1, fun c => ?_⟩⟩, hW.touch.size, fun q e => hW.touch.block q (hlt q e) (h4 q e).1 (h4 q e).2⟩
  · exact h1.trans (hW.touch.below hg (row_low h3.own) h1.size)
  · rcases hW.row with c2 | ⟨k, c2, c3⟩
    · exact (h4 q e).2 (c2.symm.trans c)
    · rw [c] at c2
      cases c2
      have := hlt q e
      omega
end Go.Proofs.Ytejpjbmbcdgomaa
