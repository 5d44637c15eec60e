/- SMem, SFn1: put together. -/
import Derived.Test.YtejpjbmbcdgomaaPt14
import Derived.Test.YtejpjbmbcdgomaaPt02
/- A store in memory: four trees and two numbers. -/
namespace Go.Proofs.Ytejpjbmbcdgomaa
set_option maxRecDepth 100000
open Go.RowKit

def stV (tb : Nat → Nat) (live last : Int) : Array Value := #[.pointer (some ⟨tb 0, 0, none⟩), .pointer (some ⟨tb 1, 0, none⟩), .pointer (some ⟨tb 2, 0, none⟩), .pointer (some ⟨tb 3, 0, none⟩), .int .i64 live, .int .i64 last]
structure SX (w : World) (G : Nat → Prop) (sb : Nat) (ts : Tb) (live last : Int) (tb : Nat → Nat) (F : Nat → Nat → Prop) (d : Nat → Nat) : Prop where
  block : w.heap[sb]? = some (.cells (stV tb live last) 101 (0, 0))
  tree : ∀ i, i < 4 → TL w (F i) (tb i) (ts i) (d i)
  apart : ∀ i j, i < 4 → j < 4 → i ≠ j → ∀ q, F i q → ¬ F j q
  own : ∀ i, i < 4 → ¬ F i sb
  set : ∀ q, G q ↔ q = sb ∨ ∃ i, i < 4 ∧ F i q
/-- A store: its block, its four lists, how many are live, the last number; G: the blocks that are its own. -/
def SM (w : World) (G : Nat → Prop) (sb : Nat) (ts : Tb) (live last : Int) : Prop := ∃ tb F d, SX w G sb ts live last tb F d
section
variable {w w1 w2 : World} {G G1 G2 : Nat → Prop} {sb : Nat} {ts : Tb} {live last : Int} {tb : Nat → Nat} {F : Nat → Nat → Prop} {d : Nat → Nat}
theorem SX.lt (h : SX w G sb ts live last tb F d) {q : Nat} (hq : G q) : q < w.heap.size := by
  rcases (h.set q).1 hq with rfl | ⟨i, hi, hf⟩
  · exact (Array.getElem?_eq_some_iff.1 h.block).1
  · exact (h.tree i hi).lt hf
theorem SX.keep (h : SX w G sb ts live last tb F d) (hk : ∀ q, G q → w1.heap[q]? = w.heap[q]?) : SX w1 G sb ts live last tb F d :=
  ⟨(hk _ ((h.set _).2 (.inl rfl))).trans h.block, fun i hi => (h.tree i hi).keep fun q hq => hk q ((h.set q).2 (.inr ⟨i, hi, hq⟩)), h.apart, h.own, h.set⟩
theorem SM.lt (h : SM w G sb ts live last) {q : Nat} (hq : G q) : q < w.heap.size := by
  obtain ⟨_, _, _, h⟩ := h
  exact h.lt hq
theorem SM.keep (h : SM w G sb ts live last) (hk : ∀ q, G q → w1.heap[q]? = w.heap[q]?) : SM w1 G sb ts live last := by
  obtain ⟨tb, F, d, h⟩ := h
  exact ⟨tb, F, d, h.keep hk⟩
theorem SM.below (h : SM w G sb ts live last) (hb : Below w.heap.size w w1) : SM w1 G sb ts live last := h.keep fun q hq => hb.block q (h.lt hq)
theorem SM.up (h : SM w G sb ts live last) : ∀ i, i < 4 → Up (ts i) := by
  obtain ⟨_, _, _, h⟩ := h
  exact fun i hi => (h.tree i hi).up
theorem SM.sb_in (h : SM w G sb ts live last) : G sb := by
  obtain ⟨_, _, _, h⟩ := h
  exact (h.set _).2 (.inl rfl)
theorem SM.congr {ts' : Tb} (h : SM w G sb ts live last) (he : ∀ i, i < 4 → ts' i = ts i) : SM w G sb ts' live last := by
  obtain ⟨tb, F, d, h⟩ := h
  exact ⟨tb, F, d, h.block, fun i hi => by rw [he i hi]; exact h.tree i hi, h.apart, h.own, h.set⟩
theorem Cg.refl (w : World) (G : Nat → Prop) : Cg w w G G := ⟨Ch.refl _ _, fun _ h => .inl h⟩
theorem Cg.trans (h : Cg w w1 G G1) (k : Cg w1 w2 G1 G2) : Cg w w2 G G2 :=
  ⟨h.ch.trans k.ch h.fr, fun q e => by
    rcases k.fr q e with e | e
    · exact h.fr q e
    · exact .inr (Nat.le_trans h.ch.size e)⟩
theorem Cg.of_below (hb : Below w.heap.size w w1) (G : Nat → Prop) : Cg w w1 G G := ⟨Ch.of_below hb _, fun _ h => .inl h⟩
theorem Cg.low (h : Cg w w1 G G1) {B : Nat} (hB : B ≤ w.heap.size) (hG : ∀ q, G q → B ≤ q) : Below B w w1 ∧ ∀ q, G1 q → B ≤ q :=
  ⟨h.ch.below hB hG, fun q e => by
    rcases h.fr q e with e | e
    · exact hG q e
    · omega⟩
/-- Another one, of other blocks, stays. -/
theorem Cg.away (h : Cg w w1 G G1) {O : Nat → Prop} (hO : ∀ q, O q → q < w.heap.size ∧ ¬ G q) {q : Nat} (hq : O q) : w1.heap[q]? = w.heap[q]? := h.ch.block q (hO q hq).1 (hO q hq).2
/-- One tree is turned. -/
theorem SX.turn (h : SX w G sb ts live last tb F d) {i : Nat} (hi : i < 4) {F' : Nat → Prop} {l' : List Ix} {d' : Nat} (hT : TL w1 F' (tb i) l' d') (hC : Cg w w1 (F i) F') :
    ∃ G' Fs ds, SX w1 G' sb (ts.upd i l') live last tb Fs ds ∧ Cg w w1 G G' := by
  have hsb := (Array.getElem?_eq_some_iff.1 h.block).1
  have hnew : ∀ q, F' q → F i q ∨ w.heap.size ≤ q := hC.fr
  refine ⟨fun q => q = sb ∨ ∃ j, j < 4 ∧ (if j = i then F' else F j) q, fun j => if j = i then F' else F j, fun j => if j = i then d' else d j, ⟨(hC.ch.block _ hsb (h.own i hi)).trans h.block, fun j hj => ?_, fun a b ha hb hab q hqa hqb => ?_, fun j hj e => ?_, fun q => Iff.rfl⟩, ⟨?_, fun q e => ?_⟩⟩
  · by_cases e : j = i
    · subst e
      rw [if_pos rfl, if_pos rfl, Tb.upd_same]
      exact hT
    · rw [if_neg e, if_neg e, Tb.upd_other _ _ e]
      exact (h.tree j hj).keep fun q hq => hC.ch.block q ((h.tree j hj).lt hq) (h.apart j i hj hi e q hq)
  · by_cases e1 : a = i
    · have e2 : b ≠ i := fun e => hab (e1.trans e.symm)
      rw [if_pos e1] at hqa
      rw [if_neg e2] at hqb
      rcases hnew q hqa with e | e
      · exact h.apart i b hi hb (Ne.symm e2) q e hqb
      · have := (h.tree b hb).lt hqb
        omega
    · rw [if_neg e1] at hqa
      by_cases e2 : b = i
      · rw [if_pos e2] at hqb
        rcases hnew q hqb with e | e
        · exact h.apart i a hi ha (Ne.symm e1) q e hqa
        · have := (h.tree a ha).lt hqa
          omega
      · rw [if_neg e2] at hqb
        exact h.apart a b ha hb hab q hqa hqb
  · by_cases e1 : j = i
    · rw [if_pos e1] at e
      rcases hnew _ e with e | e
      · exact h.own i hi e
      · omega
    · rw [if_neg e1] at e
      exact h.own j hj e
  · exact hC.ch.mono fun q e => (h.set q).2 (.inr ⟨i, hi, e⟩)
  · rcases e with e | ⟨j, hj, e⟩
    · exact .inl ((h.set q).2 (.inl e))
    · by_cases e1 : j = i
      · rw [if_pos e1] at e
        rcases hnew q e with e | e
        · exact .inl ((h.set q).2 (.inr ⟨i, hi, e⟩))
        · exact .inr e
      · rw [if_neg e1] at e
        exact .inl ((h.set q).2 (.inr ⟨j, hj, e⟩))
theorem SX.cells (h : SX w G sb ts live last tb F d) (i : Nat) (hi : i < 4) : w.cell? ⟨sb, i, none⟩ = some (.pointer (some ⟨tb i, 0, none⟩)) := by
  rw [cell_of_row _ _ i _ _ _ h.block]
  have : i = 0 ∨ i = 1 ∨ i = 2 ∨ i = 3 := by omega
  rcases this with rfl | rfl | rfl | rfl <;> rfl
theorem SM.live4 (h : SM w G sb ts live last) : w.cell? ⟨sb, 4, none⟩ = some (.int .i64 live) := by
  obtain ⟨tb, F, d, h⟩ := h
  rw [cell_of_row _ _ 4 _ _ _ h.block]; rfl
theorem SM.last5 (h : SM w G sb ts live last) : w.cell? ⟨sb, 5, none⟩ = some (.int .i64 last) := by
  obtain ⟨tb, F, d, h⟩ := h
  rw [cell_of_row _ _ 5 _ _ _ h.block]; rfl
theorem SM.frozen (h : SM w G sb ts live last) (j : Nat) : w.frozen? ⟨sb, j, none⟩ = false := by
  obtain ⟨tb, F, d, h⟩ := h
  exact frozen_of h.block j
theorem ch_cell {B : Nat} {cs : Array Value} {t : TypeId} (_hb : w.heap[B]? = some (.cells cs t (0, 0))) (j : Nat) (v : Value) (hG : G B) : Ch w (w.setCell ⟨B, j, none⟩ v) G :=
  ⟨rfl, rfl, rfl, by rw [World.size_setCell]; exact Nat.le_refl _, fun q _ hn => heap_ne _ _ _ _ (fun e => hn (e ▸ hG))⟩
/-- The count, or the last number, is written. -/
theorem SM.put4 (h : SM w G sb ts live last) (n : Int) : SM (w.setCell ⟨sb, 4, none⟩ (.int .i64 n)) G sb ts n last ∧ Cg w (w.setCell ⟨sb, 4, none⟩ (.int .i64 n)) G G := by
  have hsb := h.sb_in
  obtain ⟨tb, F, d, h⟩ := h
  refine ⟨⟨tb, F, d, (heap_set w sb 4 _ h.block).trans rfl, fun i hi => (h.tree i hi).keep fun q hq => heap_ne _ _ _ _ (fun e => h.own i hi (e ▸ hq)), h.apart, h.own, h.set⟩, ch_cell h.block 4 _ hsb, fun _ e => .inl e⟩
theorem SM.put5 (h : SM w G sb ts live last) (n : Int) : SM (w.setCell ⟨sb, 5, none⟩ (.int .i64 n)) G sb ts live n ∧ Cg w (w.setCell ⟨sb, 5, none⟩ (.int .i64 n)) G G := by
  have hsb := h.sb_in
  obtain ⟨tb, F, d, h⟩ := h
  refine ⟨⟨tb, F, d, (heap_set w sb 5 _ h.block).trans rfl, fun i hi => (h.tree i hi).keep fun q hq => heap_ne _ _ _ _ (fun e => h.own i hi (e ▸ hq)), h.apart, h.own, h.set⟩, ch_cell h.block 5 _ hsb, fun _ e => .inl e⟩
theorem SX.below (h : SX w G sb ts live last tb F d) (hb : Below w.heap.size w w1) : SX w1 G sb ts live last tb F d := h.keep fun q hq => hb.block q (h.lt hq)
/-- The table at a number. -/
theorem SM.table (h : SM w G sb ts live last) {i : Nat} (hi : i < 4) : ∃ b F d, w.cell? ⟨sb, i, none⟩ = some (.pointer (some ⟨b, 0, none⟩)) ∧ TL w F b (ts i) d ∧ (∀ q, F q → G q) ∧
    ∀ w0, Below w.heap.size w w0 → ∀ w1 F' l' d', TL w1 F' b l' d' → Cg w0 w1 F F' → ∃ G', SM w1 G' sb (ts.upd i l') live last ∧ Cg w0 w1 G G' := by
  obtain ⟨tb, F, d, h⟩ := h
  refine ⟨tb i, F i, d i, h.cells i hi, h.tree i hi, fun q e => (h.set q).2 (.inr ⟨i, hi, e⟩), fun w0 hb w1 F' l' d' hT hC => ?_⟩
  obtain ⟨G', Fs, ds, h1, h2⟩ := (h.below hb).turn hi hT hC
  exact ⟨G', ⟨tb, Fs, ds, h1⟩, h2⟩
end
end Go.Proofs.Ytejpjbmbcdgomaa

/- A store's table, Cell, Get. -/
namespace Go.Proofs.Ytejpjbmbcdgomaa
set_option maxRecDepth 100000
open Go.RowKit

set_option maxHeartbeats 2000000 in
theorem table_at {w : World} {sb : Nat} {i : Nat} (hi : i < 4) {p : Option Addr} (hc : w.cell? ⟨sb, i, none⟩ = some (.pointer p)) : Calls Try.prog 51 #[.pointer (some ⟨sb, 0, none⟩), .int .i64 (i : Int)] w fun e w' => e = .returned (.pointer p) ∧ w = w' := by
  have d1 : decide ((i : Int) < 0) = false := decide_eq_false (by omega)
  have d2 : decide ((4 : Int) ≤ (i : Int)) = false := decide_eq_false (by omega)
  have hi4 : (i : Int) < 4 := by omega
  go_enter Try.func51, Try.ntmps51
  go_wp2_with fail
  go_ret
  exact ⟨rfl, rfl⟩
set_option maxHeartbeats 2000000 in
theorem table_out {w : World} {sb : Nat} {t : Int} (ht : ¬ InT t) : Calls Try.prog 51 #[.pointer (some ⟨sb, 0, none⟩), .int .i64 t] w fun e w' => e = .returned (.pointer none) ∧ w = w' := by
  unfold InT at ht
  by_cases h0 : t < 0
  · have d1 : decide (t < 0) = true := decide_eq_true h0
    clear h0 ht
    go_enter Try.func51, Try.ntmps51
    go_wp2_with fail
    go_ret
    exact ⟨rfl, rfl⟩
  · have d1 : decide (t < 0) = false := decide_eq_false h0
    have d2 : decide (4 ≤ t) = true := decide_eq_true (by omega)
    clear h0 ht
    go_enter Try.func51, Try.ntmps51
    go_wp2_with fail
    go_ret
    exact ⟨rfl, rfl⟩
theorem undrewB {w w' : World} (h : Below w.drew.heap.size w.drew w') : Below w.heap.size w w' := ⟨h.os, h.tape, h.output, h.size, fun k hk => h.block k hk⟩
/-- A cell as it is answered. -/
def ansC (o : Option Cl) : Value := .tuple #[.agg #[.int .i64 (cv o).v, .int .i64 (cv o).s, .bool (cv o).dead], .bool o.isSome]
set_option maxHeartbeats 8000000 in
/-- Cell, out of what table and Get answer. -/
theorem cell_gen {w : World} {p : Option Addr} {t k : Int} {b : Option Addr} {o : Option Cl} (h1 : ∀ w1, Below w.heap.size w w1 → Calls Try.prog 51 #[.pointer p, .int .i64 t] w1 fun e w' => e = .returned (.pointer b) ∧ w1 = w')
    (h2 : ∀ w1, Below w.heap.size w w1 → Calls Try.prog 96 #[.pointer b, .int .i64 k] w1 fun e w' => e = .returned (ansC o) ∧ Below w1.heap.size w1 w') :
    Calls Try.prog 68 #[.pointer p, .agg #[.int .i64 t, .int .i64 k]] w fun e w' => e = .returned (ansC o) ∧ Below w.heap.size w w' := by
  obtain ⟨W, hW⟩ : ∃ W, W = (w.alloc (.cells #[.int .i64 t, .int .i64 k] 42)).alloc (.cells #[.int .i64 0, .int .i64 0, .bool false] 44) := ⟨_, rfl⟩
  obtain ⟨s, hs⟩ : ∃ s, s = w.heap.size := ⟨_, rfl⟩
  have hb0 : Below w.heap.size w (w.alloc (.cells #[.int .i64 t, .int .i64 k] 42)) := (Below.refl _ _).alloc (Nat.le_refl _) _
  have hb : Below w.heap.size w W := by rw [hW]; exact hb0.alloc hb0.size _
  have e1 : W.heap[s]? = some (.cells #[.int .i64 t, .int .i64 k] 42 (0, 0)) := by
    rw [hW, hs, ((Below.refl _ (w.alloc (.cells #[.int .i64 t, .int .i64 k] 42))).alloc (Nat.le_refl _) _).block _ (by simp)]
    exact heap_alloc_new w _
  have e2 : W.heap[s + 1]? = some (.cells #[.int .i64 0, .int .i64 0, .bool false] 44 (0, 0)) := by
    have := heap_alloc_new (w.alloc (.cells #[.int .i64 t, .int .i64 k] 42)) (.cells #[.int .i64 0, .int .i64 0, .bool false] 44)
    have e : (w.alloc (.cells #[.int .i64 t, .int .i64 k] 42)).heap.size = s + 1 := by rw [hs]; simp
    rw [e, ← hW] at this
    exact this
  have HF := Lib.hid (fun (w1 : World) (hw : Below W.heap.size W w1) => (⟨by rw [cell_of_row _ _ 0 _ _ _ ((hw.block _ (Array.getElem?_eq_some_iff.1 e1).1).trans e1)]; rfl, by rw [cell_of_row _ _ 1 _ _ _ ((hw.block _ (Array.getElem?_eq_some_iff.1 e1).1).trans e1)]; rfl, (hw.block _ (Array.getElem?_eq_some_iff.1 e2).1).trans e2, hb.trans (hw.mono hb.size)⟩ :
    w1.cell? ⟨s, 0, none⟩ = some (.int .i64 t) ∧ w1.cell? ⟨s, 1, none⟩ = some (.int .i64 k) ∧ w1.heap[s + 1]? = some (.cells #[.int .i64 0, .int .i64 0, .bool false] 44 (0, 0)) ∧ Below w.heap.size w w1))
  have H1 := Lib.hid (fun w1 (hw : Below W.heap.size W w1) => h1 w1 (hb.trans (hw.mono hb.size)))
  have H2 := Lib.hid (fun w1 (hw : Below W.heap.size W w1) => h2 w1 (hb.trans (hw.mono hb.size)))
  obtain ⟨c0, c1, _, _⟩ := HF.out W (Below.refl _ _)
  have HS := Lib.hid (show s + 1 < W.heap.size ∧ w.heap.size ≤ s from ⟨(Array.getElem?_eq_some_iff.1 e2).1, by rw [hs]; exact Nat.le_refl _⟩)
  have HW := Lib.hid hW
  clear h1 h2 hb0 hb hW e1 e2
  have HSZ := Lib.hid hs
  clear hs
  obtain ⟨cl, hcl⟩ : ∃ cl, cl = cv o := ⟨_, rfl⟩
  obtain ⟨ok, hok⟩ : ∃ ok, ok = o.isSome := ⟨_, rfl⟩
  unfold ansC at H2 ⊢
  rw [← hcl, ← hok] at H2 ⊢
  clear hcl hok
  go_enter Try.func68, Try.ntmps68
  go_upto_region 1 with fail
  rw [← HSZ.out]
  rw [← HW.out]
  go_region_law (first | (go_simp; go_at_call 51; refine Calls.mono (H1.out _ (below_drewI (Below.refl _ _))) ?_; rintro e1 w1 ⟨rfl, rfl⟩) | (go_simp; go_at_call 96; refine Calls.mono (H2.out _ (below_drewI (Below.refl _ _))) ?_; rintro e2 w2 ⟨rfl, hb2⟩; obtain ⟨_, _, hr, hb3⟩ := HF.out w2 (undrewB hb2); have r0 : w2.cell? ⟨s + 1, 0, none⟩ = some (.int .i64 0) := by { rw [cell_of_row _ _ 0 _ _ _ hr]; rfl }; have r1 : w2.cell? ⟨s + 1, 1, none⟩ = some (.int .i64 0) := by { rw [cell_of_row _ _ 1 _ _ _ hr]; rfl }; have r2 : w2.cell? ⟨s + 1, 2, none⟩ = some (.bool false) := by { rw [cell_of_row _ _ 2 _ _ _ hr]; rfl }; have rf := frozen_of hr; have HRR := Lib.hid (res3 hr (.int .i64 cl.v) (.int .i64 cl.s) (.bool cl.dead)); have HSB := Lib.hid (⟨by { have := HS.out.2; omega }, hb3⟩ : Sb w w2 (s + 1)); clear hb2 hb3 hr))
  all_goals (go_wp2_with fail; refine bodyPost_ret (v := .tuple #[.agg #[.int .i64 cl.v, .int .i64 cl.s, .bool cl.dead], .bool ok]) (by simp [results, Try.results68, go_sem, HRR.out.1, HRR.out.2.1, HRR.out.2.2]) rfl ⟨rfl, (((HSB.out.s1 0 _).s1 1 _).s1 2 _).b⟩)
theorem cell_any {w : World} {G : Nat → Prop} {sb : Nat} {ts : Tb} {live last : Int} (h : SM w G sb ts live last) (t k : Int) :
    Calls Try.prog 68 #[.pointer (some ⟨sb, 0, none⟩), .agg #[.int .i64 t, .int .i64 k]] w fun e w' => e = .returned (ansC (cellAt ts t k)) ∧ Below w.heap.size w w' := by
  by_cases ht : InT t
  · obtain ⟨i, rfl⟩ : ∃ i : Nat, t = (i : Int) := ⟨t.toNat, by unfold InT at ht; omega⟩
    have hi : i < 4 := by unfold InT at ht; omega
    obtain ⟨b, F, d, hc, hTL, _⟩ := h.table hi
    rw [cellAt_in ht, show ((i : Int)).toNat = i by omega]
    exact cell_gen (fun w1 hb => table_at hi ((hb.cell (p := ⟨sb, i, none⟩) (World.block_lt_of_cell? _ _ hc)).trans hc)) fun w1 hb => get_any (hTL.below hb) k
  · have e : cellAt ts t k = none := if_neg ht
    rw [e]
    exact cell_gen (fun w1 _ => table_out ht) fun w1 _ => nil_get w1 k
end Go.Proofs.Ytejpjbmbcdgomaa
