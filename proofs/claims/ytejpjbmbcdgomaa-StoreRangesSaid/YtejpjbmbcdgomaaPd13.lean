/- SRange: put together. -/
import Derived.Test.YtejpjbmbcdgomaaPd10
import Derived.Test.YtejpjbmbcdgomaaPc17
import Derived.Laws.EntriesVeiled
/- Range: what a store's range hands over. Written by gen_srange.py. -/
namespace Go.Proofs.Ytejpjbmbcdgomaa
set_option maxRecDepth 100000
open Go.RowKit

/-- A range in memory: its box, the tree's range's box and row. -/
structure RgB (w : World) (q5 zb : Nat) (v : Value) (L : List Ix) : Prop where
  box : w.heap[q5]? = some (.cells #[.func (.func 88) #[] #[.pointer (some ⟨zb, 0, none⟩)]] 106 (0, 0))
  row : w.heap[zb]? = some (.cells #[v] 152 (0, 0))
  own : ∃ B, w.ownsRow B 166 4 v L.length (rowV Ix.vals L)
/-- The blocks that it reads. -/
def RgO (q5 zb : Nat) (v : Value) (q : Nat) : Prop := q = q5 ∨ q = zb ∨ v.ownBlock = some q
theorem RgB.lt {w : World} {q5 zb : Nat} {v : Value} {L : List Ix} (h : RgB w q5 zb v L) {q : Nat} (hq : RgO q5 zb v q) : q < w.heap.size := by
  obtain ⟨h1, h2, B, h3⟩ := h
  rcases hq with rfl | rfl | e
  · exact (Array.getElem?_eq_some_iff.1 h1).1
  · exact (Array.getElem?_eq_some_iff.1 h2).1
  · obtain ⟨_, e⟩ := own_at h3 e
    exact (Array.getElem?_eq_some_iff.1 e).1
theorem RgB.keep {w w1 : World} {q5 zb : Nat} {v : Value} {L : List Ix} (h : RgB w q5 zb v L) (hk : ∀ q, RgO q5 zb v q → w1.heap[q]? = w.heap[q]?) : RgB w1 q5 zb v L := by
  obtain ⟨h1, h2, B, h3⟩ := h
  exact ⟨(hk _ (.inl rfl)).trans h1, (hk _ (.inr (.inl rfl))).trans h2, B, own_same h3 fun q hq => hk q (.inr (.inr hq))⟩
/-- A table's part of a span. -/
def spanT (t lo hi : Int) (ts : Tb) : List Ix := if 0 ≤ t ∧ t < 4 then rng lo hi (ts t.toNat) else []
theorem spanT_in {t lo hi : Int} {ts : Tb} (h : InT t) : spanT t lo hi ts = rng lo hi (ts t.toNat) := if_pos h
theorem spanT_out {t lo hi : Int} {ts : Tb} (h : ¬ InT t) : spanT t lo hi ts = [] := if_neg h
set_option maxHeartbeats 16000000 in
theorem srange_any {w : World} {G : Nat → Prop} {sb : Nat} {ts : Tb} {live last : Int} (hM : SM w G sb ts live last) (hN : ∀ i, i < 4 → (ts i).length ≤ 100000) (t lo hi : Int) :
    Calls Try.prog 15 #[.pointer (some ⟨sb, 0, none⟩), .agg #[.int .i64 t, .int .i64 lo, .int .i64 hi]] w fun e w' => ∃ q5 zb v, e = .returned (.func (.func 53) #[] #[.pointer (some ⟨q5, 0, none⟩)]) ∧ RgB w' q5 zb v (spanT t lo hi ts) ∧ (∀ q, RgO q5 zb v q → w.heap.size ≤ q) ∧ Below w.heap.size w w' := by
  obtain ⟨L, hL⟩ : ∃ L, L = spanT t lo hi ts := ⟨_, rfl⟩
  rw [← hL]
  obtain ⟨p3, hp3⟩ : ∃ p3, p3 = w.heap.size := ⟨_, rfl⟩
  obtain ⟨W1, hW1⟩ : ∃ W1, W1 = w.alloc (.cells #[.int .i64 t, .int .i64 lo, .int .i64 hi] 24) := ⟨_, rfl⟩
  have hb1 : Below w.heap.size w W1 := by rw [hW1]; exact (Below.refl _ _).alloc (Nat.le_refl _) _
  have hx1 : W1.heap[p3]? = some (.cells #[.int .i64 t, .int .i64 lo, .int .i64 hi] 24 (0, 0)) := by rw [hW1, hp3]; exact heap_alloc_new w _
  have hw2 : ∀ W2, Below W1.drew.heap.size W1.drew W2 → Below W1.heap.size W1 W2 := fun W2 hw => (Below.refl _ _).drew.trans hw
  have HCE : Hid (∀ W2, Below W1.drew.heap.size W1.drew W2 → W2.cell? ⟨p3, 0, none⟩ = some (.int .i64 t) ∧ W2.cell? ⟨p3, 1, none⟩ = some (.int .i64 lo) ∧ W2.cell? ⟨p3, 2, none⟩ = some (.int .i64 hi)) := Lib.hid fun W2 hw => by
    have e1 := ((hw2 W2 hw).block p3 (Array.getElem?_eq_some_iff.1 hx1).1).trans hx1
    exact ⟨by rw [cell_of_row _ _ 0 _ _ _ e1]; rfl, by rw [cell_of_row _ _ 1 _ _ _ e1]; rfl, by rw [cell_of_row _ _ 2 _ _ _ e1]; rfl⟩
  have hTR : ∃ bt : Option Addr, (∀ W2, Below W1.drew.heap.size W1.drew W2 → Calls Try.prog 51 #[.pointer (some ⟨sb, 0, none⟩), .int .i64 t] W2 fun e w' => e = .returned (.pointer bt) ∧ W2 = w') ∧ (∀ W2, Below W1.drew.heap.size W1.drew W2 → Calls Try.prog 52 #[.pointer bt, .int .i64 lo, .int .i64 hi] W2 fun e w' => e = .returned (.func (.func 88) #[] #[.pointer (some ⟨W2.heap.size, 0, none⟩)]) ∧ BagR W2.heap.size w' W2.heap.size L ∧ Below W2.heap.size W2 w') := by
    by_cases ht : InT t
    · obtain ⟨i, rfl⟩ : ∃ i : Nat, t = (i : Int) := ⟨t.toNat, by unfold InT at ht; omega⟩
      have hi4 : i < 4 := by unfold InT at ht; omega
      obtain ⟨b, F, d, hc, hT, _⟩ := (hM.below hb1).table hi4
      refine ⟨some ⟨b, 0, none⟩, fun W2 hw => table_at hi4 (((hw2 W2 hw).cell (p := ⟨sb, i, none⟩) (World.block_lt_of_cell? _ _ hc)).trans hc), fun W2 hw => ?_⟩
      rw [hL, spanT_in ht, Int.toNat_natCast]
      exact trange_any (hT.below (hw2 W2 hw)) (hN i hi4) lo hi
    · rw [hL, spanT_out ht]
      exact ⟨none, fun W2 _ => table_out ht, fun W2 _ => nil_range W2 lo hi⟩
  obtain ⟨bt, h1, h2⟩ := hTR
  have HTB := Lib.hid h1
  have HRG := Lib.hid h2
  have HBW := Lib.hid hb1
  have HW := Lib.hid (And.intro hW1 hp3)
  clear hL hp3 hW1 hb1 hx1 hw2 h1 h2 hM hN
  go_enter Try.func15, Try.ntmps15
  go_upto_region 1 with fail
  rw [← HW.out.1, ← HW.out.2]
  refine wp_region_noPanic ?_
  refine wp_region_abs 10 16 [
    .is (.pointer (some ⟨sb, 0, none⟩)),
    .is (.pointer (some ⟨p3, 0, none⟩)),
    .is (.int .i64 t),
    .is (.pointer bt),
    .is (.pointer (some ⟨p3, 1, none⟩)),
    .is (.int .i64 lo),
    .is (.pointer (some ⟨p3, 2, none⟩)),
    .is (.int .i64 hi),
    .tells (fun _ v wb wa => v = .func (.func 88) #[] #[.pointer (some ⟨wb.heap.size, 0, none⟩)] ∧ BagR wb.heap.size wa wb.heap.size L),
    .tells (fun _ v wb wa => v = .pointer (some ⟨wb.heap.size, 0, none⟩) ∧ wa.heap[wb.heap.size]? = some (.cells #[.nilFunc] 106 (0, 0)))]
    [6, 7, 8, 9, 10, 11, 12, 13, 14, 5]
    [[], [], [1], [0, 2], [], [4], [], [6], [3, 5, 7], []] (by kernel_rfl) (by rfl) rfl rfl (by kernel_rfl) (fun _ _ _ _ h => h.elim) ?_ ?_
  · refine ⟨?_, ?_, ?_, ?_, ?_, ?_, ?_, ?_, ?_, ?_, trivial⟩
    · intro W2 hw K hK
      go_simp
      exact hK _ _ rfl (Below.refl _ _)
    · intro W2 hw K hK
      go_simp
      exact hK _ _ rfl (Below.refl _ _)
    · intro W2 hw K hK
      obtain ⟨s0, s1, s2⟩ := HCE.out W2 hw
      go_simp
      exact hK _ _ rfl (Below.refl _ _)
    · intro W2 hw K hK
      go_simp
      refine Calls.mono (HTB.out W2 hw) ?_
      rintro e9 w9 ⟨rfl, rfl⟩
      exact hK _ _ rfl (Below.refl _ _)
    · intro W2 hw K hK
      go_simp
      exact hK _ _ rfl (Below.refl _ _)
    · intro W2 hw K hK
      obtain ⟨s0, s1, s2⟩ := HCE.out W2 hw
      go_simp
      exact hK _ _ rfl (Below.refl _ _)
    · intro W2 hw K hK
      go_simp
      exact hK _ _ rfl (Below.refl _ _)
    · intro W2 hw K hK
      obtain ⟨s0, s1, s2⟩ := HCE.out W2 hw
      go_simp
      exact hK _ _ rfl (Below.refl _ _)
    · intro W2 hw K hK
      go_simp
      refine Calls.mono (HRG.out W2 hw) ?_
      rintro e9 w9 ⟨rfl, h9, hb9⟩
      exact hK _ _ ⟨rfl, h9⟩ hb9
    · intro W2 hw K hK
      go_simp
      exact hK _ _ ⟨rfl, heap_alloc_new W2 _⟩ ((Below.refl _ _).alloc (Nat.le_refl _) _)
  · intro W2 hw2
    simp only [Behind]
    rintro v8 wb8 wa8 ⟨rfl, hbag⟩ hx8 hy8 _ v9 wb9 wa9 ⟨rfl, hbox⟩ hx9 hy9 _
    have hB2 : Below W1.heap.size W1 W2 := (Below.refl _ W1).drew.trans hw2
    obtain ⟨_, v, hz, hown⟩ := hbag
    obtain ⟨q5, hq5⟩ : ∃ q5, q5 = wb9.heap.size := ⟨_, rfl⟩
    obtain ⟨zb, hzb⟩ : ∃ zb, zb = wb8.heap.size := ⟨_, rfl⟩
    rw [← hq5] at hbox ⊢
    rw [← hzb] at hz hown ⊢
    have g5 := (hx9.block q5 (Array.getElem?_eq_some_iff.1 hbox).1).trans hbox
    have gz := (hx8.block zb (Array.getElem?_eq_some_iff.1 hz).1).trans hz
    have go := own_same (w' := W2) hown fun q hq => by
      obtain ⟨_, e⟩ := own_at hown hq
      exact hx8.block q (Array.getElem?_eq_some_iff.1 e).1
    have c5 : W2.cell? ⟨q5, 0, none⟩ = some .nilFunc := by rw [cell_of_row _ _ 0 _ _ _ g5]; rfl
    have f5 := frozen_of g5
    have hl8 : W1.heap.size ≤ wb8.heap.size := hy8.size
    have hl9 : W1.heap.size ≤ wb9.heap.size := hy9.size
    have hne : zb ≠ q5 := fun e => by rw [e, g5] at gz; simp at gz
    have HFN : Hid (RgB (W2.setCell ⟨q5, 0, none⟩ (.func (.func 88) #[] #[.pointer (some ⟨zb, 0, none⟩)])) q5 zb v L ∧ (∀ q, RgO q5 zb v q → w.heap.size ≤ q) ∧ Below w.heap.size w (W2.setCell ⟨q5, 0, none⟩ (.func (.func 88) #[] #[.pointer (some ⟨zb, 0, none⟩)]))) := Lib.hid (by
      have hs := HBW.out.size
      refine ⟨⟨(heap_set W2 q5 0 _ g5).trans rfl, (heap_ne _ _ _ _ hne).trans gz, zb, own_same go fun q hq => heap_ne _ _ _ _ fun e => ?_⟩, fun q hq => ?_, (HBW.out.trans (hB2.mono hs)).setCell (p := ⟨q5, 0, none⟩) (by show _ ≤ q5; omega) _⟩
      · obtain ⟨cur, e2⟩ := own_at go hq
        rw [e, g5] at e2
        simp at e2
      · rcases hq with rfl | rfl | e
        · omega
        · omega
        · have := own_ge go e; omega)
    clear hbox hz hown g5 gz go hx8 hx9 hy8 hy9 hq5 hzb hl8 hl9 hne hw2 hB2
    simp only [List.drop, Act.put, List.setIfInBounds_toArray, List.set_cons_zero, List.set_cons_succ]
    go_wp2_with fail
    refine NoPanic.normal ?_
    go_wp2_with fail
    go_ret
    exact ⟨q5, zb, v, rfl, HFN.out⟩
end Go.Proofs.Ytejpjbmbcdgomaa
