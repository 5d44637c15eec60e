/- Tree.Copy, Tree.Range, Tree.Sound. -/
import Derived.Test.YtdbckolndaodeaaTMt
import Derived.Test.YtdbckolndaodeaaTCopy
import Derived.Test.YtdbckolndaodeaaTShow
import Derived.Test.YtdbckolndaodeaaTSound
namespace Go.Proofs.Ytdbckolndaodeaa
set_option maxRecDepth 100000
open Go.RowKit

set_option maxHeartbeats 4000000 in
theorem tcopy_any {w : World} {F : Nat → Prop} {tb d : Nat} {l : List Ix} (h : TL w F tb l d) : Calls Try.prog 23 #[.pointer (some ⟨tb, 0, none⟩)] w fun e w' => ∃ F' tb', e = .returned (.pointer (some ⟨tb', 0, none⟩)) ∧ TL w' F' tb' l d ∧ (∀ k, F' k → w.heap.size ≤ k) ∧ Below w.heap.size w w' := by
  obtain ⟨T, m, rfl, rfl, hT⟩ := h
  have HC := Lib.hid (copy_any T.d m w.drew (hT.tu.below (below_drewI (Below.refl _ _))))
  have c0 : w.cell? ⟨tb, 0, none⟩ = some (.pointer (some ⟨(root T.d m).p, 0, none⟩)) := by rw [cell_of_row _ _ 0 _ _ _ hT.block]; rfl
  have c1 : w.cell? ⟨tb, 1, none⟩ = some (.int .i64 (T.items.length : Int)) := by rw [cell_of_row _ _ 1 _ _ _ hT.block]; rfl
  have H := Lib.hid hT
  obtain ⟨many, hmany⟩ : ∃ many, many = (T.items.length : Int) := ⟨_, rfl⟩
  rw [← hmany] at c1
  have HM := Lib.hid hmany
  clear hT hmany
  go_enter Try.func23, Try.ntmps23
  go_upto_region 3 with fail
  go_region_law (go_simp; go_at_call 35; refine Calls.mono HC.out ?_; rintro e8 w8 ⟨m', rfl, hN⟩; have HN := Lib.hid (NewT.undrew hN); have c2 := ((NewT.undrew hN).2.2.2.2.cell (p := ⟨tb, 1, none⟩) (World.block_lt_of_cell? _ _ c1)).trans c1; clear hN)
  all_goals
    go_wp2_with fail
    go_ret
    obtain ⟨h1, h2, h3, h4, h5⟩ := HN.out
    have hb : Below w8.heap.size w8 (w8.alloc (.cells #[.pointer (some ⟨(root T.d m').p, 0, none⟩), .int .i64 many] 57)) := (Below.refl _ _).alloc (Nat.le_refl _) _
    refine ⟨fun q => BL (nodes T.d m') q ∨ q = w8.heap.size, w8.heap.size, rfl, ⟨T, m', rfl, rfl, H.out.ok, h1.trans H.out.tr, h2, h3.below hb, by rw [heap_alloc_new w8, HM.out], fun e => by have := h3.lt e; omega, fun q => Iff.rfl⟩, fun q e => ?_, h5.alloc h5.size _⟩
    rcases e with e | e
    · exact h4 q e
    · rw [e]; exact h5.size
theorem shows_r (w0 : World) : Shows 39 w0.heap.size w0 (fun l w => BagR w0.heap.size w w0.heap.size l ∧ Below w0.heap.size w0 w) :=
  ⟨fun _ _ h => h.2, fun _ _ _ h hb => ⟨h.1.later hb, h.2.trans (hb.mono h.2.size)⟩, fun _ _ x h hl => Calls.mono (showR_any h.1 h.2.size x hl) fun _ _ ⟨e1, e2, e3⟩ => ⟨e1, e2, h.2.trans e3⟩⟩
theorem shows_s (w0 : World) : Shows 34 w0.heap.size w0 (fun l w => BagS w0.heap.size w w0.heap.size l ∧ Below w0.heap.size w0 w) :=
  ⟨fun _ _ h => h.2, fun _ _ _ h hb => ⟨h.1.later hb, h.2.trans (hb.mono h.2.size)⟩, fun _ _ x h hl => Calls.mono (showS_any h.1 h.2.size x hl) fun _ _ ⟨e1, e2, e3⟩ => ⟨e1, e2, h.2.trans e3⟩⟩
theorem bag_start (w : World) : BagR w.heap.size (w.alloc (.cells #[.slice none 0 0] 52)) w.heap.size [] :=
  ⟨Nat.le_refl _, _, heap_alloc_new w _, World.ownsRow_nil _ _ _ _⟩
theorem bags_start (w : World) : BagS w.heap.size (w.alloc (.cells #[.slice none 0 0] 48)) w.heap.size [] :=
  ⟨Nat.le_refl _, _, heap_alloc_new w _, World.ownsRow_nil _ _ _ _⟩
set_option maxHeartbeats 4000000 in
theorem trange_any {w : World} {F : Nat → Prop} {tb d : Nat} {l : List Ix} (h : TL w F tb l d) (hl : l.length ≤ 100000) (lo hi : Int) : Calls Try.prog 28 #[.pointer (some ⟨tb, 0, none⟩), .int .i64 lo, .int .i64 hi] w fun e w' => e = .returned (.func (.func 40) #[] #[.pointer (some ⟨w.heap.size, 0, none⟩)]) ∧ BagR w.heap.size w' w.heap.size (rng lo hi l) ∧ Below w.heap.size w w' := by
  have hb := (Below.refl _ w).alloc (Nat.le_refl _) (.cells #[.slice none 0 0] 52)
  obtain ⟨T, m, rfl, rfl, hT⟩ := h
  have c0 : (w.alloc (.cells #[.slice none 0 0] 52)).cell? ⟨tb, 0, none⟩ = some (.pointer (some ⟨(root T.d m).p, 0, none⟩)) := by rw [cell_of_row _ _ 0 _ _ _ ((hb.block _ (Array.getElem?_eq_some_iff.1 hT.block).1).trans hT.block)]; rfl
  have hws := walk_spec lo hi T.d (trOf T.d m) (by rw [hT.tr]; exact hT.ok.ok) (by rw [hT.tr]; exact hT.ok.up)
  have hws2 : walkT lo hi T.d (trOf T.d m) = rng lo hi T.items := by rw [hws, hT.tr]; rfl
  have hle : (rng lo hi T.items).length ≤ 100000 := Nat.le_trans (List.length_filter_le _ _) hl
  have HW := Lib.hid (walk_any_r (shows_r w) lo hi T.d m [] _ hT.tu ⟨bag_start w, hb⟩ (by rw [hws2]; simpa using hle))
  rw [hws2, List.nil_append] at HW
  have HB := Lib.hid (And.intro (bag_start w) hb)
  have HE := Lib.hid (show ¬ lo ≤ hi → rng lo hi T.items = [] from fun h => filter_none fun y _ => by simp; omega)
  obtain ⟨R, hR⟩ : ∃ R, R = rng lo hi T.items := ⟨_, rfl⟩
  rw [← hR] at HW HE ⊢
  clear hT hws hws2 hle hb hR
  by_cases hlo : lo ≤ hi
  · have d1 : decide (lo ≤ hi) = true := decide_eq_true hlo
    clear hlo HE
    go_enter Try.func28, Try.ntmps28
    go_wp2_with fail
    refine Calls.mono HW.out ?_
    rintro e w1 ⟨rfl, hq, hb1⟩
    go_wp2_with fail
    go_ret
    exact ⟨rfl, hq, hb1⟩
  · have d1 : decide (lo ≤ hi) = false := decide_eq_false hlo
    obtain rfl := HE.out hlo
    clear hlo HW HE
    go_enter Try.func28, Try.ntmps28
    go_wp2_with fail
    go_ret
    exact ⟨rfl, HB.out.1, HB.out.2⟩
end Go.Proofs.Ytdbckolndaodeaa
