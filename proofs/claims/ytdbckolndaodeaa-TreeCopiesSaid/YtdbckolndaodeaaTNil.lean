/- What a nil tree answers. -/
import Derived.Test.YtdbckolndaodeaaTList
namespace Go.Proofs.Ytdbckolndaodeaa
set_option maxRecDepth 100000
open Go.RowKit

set_option maxHeartbeats 2000000 in
theorem nil_set (w : World) (k : Int) : Calls Try.prog 19 #[.pointer none, .int .i64 k, .agg #[.int .i64 1, .int .i64 0, .bool false]] w fun e w' => e = .returned (.tuple #[.agg #[.int .i64 0, .int .i64 0, .bool false], .bool false]) ∧ Below w.heap.size w w' := by
  obtain ⟨W0, hW0⟩ : ∃ W0, W0 = w.alloc (.cells #[.int .i64 1, .int .i64 0, .bool false] 29) := ⟨_, rfl⟩
  obtain ⟨W, hW⟩ : ∃ W, W = W0.alloc (.cells #[.int .i64 0, .int .i64 0, .bool false] 29) := ⟨_, rfl⟩
  have hz : W0.heap.size = w.heap.size + 1 := by rw [hW0]; simp
  have hr : W.heap[W0.heap.size]? = some (.cells #[.int .i64 0, .int .i64 0, .bool false] 29 (0, 0)) := by rw [hW]; exact heap_alloc_new W0 _
  have hb0 : Below w.heap.size w W0 := by rw [hW0]; exact (Below.refl _ _).alloc (Nat.le_refl _) _
  have hb : Below w.heap.size w W := by rw [hW]; exact hb0.alloc hb0.size _
  obtain ⟨s, hs⟩ : ∃ s, s = w.heap.size + 1 := ⟨_, rfl⟩
  rw [hz, ← hs] at hr
  have r0 : W.cell? ⟨s, 0, none⟩ = some (.int .i64 0) := by rw [cell_of_row _ _ 0 _ _ _ hr]; rfl
  have r1 : W.cell? ⟨s, 1, none⟩ = some (.int .i64 0) := by rw [cell_of_row _ _ 1 _ _ _ hr]; rfl
  have r2 : W.cell? ⟨s, 2, none⟩ = some (.bool false) := by rw [cell_of_row _ _ 2 _ _ _ hr]; rfl
  have rf := frozen_of hr
  have HRR := Lib.hid (fun x y z => res3 hr x y z)
  have HSB := Lib.hid (⟨by rw [hs]; omega, hb⟩ : Sb w W s)
  rw [hW0] at hW
  have HW := Lib.hid hW
  have HS := Lib.hid hs
  clear hW hW0 hz hb hb0 hr hs
  go_enter Try.func19, Try.ntmps19
  go_upto_region 1 with fail
  rw [← HW.out, ← HS.out]
  go_wp2_with fail
  refine bodyPost_ret (v := .tuple #[.agg #[.int .i64 0, .int .i64 0, .bool false], .bool false]) (by simp [results, Try.results19, go_sem, (HRR.out (.int .i64 0) (.int .i64 0) (.bool false)).1, (HRR.out (.int .i64 0) (.int .i64 0) (.bool false)).2.1, (HRR.out (.int .i64 0) (.int .i64 0) (.bool false)).2.2]) rfl ⟨rfl, (((HSB.out.s1 0 _).s1 1 _).s1 2 _).b⟩
set_option maxHeartbeats 2000000 in
theorem nil_drop (w : World) (k : Int) : Calls Try.prog 18 #[.pointer none, .int .i64 k] w fun e w' => e = .returned (.tuple #[.agg #[.int .i64 0, .int .i64 0, .bool false], .bool false]) ∧ Below w.heap.size w w' := by
  obtain ⟨W, hW⟩ : ∃ W, W = w.alloc (.cells #[.int .i64 0, .int .i64 0, .bool false] 29) := ⟨_, rfl⟩
  have hr : W.heap[w.heap.size]? = some (.cells #[.int .i64 0, .int .i64 0, .bool false] 29 (0, 0)) := by rw [hW]; exact heap_alloc_new w _
  have hb : Below w.heap.size w W := by rw [hW]; exact (Below.refl _ _).alloc (Nat.le_refl _) _
  obtain ⟨s, hs⟩ : ∃ s, s = w.heap.size := ⟨_, rfl⟩
  rw [← hs] at hr
  have r0 : W.cell? ⟨s, 0, none⟩ = some (.int .i64 0) := by rw [cell_of_row _ _ 0 _ _ _ hr]; rfl
  have r1 : W.cell? ⟨s, 1, none⟩ = some (.int .i64 0) := by rw [cell_of_row _ _ 1 _ _ _ hr]; rfl
  have r2 : W.cell? ⟨s, 2, none⟩ = some (.bool false) := by rw [cell_of_row _ _ 2 _ _ _ hr]; rfl
  have rf := frozen_of hr
  have HRR := Lib.hid (fun x y z => res3 hr x y z)
  have HSB := Lib.hid (⟨by rw [hs]; omega, hb⟩ : Sb w W s)
  have HW := Lib.hid hW
  have HS := Lib.hid hs
  clear hW hb hr hs
  go_enter Try.func18, Try.ntmps18
  go_upto_region 1 with fail
  rw [← HW.out, ← HS.out]
  go_wp2_with fail
  refine bodyPost_ret (v := .tuple #[.agg #[.int .i64 0, .int .i64 0, .bool false], .bool false]) (by simp [results, Try.results18, go_sem, (HRR.out (.int .i64 0) (.int .i64 0) (.bool false)).1, (HRR.out (.int .i64 0) (.int .i64 0) (.bool false)).2.1, (HRR.out (.int .i64 0) (.int .i64 0) (.bool false)).2.2]) rfl ⟨rfl, (((HSB.out.s1 0 _).s1 1 _).s1 2 _).b⟩
set_option maxHeartbeats 2000000 in
theorem nil_get (w : World) (k : Int) : Calls Try.prog 12 #[.pointer none, .int .i64 k] w fun e w' => e = .returned (.tuple #[.agg #[.int .i64 0, .int .i64 0, .bool false], .bool false]) ∧ Below w.heap.size w w' := by
  obtain ⟨W, hW⟩ : ∃ W, W = w.alloc (.cells #[.int .i64 0, .int .i64 0, .bool false] 29) := ⟨_, rfl⟩
  have hr : W.heap[w.heap.size]? = some (.cells #[.int .i64 0, .int .i64 0, .bool false] 29 (0, 0)) := by rw [hW]; exact heap_alloc_new w _
  have hb : Below w.heap.size w W := by rw [hW]; exact (Below.refl _ _).alloc (Nat.le_refl _) _
  obtain ⟨s, hs⟩ : ∃ s, s = w.heap.size := ⟨_, rfl⟩
  rw [← hs] at hr
  have r0 : W.cell? ⟨s, 0, none⟩ = some (.int .i64 0) := by rw [cell_of_row _ _ 0 _ _ _ hr]; rfl
  have r1 : W.cell? ⟨s, 1, none⟩ = some (.int .i64 0) := by rw [cell_of_row _ _ 1 _ _ _ hr]; rfl
  have r2 : W.cell? ⟨s, 2, none⟩ = some (.bool false) := by rw [cell_of_row _ _ 2 _ _ _ hr]; rfl
  have rf := frozen_of hr
  have HRR := Lib.hid (fun x y z => res3 hr x y z)
  have HSB := Lib.hid (⟨by rw [hs]; omega, hb⟩ : Sb w W s)
  have HW := Lib.hid hW
  have HS := Lib.hid hs
  clear hW hb hr hs
  go_enter Try.func12, Try.ntmps12
  go_upto_region 1 with fail
  rw [← HW.out, ← HS.out]
  go_wp2_with fail
  refine bodyPost_ret (v := .tuple #[.agg #[.int .i64 0, .int .i64 0, .bool false], .bool false]) (by simp [results, Try.results12, go_sem, (HRR.out (.int .i64 0) (.int .i64 0) (.bool false)).1, (HRR.out (.int .i64 0) (.int .i64 0) (.bool false)).2.1, (HRR.out (.int .i64 0) (.int .i64 0) (.bool false)).2.2]) rfl ⟨rfl, (((HSB.out.s1 0 _).s1 1 _).s1 2 _).b⟩
theorem nil_len (w : World) : Calls Try.prog 14 #[.pointer none] w fun e w' => e = .returned (.int .i64 0) ∧ w = w' := by
  go_enter Try.func14, Try.ntmps14
  go_wp2_with fail
  go_ret
  exact ⟨rfl, rfl⟩
theorem nil_deep (w : World) : Calls Try.prog 20 #[.pointer none] w fun e w' => e = .returned (.int .i64 0) ∧ w = w' := by
  go_enter Try.func20, Try.ntmps20
  go_wp2_with fail
  refine Calls.mono (nil_len w) ?_
  rintro e w' ⟨rfl, rfl⟩
  go_wp2_with fail
  go_ret
  exact ⟨rfl, rfl⟩
theorem nil_sound (w : World) : Calls Try.prog 21 #[.pointer none] w fun e w' => e = .returned (.bool true) ∧ w = w' := by
  go_enter Try.func21, Try.ntmps21
  go_wp2_with fail
  refine Calls.mono (nil_len w) ?_
  rintro e w' ⟨rfl, rfl⟩
  go_wp2_with fail
  go_ret
  exact ⟨rfl, rfl⟩
theorem nil_copy (w : World) : Calls Try.prog 23 #[.pointer none] w fun e w' => e = .returned (.pointer none) ∧ w = w' := by
  go_enter Try.func23, Try.ntmps23
  go_wp2_with fail
  go_ret
  exact ⟨rfl, rfl⟩
set_option maxHeartbeats 2000000 in
theorem nil_range (w : World) (lo hi : Int) : Calls Try.prog 28 #[.pointer none, .int .i64 lo, .int .i64 hi] w fun e w' => e = .returned (.func (.func 40) #[] #[.pointer (some ⟨w.heap.size, 0, none⟩)]) ∧ BagR w.heap.size w' w.heap.size [] ∧ Below w.heap.size w w' := by
  have HB := Lib.hid (bag_start w)
  have HW : Hid (Below w.heap.size w (w.alloc (.cells #[.slice none 0 0] 52))) := Lib.hid ((Below.refl _ _).alloc (Nat.le_refl _) _)
  go_enter Try.func28, Try.ntmps28
  go_wp2_with fail
  go_ret
  exact ⟨rfl, HB.out, HW.out⟩
theorem nil_list (w : World) (lo hi : Int) : Calls Try.prog 16 #[.pointer none, .int .i64 lo, .int .i64 hi] w fun e w' => ∃ v, e = .returned v ∧ Rio w' w.heap.size v [] ∧ Below w.heap.size w w' :=
  callsIn_wide.1 (list_in (by decide) fun W1 _ => nil_range W1 lo hi)
end Go.Proofs.Ytdbckolndaodeaa
