/- TNilS: put together. -/
import Derived.Test.YtejpjbmbcdgomaaPa27
import Derived.Test.YtejpjbmbcdgomaaPa28
import Derived.Test.YtejpjbmbcdgomaaPa29
/- What a nil tree answers: Drop, Get, Range. -/
namespace Go.Proofs.Ytejpjbmbcdgomaa
set_option maxRecDepth 100000
open Go.RowKit

set_option maxHeartbeats 2000000 in
theorem nil_drop (w : World) (k : Int) : Calls Try.prog 85 #[.pointer none, .int .i64 k] w fun e w' => e = .returned (.tuple #[.agg #[.int .i64 0, .int .i64 0, .bool false], .bool false]) ∧ Below w.heap.size w w' := by
  obtain ⟨W, hW⟩ : ∃ W, W = w.alloc (.cells #[.int .i64 0, .int .i64 0, .bool false] 44) := ⟨_, rfl⟩
  have hr : W.heap[w.heap.size]? = some (.cells #[.int .i64 0, .int .i64 0, .bool false] 44 (0, 0)) := by rw [hW]; exact heap_alloc_new w _
  have hb : Below w.heap.size w W := by rw [hW]; exact (Below.refl _ _).alloc (Nat.le_refl _) _
  obtain ⟨s, hs⟩ : ∃ s, s = w.heap.size := ⟨_, rfl⟩
  rw [← hs] at hr
  have r0 : W.cell? ⟨s, 0, none⟩ = some (.int .i64 0) := by rw [cell_of_row _ _ 0 _ _ _ hr]; rfl
  have r1 : W.cell? ⟨s, 1, none⟩ = some (.int .i64 0) := by rw [cell_of_row _ _ 1 _ _ _ hr]; rfl
  have r2 : W.cell? ⟨s, 2, none⟩ = some (.bool false) := by rw [cell_of_row _ _ 2 _ _ _ hr]; rfl
  have rf := frozen_of hr
  have HRR := Lib.hid (fun x y z => res3 hr x y z)
  have HSB := Lib.hid (⟨by rw [hs]; omega, hb⟩ : Sb w W s)
  have HW := Lib.hid hW
  have HS := Lib.hid hs
  clear hW hb hr hs
  go_enter Try.func85, Try.ntmps85
  go_upto_region 1 with fail
  rw [← HW.out, ← HS.out]
  go_wp2_with fail
  refine bodyPost_ret (v := .tuple #[.agg #[.int .i64 0, .int .i64 0, .bool false], .bool false]) (by simp [results, Try.results85, go_sem, (HRR.out (.int .i64 0) (.int .i64 0) (.bool false)).1, (HRR.out (.int .i64 0) (.int .i64 0) (.bool false)).2.1, (HRR.out (.int .i64 0) (.int .i64 0) (.bool false)).2.2]) rfl ⟨rfl, (((HSB.out.s1 0 _).s1 1 _).s1 2 _).b⟩
set_option maxHeartbeats 2000000 in
theorem nil_get (w : World) (k : Int) : Calls Try.prog 96 #[.pointer none, .int .i64 k] w fun e w' => e = .returned (.tuple #[.agg #[.int .i64 0, .int .i64 0, .bool false], .bool false]) ∧ Below w.heap.size w w' := by
  obtain ⟨W, hW⟩ : ∃ W, W = w.alloc (.cells #[.int .i64 0, .int .i64 0, .bool false] 44) := ⟨_, rfl⟩
  have hr : W.heap[w.heap.size]? = some (.cells #[.int .i64 0, .int .i64 0, .bool false] 44 (0, 0)) := by rw [hW]; exact heap_alloc_new w _
  have hb : Below w.heap.size w W := by rw [hW]; exact (Below.refl _ _).alloc (Nat.le_refl _) _
  obtain ⟨s, hs⟩ : ∃ s, s = w.heap.size := ⟨_, rfl⟩
  rw [← hs] at hr
  have r0 : W.cell? ⟨s, 0, none⟩ = some (.int .i64 0) := by rw [cell_of_row _ _ 0 _ _ _ hr]; rfl
  have r1 : W.cell? ⟨s, 1, none⟩ = some (.int .i64 0) := by rw [cell_of_row _ _ 1 _ _ _ hr]; rfl
  have r2 : W.cell? ⟨s, 2, none⟩ = some (.bool false) := by rw [cell_of_row _ _ 2 _ _ _ hr]; rfl
  have rf := frozen_of hr
  have HRR := Lib.hid (fun x y z => res3 hr x y z)
  have HSB := Lib.hid (⟨by rw [hs]; omega, hb⟩ : Sb w W s)
  have HW := Lib.hid hW
  have HS := Lib.hid hs
  clear hW hb hr hs
  go_enter Try.func96, Try.ntmps96
  go_upto_region 1 with fail
  rw [← HW.out, ← HS.out]
  go_wp2_with fail
  refine bodyPost_ret (v := .tuple #[.agg #[.int .i64 0, .int .i64 0, .bool false], .bool false]) (by simp [results, Try.results96, go_sem, (HRR.out (.int .i64 0) (.int .i64 0) (.bool false)).1, (HRR.out (.int .i64 0) (.int .i64 0) (.bool false)).2.1, (HRR.out (.int .i64 0) (.int .i64 0) (.bool false)).2.2]) rfl ⟨rfl, (((HSB.out.s1 0 _).s1 1 _).s1 2 _).b⟩
set_option maxHeartbeats 2000000 in
theorem nil_range (w : World) (lo hi : Int) : Calls Try.prog 52 #[.pointer none, .int .i64 lo, .int .i64 hi] w fun e w' => e = .returned (.func (.func 88) #[] #[.pointer (some ⟨w.heap.size, 0, none⟩)]) ∧ BagR w.heap.size w' w.heap.size [] ∧ Below w.heap.size w w' := by
  have HB := Lib.hid (bag_start w)
  have HW : Hid (Below w.heap.size w (w.alloc (.cells #[.slice none 0 0] 152))) := Lib.hid ((Below.refl _ _).alloc (Nat.le_refl _) _)
  go_enter Try.func52, Try.ntmps52
  go_wp2_with fail
  go_ret
  exact ⟨rfl, HB.out, HW.out⟩
end Go.Proofs.Ytejpjbmbcdgomaa
