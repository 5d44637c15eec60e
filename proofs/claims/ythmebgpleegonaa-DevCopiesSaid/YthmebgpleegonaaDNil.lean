/- What a set that is nil answers. -/
import Derived.Test.YthmebgpleegonaaDGen2
namespace Go.Proofs.Ythmebgpleegonaa
set_option maxRecDepth 100000
open Go.RowKit

theorem nil_has (d i : Int) (w : World) : Calls Try.prog 34 #[.pointer none, .int .i64 d, .int .i64 i] w fun e w' => e = .returned (.bool false) ∧ w = w' := by
  go_enter Try.func34, Try.ntmps34
  go_wp2_with fail
  go_ret
  exact ⟨rfl, rfl⟩
theorem nil_flush (d : Int) (w : World) : Calls Try.prog 18 #[.pointer none, .int .i64 d] w fun e w' => e = .returned eDown ∧ w = w' := by
  unfold eDown
  go_enter Try.func18, Try.ntmps18
  go_wp2_with fail
  go_ret
  exact ⟨rfl, rfl⟩
theorem nil_write (d i : Int) (x : Sx) (w : World) : Calls Try.prog 16 #[.pointer none, .int .i64 d, .int .i64 i, x.val] w fun e w' => e = .returned eDown ∧ Below w.heap.size w w' := by
  unfold eDown
  go_enter Try.func16, Try.ntmps16
  go_wp2_with fail
  go_ret
  exact ⟨rfl, by first | exact Below.refl _ _ | exact (Below.refl _ _).alloc (Nat.le_refl _) _⟩
theorem nil_arm (n : Int) (w : World) : Calls Try.prog 25 #[.pointer none, .int .i64 n] w fun e w' => e = .returned eDown ∧ w = w' := by
  unfold eDown
  go_enter Try.func25, Try.ntmps25
  go_wp2_with fail
  go_ret
  exact ⟨rfl, rfl⟩
theorem nil_crash (v : Value) (w : World) : Calls Try.prog 19 #[.pointer none, v] w fun e w' => e = .returned (.tuple #[]) ∧ Below w.heap.size w w' := by
  go_enter Try.func19, Try.ntmps19
  go_wp2_with fail
  all_goals exact bodyPost_ret (v := .tuple #[]) (by simp [results, Try.results19, go_sem]) rfl ⟨rfl, (Below.refl _ _).alloc (Nat.le_refl _) _⟩
theorem nil_many (w : World) : Calls Try.prog 13 #[.pointer none] w fun e w' => e = .returned (.int .i64 0) ∧ w = w' := by
  go_enter Try.func13, Try.ntmps13
  go_wp2_with fail
  go_ret
  exact ⟨rfl, rfl⟩
theorem nil_steps (w : World) : Calls Try.prog 26 #[.pointer none] w fun e w' => e = .returned (.int .i64 0) ∧ w = w' := by
  go_enter Try.func26, Try.ntmps26
  go_wp2_with fail
  go_ret
  exact ⟨rfl, rfl⟩
theorem nil_down (w : World) : Calls Try.prog 24 #[.pointer none] w fun e w' => e = .returned (.bool true) ∧ w = w' := by
  go_enter Try.func24, Try.ntmps24
  go_wp2_with fail
  go_ret
  exact ⟨rfl, rfl⟩
theorem nil_copy (w : World) : Calls Try.prog 27 #[.pointer none] w fun e w' => e = .returned (.pointer none) ∧ w = w' := by
  go_enter Try.func27, Try.ntmps27
  go_wp2_with fail
  go_ret
  exact ⟨rfl, rfl⟩
theorem nil_size (d : Int) (w : World) : Calls Try.prog 29 #[.pointer none, .int .i64 d] w fun e w' => e = .returned (.int .i64 0) ∧ w = w' := by
  go_enter Try.func29, Try.ntmps29
  go_wp2_with fail
  refine Calls.mono (nil_has d 0 w) ?_
  rintro e w1 ⟨rfl, rfl⟩
  go_wp2_with fail
  go_ret
  exact ⟨rfl, rfl⟩
theorem nil_waiting (d : Int) (w : World) : Calls Try.prog 23 #[.pointer none, .int .i64 d] w fun e w' => e = .returned (.int .i64 0) ∧ w = w' := by
  go_enter Try.func23, Try.ntmps23
  go_wp2_with fail
  refine Calls.mono (nil_has d 0 w) ?_
  rintro e w1 ⟨rfl, rfl⟩
  go_wp2_with fail
  go_ret
  exact ⟨rfl, rfl⟩
theorem nil_sure (d i : Int) (w : World) :
    Calls Try.prog 22 #[.pointer none, .int .i64 d, .int .i64 i] w fun e w' => e = .returned Sx.zero.val ∧ Below w.heap.size w w' := by
  have hba : Below w.heap.size w (w.alloc (.cells Sx.zero.arr 50)) := (Below.refl _ _).alloc (Nat.le_refl _) _
  have HB := Lib.hid hba
  have HH := Lib.hid (fun W => nil_has d i W)
  have HZ := Lib.hid (show SBlk (w.alloc (.cells Sx.zero.arr 50)) w.heap.size Sx.zero from heap_alloc_new w _)
  clear hba
  go_enter Try.func22, Try.ntmps22
  go_upto_region 1 with fail
  rw [zero_arr]
  revert HB HZ
  generalize World.alloc w _ = W
  intro HB HZ
  go_wp2_with fail
  refine Calls.mono (HH.out W) ?_
  rintro e w1 ⟨rfl, rfl⟩
  have hst := HZ.out.store Sx.zero
  have HP := Lib.hid (HZ.out.put Sx.zero)
  have HPB := Lib.hid (setRow_below HB.out (b := w.heap.size) (cs := Sx.zero.arr) (Nat.le_refl _))
  go_wp2_with (refine wpList_store_val rfl (.tmp 6) (.tmp 12) rfl rfl Sx.zero.val (congrArg Value.agg zero_arr) hst ?_)
  exact bodyPost_ret (resultsSure HP.out _ rfl) rfl ⟨rfl, HPB.out⟩
theorem nil_read (d i : Int) (w : World) :
    Calls Try.prog 21 #[.pointer none, .int .i64 d, .int .i64 i] w fun e w' => e = .returned (.tuple #[Sx.zero.val, .iface 71 (.int .i64 3)]) ∧ Below w.heap.size w w' := by
  obtain ⟨k1, k2, k3, ks, hb3⟩ := three_blocks w (.cells #[.int .i64 i] 3) (.cells Sx.zero.arr 50) (.cells #[.nilIface] 28)
  obtain ⟨w1, hw1⟩ : ∃ w1, w1 = ((w.alloc (.cells #[.int .i64 i] 3)).alloc (.cells Sx.zero.arr 50)).alloc (.cells #[.nilIface] 28) := ⟨_, rfl⟩
  rw [← hw1] at k1 k2 k3 ks hb3
  have x5 : w1.cell? ⟨w.heap.size, 0, none⟩ = some (.int .i64 i) := (cell_of_row w1 _ 0 _ _ (0, 0) k1).trans rfl
  have K2 := Lib.hid (show SBlk w1 (w.heap.size + 1) Sx.zero from k2)
  have K3 := Lib.hid k3
  have HB := Lib.hid hb3
  have KS := Lib.hid ks
  have hfin : ∀ u : Value, SBlk ((w1.setRow (w.heap.size + 1) Sx.zero.arr).setCell ⟨w.heap.size + 1 + 1, 0, none⟩ u) (w.heap.size + 1) Sx.zero ∧ ((w1.setRow (w.heap.size + 1) Sx.zero.arr).setCell ⟨w.heap.size + 1 + 1, 0, none⟩ u).heap[w.heap.size + 1 + 1]? = some (.cells #[u] 28 (0, 0)) ∧ Below w.heap.size w ((w1.setRow (w.heap.size + 1) Sx.zero.arr).setCell ⟨w.heap.size + 1 + 1, 0, none⟩ u) := fun u => by
    have p1 := K2.out.put Sx.zero
    have p2 : (w1.setRow (w.heap.size + 1) Sx.zero.arr).heap[w.heap.size + 1 + 1]? = some (.cells #[.nilIface] 28 (0, 0)) := (setRow_other w1 _ _ _ (by omega)).trans k3
    exact ⟨(Below.heap_setCell _ ⟨w.heap.size + 1 + 1, 0, none⟩ u _ (by show w.heap.size + 1 ≠ w.heap.size + 1 + 1; omega)).trans p1, box_set p2 0 u, (setRow_below HB.out (by omega)).setCell (show w.heap.size ≤ (⟨w.heap.size + 1 + 1, 0, none⟩ : Addr).block by show w.heap.size ≤ w.heap.size + 1 + 1; omega) u⟩
  have HFIN := Lib.hid hfin
  have hst := K2.out.store Sx.zero
  have y1 : (w1.setRow (w.heap.size + 1) Sx.zero.arr).frozen? ⟨w.heap.size + 1 + 1, 0, none⟩ = false := frozen_at ((setRow_other w1 _ _ _ (by omega)).trans k3) 0
  have y2 : (w1.setRow (w.heap.size + 1) Sx.zero.arr).cell? ⟨w.heap.size + 1 + 1, 0, none⟩ = some .nilIface := (cell_of_row _ _ 0 _ _ (0, 0) ((setRow_other w1 _ _ _ (by omega)).trans k3)).trans rfl
  have hsw : w.heap.size + 1 < w1.heap.size := by omega
  have hsw2 : w.heap.size + 1 + 1 < (w1.setRow (w.heap.size + 1) Sx.zero.arr).heap.size := by rw [size_setRow]; omega
  clear k1 k2 k3 ks hb3 hfin
  go_enter Try.func21, Try.ntmps21
  go_upto_region 1 with fail
  rw [zero_arr, ← hw1]
  clear hw1
  go_wp2_with (refine wpList_store_val rfl (.tmp 6) (.tmp 19) rfl rfl Sx.zero.val (congrArg Value.agg zero_arr) hst ?_)
  obtain ⟨p1, p2, p3⟩ := HFIN.out (.iface 71 (.int .i64 3))
  exact bodyPost_ret (resultsReadE p1 p2 _ rfl rfl) rfl ⟨rfl, p3⟩
end Go.Proofs.Ythmebgpleegonaa
