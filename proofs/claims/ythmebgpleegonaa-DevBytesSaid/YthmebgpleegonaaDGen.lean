/- A set's answers, in range and out of it; errors as numbers. -/
import Derived.Test.YthmebgpleegonaaDRefN
namespace Go.Proofs.Ythmebgpleegonaa
set_option maxRecDepth 100000
open Go.RowKit

theorem as_errno (v : Value) (w : World) : (Instr.typeAssert (.iface 71 v) 28 71 true).run Try.prog w = .ok (.tuple #[v, .bool true]) w := by kernel_rfl
set_option maxHeartbeats 1000000 in
theorem num_ev (n : Nat) (w : World) : Calls Try.prog 12 #[eV n] w fun e w' => e = .returned (.int .i64 (n : Int)) ∧ w = w' := by
  by_cases h : n = 0
  · subst h
    show Calls Try.prog 12 #[.nilIface] w fun e w' => e = .returned (.int .i64 ((0 : Nat) : Int)) ∧ w = w'
    go_enter Try.func12, Try.ntmps12
    go_wp2
    refine wp_loop_rounds 1 ?_
    rw [rounds_succ]
    go_wp2
    go_ret
    exact ⟨rfl, rfl⟩
  · have h1 := as_errno
    have e0 : ((n : Int) == 0) = false := beq_eq_false_iff_ne.2 (by omega)
    have e1 : ((n : Int) != 0) = true := by simp; omega
    have e2 : (n != 0) = true := by simp; omega
    unfold eV
    rw [if_neg h]
    clear h
    go_enter Try.func12, Try.ntmps12
    go_wp2
    refine wp_loop_rounds 1 ?_
    rw [rounds_succ]
    go_wp2
    go_ret
    exact ⟨rfl, rfl⟩
section
variable {w : World} {F : Nat → Prop} {g : Nat} {p : Pw} {v : Value} {L : List DM}
set_option maxHeartbeats 400000 in
theorem arm_neg (h : SetM w F g p v L) (n : Int) (hn : n < 0) : Calls Try.prog 25 #[.pointer (some ⟨g, 0, none⟩), .int .i64 n] w fun e w' => e = .returned (eV 1) ∧ w = w' := by
  have d0 : decide (n < 0) = true := decide_eq_true hn
  show Calls Try.prog 25 #[.pointer (some ⟨g, 0, none⟩), .int .i64 n] w fun e w' => e = .returned (.iface 71 (.int .i64 1)) ∧ w = w'
  clear h hn
  go_enter Try.func25, Try.ntmps25
  go_wp2_with fail
  go_ret
  exact ⟨rfl, rfl⟩
set_option maxHeartbeats 400000 in
theorem waiting_none (h : SetM w F g p v L) (d : Int) (hl : L.length ≤ 1000) (hb : hasB (L.map DM.dk) d 0 = false) : Calls Try.prog 23 #[.pointer (some ⟨g, 0, none⟩), .int .i64 d] w fun e w' => e = .returned (.int .i64 0) ∧ w = w' := by
  have hh := has_any h d 0 hl
  rw [hb] at hh
  have HH := Lib.hid hh
  clear h hh hb
  go_enter Try.func23, Try.ntmps23
  go_wp2_with fail
  refine Calls.mono HH.out ?_
  rintro e w1 ⟨rfl, rfl⟩
  go_wp2_with fail
  go_ret
  exact ⟨rfl, rfl⟩
set_option maxHeartbeats 400000 in
theorem size_none (h : SetM w F g p v L) (d : Int) (hl : L.length ≤ 1000) (hb : hasB (L.map DM.dk) d 0 = false) : Calls Try.prog 29 #[.pointer (some ⟨g, 0, none⟩), .int .i64 d] w fun e w' => e = .returned (.int .i64 0) ∧ w = w' := by
  have hh := has_any h d 0 hl
  rw [hb] at hh
  have HH := Lib.hid hh
  clear h hh hb
  go_enter Try.func29, Try.ntmps29
  go_wp2_with fail
  refine Calls.mono HH.out ?_
  rintro e w1 ⟨rfl, rfl⟩
  go_wp2_with fail
  go_ret
  exact ⟨rfl, rfl⟩
set_option maxHeartbeats 400000 in
theorem size_any (h : SetM w F g p v L) (j : Nat) (hj : j < L.length) (hl : L.length ≤ 1000) (hz : 0 < L[j].dk.size) : Calls Try.prog 29 #[.pointer (some ⟨g, 0, none⟩), .int .i64 (j : Int)] w fun e w' => e = .returned (.int .i64 (L[j].dk.size : Int)) ∧ w = w' := by
  have hh := has_any h (j : Int) 0 hl
  rw [hasB_at hj, decide_eq_true (show (0 : Int) ≤ 0 by omega), decide_eq_true (show (0 : Int) < (L[j].dk.size : Int) by omega)] at hh
  have HH := Lib.hid hh
  obtain ⟨_, _, _, _, c4⟩ := h.c
  obtain ⟨A, c, rfl, hle, hc⟩ := h.slice
  obtain ⟨b, rfl, _, _, _, c0, _, _⟩ := hc j hj
  obtain ⟨n, hn⟩ : ∃ n, n = L[j].dk.size := ⟨_, rfl⟩
  rw [← hn] at c0 ⊢
  obtain ⟨N, hN⟩ : ∃ N, N = L.length := ⟨_, rfl⟩
  rw [← hN] at c4 hle hj hl
  clear hc h hh hn hN hz
  go_enter Try.func29, Try.ntmps29
  go_wp2_with fail
  refine Calls.mono HH.out ?_
  rintro e w1 ⟨rfl, rfl⟩
  go_wp2_with fail
  go_ret
  exact ⟨rfl, rfl⟩
/-- The boxes of a read that is refused. -/
theorem resultsReadE {s : Nat} {x : Sx} {W : World} {u : Value} (h6 : SBlk W (s + 1) x) (h7 : W.heap[s + 1 + 1]? = some (.cells #[u] 28 (0, 0))) (tmps : Array Value) (t6 : tmps.getD 6 undef = .pointer (some ⟨s + 1, 0, none⟩)) (t7 : tmps.getD 7 undef = .pointer (some ⟨s + 1 + 1, 0, none⟩)) :
    (results Try.f21 tmps).run Try.prog W = .ok (.tuple #[x.val, u]) W := by
  have h6' : tmps[6]?.getD undef = .pointer (some ⟨s + 1, 0, none⟩) := by simpa using t6
  have h7' : tmps[7]?.getD undef = .pointer (some ⟨s + 1 + 1, 0, none⟩) := by simpa using t7
  have e : Try.f21.results = #[.cell 6 50, .cell 7 28] := Try.results21
  have c7 : W.cell? ⟨s + 1 + 1, 0, none⟩ = some u := (cell_of_row W (s + 1 + 1) 0 _ _ (0, 0) h7).trans rfl
  have hl : (loadVar 28 ⟨s + 1 + 1, 0, none⟩).run Try.prog W = .ok u W := by simp [go_sem, c7]
  simp only [results, e]
  simp [asAddr, h6', h7', h6.load, hl]
set_option maxHeartbeats 4000000 in
theorem read_err (h : SetM w F g p v L) (d i : Int) (hl : L.length ≤ 1000) (hg : p.gone = true ∨ hasB (L.map DM.dk) d i = false) :
    Calls Try.prog 21 #[.pointer (some ⟨g, 0, none⟩), .int .i64 d, .int .i64 i] w fun e w' => e = .returned (.tuple #[Sx.zero.val, eV (if p.gone = true then 3 else 1)]) ∧ Below w.heap.size w w' := by
  obtain ⟨k1, k2, k3, ks, hb3⟩ := three_blocks w (.cells #[.int .i64 i] 3) (.cells Sx.zero.arr 50) (.cells #[.nilIface] 28)
  obtain ⟨w1, hw1⟩ : ∃ w1, w1 = ((w.alloc (.cells #[.int .i64 i] 3)).alloc (.cells Sx.zero.arr 50)).alloc (.cells #[.nilIface] 28) := ⟨_, rfl⟩
  rw [← hw1] at k1 k2 k3 ks hb3
  have h1 := h.below hb3
  have HH := Lib.hid (has_any h1 d i hl)
  obtain ⟨_, _, _, c3, _⟩ := h1.c
  have x5 : w1.cell? ⟨w.heap.size, 0, none⟩ = some (.int .i64 i) := (cell_of_row w1 _ 0 _ _ (0, 0) k1).trans rfl
  have K2 := Lib.hid (show SBlk w1 (w.heap.size + 1) Sx.zero from k2)
  have K3 := Lib.hid k3
  have HB := Lib.hid hb3
  have KS := Lib.hid ks
  have hfin : ∀ u : Value, SBlk ((w1.setRow (w.heap.size + 1) Sx.zero.arr).setCell ⟨w.heap.size + 1 + 1, 0, none⟩ u) (w.heap.size + 1) Sx.zero ∧ ((w1.setRow (w.heap.size + 1) Sx.zero.arr).setCell ⟨w.heap.size + 1 + 1, 0, none⟩ u).heap[w.heap.size + 1 + 1]? = some (.cells #[u] 28 (0, 0)) ∧ Below w.heap.size w ((w1.setRow (w.heap.size + 1) Sx.zero.arr).setCell ⟨w.heap.size + 1 + 1, 0, none⟩ u) := fun u => by
    have p1 := K2.out.put Sx.zero
    have p2 : (w1.setRow (w.heap.size + 1) Sx.zero.arr).heap[w.heap.size + 1 + 1]? = some (.cells #[.nilIface] 28 (0, 0)) := (setRow_other w1 _ _ _ (by omega)).trans k3
    exact ⟨(Below.heap_setCell _ ⟨w.heap.size + 1 + 1, 0, none⟩ u _ (by show w.heap.size + 1 ≠ w.heap.size + 1 + 1; omega)).trans p1, box_set p2 0 u, (setRow_below HB.out (by omega)).setCell (show w.heap.size ≤ (⟨w.heap.size + 1 + 1, 0, none⟩ : Addr).block by show w.heap.size ≤ w.heap.size + 1 + 1; omega) u⟩
  have HFIN := Lib.hid hfin
  have hst := K2.out.store Sx.zero
  have y1 : (w1.setRow (w.heap.size + 1) Sx.zero.arr).frozen? ⟨w.heap.size + 1 + 1, 0, none⟩ = false := frozen_at ((setRow_other w1 _ _ _ (by omega)).trans k3) 0
  have y2 : (w1.setRow (w.heap.size + 1) Sx.zero.arr).cell? ⟨w.heap.size + 1 + 1, 0, none⟩ = some .nilIface := (cell_of_row _ _ 0 _ _ (0, 0) ((setRow_other w1 _ _ _ (by omega)).trans k3)).trans rfl
  have hsw : w.heap.size + 1 < w1.heap.size := by omega
  have hsw2 : w.heap.size + 1 + 1 < (w1.setRow (w.heap.size + 1) Sx.zero.arr).heap.size := by rw [size_setRow]; omega
  obtain ⟨gn, hgn⟩ : ∃ x, x = p.gone := ⟨_, rfl⟩
  rw [← hgn] at c3 hg ⊢
  clear h h1 k1 k2 k3 ks hb3 hgn hfin
  cases gn with
  | true =>
    show Calls Try.prog 21 #[.pointer (some ⟨g, 0, none⟩), .int .i64 d, .int .i64 i] w fun e w' => e = .returned (.tuple #[Sx.zero.val, .iface 71 (.int .i64 3)]) ∧ Below w.heap.size w w'
    clear hg HH
    go_enter Try.func21, Try.ntmps21
    go_upto_region 1 with fail
    rw [zero_arr, ← hw1]
    clear hw1
    go_wp2_with (refine wpList_store_val rfl (.tmp 6) (.tmp 19) rfl rfl Sx.zero.val (congrArg Value.agg zero_arr) hst ?_)
    obtain ⟨p1, p2, p3⟩ := HFIN.out (.iface 71 (.int .i64 3))
    exact bodyPost_ret (resultsReadE p1 p2 _ rfl rfl) rfl ⟨rfl, p3⟩
  | false =>
    have hb : hasB (L.map DM.dk) d i = false := by
      rcases hg with e | e
      · cases e
      · exact e
    rw [hb] at HH
    show Calls Try.prog 21 #[.pointer (some ⟨g, 0, none⟩), .int .i64 d, .int .i64 i] w fun e w' => e = .returned (.tuple #[Sx.zero.val, .iface 71 (.int .i64 1)]) ∧ Below w.heap.size w w'
    clear hg hb
    go_enter Try.func21, Try.ntmps21
    go_upto_region 1 with fail
    rw [zero_arr, ← hw1]
    clear hw1
    go_wp2_with fail
    refine Calls.mono HH.out ?_
    rintro e w2 ⟨rfl, rfl⟩
    go_wp2_with (refine wpList_store_val rfl (.tmp 6) (.tmp 26) rfl rfl Sx.zero.val (congrArg Value.agg zero_arr) hst ?_)
    obtain ⟨p1, p2, p3⟩ := HFIN.out (.iface 71 (.int .i64 1))
    exact bodyPost_ret (resultsReadE p1 p2 _ rfl rfl) rfl ⟨rfl, p3⟩
end
end Go.Proofs.Ythmebgpleegonaa
