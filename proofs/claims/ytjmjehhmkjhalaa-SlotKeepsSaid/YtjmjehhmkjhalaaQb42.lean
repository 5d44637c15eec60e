/- DGen, DGen2: put together. -/
import Derived.Test.YtjmjehhmkjhalaaQb41
/- A set's answers, in range and out of it; errors as numbers. -/
namespace Go.Proofs.Ytjmjehhmkjhalaa
set_option maxRecDepth 100000
open Go.RowKit

section
variable {w : World} {F : Nat → Prop} {g : Nat} {p : Pw} {v : Value} {L : List DM}
set_option maxHeartbeats 400000 in
theorem size_none (h : SetM w F g p v L) (d : Int) (hl : L.length ≤ 1000) (hb : hasB (L.map DM.dk) d 0 = false) : Calls Try.prog 78 #[.pointer (some ⟨g, 0, none⟩), .int .i64 d] w fun e w' => e = .returned (.int .i64 0) ∧ w = w' := by
  have hh := has_any h d 0 hl
  rw [hb] at hh
  have HH := Lib.hid hh
  clear h hh hb
  go_enter Try.func78, Try.ntmps78
  go_wp2_with fail
  refine Calls.mono HH.out ?_
  rintro e w1 ⟨rfl, rfl⟩
  go_wp2_with fail
  go_ret
  exact ⟨rfl, rfl⟩
set_option maxHeartbeats 400000 in
theorem size_any (h : SetM w F g p v L) (j : Nat) (hj : j < L.length) (hl : L.length ≤ 1000) (hz : 0 < L[j].dk.size) : Calls Try.prog 78 #[.pointer (some ⟨g, 0, none⟩), .int .i64 (j : Int)] w fun e w' => e = .returned (.int .i64 (L[j].dk.size : Int)) ∧ w = w' := by
  have hh := has_any h (j : Int) 0 hl
  rw [hasB_at hj, decide_eq_true (show (0 : Int) ≤ 0 by omega), decide_eq_true (show (0 : Int) < (L[j].dk.size : Int) by omega)] at hh
  have HH := Lib.hid hh
  obtain ⟨_, _, _, _, c4⟩ := h.c
  obtain ⟨A, c, rfl, hle, hc⟩ := h.slice
  obtain ⟨b, rfl, _, _, _, c0, _, _⟩ := hc j hj
  obtain ⟨n, hn⟩ : ∃ n, n = L[j].dk.size := ⟨_, rfl⟩
  rw [← hn] at c0 ⊢
  obtain ⟨N, hN⟩ : ∃ N, N = L.length := ⟨_, rfl⟩
  rw [← hN] at c4 hle hj hl
  clear hc h hh hn hN hz
  go_enter Try.func78, Try.ntmps78
  go_wp2_with fail
  refine Calls.mono HH.out ?_
  rintro e w1 ⟨rfl, rfl⟩
  go_wp2_with fail
  go_ret
  exact ⟨rfl, rfl⟩
/-- The boxes of a read that is refused. -/
theorem resultsReadE {s : Nat} {x : Sx} {W : World} {u : Value} (h6 : SBlk W (s + 1) x) (h7 : W.heap[s + 1 + 1]? = some (.cells #[u] 30 (0, 0))) (tmps : Array Value) (t6 : tmps.getD 6 undef = .pointer (some ⟨s + 1, 0, none⟩)) (t7 : tmps.getD 7 undef = .pointer (some ⟨s + 1 + 1, 0, none⟩)) :
    (results Try.f126 tmps).run Try.prog W = .ok (.tuple #[x.val, u]) W := by
  have h6' : tmps[6]?.getD undef = .pointer (some ⟨s + 1, 0, none⟩) := by simpa using t6
  have h7' : tmps[7]?.getD undef = .pointer (some ⟨s + 1 + 1, 0, none⟩) := by simpa using t7
  have e : Try.f126.results = #[.cell 6 75, .cell 7 30] := Try.results126
  have c7 : W.cell? ⟨s + 1 + 1, 0, none⟩ = some u := (cell_of_row W (s + 1 + 1) 0 _ _ (0, 0) h7).trans rfl
  have hl : (loadVar 30 ⟨s + 1 + 1, 0, none⟩).run Try.prog W = .ok u W := by simp [go_sem, c7]
  simp only [results, e]
  simp [asAddr, h6', h7', h6.load, hl]
set_option maxHeartbeats 4000000 in
theorem read_err (h : SetM w F g p v L) (d i : Int) (hl : L.length ≤ 1000) (hg : p.gone = true ∨ hasB (L.map DM.dk) d i = false) :
    Calls Try.prog 126 #[.pointer (some ⟨g, 0, none⟩), .int .i64 d, .int .i64 i] w fun e w' => e = .returned (.tuple #[Sx.zero.val, eV (if p.gone = true then 3 else 1)]) ∧ Below w.heap.size w w' := by
  obtain ⟨k1, k2, k3, ks, hb3⟩ := three_blocks w (.cells #[.int .i64 i] 3) (.cells Sx.zero.arr 75) (.cells #[.nilIface] 30)
  obtain ⟨w1, hw1⟩ : ∃ w1, w1 = ((w.alloc (.cells #[.int .i64 i] 3)).alloc (.cells Sx.zero.arr 75)).alloc (.cells #[.nilIface] 30) := ⟨_, rfl⟩
  rw [← hw1] at k1 k2 k3 ks hb3
  have h1 := h.below hb3
  have HH := Lib.hid (has_any h1 d i hl)
  obtain ⟨_, _, _, c3, _⟩ := h1.c
  have x5 : w1.cell? ⟨w.heap.size, 0, none⟩ = some (.int .i64 i) := (cell_of_row w1 _ 0 _ _ (0, 0) k1).trans rfl
  have K2 := Lib.hid (show SBlk w1 (w.heap.size + 1) Sx.zero from k2)
  have K3 := Lib.hid k3
  have HB := Lib.hid hb3
  have KS := Lib.hid ks
  have hfin : ∀ u : Value, SBlk ((w1.setRow (w.heap.size + 1) Sx.zero.arr).setCell ⟨w.heap.size + 1 + 1, 0, none⟩ u) (w.heap.size + 1) Sx.zero ∧ ((w1.setRow (w.heap.size + 1) Sx.zero.arr).setCell ⟨w.heap.size + 1 + 1, 0, none⟩ u).heap[w.heap.size + 1 + 1]? = some (.cells #[u] 30 (0, 0)) ∧ Below w.heap.size w ((w1.setRow (w.heap.size + 1) Sx.zero.arr).setCell ⟨w.heap.size + 1 + 1, 0, none⟩ u) := fun u => by
    have p1 := K2.out.put Sx.zero
    have p2 : (w1.setRow (w.heap.size + 1) Sx.zero.arr).heap[w.heap.size + 1 + 1]? = some (.cells #[.nilIface] 30 (0, 0)) := (setRow_other w1 _ _ _ (by omega)).trans k3
    exact ⟨(Below.heap_setCell _ ⟨w.heap.size + 1 + 1, 0, none⟩ u _ (by show w.heap.size + 1 ≠ w.heap.size + 1 + 1; omega)).trans p1, box_set p2 0 u, (setRow_below HB.out (by omega)).setCell (show w.heap.size ≤ (⟨w.heap.size + 1 + 1, 0, none⟩ : Addr).block by show w.heap.size ≤ w.heap.size + 1 + 1; omega) u⟩
  have HFIN := Lib.hid hfin
  have hst := K2.out.store Sx.zero
  have y1 : (w1.setRow (w.heap.size + 1) Sx.zero.arr).frozen? ⟨w.heap.size + 1 + 1, 0, none⟩ = false := frozen_at ((setRow_other w1 _ _ _ (by omega)).trans k3) 0
  have y2 : (w1.setRow (w.heap.size + 1) Sx.zero.arr).cell? ⟨w.heap.size + 1 + 1, 0, none⟩ = some .nilIface := (cell_of_row _ _ 0 _ _ (0, 0) ((setRow_other w1 _ _ _ (by omega)).trans k3)).trans rfl
  have hsw : w.heap.size + 1 < w1.heap.size := by omega
  have hsw2 : w.heap.size + 1 + 1 < (w1.setRow (w.heap.size + 1) Sx.zero.arr).heap.size := by rw [size_setRow]; omega
  obtain ⟨gn, hgn⟩ : ∃ x, x = p.gone := ⟨_, rfl⟩
  rw [← hgn] at c3 hg ⊢
  clear h h1 k1 k2 k3 ks hb3 hgn hfin
  cases gn with
  | true =>
    show Calls Try.prog 126 #[.pointer (some ⟨g, 0, none⟩), .int .i64 d, .int .i64 i] w fun e w' => e = .returned (.tuple #[Sx.zero.val, .iface 43 (.int .i64 3)]) ∧ Below w.heap.size w w'
    clear hg HH
    go_enter Try.func126, Try.ntmps126
    go_upto_region 1 with fail
    rw [zero_arr, ← hw1]
    clear hw1
    go_wp2_with (refine wpList_store_val rfl (.tmp 6) (.tmp 19) rfl rfl Sx.zero.val (congrArg Value.agg zero_arr) hst ?_)
    obtain ⟨p1, p2, p3⟩ := HFIN.out (.iface 43 (.int .i64 3))
    exact bodyPost_ret (resultsReadE p1 p2 _ rfl rfl) rfl ⟨rfl, p3⟩
  | false =>
    have hb : hasB (L.map DM.dk) d i = false := by
      rcases hg with e | e
      · cases e
      · exact e
    rw [hb] at HH
    show Calls Try.prog 126 #[.pointer (some ⟨g, 0, none⟩), .int .i64 d, .int .i64 i] w fun e w' => e = .returned (.tuple #[Sx.zero.val, .iface 43 (.int .i64 1)]) ∧ Below w.heap.size w w'
    clear hg hb
    go_enter Try.func126, Try.ntmps126
    go_upto_region 1 with fail
    rw [zero_arr, ← hw1]
    clear hw1
    go_wp2_with fail
    refine Calls.mono HH.out ?_
    rintro e w2 ⟨rfl, rfl⟩
    go_wp2_with (refine wpList_store_val rfl (.tmp 6) (.tmp 26) rfl rfl Sx.zero.val (congrArg Value.agg zero_arr) hst ?_)
    obtain ⟨p1, p2, p3⟩ := HFIN.out (.iface 43 (.int .i64 1))
    exact bodyPost_ret (resultsReadE p1 p2 _ rfl rfl) rfl ⟨rfl, p3⟩
end
end Go.Proofs.Ytjmjehhmkjhalaa

/- A set's answers by what its devices are; what is kept of the devices by each act. -/
namespace Go.Proofs.Ytjmjehhmkjhalaa
set_option maxRecDepth 100000
open Go.RowKit

def sureV (ds : List Dk) (d i : Int) : Sx := if hasB ds d i = true then (match ds[d.toNat]? with | some k => k.sure i | none => Sx.zero) else Sx.zero
def sizeV (ds : List Dk) (d : Int) : Nat := if hasB ds d 0 = true then (match ds[d.toNat]? with | some k => k.size | none => 0) else 0
def waitV (ds : List Dk) (d : Int) : Nat := if hasB ds d 0 = true then (match ds[d.toNat]? with | some k => k.waits.length | none => 0) else 0
section
variable {w : World} {F : Nat → Prop} {g : Nat} {p : Pw} {ds : List Dk} {K : Nat}
theorem st_read_gen (h : St w F g p ds K) (d i : Int) (hl : ds.length ≤ 1000) (hk : K ≤ 1000000000) :
    Calls Try.prog 126 #[.pointer (some ⟨g, 0, none⟩), .int .i64 d, .int .i64 i] w fun e w' => e = .returned (.tuple #[(readV p ds d i).1.val, eV (readV p ds d i).2]) ∧ Below w.heap.size w w' := by
  by_cases hg : p.gone = true
  · have e : readV p ds d i = (Sx.zero, 3) := by unfold readV; rw [if_pos hg]
    rw [e]
    obtain ⟨v, L, h1, h2, h3, h4⟩ := h
    have hLl : L.length = ds.length := by rw [← h2, List.length_map]
    have := read_err h1 d i (by omega) (.inl hg)
    rw [if_pos hg] at this
    exact this
  · by_cases hb : hasB ds d i = false
    · have e : readV p ds d i = (Sx.zero, 1) := by unfold readV; rw [if_neg hg, if_pos hb]
      rw [e]
      obtain ⟨v, L, h1, h2, h3, h4⟩ := h
      have hLl : L.length = ds.length := by rw [← h2, List.length_map]
      have := read_err h1 d i (by omega) (.inr (by rw [h2]; exact hb))
      rw [if_neg hg] at this
      exact this
    · obtain ⟨j, rfl, hj, hi1, hi2⟩ := hasB_true (show hasB ds d i = true by simpa using hb)
      have e : readV p ds (j : Int) i = (readM ds[j] i, 0) := by unfold readV; rw [if_neg hg, if_neg hb, Int.toNat_natCast, List.getElem?_eq_getElem hj]
      rw [e]
      exact st_read h j hj i hl hk ⟨hi1, hi2⟩ (by simpa using hg)
theorem st_size_gen (h : St w F g p ds K) (d : Int) (hl : ds.length ≤ 1000) :
    Calls Try.prog 78 #[.pointer (some ⟨g, 0, none⟩), .int .i64 d] w fun e w' => e = .returned (.int .i64 (sizeV ds d : Int)) ∧ w = w' := by
  obtain ⟨v, L, h1, h2, h3, h4⟩ := h
  have hLl : L.length = ds.length := by rw [← h2, List.length_map]
  by_cases hb : hasB ds d 0 = true
  · obtain ⟨j, rfl, hj, hi1, hi2⟩ := hasB_true hb
    have hjL : j < L.length := by omega
    have hdk : L[j].dk = ds[j] := by subst h2; rw [List.getElem_map]
    have e : sizeV ds (j : Int) = L[j].dk.size := by unfold sizeV; rw [if_pos hb, Int.toNat_natCast, List.getElem?_eq_getElem hj, hdk]
    rw [e]
    exact size_any h1 j hjL (by omega) (by rw [hdk]; omega)
  · have e : sizeV ds d = 0 := by unfold sizeV; rw [if_neg hb]
    rw [e]
    exact size_none h1 d (by omega) (by rw [h2]; simpa using hb)
end
/-- Devices as an act may find them: n: how many writes wait at most. -/
def OkN (n : Nat) (ds : List Dk) : Prop := ∀ d ∈ ds, d.waits.length ≤ n ∧ 1 ≤ d.size ∧ d.size ≤ 4096 ∧ ∀ y ∈ d.waits, 0 ≤ y.i ∧ y.i < (d.size : Int)
theorem OkN.mono {n m : Nat} {ds : List Dk} (h : OkN n ds) (hm : n ≤ m) : OkN m ds := fun d hd => ⟨Nat.le_trans (h d hd).1 hm, (h d hd).2⟩
theorem OkN.new {l : List Nat} (h : ∀ n ∈ l, 1 ≤ n ∧ n ≤ 4096) : OkN 0 (l.map Dk.new) := fun d hd => by
  obtain ⟨n, hn, rfl⟩ := List.mem_map.1 hd
  exact ⟨Nat.le_refl _, (h n hn).1, (h n hn).2, fun y hy => by cases hy⟩
theorem OkN.set {n : Nat} {ds : List Dk} (h : OkN n ds) (j : Nat) (f : Dk → Dk) (hf : ∀ hj : j < ds.length, (f ds[j]).waits.length ≤ n ∧ 1 ≤ (f ds[j]).size ∧ (f ds[j]).size ≤ 4096 ∧ ∀ y ∈ (f ds[j]).waits, 0 ≤ y.i ∧ y.i < ((f ds[j]).size : Int)) : OkN n (setAt ds j f) := by
  by_cases hj : j < ds.length
  · rw [setAt_some hj]
    intro d hd
    rcases List.mem_or_eq_of_mem_set hd with e | e
    · exact h d e
    · rw [e]; exact hf hj
  · have e : setAt ds j f = ds := by unfold setAt; rw [List.getElem?_eq_none (by omega)]
    rw [e]; exact h
theorem OkN.write {n : Nat} {p : Pw} {ds : List Dk} (h : OkN n ds) (d i : Int) (x : Sx) : OkN (n + 1) (writeM p ds d i x).2.2 := by
  unfold writeM
  by_cases hb : hasB ds d i = false
  · rw [if_pos hb]; exact h.mono (by omega)
  · rw [if_neg hb]
    split
    · exact h.mono (by omega)
    · obtain ⟨j, rfl, hj, hi1, hi2⟩ := hasB_true (show hasB ds d i = true by simpa using hb)
      refine (h.mono (Nat.le_succ n)).set _ _ fun hj' => ?_
      simp only [Int.toNat_natCast] at hj' ⊢
      have h1 := h _ (List.getElem_mem hj)
      refine ⟨?_, h1.2.1, h1.2.2.1, fun y hy => ?_⟩
      · show (ds[j].waits ++ [_]).length ≤ n + 1
        rw [List.length_append]
        have := h1.1
        simp
        omega
      · rcases List.mem_append.1 (show y ∈ ds[j].waits ++ [_] from hy) with e | e
        · exact h1.2.2.2 y e
        · rw [List.mem_singleton.1 e]; exact ⟨hi1, hi2⟩
theorem OkN.flush {n : Nat} {p : Pw} {ds : List Dk} (h : OkN n ds) (d : Int) : OkN n (flushM p ds d).2.2 := by
  unfold flushM
  split
  · exact h
  · split
    · exact h
    · exact h.set _ _ fun hj => ⟨Nat.zero_le _, (h _ (List.getElem_mem hj)).2.1, (h _ (List.getElem_mem hj)).2.2.1, fun y hy => by cases hy⟩
theorem OkN.crash {n : Nat} {ds : List Dk} (h : OkN n ds) (l : List Kp) : OkN n (crashM l ds) := fun d hd => by
  obtain ⟨i, hi, rfl⟩ := List.getElem_of_mem hd
  have hi2 : i < ds.length := by simpa [crashM] using hi
  rw [crashM_get l ds i hi2]
  exact ⟨Nat.zero_le _, (h _ (List.getElem_mem hi2)).2.1, (h _ (List.getElem_mem hi2)).2.2.1, fun y hy => by cases hy⟩
end Go.Proofs.Ytjmjehhmkjhalaa
