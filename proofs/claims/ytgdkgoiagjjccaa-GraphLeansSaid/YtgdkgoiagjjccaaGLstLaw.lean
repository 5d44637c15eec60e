/- GraphLeast's walk. -/
import Derived.Test.YtgdkgoiagjjccaaGAliv
import Derived.Test.YtgdkgoiagjjccaaGSmall
import Derived.Test.YtgdkgoiagjjccaaGRows
import Derived.Test.YtgdkgoiagjjccaaGRefD
namespace Go.Proofs.Ytgdkgoiagjjccaa
set_option maxRecDepth 100000
open Go.RowKit Go.Shelf

theorem rows_own2 {W : World} {B : Nat} {ls : List (List Int)} {ra : Nat → Option Addr} {rc : Nat → Nat} {A : Option Addr} {c n : Nat} (ho : W.ownsRow B 38 1 (.slice A n c) n (rowsV ra rc ls n)) (hi : ∀ j, j < n → W.ownsRow B 3 1 (.slice (ra j) (ls.getD j []).length (rc j)) (ls.getD j []).length (valsZ (ls.getD j [])))
    (hl : ls.length = n) (hn : n ≤ 9223372036854775807) (hf : ∀ j, ∀ x ∈ ls.getD j [], Fits x) (hL : ∀ j, (ls.getD j []).length ≤ 9223372036854775807) : Rws W A n ls := by
  obtain ⟨A', c', e, hr, _, _⟩ := rdv_own ho
  injection e with e _ e2
  subst e e2
  refine ⟨hl, hn, fun hn0 => ?_⟩
  obtain ⟨b, off, eA, hc⟩ := hr.2 hn0
  refine ⟨b, off, eA, fun j hj => ?_⟩
  have h1 := hc j _ (by unfold rowsV; rw [List.getElem?_map, List.getElem?_range hj]; rfl)
  obtain ⟨A5, c5, e5, hn5, _, _⟩ := nums_own (hi j hj) (hf j)
  injection e5 with e5 _ e6
  subst e5 e6
  exact ⟨_, _, h1, hn5, hL j⟩
/-- Rows that one has got are turned: nothing else is touched. -/
structure MT (lo hi : Nat) (Wn : World) (ls : List (List Int)) (ra : Nat → Option Addr) (rc : Nat → Nat) (g n : Nat) (W : World) : Prop where
  os : W.os = Wn.os
  tape : W.tape = Wn.tape
  output : W.output = Wn.output
  size : Wn.heap.size ≤ W.heap.size
  block : ∀ q, q < Wn.heap.size → q < lo ∨ hi ≤ q → W.heap[q]? = Wn.heap[q]?
  outer : ∀ j, j < n → W.cell? ⟨g, j, none⟩ = some (.slice (ra j) (ls.getD j []).length (rc j))
  inner : ∀ j, j < n → 0 < (ls.getD j []).length → ∃ b, ra j = some ⟨b, 0, none⟩ ∧ b ≠ g ∧ lo ≤ b ∧ b < hi ∧ (∀ o, W.frozen? ⟨b, o, none⟩ = false) ∧ ∀ u, u < (ls.getD j []).length → ∃ z : Int, W.cell? ⟨b, u, none⟩ = some (.int .i64 z)
section
variable {lo hi : Nat} {Wn W : World} {ls : List (List Int)} {ra : Nat → Option Addr} {rc : Nat → Nat} {g n : Nat}
theorem MT.store (h : MT lo hi Wn ls ra rc g n W) {b u : Nat} (z : Int) (h1 : b ≠ g) (h2 : lo ≤ b) (h3 : b < hi) : MT lo hi Wn ls ra rc g n (W.setCell ⟨b, u, none⟩ (.int .i64 z)) := by
  refine ⟨h.os, h.tape, h.output, by rw [World.size_setCell]; exact h.size, fun q hq hlh => (Below.heap_setCell _ _ _ _ (by show q ≠ b; omega)).trans (h.block q hq hlh), fun j hj => by rw [set_blk h1]; exact h.outer j hj, fun j hj hL => ?_⟩
  obtain ⟨bj, e, e2, l1, l2, fr, h4⟩ := h.inner j hj hL
  refine ⟨bj, e, e2, l1, l2, fun o => by rw [World.frozen?_setCell]; exact fr o, fun x hx => ?_⟩
  obtain ⟨y, hy⟩ := h4 x hx
  by_cases e3 : b = bj
  · subst e3
    by_cases e4 : x = u
    · subst e4; exact ⟨z, set_same hy⟩
    · exact ⟨y, by rw [set_off e4]; exact hy⟩
  · exact ⟨y, by rw [set_blk e3]; exact hy⟩
theorem MT.below (h : MT lo hi Wn ls ra rc g n W) {B : Nat} {w : World} (hb : Below B w Wn) (hl : B ≤ lo) (hz : B ≤ Wn.heap.size) : Below B w W :=
  ⟨h.os.trans hb.os, h.tape.trans hb.tape, h.output.trans hb.output, Nat.le_trans hb.size h.size, fun k hk => (h.block k (by omega) (.inl (by omega))).trans (hb.block k hk)⟩
theorem MT.own (h : MT lo hi Wn ls ra rc g n W) {B e m : Nat} {v : Value} {xs : List Value} (ho : Wn.ownsRow B e 1 v m xs) (hB : hi ≤ B) : W.ownsRow B e 1 v m xs :=
  own_stays ho fun q hq => h.block q (ho.lt q hq).2 (.inr (Nat.le_trans hB (ho.lt q hq).1))
end
theorem MT.start {w Wn W0 : World} {ls : List (List Int)} {ra : Nat → Option Addr} {rc : Nat → Nat} {g n : Nat} (h : CM w ls ra rc g n W0) (hb : Below W0.heap.size W0 Wn) : MT w.heap.size W0.heap.size Wn ls ra rc g n Wn := by
  refine ⟨rfl, rfl, rfl, Nat.le_refl _, fun _ _ _ => rfl, fun j hj => by rw [(cell_frozen (hb.block g h.lt)).1]; exact h.cells j hj, fun j hj hL => ?_⟩
  obtain ⟨b, e, l1, l2, fr, hc⟩ := h.rows j hj hL
  have k := hb.block b l2
  have hlo := h.lo
  exact ⟨b, e, by omega, by omega, l2, fun o => by rw [(cell_frozen k).2]; exact fr o, fun u hu => ⟨_, by rw [(cell_frozen k).1]; exact hc u hu⟩⟩
theorem leastL_fits {ls : List (List Int)} (hg : GoodL ls) {n : Nat} (hl : ls.length = n) (hn : n ≤ 10000) (j : Nat) : ∀ x ∈ (leastL ls).getD j [], Fits x := fun x hx => by
  rw [leastL_at] at hx
  have h1 := (leastRow_mem.1 hx).1
  have h2 := hg.mem h1
  have hj : j < n := by
    rcases Nat.lt_or_ge j n with h | h
    · exact h
    · rw [List.getD_eq_getElem?_getD, List.getElem?_eq_none (by omega)] at h1
      cases h1
  unfold Fits
  omega
theorem leastL_small {ls : List (List Int)} (hg : GoodL ls) {n : Nat} (hl : ls.length = n) (hn : n ≤ 10000) (j : Nat) : ((leastL ls).getD j []).length ≤ 10000 := by
  rw [leastL_at]
  have h1 : (leastRow ls j).length ≤ (ls.getD j []).length := List.length_filter_le _ _
  rcases Nat.lt_or_ge j n with h | h
  · have := row_len hg j
    omega
  · have : ls.getD j [] = [] := by rw [List.getD_eq_getElem?_getD, List.getElem?_eq_none (by omega)]; rfl
    rw [this] at h1
    simp at h1
    rw [h1]
    simp
set_option maxHeartbeats 4000000 in
theorem least_law (A : Option Addr) (n c : Nat) (ls : List (List Int)) (w : World) (h : Rws w A n ls) :
    Calls Try.prog 9 #[.slice A n c] w fun e w' => e = .returned (.bool true) ∧ Below w.heap.size w w' := by
  have HH := Lib.hid h
  have HL := Lib.hid h.1
  have HA := Lib.hid (galive_any w)
  clear h
  go_enter Try.func9, Try.ntmps9
  go_wp2_with fail
  refine Calls.mono HA.out ?_
  rintro e w1 ⟨rfl, hb1⟩
  have HB1 := Lib.hid hb1
  have HH1 := Lib.hid (HH.out.below hb1)
  clear hb1
  have CL := largeg_any A n c ls w1 HH1.out
  by_cases hs : SmallG ls
  · rw [decide_eq_true hs] at CL
    have hn : n ≤ 10000 := by have := hs.1; have := HL.out; omega
    clear hs
    by_cases hg : GoodL ls
    · have HG := Lib.hid hg
      clear hg
      go_wp2_with fail
      refine Calls.mono CL ?_
      rintro e w2 ⟨rfl, rfl⟩
      clear CL
      go_wp2_with fail
      refine Calls.mono (least_ok A n c ls w1 HH1.out HG.out hn) ?_
      rintro e w2 ⟨rfl, ra, rc, hM⟩
      have HM := Lib.hid hM
      have CG := refgood_any A n c ls w2 (HH1.out.below hM.below)
      rw [decide_eq_true HG.out] at CG
      clear hM
      go_wp2_with fail
      refine Calls.mono CG ?_
      rintro e w3 ⟨rfl, rfl⟩
      clear CG
      have HRL := Lib.hid (refleast_any A n c ls w2 (HH1.out.below HM.out.below) HG.out hn)
      go_wp2_with fail
      refine Calls.mono HRL.out ?_
      rintro e w4 ⟨_, rfl, rb, rd, A4, c4, rfl, hC⟩
      have HC := Lib.hid hC
      have hrw := rows_own2 hC.outer hC.inner (by rw [leastL_len]; exact HL.out) (by omega) (leastL_fits HG.out HL.out hn) (fun j => by have := leastL_small HG.out HL.out hn j; omega)
      have hrm := (HM.out.rws (by rw [leastL_len]; exact HL.out) (by omega) (leastL_fits HG.out HL.out hn) (fun j => by have := leastL_small HG.out HL.out hn j; omega)).below hC.below
      have CRS := rows_same (some ⟨w1.heap.size + 3, 0, none⟩) n n A4 c4 (leastL ls) w4 hrm hrw
      clear hC hrw hrm HRL
      go_wp2_with fail
      refine Calls.mono CRS ?_
      rintro e w5 ⟨rfl, hb5⟩
      have HB25 := Lib.hid (HC.out.below.trans (hb5.mono HC.out.below.size))
      have HB5 := Lib.hid hb5
      have HMT := Lib.hid (MT.start HM.out HB25.out)
      have HO5 := Lib.hid (ownsRow_ext HC.out.outer hb5)
      have HI5 := Lib.hid (show ∀ j, j < n → w5.ownsRow w2.heap.size 3 1 (.slice (rb j) ((leastL ls).getD j []).length (rd j)) ((leastL ls).getD j []).length (valsZ ((leastL ls).getD j [])) from fun j hj => ownsRow_ext (HC.out.inner j hj) hb5)
      have HB15 := Lib.hid (HM.out.below.trans (HB25.out.mono HM.out.below.size))
      clear CRS hb5
      go_wp2_with fail
      go_loopw [6, 7, 28] (fun _ _ i wr => ∃ k : Nat, i = .int .i64 (k : Int) ∧ k ≤ n ∧ MT w1.heap.size w2.heap.size w5 (leastL ls) ra rc (w1.heap.size + 3) n wr) (fun _ _ i _ => n - (intOf i).toNat)
      case atStart => exact ⟨0, rfl, by omega, HMT.out⟩
      case round =>
        obtain ⟨k, rfl, hk, hT⟩ := hrel
        rename World => wr
        by_cases hlt : k < n
        · obtain ⟨l, hl⟩ : ∃ l, l = (leastL ls).getD k [] := ⟨_, rfl⟩
          have ck := hT.outer k hlt
          have hll : l.length ≤ 10000 := by rw [hl]; exact leastL_small HG.out HL.out hn k
          rw [← hl] at ck
          have HE := Lib.hid hl
          have HT := Lib.hid hT
          obtain ⟨m, hm⟩ : ∃ m, m = l.length := ⟨_, rfl⟩
          rw [← hm] at ck hll
          have HME := Lib.hid hm
          clear hT hl hm
          go_wp2_with fail
          clear ck
          go_loopw [7, 34] (fun _ i wx => ∃ u : Nat, i = .int .i64 (u : Int) ∧ u ≤ m ∧ MT w1.heap.size w2.heap.size w5 (leastL ls) ra rc (w1.heap.size + 3) n wx) (fun _ i _ => m - (intOf i).toNat)
          case atStart => exact ⟨0, rfl, by omega, HT.out⟩
          case round =>
            obtain ⟨u, rfl, hu, hX⟩ := hrel
            rename World => wx
            clear HT
            by_cases hum : u < m
            · obtain ⟨b, hb, e2, l1, l2, fr, hc⟩ := hX.inner k hlt (by rw [← HE.out, ← HME.out]; omega)
              obtain ⟨z, hz⟩ := hc u (by rw [← HE.out, ← HME.out]; omega)
              have fu := fr u
              have HX := Lib.hid hX
              rw [hb]
              clear hX hc fr hb
              go_wp2_with fail
              go_roundw
              case rel => exact ⟨u + 1, by go_num, by omega, HX.out.store (-7) e2 l1 l2⟩
              case measure => simp [intOf]; omega
            · obtain rfl : u = m := by omega
              have HX := Lib.hid hX
              clear hX
              go_wp2_with fail
              go_roundw
              case rel => exact ⟨k + 1, by go_num, by omega, HX.out⟩
              case measure => simp [intOf]; omega
        · obtain rfl : k = n := by omega
          have HT := Lib.hid hT
          have hbx := hT.below HB15.out (Nat.le_refl _) HB15.out.size
          have HBX := Lib.hid hbx
          have HLS := Lib.hid (least_ok A k c ls wr (HH1.out.below hbx) HG.out hn)
          clear hT hbx
          go_wp2_with fail
          refine Calls.mono HLS.out ?_
          rintro e w7 ⟨rfl, ra7, rc7, hM7⟩
          have hr1 := hM7.rws (by rw [leastL_len]; exact HL.out) (by omega) (leastL_fits HG.out HL.out hn) (fun j => by have := leastL_small HG.out HL.out hn j; omega)
          have hr2 := (rows_own2 (HT.out.own HO5.out (Nat.le_refl _)) (fun j hj => HT.out.own (HI5.out j hj) (Nat.le_refl _)) (by rw [leastL_len]; exact HL.out) (by omega) (leastL_fits HG.out HL.out hn) (fun j => by have := leastL_small HG.out HL.out hn j; omega)).below hM7.below
          have CRS := rows_same (some ⟨wr.heap.size + 3, 0, none⟩) k k A4 c4 (leastL ls) w7 hr1 hr2
          have HB7 := Lib.hid (HBX.out.trans (hM7.below.mono HBX.out.size))
          clear hM7 hr1 hr2 HLS
          go_wp2_with fail
          refine Calls.mono CRS ?_
          rintro e w8 ⟨rfl, hb8⟩
          have HB8 := Lib.hid (HB7.out.trans (hb8.mono HB7.out.size))
          clear hb8
          go_wp2_with fail
          go_ret
          exact ⟨rfl, HB1.out.trans (HB8.out.mono HB1.out.size)⟩
    · have CF := least_form A n c ls w1 HH1.out hg
      go_wp2_with fail
      refine Calls.mono CL ?_
      rintro e w2 ⟨rfl, rfl⟩
      clear CL
      go_wp2_with fail
      refine Calls.mono CF ?_
      rintro e w2 ⟨rfl, hb2⟩
      have CG := refgood_any A n c ls w2 (HH1.out.below hb2)
      rw [decide_eq_false hg] at CG
      have HB2 := Lib.hid hb2
      clear hb2 CF
      go_wp2_with fail
      refine Calls.mono CG ?_
      rintro e w3 ⟨rfl, rfl⟩
      go_wp2_with fail
      go_ret
      exact ⟨rfl, HB1.out.trans (HB2.out.mono HB1.out.size)⟩
  · rw [decide_eq_false hs] at CL
    go_wp2_with fail
    refine Calls.mono CL ?_
    rintro e w2 ⟨rfl, rfl⟩
    go_wp2_with fail
    go_ret
    exact ⟨rfl, HB1.out⟩
end Go.Proofs.Ytgdkgoiagjjccaa
