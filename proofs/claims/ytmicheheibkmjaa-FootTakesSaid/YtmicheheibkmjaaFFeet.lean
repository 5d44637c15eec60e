/- The same keys, the same feet. -/
import Derived.Test.YtmicheheibkmjaaFAlive
import Derived.Test.YtmicheheibkmjaaFCompact
namespace Go.Proofs.Ytmicheheibkmjaa
set_option maxRecDepth 100000
open Go.RowKit Go.Shelf

theorem neq_span (w : World) (x y : Sp) : (binOp .neq 54 x.val y.val).run Try.prog w = .ok (.bool (!decide (x = y))) w := by
  have h := run_span 9998 w x y
  unfold Sp.val at h ⊢
  rw [run_neq_struct, show (10000 : Nat) = 9998 + 2 from rfl, h]
  rfl
set_option maxHeartbeats 2000000 in
theorem keys_same_any (A A2 : Option Addr) (n c c2 : Nat) (l : List K) (w : World) (h : Keys w A n l) (h2 : Keys w A2 n l) (hn : n ≤ 9223372036854775807) : Calls Try.prog 35 #[.slice A n c, .slice A2 n c2] w fun e w' => e = .returned (.bool true) ∧ Below w.heap.size w w' := by
  have HH := Lib.hid h
  have HI := Lib.hid h2
  have HL := Lib.hid h.len
  clear h h2
  go_enter Try.func35, Try.ntmps35
  go_wp2_with fail
  go_loopw [5, 13] (fun _ i wr => ∃ q : Nat, i = .int .i64 (q : Int) ∧ q ≤ n ∧ Below w.heap.size w wr) (fun _ i _ => n - (intOf i).toNat)
  case atStart => exact ⟨0, rfl, by omega, Below.refl _ _⟩
  case round =>
    obtain ⟨q, rfl, hq, hbr⟩ := hrel
    have HBR := Lib.hid hbr
    by_cases hlt : q < n
    · have hql : q < l.length := by rw [HL.out]; exact hlt
      obtain ⟨b, off, rfl, hc⟩ := Keys.cells (HH.out.below hbr) (by omega)
      obtain ⟨b2, off2, rfl, hc2⟩ := Keys.cells (HI.out.below hbr) (by omega)
      obtain ⟨c0, c1⟩ := hc q hql
      obtain ⟨d0, d1⟩ := hc2 q hql
      obtain ⟨k, hk⟩ : ∃ k, k = l[q] := ⟨_, rfl⟩
      rw [← hk] at c0 c1 d0 d1
      have hne := fun W => neq_key W k k
      rw [decide_eq_true rfl] at hne
      unfold K.val at hne
      clear hc hc2 hk hbr
      go_wp2_with fail
      go_quiet (fail)
      go_wp2_with fail
      go_roundw
      case rel => exact ⟨q + 1, by go_num, by omega, below_drewN' HBR.out _⟩
      case measure => simp [intOf]; omega
    · obtain rfl : n = q := by omega
      clear hbr
      go_wp2_with fail
      go_ret
      exact ⟨rfl, HBR.out⟩
set_option maxHeartbeats 4000000 in
theorem feet_same_any (x y : FV) (f : Ft) (w : World) (hx : FtAt w x f) (hy : FtAt w y f) : Calls Try.prog 14 #[x.val, y.val] w fun e w' => e = .returned (.bool true) ∧ Below w.heap.size w w' := by
  obtain ⟨h1, h2, h3⟩ := alloc2g w (.cells x.cs 30) (.cells y.cs 30)
  have HB := Lib.hid h3
  have HF := Lib.hid (show FBox _ w.heap.size x from h1)
  have HG := Lib.hid (show FBox _ (w.heap.size + 1) y from h2)
  have HX := Lib.hid (hx.below h3)
  have HY := Lib.hid (hy.below h3)
  have e1 : y.n = x.n := by rw [← hx.rs.len, ← hy.rs.len]
  have e2 : y.n2 = x.n2 := by rw [← hx.sp.len, ← hy.sp.len]
  have e3 : y.n3 = x.n3 := by rw [← hx.ws.len, ← hy.ws.len]
  have hsm := hx.small
  have HL := Lib.hid hx.sp.len
  obtain ⟨A, n, c, A2, n2, c2, A3, n3, c3⟩ := x
  obtain ⟨B, m, d, B2, m2, d2, B3, m3, d3⟩ := y
  try simp only at e1 e2 e3 hsm HL
  subst e1 e2 e3
  unfold FV.cs at HB HF HG HX HY
  unfold FV.val FV.cs
  clear h1 h2 h3 hx hy
  go_enter Try.func14, Try.ntmps14
  go_upto_region 1 with fail
  revert HB HF HG HX HY
  generalize World.alloc (World.alloc w _) _ = W
  intro HB HF HG HX HY
  have HK1 := Lib.hid (keys_same_any A B m c d f.rs W HX.out.rs HY.out.rs hsm.1)
  have x0 := HF.out.c0
  have x1 := HF.out.c1
  have y0 := HG.out.c0
  have y1 := HG.out.c1
  try simp only at x0 x1 y0 y1
  go_wp2_with fail
  refine Calls.mono HK1.out ?_
  rintro e w1 ⟨rfl, hb1⟩
  have HB1 := Lib.hid (HB.out.trans (hb1.mono HB.out.size))
  have HF1 := Lib.hid (HF.out.below hb1)
  have HG1 := Lib.hid (HG.out.below hb1)
  have HX1 := Lib.hid (HX.out.below hb1)
  have HY1 := Lib.hid (HY.out.below hb1)
  have HK2 := Lib.hid (keys_same_any A3 B3 m3 c3 d3 f.ws w1 HX1.out.ws HY1.out.ws hsm.2.2)
  clear x0 x1 y0 y1 hb1
  have x2 := HF1.out.c2
  have y2 := HG1.out.c2
  try simp only at x2 y2
  go_wp2_with fail
  refine Calls.mono HK2.out ?_
  rintro e w2 ⟨rfl, hb2⟩
  have HB2 := Lib.hid (HB1.out.trans (hb2.mono HB1.out.size))
  have HF2 := Lib.hid (HF1.out.below hb2)
  have HG2 := Lib.hid (HG1.out.below hb2)
  have HX2 := Lib.hid (HX1.out.sp.below hb2)
  have HY2 := Lib.hid (HY1.out.sp.below hb2)
  clear x2 y2 hb2
  have x1 := HF2.out.c1
  try simp only at x1
  go_wp2_with fail
  clear x1
  rename World => wz
  go_loopw [5, 32] (fun _ i wr => ∃ q : Nat, i = .int .i64 (q : Int) ∧ q ≤ m2 ∧ Below wz.heap.size wz wr) (fun _ i _ => m2 - (intOf i).toNat)
  case atStart => exact ⟨0, rfl, by omega, Below.refl _ _⟩
  case round =>
    obtain ⟨q, rfl, hq, hbr⟩ := hrel
    have HBR := Lib.hid hbr
    have hwz := HB2.out.size
    by_cases hlt : q < m2
    · have hql : q < f.sp.length := by rw [HL.out]; exact hlt
      have x1 := (HF2.out.below hbr).c1
      have y1 := (HG2.out.below hbr).c1
      try simp only at x1 y1
      obtain ⟨b, off, hA, hc⟩ := Spans.cells (HX2.out.below hbr) (by omega)
      obtain ⟨b2, off2, hB, hc2⟩ := Spans.cells (HY2.out.below hbr) (by omega)
      try simp only at hA hB
      rw [hA] at x1
      rw [hB] at y1
      obtain ⟨c0, c1', c2'⟩ := hc q hql
      obtain ⟨d0, d1', d2'⟩ := hc2 q hql
      obtain ⟨k, hk⟩ : ∃ k, k = f.sp[q] := ⟨_, rfl⟩
      rw [← hk] at c0 c1' c2' d0 d1' d2'
      have hne := fun W => neq_span W k k
      rw [decide_eq_true rfl] at hne
      unfold Sp.val at hne
      clear hc hc2 hk hbr hA hB
      go_wp2_with fail
      go_quiet (fail)
      go_wp2_with fail
      go_roundw
      case rel => exact ⟨q + 1, by go_num, by omega, below_drewN' HBR.out _⟩
      case measure => simp [intOf]; omega
    · obtain rfl : m2 = q := by omega
      clear hbr
      go_wp2_with fail
      go_ret
      exact ⟨rfl, HB2.out.trans (HBR.out.mono HB2.out.size)⟩
end Go.Proofs.Ytmicheheibkmjaa
