/- VRefB: put together. -/
import Derived.Test.YtejpjbmbcdgomaaPt47
import Derived.Test.YtejpjbmbcdgomaaPt48
/- The document's sweep: Step. Written by gen_vrefb.py. -/
namespace Go.Proofs.Ytejpjbmbcdgomaa
set_option maxRecDepth 100000
open Go.RowKit

/-- The document's sweep and store in their boxes. -/
structure YsI (w wr : World) (p3 p4 p6 : Nat) (A : Option Addr) (m c : Nat) (AE : Option Addr) (nE cE : Nat) (last : Int) (b : Bool) (yt yk : Int) (d : Bool) : Prop where
  bel : Below w.heap.size w wr
  bx : wr.heap[p3]? = some (.cells #[.slice A m c, .int .i64 yt, .int .i64 yk, .bool b, .bool d] 83 (0, 0))
  st : wr.heap[p4]? = some (.cells #[.slice AE nE cE, .int .i64 last] 31 (0, 0))
  rs : wr.heap[p6]? = some (.cells #[.slice none 0 0, .int .i64 0, .int .i64 0, .bool false, .bool false] 83 (0, 0))
section
variable {w wr w1 : World} {p3 p4 p6 : Nat} {A : Option Addr} {m c : Nat} {AE : Option Addr} {nE cE : Nat} {last : Int} {b : Bool} {yt yk : Int} {d : Bool}
theorem YsI.below (h : YsI w wr p3 p4 p6 A m c AE nE cE last b yt yk d) (hb : Below wr.heap.size wr w1) : YsI w w1 p3 p4 p6 A m c AE nE cE last b yt yk d :=
  ⟨h.bel.trans (hb.mono h.bel.size), (hb.block p3 (Array.getElem?_eq_some_iff.1 h.bx).1).trans h.bx, (hb.block p4 (Array.getElem?_eq_some_iff.1 h.st).1).trans h.st, (hb.block p6 (Array.getElem?_eq_some_iff.1 h.rs).1).trans h.rs⟩
theorem YsI.at (h : YsI w wr p3 p4 p6 A m c AE nE cE last b yt yk d) : wr.cell? ⟨p3, 0, none⟩ = some (.slice A m c) ∧ wr.cell? ⟨p3, 1, none⟩ = some (.int .i64 yt) ∧ wr.cell? ⟨p3, 2, none⟩ = some (.int .i64 yk) ∧ wr.cell? ⟨p3, 3, none⟩ = some (.bool b) ∧ wr.cell? ⟨p3, 4, none⟩ = some (.bool d) ∧ wr.cell? ⟨p4, 0, none⟩ = some (.slice AE nE cE) :=
  ⟨by rw [cell_of_row _ _ 0 _ _ _ h.bx]; rfl, by rw [cell_of_row _ _ 1 _ _ _ h.bx]; rfl, by rw [cell_of_row _ _ 2 _ _ _ h.bx]; rfl, by rw [cell_of_row _ _ 3 _ _ _ h.bx]; rfl, by rw [cell_of_row _ _ 4 _ _ _ h.bx]; rfl, by rw [cell_of_row _ _ 0 _ _ _ h.st]; rfl⟩
end
def mT (M : Option (Int × Int)) : Int := (M.getD (0, 0)).1
def mK (M : Option (Int × Int)) : Int := (M.getD (0, 0)).2
/-- What the document's Step answers. -/
def RsO (w : World) (A : Option Addr) (m c : Nat) (D : Bool × Int × Int × Bool) (e : Ending) (w' : World) : Prop :=
  e = .returned (.agg #[.slice A m c, .int .i64 D.2.1, .int .i64 D.2.2.1, .bool D.1, .bool D.2.2.2]) ∧ Below w.heap.size w w'
set_option maxHeartbeats 32000000 in
theorem refstep_any {w : World} {A AE : Option Addr} {c cE : Nat} {KS : List (Int × Int)} {E : List En} {yt yk last : Int} {b : Bool} (h : Kys w A KS) (hE : Ens w AE E) (hl : KS.length ≤ 10000) (hlE : E.length ≤ 50000) (n : Int) (hn : n ≤ 100000) :
    Calls Try.prog 43 #[.agg #[.slice A KS.length c, .int .i64 yt, .int .i64 yk, .bool b, .bool false], .agg #[.slice AE E.length cE, .int .i64 last], .int .i64 n] w fun e w' => RsO w A KS.length c (rsS E KS n.toNat b yt yk) e w' := by
  obtain ⟨m, hm⟩ : ∃ m, m = KS.length := ⟨_, rfl⟩
  obtain ⟨nE, hnE⟩ : ∃ nE, nE = E.length := ⟨_, rfl⟩
  obtain ⟨p3, hp3⟩ : ∃ p3, p3 = w.heap.size := ⟨_, rfl⟩
  obtain ⟨p4, hp4⟩ : ∃ p4, p4 = p3 + 1 := ⟨_, rfl⟩
  obtain ⟨p6, hp6⟩ : ∃ p6, p6 = p4 + 1 := ⟨_, rfl⟩
  obtain ⟨D, hD⟩ : ∃ D, D = rsS E KS n.toNat b yt yk := ⟨_, rfl⟩
  obtain ⟨W1, hW1⟩ : ∃ W1, W1 = ((w.alloc (.cells #[.slice A m c, .int .i64 yt, .int .i64 yk, .bool b, .bool false] 83)).alloc (.cells #[.slice AE nE cE, .int .i64 last] 31)).alloc (.cells #[.slice none 0 0, .int .i64 0, .int .i64 0, .bool false, .bool false] 83) := ⟨_, rfl⟩
  have h3 := blocks3 w (.cells #[.slice A m c, .int .i64 yt, .int .i64 yk, .bool b, .bool false] 83) (.cells #[.slice AE nE cE, .int .i64 last] 31) (.cells #[.slice none 0 0, .int .i64 0, .int .i64 0, .bool false, .bool false] 83)
  rw [← hW1, ← hp3, ← hp4, ← hp6] at h3
  obtain ⟨g1, g2, g3, gs, gb⟩ := h3
  rw [hp3] at gb
  have HI0 : Hid (YsI w W1 p3 p4 p6 A m c AE nE cE last b yt yk false) := Lib.hid ⟨gb, g1, g2, g3⟩
  rw [← hD, ← hm]
  have HIN := Lib.hid (And.intro h (And.intro hE (And.intro hl (And.intro hlE (And.intro hn (And.intro hm (And.intro hnE (And.intro hp3 (And.intro hp4 (And.intro hp6 hD))))))))))
  rw [← hnE]
  have HW := Lib.hid hW1
  have hm10 : m ≤ 10000 := by omega
  have hn50 : nE ≤ 50000 := by omega
  clear h hE hl hlE hm hnE g1 g2 g3 gs gb hW1 hD
  go_enter Try.func43, Try.ntmps43
  go_upto_region 1 with fail
  rw [← HW.out, ← HIN.out.2.2.2.2.2.2.2.1, ← HIN.out.2.2.2.2.2.2.2.2.1, ← HIN.out.2.2.2.2.2.2.2.2.2.1]
  clear hp3 hp4 hp6
  go_wp2_with fail
  go_loopw [7, 8, 9, 10, 11, 12, 13, 14, 15, 16, 17, 18, 19, 20, 21, 22, 23, 24, 25, 26, 27, 28, 29, 30, 31, 32, 33, 34, 35, 36, 37, 38, 39, 40, 41, 42, 43, 44, 45, 46, 47, 48, 49, 50, 51, 52, 53, 54, 55, 56, 57, 58, 59, 60, 61, 62, 63, 64, 65, 66, 67, 68, 69, 70, 71, 72, 73, 74, 75, 76, 77, 78, 79, 80, 81, 82, 83, 84, 85, 86, 87, 88, 89, 90, 91] (fun ix _ _ _ _ _ _ _ _ _ _ _ _ _ _ _ _ _ _ _ _ _ _ _ _ _ _ _ _ _ _ _ _ _ _ _ _ _ _ _ _ _ _ _ _ _ _ _ _ _ _ _ _ _ _ _ _ _ _ _ _ _ _ _ _ _ _ _ _ _ _ _ _ _ _ _ _ _ _ _ _ _ _ _ _ wr => ∃ (z : Nat) (b1 d1 : Bool) (yt1 yk1 : Int), ix = .int .i64 (z : Int) ∧ (z ≤ n.toNat) ∧ YsI w wr p3 p4 p6 A m c AE nE cE last b1 yt1 yk1 d1 ∧ (d1 = false → rsS E KS (n.toNat - z) b1 yt1 yk1 = D) ∧ (d1 = true → D = (b1, yt1, yk1, true))) (fun ix _ _ _ _ _ _ _ _ _ _ _ _ _ _ _ _ _ _ _ _ _ _ _ _ _ _ _ _ _ _ _ _ _ _ _ _ _ _ _ _ _ _ _ _ _ _ _ _ _ _ _ _ _ _ _ _ _ _ _ _ _ _ _ _ _ _ _ _ _ _ _ _ _ _ _ _ _ _ _ _ _ _ _ _ wr => n.toNat - (intOf ix).toNat)
  case atStart => exact ⟨0, b, false, yt, yk, rfl, Nat.zero_le _, HI0.out, (fun _ => by rw [Nat.sub_zero]; exact HIN.out.2.2.2.2.2.2.2.2.2.2.symm), (fun e => by cases e)⟩
  case round =>
    obtain ⟨z, b1, d1, yt1, yk1, rfl, hz, hI, hD1, hD2⟩ := hrel
    rename World => W0
    have HI := Lib.hid (And.intro hI (And.intro hz (And.intro hD1 hD2)))
    obtain ⟨z0, z1, z2, z3, z4, z5⟩ := hI.at
    clear hI hz hD1 hD2
    by_cases hlt : (z : Int) < n
    · cases d1 with
      | false =>
        obtain ⟨N, hN⟩ : ∃ N, n.toNat - z = N + 1 := ⟨n.toNat - z - 1, by omega⟩
        have HD1 : Hid (rsS E KS (N + 1) b1 yt1 yk1 = D ∧ n.toNat - (z + 1) = N) := Lib.hid ⟨by rw [← hN]; exact HI.out.2.2.1 rfl, by omega⟩
        obtain ⟨p9, hp9⟩ : ∃ p9, p9 = W0.heap.size := ⟨_, rfl⟩
        obtain ⟨W9, hW9⟩ : ∃ W9, W9 = W0.alloc (.cells #[.int .i64 0, .int .i64 0] 42) := ⟨_, rfl⟩
        have hb9 : Below W0.heap.size W0 W9 := by rw [hW9]; exact (Below.refl _ _).alloc (Nat.le_refl _) _
        have g9 : W9.heap[p9]? = some (.cells #[.int .i64 0, .int .i64 0] 42 (0, 0)) := by rw [hW9, hp9]; exact heap_alloc_new W0 _
        have HI9 := Lib.hid (And.intro hb9 (And.intro g9 (And.intro hp9 (Array.getElem?_eq_some_iff.1 g9).1)))
        have HW9 := Lib.hid (And.intro hW9 hp9)
        clear hW9 hp9 hb9 g9 hN
        go_upto_region 6 with fail
        rw [← HW9.out.1, ← HW9.out.2]
        clear z0 z1 z2 z3 z4 z5
        go_wp2_with fail
        go_loopw [8, 10, 11, 25, 26, 27, 28, 29, 30, 31, 32, 33, 34, 35, 36, 37, 38, 39, 40, 41, 42, 43, 44, 45, 46, 47, 48, 49, 50, 51, 52, 53, 54, 55, 56, 57, 58, 59, 60] (fun fx jx _ _ _ _ _ _ _ _ _ _ _ _ _ _ _ _ _ _ _ _ _ _ _ _ _ _ _ _ _ _ _ _ _ _ _ _ _ wr => ∃ (q : Nat) (M : Option (Int × Int)), jx = .int .i64 (q : Int) ∧ q ≤ nE ∧ fx = .bool M.isSome ∧ M = bestE b1 yt1 yk1 (E.take q) none ∧ Below W0.heap.size W0 wr ∧ wr.heap[p9]? = some (.cells #[.int .i64 (mT M), .int .i64 (mK M)] 42 (0, 0))) (fun fx jx _ _ _ _ _ _ _ _ _ _ _ _ _ _ _ _ _ _ _ _ _ _ _ _ _ _ _ _ _ _ _ _ _ _ _ _ _ wr => nE - (intOf jx).toNat)
        case atStart => exact ⟨0, none, rfl, Nat.zero_le _, rfl, rfl, HI9.out.1, HI9.out.2.1⟩
        case round =>
          obtain ⟨q, M, rfl, hq, rfl, hM, hbr, h9⟩ := hrel
          have HI7 := Lib.hid (And.intro (HI.out.1.below hbr) (And.intro h9 (And.intro hq (And.intro hbr hM))))
          obtain ⟨z30, z31, z32, z33, z34, z40⟩ := HI7.out.1.at
          clear hq hbr h9 hM
          by_cases hqn : q < nE
          · have hql : q < E.length := by have := HIN.out.2.2.2.2.2; omega
            obtain ⟨be, oe, hAE, hce⟩ := Ens.cell (RowAt.below HIN.out.2.1 HI7.out.1.bel) (by omega)
            obtain ⟨y0, y1, y2', y3', y4⟩ := hce q hql
            obtain ⟨y, hy⟩ : ∃ y, y = E[q] := ⟨_, rfl⟩
            rw [← hy] at y0 y1 y4
            have TK2 : Hid (E.take (q + 1) = E.take q ++ [y]) := Lib.hid (by rw [hy]; exact (List.take_append_getElem hql).symm)
            obtain ⟨dd, hdd⟩ : ∃ dd, dd = y.x.c.dead := ⟨_, rfl⟩
            rw [← hdd] at y4
            have HDD := Lib.hid hdd
            rw [hAE] at z40
            have HAE := Lib.hid hAE
            clear hce hy hdd hAE y2' y3'
            obtain ⟨p11, hp11⟩ : ∃ p11, p11 = wr.heap.size := ⟨_, rfl⟩
            obtain ⟨W11, hW11⟩ : ∃ W11, W11 = wr.alloc (.cells #[.int .i64 (y.t : Int), .int .i64 y.x.k] 42) := ⟨_, rfl⟩
            have hb11 : Below wr.heap.size wr W11 := by rw [hW11]; exact (Below.refl _ _).alloc (Nat.le_refl _) _
            have g11 : W11.heap[p11]? = some (.cells #[.int .i64 (y.t : Int), .int .i64 y.x.k] 42 (0, 0)) := by rw [hW11, hp11]; exact heap_alloc_new wr _
            have k9 := (hb11.block p9 (Array.getElem?_eq_some_iff.1 HI7.out.2.1).1).trans HI7.out.2.1
            have HI11 := Lib.hid (And.intro (HI7.out.1.below hb11) (And.intro k9 (And.intro g11 (And.intro (HI7.out.2.2.2.1.trans (hb11.mono HI7.out.2.2.2.1.size)) (by have := (Array.getElem?_eq_some_iff.1 HI7.out.2.1).1; omega : p9 < p11)))))
            have HW11 := Lib.hid (And.intro hW11 hp11)
            have y4' : W11.cell? ⟨be, oe + q * 5 + 4, none⟩ = some (.bool dd) := (hb11.cell (World.block_lt_of_cell? _ _ y4)).trans y4
            clear hW11 hp11 hb11 g11 k9 hql
            go_upto_region 10 with fail
            rw [← HW11.out.1, ← HW11.out.2]
            clear z30 z31 z32 z33 z34 z40 y0 y1 y4
            obtain ⟨z30, z31, z32, z33, z34, z40⟩ := HI11.out.1.at
            rw [HAE.out] at z40
            have u0 : W11.cell? ⟨p11, 0, none⟩ = some (.int .i64 (y.t : Int)) := by rw [cell_of_row _ _ 0 _ _ _ HI11.out.2.2.1]; rfl
            have u1 : W11.cell? ⟨p11, 1, none⟩ = some (.int .i64 y.x.k) := by rw [cell_of_row _ _ 1 _ _ _ HI11.out.2.2.1]; rfl
            obtain ⟨ah, hah⟩ : ∃ ah, ah = aheadB b1 yt1 yk1 (y.t : Int) y.x.k := ⟨_, rfl⟩
            have hAH := ahead_any W11 (.slice A m c) yt1 yk1 (y.t : Int) y.x.k b1 false ⟨_, _, _, rfl⟩
            rw [← hah] at hAH
            have HAH := Lib.hid hAH
            have HA2 := Lib.hid hah
            obtain ⟨cnd, hcnd⟩ : ∃ cnd, cnd = (!dd && ah && betterB ((y.t : Int), y.x.k) M) := ⟨_, rfl⟩
            have HCN := Lib.hid hcnd
            have HPK : Hid (bestE b1 yt1 yk1 (E.take (q + 1)) none = if cnd then some ((y.t : Int), y.x.k) else M) := Lib.hid (by
              rw [TK2.out, bestE_snoc, ← HI7.out.2.2.2.2]
              unfold pickB
              rw [hcnd, hah, HDD.out])
            clear hAH hah hcnd
            go_cut [59] from 38 to 58 (fun g wx => g = .bool cnd ∧ Below W11.heap.size W11 wx)
            case first =>
              cases dd with
              | true =>
                go_wp2_with fail
                go_meet
                exact ⟨by rw [HCN.out]; simp, Below.refl _ _⟩
              | false =>
                go_wp2_with fail
                refine Calls.mono HAH.out ?_
                rintro e w12 ⟨rfl, hb12⟩
                have hb9' := (hb12.block p9 (Array.getElem?_eq_some_iff.1 HI11.out.2.1).1).trans HI11.out.2.1
                have hb11' := (hb12.block p11 (Array.getElem?_eq_some_iff.1 HI11.out.2.2.1).1).trans HI11.out.2.2.1
                have r0 : w12.cell? ⟨p11, 0, none⟩ = some (.int .i64 (y.t : Int)) := by rw [cell_of_row _ _ 0 _ _ _ hb11']; rfl
                have r1 : w12.cell? ⟨p11, 1, none⟩ = some (.int .i64 y.x.k) := by rw [cell_of_row _ _ 1 _ _ _ hb11']; rfl
                have s0 : w12.cell? ⟨p9, 0, none⟩ = some (.int .i64 (mT M)) := by rw [cell_of_row _ _ 0 _ _ _ hb9']; rfl
                have s1 : w12.cell? ⟨p9, 1, none⟩ = some (.int .i64 (mK M)) := by rw [cell_of_row _ _ 1 _ _ _ hb9']; rfl
                have HB12 := Lib.hid hb12
                clear hb12 hb9' hb11'
                cases ah with
                | false =>
                  go_wp2_with fail
                  go_meet
                  exact ⟨by rw [HCN.out]; simp, HB12.out⟩
                | true =>
                  cases M with
                  | none =>
                    go_wp2_with fail
                    go_meet
                    exact ⟨by rw [HCN.out]; rfl, HB12.out⟩
                  | some p =>
                    have HLS := Lib.hid (refLess_any w12 (y.t : Int) y.x.k (mT (some p)) (mK (some p)))
                    obtain ⟨ls, hls⟩ : ∃ ls, ls = lessK (y.t : Int) y.x.k (mT (some p)) (mK (some p)) := ⟨_, rfl⟩
                    rw [← hls] at HLS
                    have HL2 := Lib.hid hls
                    clear hls
                    go_wp2_with fail
                    refine Calls.mono HLS.out ?_
                    rintro e w13 ⟨rfl, hb13⟩
                    have HB13 := Lib.hid (HB12.out.trans (hb13.mono HB12.out.size))
                    clear hb13
                    go_wp2_with fail
                    go_meet
                    exact ⟨by rw [HCN.out, HL2.out]; rfl, HB13.out⟩
            case rest =>
            rename World => wx
            obtain ⟨rfl, hbx⟩ := hcut
            have HX := Lib.hid (And.intro (HI11.out.1.below hbx) (And.intro ((hbx.block p9 (Array.getElem?_eq_some_iff.1 HI11.out.2.1).1).trans HI11.out.2.1) (And.intro ((hbx.block p11 (Array.getElem?_eq_some_iff.1 HI11.out.2.2.1).1).trans HI11.out.2.2.1) (HI11.out.2.2.2.1.trans (hbx.mono HI11.out.2.2.2.1.size)))))
            clear hbx z30 z31 z32 z33 z34 z40 u0 u1
            cases cnd with
            | false =>
              go_wp2_with fail
              go_roundw
              case rel => exact ⟨q + 1, M, by go_num, by omega, rfl, by rw [HPK.out]; rfl, HX.out.2.2.2, HX.out.2.1⟩
              case measure => simp [intOf]; omega
            | true =>
              have u0 : wx.cell? ⟨p11, 0, none⟩ = some (.int .i64 (y.t : Int)) := by rw [cell_of_row _ _ 0 _ _ _ HX.out.2.2.1]; rfl
              have u1 : wx.cell? ⟨p11, 1, none⟩ = some (.int .i64 y.x.k) := by rw [cell_of_row _ _ 1 _ _ _ HX.out.2.2.1]; rfl
              have v0 : wx.cell? ⟨p9, 0, none⟩ = some (.int .i64 (mT M)) := by rw [cell_of_row _ _ 0 _ _ _ HX.out.2.1]; rfl
              have v1 : wx.cell? ⟨p9, 1, none⟩ = some (.int .i64 (mK M)) := by rw [cell_of_row _ _ 1 _ _ _ HX.out.2.1]; rfl
              have vf := frozen_of HX.out.2.1
              have HS : Hid (Below W0.heap.size W0 ((wx.setCell ⟨p9, 0, none⟩ (.int .i64 (y.t : Int))).setCell ⟨p9, 1, none⟩ (.int .i64 y.x.k)) ∧ ((wx.setCell ⟨p9, 0, none⟩ (.int .i64 (y.t : Int))).setCell ⟨p9, 1, none⟩ (.int .i64 y.x.k)).heap[p9]? = some (.cells #[.int .i64 (y.t : Int), .int .i64 y.x.k] 42 (0, 0))) := Lib.hid
                ⟨(HX.out.2.2.2.setCell (p := ⟨p9, 0, none⟩) (by have := HI9.out.2.2.1; show _ ≤ p9; omega) _).setCell (p := ⟨p9, 1, none⟩) (by have := HI9.out.2.2.1; show _ ≤ p9; omega) _, (heap_set _ p9 1 _ (heap_set wx p9 0 _ HX.out.2.1)).trans rfl⟩
              go_wp2_with fail
              go_roundw
              case rel => exact ⟨q + 1, some ((y.t : Int), y.x.k), by go_num, by omega, rfl, by rw [HPK.out]; rfl, HS.out.1, HS.out.2⟩
              case measure => simp [intOf]; omega
          · obtain rfl : nE = q := by have := HI7.out.2.2.1; omega
            obtain ⟨M1, hM1⟩ : ∃ M1, M1 = bestE b1 yt1 yk1 E none := ⟨_, rfl⟩
            have hMM : M = M1 := by rw [HI7.out.2.2.2.2, hM1, List.take_of_length_le (by have := HIN.out.2.2.2.2.2.2.1; omega)]
            subst hMM
            have HM1 := Lib.hid hM1
            have HIA := Lib.hid (And.intro HI7.out.2.2.2.1 HI7.out.2.1)
            rename World => V0
            clear hM1 hqn
            go_wp2_with fail
            clear z30 z31 z32 z33 z34 z40
            go_loopw [8, 12, 13, 61, 62, 63, 64, 65, 66, 67, 68, 69, 70, 71, 72, 73, 74, 75, 76, 77, 78, 79, 80, 81, 82, 83, 84, 85] (fun fx jx _ _ _ _ _ _ _ _ _ _ _ _ _ _ _ _ _ _ _ _ _ _ _ _ _ _ wr => ∃ (q : Nat) (M' : Option (Int × Int)), jx = .int .i64 (q : Int) ∧ q ≤ m ∧ fx = .bool M'.isSome ∧ M' = bestN b1 yt1 yk1 (KS.take q) M ∧ Below W0.heap.size W0 wr ∧ wr.heap[p9]? = some (.cells #[.int .i64 (mT M'), .int .i64 (mK M')] 42 (0, 0))) (fun fx jx _ _ _ _ _ _ _ _ _ _ _ _ _ _ _ _ _ _ _ _ _ _ _ _ _ _ wr => m - (intOf jx).toNat)
            case atStart => exact ⟨0, M, rfl, Nat.zero_le _, rfl, rfl, HIA.out.1, HIA.out.2⟩
            case round =>
              obtain ⟨q, M', rfl, hq, rfl, hM, hbr, h9⟩ := hrel
              have HI7 := Lib.hid (And.intro (HI.out.1.below hbr) (And.intro h9 (And.intro hq (And.intro hbr hM))))
              obtain ⟨z30, z31, z32, z33, z34, z40⟩ := HI7.out.1.at
              clear hq hbr h9 hM
              by_cases hqn : q < m
              · have hql : q < KS.length := by have := HIN.out.2.2.2.2.2; omega
                obtain ⟨be, oe, hA, hce⟩ := Kys.cell (RowAt.below HIN.out.1 HI7.out.1.bel) (by omega)
                obtain ⟨y0, y1⟩ := hce q hql
                obtain ⟨y, hy⟩ : ∃ y, y = KS[q] := ⟨_, rfl⟩
                rw [← hy] at y0 y1
                have TK3 : Hid (KS.take (q + 1) = KS.take q ++ [y]) := Lib.hid (by rw [hy]; exact (List.take_append_getElem hql).symm)
                rw [hA] at z30
                have HAE := Lib.hid hA
                clear hce hy hA
                obtain ⟨p11, hp11⟩ : ∃ p11, p11 = wr.heap.size := ⟨_, rfl⟩
                obtain ⟨W11, hW11⟩ : ∃ W11, W11 = wr.alloc (.cells #[.int .i64 y.1, .int .i64 y.2] 42) := ⟨_, rfl⟩
                have hb11 : Below wr.heap.size wr W11 := by rw [hW11]; exact (Below.refl _ _).alloc (Nat.le_refl _) _
                have g11 : W11.heap[p11]? = some (.cells #[.int .i64 y.1, .int .i64 y.2] 42 (0, 0)) := by rw [hW11, hp11]; exact heap_alloc_new wr _
                have k9 := (hb11.block p9 (Array.getElem?_eq_some_iff.1 HI7.out.2.1).1).trans HI7.out.2.1
                have HI11 := Lib.hid (And.intro (HI7.out.1.below hb11) (And.intro k9 (And.intro g11 (And.intro (HI7.out.2.2.2.1.trans (hb11.mono HI7.out.2.2.2.1.size)) (by have := (Array.getElem?_eq_some_iff.1 HI7.out.2.1).1; omega : p9 < p11)))))
                have HW11 := Lib.hid (And.intro hW11 hp11)
                clear hW11 hp11 hb11 g11 k9 hql
                go_upto_region 17 with fail
                rw [← HW11.out.1, ← HW11.out.2]
                clear z30 z31 z32 z33 z34 z40 y0 y1
                obtain ⟨z30, z31, z32, z33, z34, z40⟩ := HI11.out.1.at
                have u0 : W11.cell? ⟨p11, 0, none⟩ = some (.int .i64 y.1) := by rw [cell_of_row _ _ 0 _ _ _ HI11.out.2.2.1]; rfl
                have u1 : W11.cell? ⟨p11, 1, none⟩ = some (.int .i64 y.2) := by rw [cell_of_row _ _ 1 _ _ _ HI11.out.2.2.1]; rfl
                obtain ⟨ah, hah⟩ : ∃ ah, ah = aheadB b1 yt1 yk1 y.1 y.2 := ⟨_, rfl⟩
                have hAH := ahead_any W11 (.slice A m c) yt1 yk1 y.1 y.2 b1 false ⟨_, _, _, rfl⟩
                rw [← hah] at hAH
                have HAH := Lib.hid hAH
                have HA2 := Lib.hid hah
                obtain ⟨cnd, hcnd⟩ : ∃ cnd, cnd = (ah && betterB (y.1, y.2) M') := ⟨_, rfl⟩
                have HCN := Lib.hid hcnd
                have HPK : Hid (bestN b1 yt1 yk1 (KS.take (q + 1)) M = if cnd then some (y.1, y.2) else M') := Lib.hid (by
                  rw [TK3.out, bestN_snoc, ← HI7.out.2.2.2.2]
                  unfold pickB
                  rw [hcnd, hah])
                clear hAH hah hcnd
                go_cut [84] from 73 to 83 (fun g wx => g = .bool cnd ∧ Below W11.heap.size W11 wx)
                case first =>
                  go_wp2_with fail
                  refine Calls.mono HAH.out ?_
                  rintro e w12 ⟨rfl, hb12⟩
                  have hb9' := (hb12.block p9 (Array.getElem?_eq_some_iff.1 HI11.out.2.1).1).trans HI11.out.2.1
                  have hb11' := (hb12.block p11 (Array.getElem?_eq_some_iff.1 HI11.out.2.2.1).1).trans HI11.out.2.2.1
                  have r0 : w12.cell? ⟨p11, 0, none⟩ = some (.int .i64 y.1) := by rw [cell_of_row _ _ 0 _ _ _ hb11']; rfl
                  have r1 : w12.cell? ⟨p11, 1, none⟩ = some (.int .i64 y.2) := by rw [cell_of_row _ _ 1 _ _ _ hb11']; rfl
                  have s0 : w12.cell? ⟨p9, 0, none⟩ = some (.int .i64 (mT M')) := by rw [cell_of_row _ _ 0 _ _ _ hb9']; rfl
                  have s1 : w12.cell? ⟨p9, 1, none⟩ = some (.int .i64 (mK M')) := by rw [cell_of_row _ _ 1 _ _ _ hb9']; rfl
                  have HB12 := Lib.hid hb12
                  clear hb12 hb9' hb11'
                  cases ah with
                  | false =>
                    go_wp2_with fail
                    go_meet
                    exact ⟨by rw [HCN.out]; simp, HB12.out⟩
                  | true =>
                    cases M' with
                    | none =>
                      go_wp2_with fail
                      go_meet
                      exact ⟨by rw [HCN.out]; rfl, HB12.out⟩
                    | some p =>
                      have HLS := Lib.hid (refLess_any w12 y.1 y.2 (mT (some p)) (mK (some p)))
                      obtain ⟨ls, hls⟩ : ∃ ls, ls = lessK y.1 y.2 (mT (some p)) (mK (some p)) := ⟨_, rfl⟩
                      rw [← hls] at HLS
                      have HL2 := Lib.hid hls
                      clear hls
                      go_wp2_with fail
                      refine Calls.mono HLS.out ?_
                      rintro e w13 ⟨rfl, hb13⟩
                      have HB13 := Lib.hid (HB12.out.trans (hb13.mono HB12.out.size))
                      clear hb13
                      go_wp2_with fail
                      go_meet
                      exact ⟨by rw [HCN.out, HL2.out]; rfl, HB13.out⟩
                case rest =>
                rename World => wx
                obtain ⟨rfl, hbx⟩ := hcut
                have HX := Lib.hid (And.intro (HI11.out.1.below hbx) (And.intro ((hbx.block p9 (Array.getElem?_eq_some_iff.1 HI11.out.2.1).1).trans HI11.out.2.1) (And.intro ((hbx.block p11 (Array.getElem?_eq_some_iff.1 HI11.out.2.2.1).1).trans HI11.out.2.2.1) (HI11.out.2.2.2.1.trans (hbx.mono HI11.out.2.2.2.1.size)))))
                clear hbx z30 z31 z32 z33 z34 z40 u0 u1
                cases cnd with
                | false =>
                  go_wp2_with fail
                  go_roundw
                  case rel => exact ⟨q + 1, M', by go_num, by omega, rfl, by rw [HPK.out]; rfl, HX.out.2.2.2, HX.out.2.1⟩
                  case measure => simp [intOf]; omega
                | true =>
                  have u0 : wx.cell? ⟨p11, 0, none⟩ = some (.int .i64 y.1) := by rw [cell_of_row _ _ 0 _ _ _ HX.out.2.2.1]; rfl
                  have u1 : wx.cell? ⟨p11, 1, none⟩ = some (.int .i64 y.2) := by rw [cell_of_row _ _ 1 _ _ _ HX.out.2.2.1]; rfl
                  have v0 : wx.cell? ⟨p9, 0, none⟩ = some (.int .i64 (mT M')) := by rw [cell_of_row _ _ 0 _ _ _ HX.out.2.1]; rfl
                  have v1 : wx.cell? ⟨p9, 1, none⟩ = some (.int .i64 (mK M')) := by rw [cell_of_row _ _ 1 _ _ _ HX.out.2.1]; rfl
                  have vf := frozen_of HX.out.2.1
                  have HS : Hid (Below W0.heap.size W0 ((wx.setCell ⟨p9, 0, none⟩ (.int .i64 y.1)).setCell ⟨p9, 1, none⟩ (.int .i64 y.2)) ∧ ((wx.setCell ⟨p9, 0, none⟩ (.int .i64 y.1)).setCell ⟨p9, 1, none⟩ (.int .i64 y.2)).heap[p9]? = some (.cells #[.int .i64 y.1, .int .i64 y.2] 42 (0, 0))) := Lib.hid
                    ⟨(HX.out.2.2.2.setCell (p := ⟨p9, 0, none⟩) (by have := HI9.out.2.2.1; show _ ≤ p9; omega) _).setCell (p := ⟨p9, 1, none⟩) (by have := HI9.out.2.2.1; show _ ≤ p9; omega) _, (heap_set _ p9 1 _ (heap_set wx p9 0 _ HX.out.2.1)).trans rfl⟩
                  go_wp2_with fail
                  go_roundw
                  case rel => exact ⟨q + 1, some (y.1, y.2), by go_num, by omega, rfl, by rw [HPK.out]; rfl, HS.out.1, HS.out.2⟩
                  case measure => simp [intOf]; omega
              · obtain rfl : m = q := by have := HI7.out.2.2.1; omega
                have hMM : M' = bestN b1 yt1 yk1 KS (bestE b1 yt1 yk1 E none) := by rw [HI7.out.2.2.2.2, ← HM1.out, List.take_of_length_le (by have := HIN.out.2.2.2.2.2.1; omega)]
                have hD := HD1.out.1
                conv at hD => lhs; unfold rsS
                rw [← hMM] at hD
                have hbx := HI7.out.1.bx
                have k3f := frozen_of hbx
                have hp3w : w.heap.size ≤ p3 := by have := HIN.out.2.2.2.2.2.2.2.1; omega
                have hp43 : p4 ≠ p3 ∧ p6 ≠ p3 := by have := HIN.out.2.2.2.2.2.2.2; omega
                have x90 : wr.cell? ⟨p9, 0, none⟩ = some (.int .i64 (mT M')) := by rw [cell_of_row _ _ 0 _ _ _ HI7.out.2.1]; rfl
                have x91 : wr.cell? ⟨p9, 1, none⟩ = some (.int .i64 (mK M')) := by rw [cell_of_row _ _ 1 _ _ _ HI7.out.2.1]; rfl
                cases M' with
                | none =>
                  have HF : Hid (D = (b1, yt1, yk1, true) ∧ YsI w (wr.setCell ⟨p3, 4, none⟩ (.bool true)) p3 p4 p6 A m c AE nE cE last b1 yt1 yk1 true) := Lib.hid ⟨hD.symm, HI7.out.1.bel.setCell (p := ⟨p3, 4, none⟩) hp3w _, (heap_set wr p3 4 _ hbx).trans rfl, (heap_ne _ _ _ _ hp43.1).trans HI7.out.1.st, (heap_ne _ _ _ _ hp43.2).trans HI7.out.1.rs⟩
                  clear hMM hD hbx hp3w hp43
                  go_wp2_with fail
                  go_roundw
                  case rel => exact ⟨z + 1, b1, true, yt1, yk1, by go_num, by omega, HF.out.2, (fun e => by cases e), fun _ => HF.out.1⟩
                  case measure => simp [intOf]; omega
                | some p =>
                  have HF : Hid (rsS E KS N true p.1 p.2 = D ∧ YsI w (((wr.setCell ⟨p3, 1, none⟩ (.int .i64 p.1)).setCell ⟨p3, 2, none⟩ (.int .i64 p.2)).setCell ⟨p3, 3, none⟩ (.bool true)) p3 p4 p6 A m c AE nE cE last true p.1 p.2 false) := Lib.hid ⟨hD, ((HI7.out.1.bel.setCell (p := ⟨p3, 1, none⟩) hp3w _).setCell (p := ⟨p3, 2, none⟩) hp3w _).setCell (p := ⟨p3, 3, none⟩) hp3w _, (heap_set _ p3 3 _ (heap_set _ p3 2 _ (heap_set wr p3 1 _ hbx))).trans rfl, (heap_ne _ _ _ _ hp43.1).trans ((heap_ne _ _ _ _ hp43.1).trans ((heap_ne _ _ _ _ hp43.1).trans HI7.out.1.st)), (heap_ne _ _ _ _ hp43.2).trans ((heap_ne _ _ _ _ hp43.2).trans ((heap_ne _ _ _ _ hp43.2).trans HI7.out.1.rs))⟩
                  have y90 : wr.cell? ⟨p9, 0, none⟩ = some (.int .i64 p.1) := x90
                  have y91 : wr.cell? ⟨p9, 1, none⟩ = some (.int .i64 p.2) := x91
                  clear hMM hD hbx hp3w hp43 x90 x91
                  go_wp2_with fail
                  go_roundw
                  case rel => exact ⟨z + 1, true, false, p.1, p.2, by go_num, by omega, HF.out.2, (fun _ => by rw [HD1.out.2]; exact HF.out.1), fun e => by cases e⟩
                  case measure => simp [intOf]; omega
      | true =>
        have hDE : D = (b1, yt1, yk1, true) := HI.out.2.2.2 rfl
        have hE := HI.out.1
        have r0 : W0.cell? ⟨p6, 0, none⟩ = some (.slice none 0 0) := by rw [cell_of_row _ _ 0 _ _ _ hE.rs]; rfl
        have r1 : W0.cell? ⟨p6, 1, none⟩ = some (.int .i64 0) := by rw [cell_of_row _ _ 1 _ _ _ hE.rs]; rfl
        have r2 : W0.cell? ⟨p6, 2, none⟩ = some (.int .i64 0) := by rw [cell_of_row _ _ 2 _ _ _ hE.rs]; rfl
        have r3 : W0.cell? ⟨p6, 3, none⟩ = some (.bool false) := by rw [cell_of_row _ _ 3 _ _ _ hE.rs]; rfl
        have r4 : W0.cell? ⟨p6, 4, none⟩ = some (.bool false) := by rw [cell_of_row _ _ 4 _ _ _ hE.rs]; rfl
        have rf := frozen_of hE.rs
        obtain ⟨W9, hW9⟩ : ∃ W9, W9 = ((((W0.setCell ⟨p6, 0, none⟩ (.slice A m c)).setCell ⟨p6, 1, none⟩ (.int .i64 yt1)).setCell ⟨p6, 2, none⟩ (.int .i64 yk1)).setCell ⟨p6, 3, none⟩ (.bool b1)).setCell ⟨p6, 4, none⟩ (.bool true) := ⟨_, rfl⟩
        have hb9 : W9.heap[p6]? = some (.cells #[.slice A m c, .int .i64 yt1, .int .i64 yk1, .bool b1, .bool true] 83 (0, 0)) := by rw [hW9]; exact set5c _ _ _ _ _ hE.rs
        have hlo4 : w.heap.size ≤ p6 := by have := HIN.out.2.2.2.2.2.2.2; omega
        have hbel : Below w.heap.size w W9 := by rw [hW9]; exact ((((hE.bel.setCell (p := ⟨p6, 0, none⟩) hlo4 _).setCell (p := ⟨p6, 1, none⟩) hlo4 _).setCell (p := ⟨p6, 2, none⟩) hlo4 _).setCell (p := ⟨p6, 3, none⟩) hlo4 _).setCell (p := ⟨p6, 4, none⟩) hlo4 _
        have HE9 := Lib.hid (And.intro hW9 (And.intro hb9 (And.intro hbel hDE)))
        clear hE hW9 hb9 hlo4 hbel hDE
        go_wp2_with fail
        rw [← HE9.out.1]
        have q0 : W9.cell? ⟨p6, 0, none⟩ = some (.slice A m c) := by rw [cell_of_row _ _ 0 _ _ _ HE9.out.2.1]; rfl
        have q1 : W9.cell? ⟨p6, 1, none⟩ = some (.int .i64 yt1) := by rw [cell_of_row _ _ 1 _ _ _ HE9.out.2.1]; rfl
        have q2 : W9.cell? ⟨p6, 2, none⟩ = some (.int .i64 yk1) := by rw [cell_of_row _ _ 2 _ _ _ HE9.out.2.1]; rfl
        have q3 : W9.cell? ⟨p6, 3, none⟩ = some (.bool b1) := by rw [cell_of_row _ _ 3 _ _ _ HE9.out.2.1]; rfl
        have q4 : W9.cell? ⟨p6, 4, none⟩ = some (.bool true) := by rw [cell_of_row _ _ 4 _ _ _ HE9.out.2.1]; rfl
        refine bodyPost_ret (v := .agg #[.slice A m c, .int .i64 yt1, .int .i64 yk1, .bool b1, .bool true]) (by simp [results, Try.results43, go_sem, q0, q1, q2, q3, q4]) rfl ⟨by rw [HE9.out.2.2.2], HE9.out.2.2.1⟩
    · have hz := HI.out.2.1
      cases d1 with
      | true =>
        have hDE : D = (b1, yt1, yk1, true) := HI.out.2.2.2 rfl
        have hE := HI.out.1
        have r0 : W0.cell? ⟨p6, 0, none⟩ = some (.slice none 0 0) := by rw [cell_of_row _ _ 0 _ _ _ hE.rs]; rfl
        have r1 : W0.cell? ⟨p6, 1, none⟩ = some (.int .i64 0) := by rw [cell_of_row _ _ 1 _ _ _ hE.rs]; rfl
        have r2 : W0.cell? ⟨p6, 2, none⟩ = some (.int .i64 0) := by rw [cell_of_row _ _ 2 _ _ _ hE.rs]; rfl
        have r3 : W0.cell? ⟨p6, 3, none⟩ = some (.bool false) := by rw [cell_of_row _ _ 3 _ _ _ hE.rs]; rfl
        have r4 : W0.cell? ⟨p6, 4, none⟩ = some (.bool false) := by rw [cell_of_row _ _ 4 _ _ _ hE.rs]; rfl
        have rf := frozen_of hE.rs
        obtain ⟨W9, hW9⟩ : ∃ W9, W9 = ((((W0.setCell ⟨p6, 0, none⟩ (.slice A m c)).setCell ⟨p6, 1, none⟩ (.int .i64 yt1)).setCell ⟨p6, 2, none⟩ (.int .i64 yk1)).setCell ⟨p6, 3, none⟩ (.bool b1)).setCell ⟨p6, 4, none⟩ (.bool true) := ⟨_, rfl⟩
        have hb9 : W9.heap[p6]? = some (.cells #[.slice A m c, .int .i64 yt1, .int .i64 yk1, .bool b1, .bool true] 83 (0, 0)) := by rw [hW9]; exact set5c _ _ _ _ _ hE.rs
        have hlo4 : w.heap.size ≤ p6 := by have := HIN.out.2.2.2.2.2.2.2; omega
        have hbel : Below w.heap.size w W9 := by rw [hW9]; exact ((((hE.bel.setCell (p := ⟨p6, 0, none⟩) hlo4 _).setCell (p := ⟨p6, 1, none⟩) hlo4 _).setCell (p := ⟨p6, 2, none⟩) hlo4 _).setCell (p := ⟨p6, 3, none⟩) hlo4 _).setCell (p := ⟨p6, 4, none⟩) hlo4 _
        have HE9 := Lib.hid (And.intro hW9 (And.intro hb9 (And.intro hbel hDE)))
        clear hE hW9 hb9 hlo4 hbel hDE
        go_wp2_with fail
        rw [← HE9.out.1]
        have q0 : W9.cell? ⟨p6, 0, none⟩ = some (.slice A m c) := by rw [cell_of_row _ _ 0 _ _ _ HE9.out.2.1]; rfl
        have q1 : W9.cell? ⟨p6, 1, none⟩ = some (.int .i64 yt1) := by rw [cell_of_row _ _ 1 _ _ _ HE9.out.2.1]; rfl
        have q2 : W9.cell? ⟨p6, 2, none⟩ = some (.int .i64 yk1) := by rw [cell_of_row _ _ 2 _ _ _ HE9.out.2.1]; rfl
        have q3 : W9.cell? ⟨p6, 3, none⟩ = some (.bool b1) := by rw [cell_of_row _ _ 3 _ _ _ HE9.out.2.1]; rfl
        have q4 : W9.cell? ⟨p6, 4, none⟩ = some (.bool true) := by rw [cell_of_row _ _ 4 _ _ _ HE9.out.2.1]; rfl
        refine bodyPost_ret (v := .agg #[.slice A m c, .int .i64 yt1, .int .i64 yk1, .bool b1, .bool true]) (by simp [results, Try.results43, go_sem, q0, q1, q2, q3, q4]) rfl ⟨by rw [HE9.out.2.2.2], HE9.out.2.2.1⟩
      | false =>
        have hDE : D = (b1, yt1, yk1, false) := by
          have h9 := HI.out.2.2.1 rfl
          rw [show n.toNat - z = 0 by omega] at h9
          exact h9.symm
        have hE := HI.out.1
        have r0 : W0.cell? ⟨p6, 0, none⟩ = some (.slice none 0 0) := by rw [cell_of_row _ _ 0 _ _ _ hE.rs]; rfl
        have r1 : W0.cell? ⟨p6, 1, none⟩ = some (.int .i64 0) := by rw [cell_of_row _ _ 1 _ _ _ hE.rs]; rfl
        have r2 : W0.cell? ⟨p6, 2, none⟩ = some (.int .i64 0) := by rw [cell_of_row _ _ 2 _ _ _ hE.rs]; rfl
        have r3 : W0.cell? ⟨p6, 3, none⟩ = some (.bool false) := by rw [cell_of_row _ _ 3 _ _ _ hE.rs]; rfl
        have r4 : W0.cell? ⟨p6, 4, none⟩ = some (.bool false) := by rw [cell_of_row _ _ 4 _ _ _ hE.rs]; rfl
        have rf := frozen_of hE.rs
        obtain ⟨W9, hW9⟩ : ∃ W9, W9 = ((((W0.setCell ⟨p6, 0, none⟩ (.slice A m c)).setCell ⟨p6, 1, none⟩ (.int .i64 yt1)).setCell ⟨p6, 2, none⟩ (.int .i64 yk1)).setCell ⟨p6, 3, none⟩ (.bool b1)).setCell ⟨p6, 4, none⟩ (.bool false) := ⟨_, rfl⟩
        have hb9 : W9.heap[p6]? = some (.cells #[.slice A m c, .int .i64 yt1, .int .i64 yk1, .bool b1, .bool false] 83 (0, 0)) := by rw [hW9]; exact set5c _ _ _ _ _ hE.rs
        have hlo4 : w.heap.size ≤ p6 := by have := HIN.out.2.2.2.2.2.2.2; omega
        have hbel : Below w.heap.size w W9 := by rw [hW9]; exact ((((hE.bel.setCell (p := ⟨p6, 0, none⟩) hlo4 _).setCell (p := ⟨p6, 1, none⟩) hlo4 _).setCell (p := ⟨p6, 2, none⟩) hlo4 _).setCell (p := ⟨p6, 3, none⟩) hlo4 _).setCell (p := ⟨p6, 4, none⟩) hlo4 _
        have HE9 := Lib.hid (And.intro hW9 (And.intro hb9 (And.intro hbel hDE)))
        clear hE hW9 hb9 hlo4 hbel hDE
        go_wp2_with fail
        rw [← HE9.out.1]
        have q0 : W9.cell? ⟨p6, 0, none⟩ = some (.slice A m c) := by rw [cell_of_row _ _ 0 _ _ _ HE9.out.2.1]; rfl
        have q1 : W9.cell? ⟨p6, 1, none⟩ = some (.int .i64 yt1) := by rw [cell_of_row _ _ 1 _ _ _ HE9.out.2.1]; rfl
        have q2 : W9.cell? ⟨p6, 2, none⟩ = some (.int .i64 yk1) := by rw [cell_of_row _ _ 2 _ _ _ HE9.out.2.1]; rfl
        have q3 : W9.cell? ⟨p6, 3, none⟩ = some (.bool b1) := by rw [cell_of_row _ _ 3 _ _ _ HE9.out.2.1]; rfl
        have q4 : W9.cell? ⟨p6, 4, none⟩ = some (.bool false) := by rw [cell_of_row _ _ 4 _ _ _ HE9.out.2.1]; rfl
        refine bodyPost_ret (v := .agg #[.slice A m c, .int .i64 yt1, .int .i64 yk1, .bool b1, .bool false]) (by simp [results, Try.results43, go_sem, q0, q1, q2, q3, q4]) rfl ⟨by rw [HE9.out.2.2.2], HE9.out.2.2.1⟩
end Go.Proofs.Ytejpjbmbcdgomaa
