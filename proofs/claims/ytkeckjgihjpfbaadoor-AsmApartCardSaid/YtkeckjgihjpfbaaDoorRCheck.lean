/- The contract of the document's Check. -/
import Derived.Test.YtkeckjgihjpfbaaDoorRGood2
import Derived.Deep.RegionHeld3
import Derived.Deep.DrawnRows
namespace Go.Proofs.YtkeckjgihjpfbaaDoor
set_option maxRecDepth 100000
open Go.RowKit
attribute [local go_sem ↓] Go.wp_at_zero Go.wp_at_succ

set_option maxHeartbeats 4000000 in
theorem refcheck_any (f : Int) (A : Option Addr) (n c : Nat) (l : List Ins) (w : World) (hC : Codes w A n l) (hn : n ≤ 9223372036854775807) :
    Calls Tryd.prog 16 #[.agg #[.int .i64 f, .slice A n c]] w fun e w' => e = .returned (.int .i64 (chk f l)) ∧ Below w.heap.size w w' := by
  have hln := hC.len
  have HC := Lib.hid hC
  have HL := Lib.hid hln
  have HB1 := Lib.hid ((Below.refl w.heap.size w).alloc (Nat.le_refl _) (.cells #[.int .i64 f, .slice A n c] 24))
  have HN1 := Lib.hid (one_new w (.cells #[.int .i64 f, .slice A n c] 24))
  clear hC
  by_cases hh : f < 1 ∨ 1000 < f ∨ l.length < 1 ∨ 32 < l.length
  · have HE := Lib.hid (chk_head hh)
    have hw : decide (f < 1) = true ∨ (decide (f < 1) = false ∧ decide ((1000 : Int) < f) = true) ∨ (decide (f < 1) = false ∧ decide ((1000 : Int) < f) = false ∧ decide ((n : Int) < 1) = true) ∨ (decide (f < 1) = false ∧ decide ((1000 : Int) < f) = false ∧ decide ((n : Int) < 1) = false ∧ decide ((32 : Int) < (n : Int)) = true) := by
      simp only [decide_eq_true_eq, decide_eq_false_iff_not]
      omega
    clear hh hln
    rcases hw with d1 | ⟨d1, d2⟩ | ⟨d1, d2, d3⟩ | ⟨d1, d2, d3, d4⟩
    all_goals
      go_enter Tryd.func16, Tryd.ntmps16
      go_wp2_with fail
      go_ret
      exact ⟨by rw [HE.out]; rfl, HB1.out⟩
  · have d1 : decide (f < 1) = false := decide_eq_false (by omega)
    have d2 : decide ((1000 : Int) < f) = false := decide_eq_false (by omega)
    have d3 : decide ((n : Int) < 1) = false := decide_eq_false (by omega)
    have d4 : decide ((32 : Int) < (n : Int)) = false := decide_eq_false (by omega)
    have hn32 : n ≤ 32 := by omega
    have HH := Lib.hid hh
    clear hh hln
    go_enter Tryd.func16, Tryd.ntmps16
    go_wp2_with fail
    clear d1 d2 d3 d4
    go_loopw [3] (fun i wr => ∃ k : Nat, i = .int .i64 (k : Int) ∧ k ≤ n ∧ Below w.heap.size w wr ∧ wr.heap[w.heap.size]? = some (.cells #[.int .i64 f, .slice A n c] 24 (0, 0)) ∧ (∀ j, j < k → goodAt l j = true)) (fun i _ => n - (intOf i).toNat)
    case atStart => exact ⟨0, rfl, by omega, HB1.out, HN1.out, fun j h => absurd h (by omega)⟩
    case round =>
      obtain ⟨k, rfl, hk, hb, hg, hall⟩ := hrel
      have HBR := Lib.hid hb
      have HGR := Lib.hid hg
      have HALL := Lib.hid hall
      have hsz2 := hb.size
      have g1 : wr.cell? ⟨w.heap.size, 1, none⟩ = some (.slice A n c) := cell_of_row wr _ 1 _ 24 (0, 0) hg
      clear hb hg hall
      by_cases hlt : k < n
      · have hkl : k < l.length := by rw [HL.out]; exact hlt
        obtain ⟨b, off, rfl, hc⟩ := (HC.out.ext (stays_b HBR.out)).cells (by omega)
        obtain ⟨c0, c1, c2, c3, c4, c5⟩ := hc k hkl
        obtain ⟨x, hx⟩ : ∃ x, x = l[k] := ⟨_, rfl⟩
        rw [← hx] at c0 c1 c2 c3 c4 c5
        have HGA := Lib.hid (show goodAt l k = goodI x ((n : Int) - 1 - (k : Int)) by unfold goodAt; rw [HL.out, List.getD_eq_getElem?_getD, List.getElem?_eq_getElem hkl, hx]; rfl)
        have hgd := fun W => rgood_any x ((n : Int) - 1 - (k : Int)) W
        unfold Ins.val at hgd
        have HGD := Lib.hid hgd
        have HXK := Lib.hid (show ∀ w' : World, Below wr.heap.size wr w' → w'.cell? ⟨w.heap.size, 1, none⟩ = some (.slice (some ⟨b, off, none⟩) n c) ∧ w'.cell? ⟨b, off + k * 6, none⟩ = some (.int .i64 x.op) ∧ w'.cell? ⟨b, off + k * 6 + 1, none⟩ = some (.int .i64 x.a) ∧ w'.cell? ⟨b, off + k * 6 + 2, none⟩ = some (.int .i64 x.b) ∧ w'.cell? ⟨b, off + k * 6 + 3, none⟩ = some (.int .i64 x.c) ∧ w'.cell? ⟨b, off + k * 6 + 4, none⟩ = some (.int .i64 x.t) ∧ w'.cell? ⟨b, off + k * 6 + 5, none⟩ = some (.int .i64 x.n) ∧ Below wr.heap.size wr w' from fun w' hb =>
          ⟨(hb.cell (World.block_lt_of_cell? _ _ g1)).trans g1, (hb.cell (World.block_lt_of_cell? _ _ c0)).trans c0, (hb.cell (World.block_lt_of_cell? _ _ c1)).trans c1, (hb.cell (World.block_lt_of_cell? _ _ c2)).trans c2, (hb.cell (World.block_lt_of_cell? _ _ c3)).trans c3, (hb.cell (World.block_lt_of_cell? _ _ c4)).trans c4, (hb.cell (World.block_lt_of_cell? _ _ c5)).trans c5, hb⟩)
        obtain ⟨r, hr⟩ : ∃ r, r = goodI x ((n : Int) - 1 - (k : Int)) := ⟨_, rfl⟩
        rw [← hr] at HGA HGD
        have e1 : IntKind.i64.wrap ((n : Int) - 1) = (n : Int) - 1 := IntWalk.i64_in _ (by omega)
        have e2 : IntKind.i64.wrap ((n : Int) - 1 - (k : Int)) = (n : Int) - 1 - (k : Int) := IntWalk.i64_in _ (by omega)
        have i1 : (0 : Int) ≤ (k : Int) := by omega
        have i2 : (k : Int) < (n : Int) := by omega
        clear hc hx hgd hr c0 c1 c2 c3 c4 c5
        go_wp2_with fail
        go_region_held3 (fun w' => w'.cell? ⟨w.heap.size, 1, none⟩ = some (.slice (some ⟨b, off, none⟩) n c) ∧ w'.cell? ⟨b, off + k * 6, none⟩ = some (.int .i64 x.op) ∧ w'.cell? ⟨b, off + k * 6 + 1, none⟩ = some (.int .i64 x.a) ∧ w'.cell? ⟨b, off + k * 6 + 2, none⟩ = some (.int .i64 x.b) ∧ w'.cell? ⟨b, off + k * 6 + 3, none⟩ = some (.int .i64 x.c) ∧ w'.cell? ⟨b, off + k * 6 + 4, none⟩ = some (.int .i64 x.t) ∧ w'.cell? ⟨b, off + k * 6 + 5, none⟩ = some (.int .i64 x.n) ∧ Below wr.heap.size wr w')
          (first | exact HXK.out _ (Below.refl _ wr).drew | (go_split_ands; exact HXK.out _ (Below.trans (by assumption) (hbK.mono (Below.size (by assumption))))))
          ((go_at_call 41; (with_reducible refine Calls.mono (HGD.out _) ?_); rintro e w5 ⟨rfl, hbK⟩))
        rename_i hHeld
        have HHB := Lib.hid (HBR.out.trans (hHeld.2.2.2.2.2.2.2.mono HBR.out.size))
        have HGN := Lib.hid ((hHeld.2.2.2.2.2.2.2.block _ (World.block_lt_of_cell? _ _ g1)).trans HGR.out)
        clear hHeld hbK e1 e2 i1 i2
        cases r with
        | true =>
          go_wp2_with fail
          go_roundw
          case rel => exact ⟨k + 1, by go_num, by omega, HHB.out, HGN.out, fun j hj => by
            rcases Nat.lt_or_ge j k with h | h
            · exact HALL.out j h
            · obtain rfl : j = k := by omega
              exact HGA.out⟩
          case measure => simp [intOf]; omega
        | false =>
          have HE := Lib.hid (chk_at HH.out k hkl HALL.out HGA.out)
          go_wp2_with fail
          go_ret
          exact ⟨by rw [HE.out]; rfl, HHB.out⟩
      · obtain rfl : k = n := by omega
        have HE := Lib.hid (chk_all HH.out (fun j hj => HALL.out j (by rw [← HL.out]; exact hj)))
        go_wp2_with fail
        go_ret
        exact ⟨by rw [HE.out]; rfl, HBR.out⟩
end Go.Proofs.YtkeckjgihjpfbaaDoor
