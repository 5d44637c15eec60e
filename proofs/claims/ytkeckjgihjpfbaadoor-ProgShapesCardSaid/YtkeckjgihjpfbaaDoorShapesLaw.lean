/- ProgShapes answers true of whatever operation and programs: the walk. -/
import Derived.Test.YtkeckjgihjpfbaaDoorAlive
import Derived.Test.YtkeckjgihjpfbaaDoorWholes
import Derived.Deep.RegionHeld3
import Derived.Deep.DrawnRows
namespace Go.Proofs.YtkeckjgihjpfbaaDoor
set_option maxRecDepth 100000
open Go.RowKit
attribute [local go_sem ↓] Go.wp_at_zero Go.wp_at_succ

theorem sameP_self (f : Int) (l : List Ins) : sameP f f l l = true := by simp [sameP]
theorem shape_flag (op : Int) : (okOp op == !((strN (shapeL op)).toList == (strN []).toList)) = true := by
  rw [strN_beq _ _ (shapeL_small op) (fun x hx => by cases hx)]
  by_cases h : 0 ≤ op ∧ op < 16
  · have h16 : op = 0 ∨ op = 1 ∨ op = 2 ∨ op = 3 ∨ op = 4 ∨ op = 5 ∨ op = 6 ∨ op = 7 ∨ op = 8 ∨ op = 9 ∨ op = 10 ∨ op = 11 ∨ op = 12 ∨ op = 13 ∨ op = 14 ∨ op = 15 := by omega
    rcases h16 with rfl | rfl | rfl | rfl | rfl | rfl | rfl | rfl | rfl | rfl | rfl | rfl | rfl | rfl | rfl | rfl <;> decide
  · rw [shapeL_none op (by omega), show okOp op = false from decide_eq_false h]
    rfl
set_option maxHeartbeats 4000000 in
theorem shapes_law (op f g : Int) (A A' : Option Addr) (n n' c c' : Nat) (l m : List Ins) (w : World) (hT : Tab w) (h1 : Codes w A n l) (h2 : Codes w A' n' m) (hn : n ≤ 9223372036854775807) (hn' : n' ≤ 9223372036854775807) (hnil : A = none → c = 0) :
    Calls Tryd.prog 5 #[.int .i64 op, .agg #[.int .i64 f, .slice A n c], .agg #[.int .i64 g, .slice A' n' c']] w fun e w' => e = .returned (.bool true) ∧ Below w.heap.size w w' := by
  obtain ⟨hx, hy⟩ := two_cells w f g A A' n n' c c'
  have hb := two_boxes w f g A A' n n' c c'
  have HAL := Lib.hid (alive_any _ (hT.ext hb))
  have HBX := Lib.hid hb
  have HX := Lib.hid hx
  have HY := Lib.hid hy
  have HT := Lib.hid hT
  have H1 := Lib.hid h1
  have H2 := Lib.hid h2
  clear hx hy hb hT h1 h2
  go_enter Tryd.func5, Tryd.ntmps5
  go_wp2_with fail
  refine Calls.mono HAL.out ?_
  rintro e w1 ⟨rfl, hb1⟩
  have HB1 := Lib.hid (HBX.out.trans (hb1.mono HBX.out.size))
  have hx1 := (hb1.block w.heap.size (by simp; omega)).trans HX.out
  have hy1 := (hb1.block (w.heap.size + 1) (by simp)).trans HY.out
  have x0 : w1.cell? ⟨w.heap.size, 0, none⟩ = some (.int .i64 f) := cell_of_row w1 _ 0 _ 24 (0, 0) hx1
  have x1 : w1.cell? ⟨w.heap.size, 1, none⟩ = some (.slice A n c) := cell_of_row w1 _ 1 _ 24 (0, 0) hx1
  have y0 : w1.cell? ⟨w.heap.size + 1, 0, none⟩ = some (.int .i64 g) := cell_of_row w1 _ 0 _ 24 (0, 0) hy1
  have y1 : w1.cell? ⟨w.heap.size + 1, 1, none⟩ = some (.slice A' n' c') := cell_of_row w1 _ 1 _ 24 (0, 0) hy1
  clear hb1 hx1 hy1
  have HLA := Lib.hid (large_any f A n c w1)
  by_cases hl : 100 < n
  · have d1 : decide ((100 : Int) < (n : Int)) = true := decide_eq_true (by omega)
    rw [d1] at HLA
    clear d1
    go_wp2_with fail
    refine Calls.mono HLA.out ?_
    rintro e w2 ⟨rfl, hb2⟩
    have HB2 := Lib.hid (HB1.out.trans (hb2.mono HB1.out.size))
    clear hb2
    go_wp2_with fail
    go_ret
    exact ⟨rfl, HB2.out⟩
  have d1 : decide ((100 : Int) < (n : Int)) = false := decide_eq_false (by omega)
  rw [d1] at HLA
  clear d1
  go_wp2_with fail
  refine Calls.mono HLA.out ?_
  rintro e w2 ⟨rfl, hb2⟩
  have HB2 := Lib.hid (HB1.out.trans (hb2.mono HB1.out.size))
  have x0' := (hb2.cell (p := ⟨w.heap.size, 0, none⟩) (World.block_lt_of_cell? _ _ x0)).trans x0
  have x1' := (hb2.cell (p := ⟨w.heap.size, 1, none⟩) (World.block_lt_of_cell? _ _ x1)).trans x1
  have y0' := (hb2.cell (p := ⟨w.heap.size + 1, 0, none⟩) (World.block_lt_of_cell? _ _ y0)).trans y0
  have y1' := (hb2.cell (p := ⟨w.heap.size + 1, 1, none⟩) (World.block_lt_of_cell? _ _ y1)).trans y1
  clear x0 x1 y0 y1 hb2
  have HLB := Lib.hid (large_any g A' n' c' w2)
  by_cases hl' : 100 < n'
  · have d1 : decide ((100 : Int) < (n' : Int)) = true := decide_eq_true (by omega)
    rw [d1] at HLB
    clear d1
    go_wp2_with fail
    refine Calls.mono HLB.out ?_
    rintro e w3 ⟨rfl, hb3⟩
    have HB3 := Lib.hid (HB2.out.trans (hb3.mono HB2.out.size))
    clear hb3
    go_wp2_with fail
    go_ret
    exact ⟨rfl, HB3.out⟩
  have d1 : decide ((100 : Int) < (n' : Int)) = false := decide_eq_false (by omega)
  rw [d1] at HLB
  clear d1
  go_wp2_with fail
  refine Calls.mono HLB.out ?_
  rintro e w3 ⟨rfl, hb3⟩
  have HB3 := Lib.hid (HB2.out.trans (hb3.mono HB2.out.size))
  have HX3 := Lib.hid (show ∀ w' : World, Below w3.heap.size w3 w' → w'.cell? ⟨w.heap.size, 0, none⟩ = some (.int .i64 f) ∧ w'.cell? ⟨w.heap.size, 1, none⟩ = some (.slice A n c) ∧ w'.cell? ⟨w.heap.size + 1, 0, none⟩ = some (.int .i64 g) ∧ w'.cell? ⟨w.heap.size + 1, 1, none⟩ = some (.slice A' n' c') ∧ Below w3.heap.size w3 w' from fun w' hb => by
    have hbb := hb3.trans (hb.mono hb3.size)
    exact ⟨(hbb.cell (World.block_lt_of_cell? _ _ x0')).trans x0', (hbb.cell (World.block_lt_of_cell? _ _ x1')).trans x1', (hbb.cell (World.block_lt_of_cell? _ _ y0')).trans y0', (hbb.cell (World.block_lt_of_cell? _ _ y1')).trans y1', hb⟩)
  clear x0' x1' y0' y1' hb3
  have HSH := Lib.hid (shape_any op w3 (HT.out.ext HB3.out))
  have HRS := Lib.hid (refshape_any op w3)
  have hfl := shape_flag op
  have hfe : ((strN (shapeL op)).toList == (strN []).toList) = (strN (shapeL op)).toList.isEmpty := by
    rw [strN_toList, strN_toList]
    cases (shapeL op) <;> rfl
  rw [hfe] at hfl
  clear hfe
  obtain ⟨s, hs⟩ : ∃ s, s = strN (shapeL op) := ⟨_, rfl⟩
  obtain ⟨ok, hok⟩ : ∃ ok, ok = okOp op := ⟨_, rfl⟩
  rw [← hs, ← hok] at hfl
  rw [← hs, ← hok] at HSH
  rw [← hs] at HRS
  clear hs hok
  go_wp2_with fail
  refine Calls.mono HSH.out ?_
  rintro e w4 ⟨rfl, rfl⟩
  go_wp2_with fail
  refine Calls.mono HRS.out ?_
  rintro e w4 ⟨rfl, rfl⟩
  go_wp2_with fail
  have hss : (s.toList == s.toList) = true := by simp
  have hn1 : n ≤ 1000000000 := by omega
  have hsb : ∀ b : Bool, (b == b) = true := fun b => by simp
  have HC1 := Lib.hid (fun (W : World) (hb : Below w3.heap.size w3 W) => sameP_any f g A A' n n' c c' l m W (H1.out.ext (stays_b (HB3.out.trans (hb.mono HB3.out.size)))) (H2.out.ext (stays_b (HB3.out.trans (hb.mono HB3.out.size)))) hn hn')
  have HC2 := Lib.hid (fun (W : World) (hb : Below w3.heap.size w3 W) => programs_any f g A A' n n' c c' l m W (H1.out.ext (stays_b (HB3.out.trans (hb.mono HB3.out.size)))) (H2.out.ext (stays_b (HB3.out.trans (hb.mono HB3.out.size)))) hn hn')
  have HC3 := Lib.hid (fun (W : World) (hb : Below w3.heap.size w3 W) => copies_any f A n c l W (H1.out.ext (stays_b (HB3.out.trans (hb.mono HB3.out.size)))) hnil hn1)
  have HC4 := Lib.hid (fun (W : World) (hb : Below w3.heap.size w3 W) (A2 : Option Addr) (c2 : Nat) (h2 : Codes W A2 n l) => (by have h := sameP_any f f A A2 n n c c2 l l W (H1.out.ext (stays_b (HB3.out.trans (hb.mono HB3.out.size)))) h2 hn hn; rw [sameP_self] at h; exact h : Calls Tryd.prog 27 #[.agg #[.int .i64 f, .slice A n c], .agg #[.int .i64 f, .slice A2 n c2]] W fun e w' => e = .returned (.bool true) ∧ Below W.heap.size W w'))
  obtain ⟨P, hP⟩ : ∃ P, P = sameP f g l m := ⟨_, rfl⟩
  rw [← hP] at HC1 HC2
  have hPP := hsb P
  clear hP hsb
  go_region_held3 (fun w' => w'.cell? ⟨w.heap.size, 0, none⟩ = some (.int .i64 f) ∧ w'.cell? ⟨w.heap.size, 1, none⟩ = some (.slice A n c) ∧ w'.cell? ⟨w.heap.size + 1, 0, none⟩ = some (.int .i64 g) ∧ w'.cell? ⟨w.heap.size + 1, 1, none⟩ = some (.slice A' n' c') ∧ Below w3.heap.size w3 w')
    (first | exact HX3.out _ (Below.refl _ w3).drew | (go_split_ands; exact HX3.out _ (Below.trans (by assumption) (hbK.mono (Below.size (by assumption))))))
    (first | (go_at_call 27; go_split_ands; (with_reducible refine Calls.mono (HC1.out _ (by assumption)) ?_); rintro e w5 ⟨rfl, hbK⟩) | (go_at_call 15; go_split_ands; (with_reducible refine Calls.mono (HC2.out _ (by assumption)) ?_); rintro e w5 ⟨rfl, hbK⟩) | (go_at_call 13; go_split_ands; (with_reducible refine Calls.mono (HC3.out _ (by assumption)) ?_); rintro e w5 ⟨A2, c2, rfl, hcd, _, hbK⟩) | (go_at_call 27; go_split_ands; (with_reducible refine Calls.mono (HC4.out _ (by assumption) _ _ (by assumption)) ?_); rintro e w5 ⟨rfl, hbK⟩))
  all_goals
    rename_i hHeld
    have HHB := Lib.hid (HB3.out.trans (hHeld.2.2.2.2.mono HB3.out.size))
    go_wp2_with fail
    go_ret
    exact ⟨rfl, HHB.out⟩
end Go.Proofs.YtkeckjgihjpfbaaDoor
