/- The document's pick, whoever is picked. -/
import Derived.Test.YtgdkgoiagjjccaaSRefP
namespace Go.Proofs.Ytgdkgoiagjjccaa
set_option maxRecDepth 100000
open Go.RowKit

def numO : PS.Out → Int
  | .ev _ _ _ => 0
  | .range => 1
  | .ended => 12
def evO : PS.Out → Value
  | .ev k t v => evV k t v
  | _ => evV 0 0 0
/-- What the document's pick answers, whoever is picked. -/
def PickA (w : World) (A : Option Addr) (n c m : Nat) (B2 B3 B4 : Option Addr) (ls : List (List Int)) (o : PS × PS.Out) (e : Ending) (W : World) : Prop :=
  ∃ A2 c2 A3 c3 A4 c4, e = .returned (.tuple #[refV A n c A2 c2 A3 m c3 A4 c4 o.1.picks, evO o.2, .int .i64 (numO o.2)]) ∧ RefR W A A2 A3 A4 ls o.1 ∧ ((A2 = none → c2 = 0) ∧ (A3 = none → c3 = 0) ∧ (A4 = none → c4 = 0)) ∧ Below w.heap.size w W ∧ ((A2 = B2 ∧ A3 = B3 ∧ A4 = B4) ∨ ∀ a, A2 = some a ∨ A3 = some a ∨ A4 = some a → w.heap.size ≤ a.block)

theorem fin0 {w W : World} (h : Below w.heap.size w W) (r4 : W.heap[w.heap.size + 1]? = some (.cells #[.slice none 0 0, .slice none 0 0, .slice none 0 0, .slice none 0 0, .int .i64 0] 74 (0, 0))) (r5 : W.heap[w.heap.size + 1 + 1]? = some (.cells #[.int .i64 0, .int .i64 0, .int .i64 0] 81 (0, 0)))
    (x0 x1 x2 x3 x4 y0 y1 y2 : Value) {W' : World}
    (hW : W' = (((((((W.setCell ⟨w.heap.size + 1, 0, none⟩ x0).setCell ⟨w.heap.size + 1, 1, none⟩ x1).setCell ⟨w.heap.size + 1, 2, none⟩ x2).setCell ⟨w.heap.size + 1, 3, none⟩ x3).setCell ⟨w.heap.size + 1, 4, none⟩ x4).setCell ⟨w.heap.size + 1 + 1, 0, none⟩ y0).setCell ⟨w.heap.size + 1 + 1, 1, none⟩ y1).setCell ⟨w.heap.size + 1 + 1, 2, none⟩ y2) :
    W'.heap[w.heap.size + 1]? = some (.cells #[x0, x1, x2, x3, x4] 74 (0, 0)) ∧ W'.heap[w.heap.size + 1 + 1]? = some (.cells #[y0, y1, y2] 81 (0, 0)) ∧ Below w.heap.size w W' := by
  have k1 : w.heap.size ≤ w.heap.size + 1 := by omega
  have k2 : w.heap.size ≤ w.heap.size + 1 + 1 := by omega
  have n12 : w.heap.size + 1 ≠ w.heap.size + 1 + 1 := by omega
  refine ⟨?_, ?_, ?_⟩
  · rw [hW]
    exact (Below.heap_setCell _ _ _ _ n12).trans ((Below.heap_setCell _ _ _ _ n12).trans ((Below.heap_setCell _ _ _ _ n12).trans (q_set r4)))
  · rw [hW]
    refine e_set (x := .int .i64 0) (y := .int .i64 0) (z := .int .i64 0) ?_
    exact (Below.heap_setCell _ _ _ _ n12.symm).trans ((Below.heap_setCell _ _ _ _ n12.symm).trans ((Below.heap_setCell _ _ _ _ n12.symm).trans ((Below.heap_setCell _ _ _ _ n12.symm).trans ((Below.heap_setCell _ _ _ _ n12.symm).trans r5))))
  · rw [hW]
    exact (((((((h.setCell (p := ⟨w.heap.size + 1, 0, none⟩) k1 _).setCell (p := ⟨w.heap.size + 1, 1, none⟩) k1 _).setCell (p := ⟨w.heap.size + 1, 2, none⟩) k1 _).setCell (p := ⟨w.heap.size + 1, 3, none⟩) k1 _).setCell (p := ⟨w.heap.size + 1, 4, none⟩) k1 _).setCell (p := ⟨w.heap.size + 1 + 1, 0, none⟩) k2 _).setCell (p := ⟨w.heap.size + 1 + 1, 1, none⟩) k2 _).setCell (p := ⟨w.heap.size + 1 + 1, 2, none⟩) k2 _
/-- What stands in the three blocks. -/
structure Cells3 (W : World) (r3 r4 r5 : Nat) (A A2 A3 A4 : Option Addr) (n c c2 m c3 c4 : Nat) (p : Int) : Prop where
  y0 : W.cell? ⟨r3, 0, none⟩ = some (.slice A n c)
  y1 : W.cell? ⟨r3, 1, none⟩ = some (.slice A2 n c2)
  y2 : W.cell? ⟨r3, 2, none⟩ = some (.slice A3 m c3)
  y3 : W.cell? ⟨r3, 3, none⟩ = some (.slice A4 m c4)
  y4 : W.cell? ⟨r3, 4, none⟩ = some (.int .i64 p)
  z0 : W.cell? ⟨r4, 0, none⟩ = some (.slice none 0 0)
  z1 : W.cell? ⟨r4, 1, none⟩ = some (.slice none 0 0)
  z2 : W.cell? ⟨r4, 2, none⟩ = some (.slice none 0 0)
  z3 : W.cell? ⟨r4, 3, none⟩ = some (.slice none 0 0)
  z4 : W.cell? ⟨r4, 4, none⟩ = some (.int .i64 0)
  x0 : W.cell? ⟨r5, 0, none⟩ = some (.int .i64 0)
  x1 : W.cell? ⟨r5, 1, none⟩ = some (.int .i64 0)
  x2 : W.cell? ⟨r5, 2, none⟩ = some (.int .i64 0)
  f0 : W.frozen? ⟨r4, 0, none⟩ = false
  f1 : W.frozen? ⟨r4, 1, none⟩ = false
  f2 : W.frozen? ⟨r4, 2, none⟩ = false
  f3 : W.frozen? ⟨r4, 3, none⟩ = false
  f4 : W.frozen? ⟨r4, 4, none⟩ = false
  k0 : W.frozen? ⟨r5, 0, none⟩ = false
  k1 : W.frozen? ⟨r5, 1, none⟩ = false
  k2 : W.frozen? ⟨r5, 2, none⟩ = false
theorem cellsR3 {W : World} {r3 r4 r5 : Nat} {A A2 A3 A4 : Option Addr} {n c c2 m c3 c4 : Nat} {p : Int} (h3 : W.heap[r3]? = some (.cells #[.slice A n c, .slice A2 n c2, .slice A3 m c3, .slice A4 m c4, .int .i64 p] 74 (0, 0))) (h4 : W.heap[r4]? = some (.cells #[.slice none 0 0, .slice none 0 0, .slice none 0 0, .slice none 0 0, .int .i64 0] 74 (0, 0))) (h5 : W.heap[r5]? = some (.cells #[.int .i64 0, .int .i64 0, .int .i64 0] 81 (0, 0))) :
    Cells3 W r3 r4 r5 A A2 A3 A4 n c c2 m c3 c4 p :=
  ⟨(cell_of_row W _ 0 _ 74 (0, 0) h3).trans rfl, (cell_of_row W _ 1 _ 74 (0, 0) h3).trans rfl, (cell_of_row W _ 2 _ 74 (0, 0) h3).trans rfl, (cell_of_row W _ 3 _ 74 (0, 0) h3).trans rfl, (cell_of_row W _ 4 _ 74 (0, 0) h3).trans rfl,
    (cell_of_row W _ 0 _ 74 (0, 0) h4).trans rfl, (cell_of_row W _ 1 _ 74 (0, 0) h4).trans rfl, (cell_of_row W _ 2 _ 74 (0, 0) h4).trans rfl, (cell_of_row W _ 3 _ 74 (0, 0) h4).trans rfl, (cell_of_row W _ 4 _ 74 (0, 0) h4).trans rfl,
    (cell_of_row W _ 0 _ 81 (0, 0) h5).trans rfl, (cell_of_row W _ 1 _ 81 (0, 0) h5).trans rfl, (cell_of_row W _ 2 _ 81 (0, 0) h5).trans rfl,
    frozen_of_row W _ 0 _ 74 h4, frozen_of_row W _ 1 _ 74 h4, frozen_of_row W _ 2 _ 74 h4, frozen_of_row W _ 3 _ 74 h4, frozen_of_row W _ 4 _ 74 h4, frozen_of_row W _ 0 _ 81 h5, frozen_of_row W _ 1 _ 81 h5, frozen_of_row W _ 2 _ 81 h5⟩

set_option maxHeartbeats 2000000 in
theorem refpick_range (A : Option Addr) (n m c : Nat) (A2 : Option Addr) (c2 : Nat) (A3 : Option Addr) (c3 : Nat) (A4 : Option Addr) (c4 : Nat) (ls : List (List Int)) (s : PS) (p : Int) (hp : s.picks = p) (w : World) (h : RefR w A A2 A3 A4 ls s) (hnil : (A2 = none → c2 = 0) ∧ (A3 = none → c3 = 0) ∧ (A4 = none → c4 = 0)) (k : Int) (hk : k < 0 ∨ (m : Int) ≤ k) :
    Calls Try.prog 45 #[refV A n c A2 c2 A3 m c3 A4 c4 p, .int .i64 k] w (PickA w A n c m A2 A3 A4 ls (s, .range)) := by
  have HR := Lib.hid h
  have HP := Lib.hid hp
  have K := alloc3 w (.cells (refC A n c A2 c2 A3 m c3 A4 c4 p) 74) (.cells #[.slice none 0 0, .slice none 0 0, .slice none 0 0, .slice none 0 0, .int .i64 0] 74) (.cells #[.int .i64 0, .int .i64 0, .int .i64 0] 81)
  have HK := Lib.hid K
  have HNIL := Lib.hid hnil
  clear h K hp hnil
  unfold refV refC at *
  by_cases h0 : k < 0
  all_goals
    have h1 : k < 0 ∨ (m : Int) ≤ k := hk
    try have h2 : (m : Int) ≤ k := by omega
    clear hk h1
    go_enter Try.func45, Try.ntmps45
    go_upto_region 2 with fail
    have K := HK.out
    revert K
    generalize World.alloc (World.alloc (World.alloc w _) _) _ = W
    rintro ⟨K0, K1, K2, K3, -⟩
    obtain ⟨y0, y1, y2, y3, y4, z0, z1, z2, z3, z4, x0, x1, x2, f0, f1, f2, f3, f4, k0, k1, k2⟩ := cellsR3 K0 K1 K2
    have H1 := Lib.hid K1
    have H2 := Lib.hid K2
    have H3 := Lib.hid K3
    clear K0 K1 K2 K3 HK
    go_wp2_with fail
    obtain ⟨F4, F5, F6⟩ := fin0 H3.out H1.out H2.out (.slice A n c) (.slice A2 n c2) (.slice A3 m c3) (.slice A4 m c4) (.int .i64 p) (.int .i64 0) (.int .i64 0) (.int .i64 0) rfl
    refine bodyPost_ret (results_pick _ _ _ _ _ _ _ rfl rfl rfl F4 F5 rfl rfl) rfl ?_
    exact ⟨A2, c2, A3, c3, A4, c4, by rw [show (s, PS.Out.range).1.picks = p from HP.out]; rfl, HR.out.below F6, HNIL.out, F6, .inl ⟨rfl, rfl, rfl⟩⟩
set_option maxHeartbeats 2000000 in
theorem refpick_ended (A : Option Addr) (c : Nat) (A2 : Option Addr) (c2 : Nat) (A3 : Option Addr) (c3 : Nat) (A4 : Option Addr) (c4 : Nat) (ls : List (List Int)) (s : PS) (p : Int) (hp : s.picks = p) (w : World) (h : RefR w A A2 A3 A4 ls s) (hI : Inv ls s) (hn : s.n ≤ 1000000) (hl : s.left = 0) (hnil : (A2 = none → c2 = 0) ∧ (A3 = none → c3 = 0) ∧ (A4 = none → c4 = 0)) (k : Nat) (hk : k < s.m) :
    Calls Try.prog 45 #[refV A s.n c A2 c2 A3 s.m c3 A4 c4 p, .int .i64 (k : Int)] w (PickA w A s.n c s.m A2 A3 A4 ls (s, .ended)) := by
  have HC := Lib.hid (fun w' (hb : Below w.heap.size w w') => refleft_any A c A2 c2 A3 c3 A4 c4 p ls s w' (h.below hb) hI hn)
  rw [hl] at HC
  have HR := Lib.hid h
  have HP := Lib.hid hp
  have K := alloc3 w (.cells (refC A s.n c A2 c2 A3 s.m c3 A4 c4 p) 74) (.cells #[.slice none 0 0, .slice none 0 0, .slice none 0 0, .slice none 0 0, .int .i64 0] 74) (.cells #[.int .i64 0, .int .i64 0, .int .i64 0] 81)
  have HK := Lib.hid K
  have HNIL := Lib.hid hnil
  obtain ⟨m, hm'⟩ : ∃ m, m = s.m := ⟨_, rfl⟩
  obtain ⟨n, hn'⟩ : ∃ n, n = s.n := ⟨_, rfl⟩
  rw [← hn'] at hn HC HK ⊢
  rw [← hm'] at hk HC HK ⊢
  clear h K hp hnil hI hl hn' hm'
  unfold refV refC at *
  go_enter Try.func45, Try.ntmps45
  go_wp2_with fail
  refine Calls.mono (HC.out _ HK.out.2.2.2.1) ?_
  rintro e w1 ⟨rfl, hb1⟩
  have K0 := (hb1.block _ (Array.getElem?_eq_some_iff.1 HK.out.1).1).trans HK.out.1
  have K1 := (hb1.block _ (Array.getElem?_eq_some_iff.1 HK.out.2.1).1).trans HK.out.2.1
  have K2 := (hb1.block _ (Array.getElem?_eq_some_iff.1 HK.out.2.2.1).1).trans HK.out.2.2.1
  have K3 := HK.out.2.2.2.1.trans (hb1.mono HK.out.2.2.2.1.size)
  obtain ⟨y0, y1, y2, y3, y4, z0, z1, z2, z3, z4, x0, x1, x2, f0, f1, f2, f3, f4, k0, k1, k2⟩ := cellsR3 K0 K1 K2
  have H1 := Lib.hid K1
  have H2 := Lib.hid K2
  have H3 := Lib.hid K3
  clear K0 K1 K2 K3 HK hb1 HC
  go_wp2_with fail
  obtain ⟨F4, F5, F6⟩ := fin0 H3.out H1.out H2.out (.slice A n c) (.slice A2 n c2) (.slice A3 m c3) (.slice A4 m c4) (.int .i64 p) (.int .i64 0) (.int .i64 0) (.int .i64 0) rfl
  refine bodyPost_ret (results_pick _ _ _ _ _ _ _ rfl rfl rfl F4 F5 rfl rfl) rfl ?_
  exact ⟨A2, c2, A3, c3, A4, c4, by rw [show (s, PS.Out.ended).1.picks = p from HP.out]; rfl, HR.out.below F6, HNIL.out, F6, .inl ⟨rfl, rfl, rfl⟩⟩
theorem act_ev {s : PS} {i : Nat} : ∃ k t v, (s.act i).2 = .ev k t v ∧ (s.act i).1.picks = s.picks + 1 := ⟨_, _, _, rfl, (step_picks s i).1⟩
/-- The document's pick. -/
theorem refpick_any (A : Option Addr) (c : Nat) (A2 : Option Addr) (c2 : Nat) (A3 : Option Addr) (c3 : Nat) (A4 : Option Addr) (c4 : Nat) (ls : List (List Int)) (s : PS) (w : World) (h : RefR w A A2 A3 A4 ls s) (hI : Inv ls s) (hn : s.n ≤ 1000000) (hm : s.m ≤ 1000000) (hp : 0 ≤ s.picks ∧ s.picks ≤ 1000000000) (hnil : (A2 = none → c2 = 0) ∧ (A3 = none → c3 = 0) ∧ (A4 = none → c4 = 0)) (k : Int) :
    Calls Try.prog 45 #[refV A s.n c A2 c2 A3 s.m c3 A4 c4 s.picks, .int .i64 k] w (PickA w A s.n c s.m A2 A3 A4 ls (s.pick k)) := by
  by_cases hr : k < 0 ∨ (s.m : Int) ≤ k
  · have e : s.pick k = (s, .range) := by unfold PS.pick; rw [if_pos hr]
    rw [e]
    exact refpick_range A s.n s.m c A2 c2 A3 c3 A4 c4 ls s s.picks rfl w h hnil k hr
  · obtain ⟨k, rfl⟩ : ∃ j : Nat, k = (j : Int) := ⟨k.toNat, by omega⟩
    have hk : k < s.m := by omega
    have W := way hI k hk
    by_cases hl : s.left = 0
    · have e : s.pick k = (s, .ended) := hI.pick_end k hk (hI.all_of_left hl)
      rw [e]
      exact refpick_ended A c A2 c2 A3 c3 A4 c4 ls s s.picks rfl w h hI hn hl hnil k hk
    · have hn0 : 0 < s.n := by
        rcases Nat.eq_zero_or_pos s.n with h0 | h0
        · exact absurd (hI.left_end (fun i hi => by omega)) hl
        · exact h0
      have hpk : (s.pick k).1.picks = s.picks + 1 := by
        have W2 := W
        generalize s.pick (k : Int) = o at W2
        cases W2 with
        | ended h0 => exact absurd h0 hl
        | has i => exact (step_picks s i).1
        | took i => exact (step_picks (s.took i k) i).1
        | help i => exact (step_picks s i).1
      refine (refpick_act A c A2 c2 A3 c3 A4 c4 s.picks ls s w h hI hn hm hp hl hn0 k hk hnil _ W).mono ?_
      rintro e W' ⟨A5, c5, A6, c6, A7, c7, x, y, z, h1, rfl, h2, h3, h4, h5⟩
      exact ⟨A5, c5, A6, c6, A7, c7, by rw [hpk, h1]; rfl, h2, h3, h4, .inr h5⟩
end Go.Proofs.Ytgdkgoiagjjccaa
