/- CrcLinear over its struct by value. -/
import Derived.Test.YtfajalhpenincaaDoorLinearWalk
import Derived.Test.YtfajalhpenincaaDoorOpen
import Derived.Lib.SmallJoins
namespace Go.Proofs.YtfajalhpenincaaDoor
open Go.RowKit

theorem crcLinear_any (s : Nat) (hs : s < 4294967296) (A : Option Addr) (n c : Nat) (xs : List Nat) (A2 : Option Addr) (n2 c2 : Nat) (zs : List Nat) (z : Int) (w : World)
    (ha : Bts w A n xs) (hnil : A = none → c = 0) (hb : Bts w A2 n2 zs) (hnil2 : A2 = none → c2 = 0) (hc2 : n2 ≤ c2) (hz : z ≤ 9223372036854775807) (hT : Tab w) (hn : n ≤ 9223372036854775807) :
    Calls Tryd.prog 8 #[.agg #[.int .u32 (s : Int), .slice A n c, .slice A2 n2 c2, .int .i64 z]] w fun e w' => e = .returned (.bool true) ∧ Below w.heap.size w w' := by
  have hb1 : Below w.heap.size w (w.alloc (.cells #[.int .u32 (s : Int), .slice A n c, .slice A2 n2 c2, .int .i64 z] 41)) := (Below.refl _ w).alloc (Nat.le_refl _) _
  have C := Lib.hid (linear_any s hs A n c xs A2 n2 c2 zs z _ (ha.ext (stays_below hb1)) hnil (hb.ext (stays_below hb1)) hnil2 hc2 hz (hT.ext (stays_below hb1)) hn)
  clear ha hb hT hnil hnil2
  go_enter Tryd.func8, Tryd.ntmps8
  go_wp2_with fail
  refine Calls.mono C.out ?_
  rintro e w9 ⟨rfl, hb9⟩
  have hb9' := hb1.trans (hb9.mono hb1.size)
  clear hb1 hb9
  go_wp2_with fail
  go_ret
  exact ⟨rfl, hb9'⟩
section
open Go.ChangeShapes Go.WideShapes Go.ChangeAt
variable {H : Type} {enc : TypeId × Value → H} {W : World} {sp : Nat → Bool}
theorem open_cap {fuel : Nat} {A : Option Addr} {n c : Nat} {x : DataW H × List MemPlace} (hf : DataW.trod enc Tryd.prog W 0 sp true fuel 22 [.slice A n c] = some x) : n ≤ c := by
  rcases open_ints Tryd.underlying22 Tryd.underlying5 cells5 hf with ⟨hcs, _⟩ | ⟨a, len, cap, zs, hcs, _, hl, _⟩
  · injection hcs with hcs
    injection hcs with _ h1 h2
    omega
  · injection hcs with hcs
    injection hcs with _ h1 h2
    omega
theorem open_noughts {f0 f1 f2 f3 : Value} {d : DataW H} {ps : List MemPlace} (h : DataW.Trod enc Tryd.prog W 0 sp true 41 (.agg #[f0, f1, f2, f3]) d ps) :
    ∃ (z : Int) (s : Nat) (A1 : Option Addr) (n1 c1 : Nat) (xs1 : List Nat) (A2 : Option Addr) (n2 c2 : Nat) (xs2 : List Nat) (a : Int),
      f0 = .int .u32 z ∧ z = (s : Int) ∧ f1 = .slice A1 n1 c1 ∧ f2 = .slice A2 n2 c2 ∧ f3 = .int .i64 a ∧ s < 4294967296 ∧ Bts W A1 n1 xs1 ∧ n1 ≤ 9223372036854775807 ∧ (A1 = none → c1 = 0) ∧ Bts W A2 n2 xs2 ∧ (A2 = none → c2 = 0) ∧ n2 ≤ c2 ∧ a ≤ 9223372036854775807 := by
  obtain ⟨fuel, hf⟩ := h
  obtain ⟨y0, y1, y2, y3, n, _, _, g0, g1, g2, g3⟩ := Go.Joins.trod_struct4 Tryd.underlying41 hf
  have c3 : Tryd.prog.cellsOf 3 = 1 := by kernel_rfl
  have g0' : DataW.trod enc Tryd.prog W 0 sp true n 23 [f0] = some y0 := by simpa [Value.cells, cells23] using g0
  have g1' : DataW.trod enc Tryd.prog W 0 sp true n 22 [f1] = some y1 := by simpa [Value.cells, cells22] using g1
  have g2' : DataW.trod enc Tryd.prog W 0 sp true n 22 [f2] = some y2 := by simpa [Value.cells, cells22] using g2
  have g3' : DataW.trod enc Tryd.prog W 0 sp true n 3 [f3] = some y3 := by simpa [Value.cells, c3] using g3
  obtain ⟨z, e0, _, w0⟩ := DataW.trod_int Tryd.underlying23 g0'
  obtain ⟨a, e3, _, w3⟩ := DataW.trod_int Tryd.underlying3 g3'
  obtain ⟨A1, n1, c1, xs1, rfl, b1, hn1, hl1⟩ := open_bts g1'
  obtain ⟨A2, n2, c2, xs2, rfl, b2, hn2, hl2⟩ := open_bts g2'
  injection e0 with e0
  injection e3 with e3
  obtain ⟨s, rfl⟩ := Int.eq_ofNat_of_zero_le (bounds_u32 w0).1
  exact ⟨_, s, A1, n1, c1, xs1, A2, n2, c2, xs2, a, e0, rfl, rfl, rfl, e3, by have := (bounds_u32 w0).2; omega, b1, hn1, hl1, b2, hl2, open_cap g2', (bounds_i64 w3).2⟩
end
end Go.Proofs.YtfajalhpenincaaDoor
