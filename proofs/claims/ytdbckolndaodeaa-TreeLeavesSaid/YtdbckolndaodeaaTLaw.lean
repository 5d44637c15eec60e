/- TreeLeaves: the law over what it is handed, as one. -/
import Derived.Test.YtdbckolndaodeaaTLv2
import Derived.Test.YtdbckolndaodeaaTOpen
import Derived.WideShapes
namespace Go.Proofs.Ytdbckolndaodeaa
set_option maxRecDepth 100000
open Go.RowKit

theorem leaves_any (A : Option Addr) (c : Nat) (os : List Ot) (lo hi stop : Int) (w : World) (ho : Ots w A os) (hk : ∀ o ∈ os, In64 o.k) : Calls Try.prog 22 #[.slice A os.length c, .int .i64 lo, .int .i64 hi, .int .i64 stop] w fun e w' => e = .returned (.bool true) ∧ Below w.heap.size w w' :=
  callsIn_wide.1 (leaves_in A c os lo hi stop w ho hk)
set_option maxHeartbeats 2000000 in
theorem tleaves_law (A : Option Addr) (c : Nat) (os : List Ot) (lo hi stop : Int) (w : World) (ho : Ots w A os) (hk : ∀ o ∈ os, In64 o.k) : Calls Try.prog 5 #[.agg #[.slice A os.length c, .int .i64 lo, .int .i64 hi, .int .i64 stop]] w fun e w' => e = .returned (.bool true) ∧ Below w.heap.size w w' := by
  have hb : Below w.heap.size w (w.alloc (.cells #[.slice A os.length c, .int .i64 lo, .int .i64 hi, .int .i64 stop] 44)) := (Below.refl _ _).alloc (Nat.le_refl _) _
  have HB := Lib.hid hb
  have H := Lib.hid (leaves_any A c os lo hi stop _ (RowAt.below ho hb) hk)
  clear hb ho hk
  obtain ⟨n, hn⟩ : ∃ n, n = os.length := ⟨_, rfl⟩
  rw [← hn] at H HB ⊢
  clear hn
  go_enter Try.func5, Try.ntmps5
  go_wp2_with fail
  refine Calls.mono H.out ?_
  rintro e w1 ⟨rfl, hb1⟩
  have HB1 := Lib.hid (HB.out.trans (hb1.mono HB.out.size))
  clear hb1 H HB
  go_wp2_with fail
  go_ret
  exact ⟨rfl, HB1.out⟩
section
variable {H : Type} {enc : TypeId × Value → H} {W : World} {sp : Nat → Bool}
theorem trod_struct4 {P : Program} {base : Nat} {held : Bool} {t : TypeId} {f0 f1 f2 f3 : Field} {fuel : Nat} {cs : List Value} {x : DataW H × List MemPlace} (ht : P.underlying t = some (.struct #[f0, f1, f2, f3])) (h : DataW.trod enc P W base sp held fuel t cs = some x) :
    ∃ y0 y1 y2 y3 n, x = (.agg [y0.1, y1.1, y2.1, y3.1], y0.2 ++ (y1.2 ++ (y2.2 ++ y3.2))) ∧ cs.length = P.cellsOf t ∧ DataW.trod enc P W base sp held n f0.type ((cs.drop f0.offset).take (P.cellsOf f0.type)) = some y0 ∧
      DataW.trod enc P W base sp held n f1.type ((cs.drop f1.offset).take (P.cellsOf f1.type)) = some y1 ∧ DataW.trod enc P W base sp held n f2.type ((cs.drop f2.offset).take (P.cellsOf f2.type)) = some y2 ∧
      DataW.trod enc P W base sp held n f3.type ((cs.drop f3.offset).take (P.cellsOf f3.type)) = some y3 := by
  obtain ⟨xs, n, _, rfl, hl, hlen, hf⟩ := DataW.trod_struct ht h
  match xs, hlen with
  | [y0, y1, y2, y3], _ => exact ⟨y0, y1, y2, y3, n, by simp, hl, by simpa using hf 0 f0 rfl, by simpa using hf 1 f1 rfl, by simpa using hf 2 f2 rfl, by simpa using hf 3 f3 rfl⟩
theorem cellsRg : Try.prog.cellsOf 44 = 4 := by kernel_rfl
theorem cellsOs : Try.prog.cellsOf 22 = 1 := by kernel_rfl
theorem open_ranging {v : Value} {base : Nat} {r : Reach} {x : DataW H × List MemPlace} (hv : Value.okWide Try.prog W r base 44 v) (h : ∃ fuel, DataW.trod enc Try.prog W 0 sp true fuel 44 v.cells.toList = some x) :
    ∃ A c l lo hi stop, v = .agg #[.slice A (List.length l) c, .int .i64 lo, .int .i64 hi, .int .i64 stop] ∧ Ots W A l ∧ ∀ o ∈ l, In64 o.k := by
  obtain ⟨cs, rfl, _⟩ := Go.WideShapes.okWide_struct Try.underlying44 hv
  obtain ⟨fuel, hf⟩ := h
  obtain ⟨l⟩ := cs
  simp only [Value.cells] at hf
  obtain ⟨y0, y1, y2, y3, n, _, hl, g0, g1, g2, g3⟩ := trod_struct4 Try.underlying44 hf
  rw [cellsRg] at hl
  match l, hl with
  | [v0, v1, v2, v3], _ =>
    simp [cells3, cellsOs] at g0 g1 g2 g3
    obtain ⟨A, m, c, l, e, h1, h2, _, h4⟩ := open_rowat (fun q : Ot => In64 q.k) Ot.vlen (by decide) Try.underlying22 cellsOp ⟨0, ⟨0, 0, false⟩, false⟩ open_op g0
    obtain ⟨a1, e1, _⟩ := DataW.trod_int Try.underlying3 g1
    obtain ⟨a2, e2, _⟩ := DataW.trod_int Try.underlying3 g2
    obtain ⟨a3, e3, _⟩ := DataW.trod_int Try.underlying3 g3
    injection e1 with e1
    injection e2 with e2
    injection e3 with e3
    obtain rfl := h1.len
    exact ⟨A, c, l, a1, a2, a3, by rw [e, e1, e2, e3], h1, h4⟩
end
end Go.Proofs.Ytdbckolndaodeaa
