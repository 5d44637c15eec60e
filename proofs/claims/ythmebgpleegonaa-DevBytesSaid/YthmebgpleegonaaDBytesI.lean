/- An element of an array that is a value. -/
import Derived.Test.YthmebgpleegonaaDBytesS
namespace Go.Proofs.Ythmebgpleegonaa
set_option maxRecDepth 100000
open Go.RowKit

theorem index_row {L : List Br} (hL : L.length = 10) (j m : Nat) (hj : j < 2) (hm : m < 5) (w : World) : (Instr.index 46 (.agg (rowArr L j)) (.int .i64 (m : Int))).run Try.prog w = .ok (L.getD (5 * j + m) br0).v w := by
  have e : ∀ r0 r1 r2 r3 r4 : Br, (Instr.index 46 (.agg #[r0.v, r1.v, r2.v, r3.v, r4.v]) (.int .i64 (m : Int))).run Try.prog w = .ok ([r0, r1, r2, r3, r4].getD m br0).v w := fun r0 r1 r2 r3 r4 => by
    rcases m with _ | _ | _ | _ | _ | m
    · kernel_rfl
    · kernel_rfl
    · kernel_rfl
    · kernel_rfl
    · kernel_rfl
    · omega
  have h : rowArr L j = #[(L.getD (5 * j) br0).v, (L.getD (5 * j + 1) br0).v, (L.getD (5 * j + 2) br0).v, (L.getD (5 * j + 3) br0).v, (L.getD (5 * j + 4) br0).v] := by
    apply Array.ext_getElem?
    intro i
    by_cases hi : i < 5
    · rw [rowArr_get hL j i hj hi]
      rcases i with _ | _ | _ | _ | _ | i
      · rfl
      · rfl
      · rfl
      · rfl
      · rfl
      · omega
    · rw [Array.getElem?_eq_none (by rw [rowArr_size hL j hj]; omega), Array.getElem?_eq_none (by simp; omega)]
  rw [h, e]
  rcases m with _ | _ | _ | _ | _ | m
  · rfl
  · rfl
  · rfl
  · rfl
  · rfl
  · omega
theorem index_sx (x : Sx) (k : Nat) (hk : k < 64) (w : World) : (Instr.index 50 x.val (.int .i64 (k : Int))).run Try.prog w = .ok (.int .u8 ((x.l.getD k 0 : Nat) : Int)) w := by
  have hs : (sizeOf 5).run Try.prog w = .ok 1 w := by kernel_rfl
  have hc : x.arr[k]? = some (.int .u8 ((x.l.getD k 0 : Nat) : Int)) := by
    unfold Sx.arr Sx.vals
    rw [List.getElem?_toArray, valsB_get, List.getD_eq_getElem?_getD, List.getElem?_eq_getElem (by rw [x.len]; exact hk)]
    rfl
  unfold Instr.index Sx.val
  simp [Sem.run_bind, run_underlying Try.underlying50, asIntOf, hs, hk, part, isAgg, run_underlying Try.underlying5, hc]
end Go.Proofs.Ythmebgpleegonaa
