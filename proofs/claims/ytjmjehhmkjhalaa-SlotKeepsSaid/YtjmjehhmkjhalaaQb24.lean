/- LStamp: put together. -/
import Derived.Test.YtjmjehhmkjhalaaQb06
import Derived.Test.YtjmjehhmkjhalaaQb03
import Derived.Test.YtjmjehhmkjhalaaQb09
import Derived.Test.YtjmjehhmkjhalaaQb22
import Derived.Test.YtjmjehhmkjhalaaQb20
import Derived.Test.YtjmjehhmkjhalaaQb23
/- Sectors in memory; the contract of stampAt. -/
namespace Go.Proofs.Ytjmjehhmkjhalaa
set_option maxRecDepth 100000
open Go.RowKit

/-- A sector's value. -/
def secV (l : List Nat) : Array Value := (valsB l).toArray
theorem secV_size (l : List Nat) : (secV l).size = l.length := by simp [secV, valsB]
theorem secV_at (l : List Nat) (k : Nat) (hk : k < l.length) : (secV l)[k]? = some (.int .u8 ((l.getD k 0 : Nat) : Int)) := by
  simp [secV, valsB, List.getD_eq_getElem?_getD, hk]
/-- A block that holds a sector. -/
def Sec (w : World) (g : Nat) (l : List Nat) : Prop := w.heap[g]? = some (.cells (secV l) 75 (0, 0))
theorem Sec.cell {w : World} {g : Nat} {l : List Nat} (h : Sec w g l) (k : Nat) (hk : k < l.length) : w.cell? ⟨g, k, none⟩ = some (.int .u8 ((l.getD k 0 : Nat) : Int)) :=
  (cell_of_row w g k (secV l) 75 (0, 0) h).trans (secV_at l k hk)
theorem Sec.frozen {w : World} {g : Nat} {l : List Nat} (h : Sec w g l) (k : Nat) : w.frozen? ⟨g, k, none⟩ = false := by
  unfold Sec at h
  simp [World.frozen?, h]
theorem Sec.lt {w : World} {g : Nat} {l : List Nat} (h : Sec w g l) : g < w.heap.size := (Array.getElem?_eq_some_iff.1 h).1
theorem Sec.alloc {w : World} {g : Nat} {l : List Nat} (h : Sec w g l) (o : Obj) : Sec (w.alloc o) g l :=
  (heap_alloc_old w o h.lt).trans h
theorem Sec.other {w : World} {g : Nat} {l : List Nat} (h : Sec w g l) (a : Addr) (v : Value) (hne : g ≠ a.block) : Sec (w.setCell a v) g l :=
  (Deep.blk_setCell_other w a v g hne).trans h
theorem secV_set (l : List Nat) (k x : Nat) : secV (l.set k x) = (secV l).setIfInBounds k (.int .u8 (x : Int)) := by
  simp [secV, valsB, List.map_set]
theorem Sec.set {w : World} {g : Nat} {l : List Nat} (h : Sec w g l) (k x : Nat) : Sec (w.setCell ⟨g, k, none⟩ (.int .u8 (x : Int))) g (l.set k x) := by
  unfold Sec at h ⊢
  rw [secV_set]
  simp [World.setCell, Array.getElem?_modify, h]
theorem Sec.ext {w w' : World} {B g : Nat} {l : List Nat} (h : Sec w g l) (hb : Below B w w') (hg : g < B) : Sec w' g l :=
  (hb.block g hg).trans h
theorem Sec.old {w w' : World} {g : Nat} {l : List Nat} (h : Sec w g l) (hb : Below w.heap.size w w') : Sec w' g l := h.ext hb h.lt
theorem or_i64_nat (a b : Nat) (ha : a < 9223372036854775808) (hb : b < 9223372036854775808) :
    bits .or .i64 (a : Int) (b : Int) = ((a ||| b : Nat) : Int) := by
  have hx : a ||| b < 2 ^ 63 := Nat.or_lt_two_pow (by omega) (by omega)
  have h1 : (BitVec.ofInt 64 (a : Int)).toNat = a := by
    rw [BitVec.ofInt_natCast, BitVec.toNat_ofNat]; exact Nat.mod_eq_of_lt (by omega)
  have h2 : (BitVec.ofInt 64 (b : Int)).toNat = b := by
    rw [BitVec.ofInt_natCast, BitVec.toNat_ofNat]; exact Nat.mod_eq_of_lt (by omega)
  show IntKind.i64.wrap ((BitVec.ofInt 64 (a : Int) ||| BitVec.ofInt 64 (b : Int)).toNat : Int) = _
  rw [BitVec.toNat_or, h1, h2, IntWalk.i64_in _ (by omega)]
theorem or_byte (acc x k : Nat) (ha : acc < 256 ^ k) (hk : k < 6) (hx : x < 256) : bits BinOp.or IntKind.i64 (acc : Int) (wrap64 ((x : Int) * 2 ^ (8 * k))) = ((acc + 256 ^ k * x : Nat) : Int) := by
  have hp : (256 : Nat) ^ k ≤ 256 ^ 5 := Nat.pow_le_pow_right (by omega) (by omega)
  have h2 : x * 256 ^ k < 281474976710656 := by
    calc x * 256 ^ k ≤ 255 * 256 ^ 5 := Nat.mul_le_mul (by omega) hp
      _ < _ := by decide
  have h1 : acc < 281474976710656 := Nat.lt_of_lt_of_le ha (Nat.le_trans hp (by decide))
  have e1 : (x : Int) * 2 ^ (8 * k) = ((x * 256 ^ k : Nat) : Int) := by
    rw [show (256 : Nat) ^ k = 2 ^ (8 * k) by rw [Nat.pow_mul], Int.natCast_mul, Int.natCast_pow]
    rfl
  rw [e1, IntWalk.wrap64_in _ ⟨by omega, by omega⟩, or_i64_nat acc (x * 256 ^ k) (by omega) (by omega)]
  congr 1
  have e : (256 : Nat) ^ k = 2 ^ (8 * k) := by rw [Nat.pow_mul]
  rw [e] at ha ⊢
  rw [Nat.or_comm, Nat.mul_comm x, ← Nat.two_pow_add_eq_or_of_lt ha]
  omega
theorem ofLE_take (l : List Nat) (p k : Nat) (h : p + k < l.length) : ofLE ((l.drop p).take (k + 1)) = ofLE ((l.drop p).take k) + 256 ^ k * l.getD (p + k) 0 := by
  have e : (l.drop p).take (k + 1) = (l.drop p).take k ++ [l.getD (p + k) 0] := by
    rw [List.take_add_one, List.getElem?_drop, List.getD_eq_getElem?_getD, List.getElem?_eq_getElem h]
    rfl
  have hl : ((l.drop p).take k).length = k := by rw [List.length_take, List.length_drop]; omega
  rw [e, ofLE_append, hl]
  simp [ofLE]

set_option maxHeartbeats 1000000 in
theorem stampAt_any (l : List Nat) (hl : l.length = 64) (hs : ∀ x ∈ l, x < 256) (p : Nat) (hp : p ≤ 58) (w : World) :
    Calls Try.prog 146 #[.agg (secV l), .int .i64 (p : Int)] w fun e w' => e = .returned (.int .i64 ((ofLE ((l.drop p).take 6) : Nat) : Int)) ∧ Below w.heap.size w w' := by
  have hb : Below w.heap.size w (w.alloc (.cells (secV l) 75)) := (Below.refl _ w).alloc (Nat.le_refl _) _
  have hS : Sec (w.alloc (.cells (secV l) 75)) w.heap.size l := heap_alloc_new w _
  have HB := Lib.hid hb
  have HS := Lib.hid hS
  have HL := Lib.hid hl
  have HSM := Lib.hid hs
  clear hb hS hl hs
  go_enter Try.func146, Try.ntmps146
  go_wp2_with fail
  obtain ⟨w1, hw1⟩ : ∃ w1, w1 = w.alloc (.cells (secV l) 75) := ⟨_, rfl⟩
  rw [← hw1] at HB HS ⊢
  clear hw1
  go_loop [5, 7] (fun x i => ∃ k : Nat, k ≤ 6 ∧ i = .int .i64 (k : Int) ∧ x = .int .i64 ((ofLE ((l.drop p).take k) : Nat) : Int)) (fun _ i => 6 - (intOf i).toNat)
  case atStart => exact ⟨0, by omega, rfl, rfl⟩
  case round =>
    obtain ⟨k, hk, rfl, rfl⟩ := hrel
    by_cases hlt : k < 6
    · have hst := ofLE_take l p k (by rw [HL.out]; omega)
      have hlt' : ofLE ((l.drop p).take k) < 256 ^ k := by
        have := ofLE_lt ((l.drop p).take k) (fun x hx => HSM.out x (List.mem_of_mem_drop (List.mem_of_mem_take hx)))
        rw [List.length_take, List.length_drop, HL.out, show min k (64 - p) = k by omega] at this
        exact this
      obtain ⟨acc, hacc⟩ : ∃ acc, acc = ofLE ((l.drop p).take k) := ⟨_, rfl⟩
      rw [← hacc] at hst hlt' ⊢
      have hc := HS.out.cell (p + k) (by rw [HL.out]; omega)
      obtain ⟨x, hx⟩ : ∃ x, x = l.getD (p + k) 0 := ⟨_, rfl⟩
      rw [← hx] at hc hst
      have hx256 : x < 256 := by rw [hx]; exact getD_small HSM.out _
      have HST := Lib.hid hst
      have HOR := Lib.hid (or_byte acc x k hlt' hlt hx256)
      clear hacc hx hst hlt'
      go_wp2_with fail
      exact ⟨⟨k + 1, by omega, by go_num, by rw [HOR.out, HST.out]⟩, by simp [intOf]; omega⟩
    · obtain rfl : k = 6 := by omega
      go_wp2_with fail
      go_ret
      exact ⟨rfl, HB.out⟩
end Go.Proofs.Ytjmjehhmkjhalaa
