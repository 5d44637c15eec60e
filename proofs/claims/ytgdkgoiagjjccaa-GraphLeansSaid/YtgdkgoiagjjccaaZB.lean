/- Wide, Number, Product, Ops, Err, Total, Cmd, Cmd2, Steady, Open, Place, Open2, Ints, PlaceRef, PlaceRef2, Rowv, RowW: put together. -/
import Derived.Test.YtgdkgoiagjjccaaRows
import Derived.Test.YtgdkgoiagjjccaaZA
import Derived.WalkKit
import Derived.WalkLawsBesides
import Derived.WalkSpells
import Derived.Lib.Hide
import Derived.Outline
import Derived.Laws.Externs
import Derived.Deep.RegionHeld3
import Derived.Shelf.Bits.Mul64
import Derived.BigQuiet
import Derived.Deep.QuietTactic
import Derived.Deep.RegionWith
import Derived.Deep.Heap
import Derived.Deep.CutRange
import Derived.OpenShut
import Derived.ProofKit
import Derived.Deep.Slices
import Derived.Deep.Strs
import Derived.Laws.StructEq
import Derived.Laws.AppendOwnNone
import Derived.Laws.OwnMore
import Derived.Laws.AppendOwn
import Derived.OwnWalk
import Derived.Deep.RegionLaw
import Derived.Lib.SmallJoins
/- The contracts of arith's wide numbers. -/
namespace Go.Proofs.Ytgdkgoiagjjccaa
set_option maxRecDepth 100000
open Go.RowKit
/-- What a callee leaves of a block of the caller's own. -/
theorem kept_new {W w1 : World} (hb : Below W.heap.size W w1) {g : Nat} {C : Array Value} {t : TypeId} (h : W.heap[g]? = some (.cells C t (0, 0))) :
    (∀ j, w1.cell? ⟨g, j, none⟩ = C[j]?) ∧ (∀ j, w1.frozen? ⟨g, j, none⟩ = false) := by
  have hlt : g < W.heap.size := by
    rcases Nat.lt_or_ge g W.heap.size with h' | h'
    · exact h'
    · rw [Array.getElem?_eq_none h'] at h; cases h
  have h1 : w1.heap[g]? = some (.cells C t (0, 0)) := (hb.block g hlt).trans h
  exact ⟨fun j => by simp [World.cell?, h1], fun j => by simp [World.frozen?, h1]⟩
theorem heap2 (w : World) (o1 o2 : Obj) : ((w.alloc o1).alloc o2).heap[w.heap.size + 1]? = some o2 := by
  have h := heap_alloc_new (w.alloc o1) o2
  rwa [World.size_alloc] at h
theorem heap2' (w : World) (o1 o2 : Obj) : ((w.alloc o1).alloc o2).heap[w.heap.size]? = some o1 :=
  (Below.heap_alloc (w.alloc o1) o2 w.heap.size (by simp)).trans (heap_alloc_new w o1)
def wideV (z : Int) : Value := .agg #[.int .u64 (hi z), .int .u64 (lo z)]

theorem add64 (x y c : Int) (hx : Word x) (hy : Word y) (hc : c = 0 ∨ c = 1) (w : World) :
    (callFunc 104 #[.int .u64 x, .int .u64 y, .int .u64 c]).run Try.prog w =
      .ok (.value (.tuple #[.int .u64 ((x + y + c) % 18446744073709551616), .int .u64 ((x + y + c) / 18446744073709551616)])) w := by
  rw [run_callFunc_extern Try.func104 (by kernel_rfl) (by kernel_rfl) (by kernel_rfl) (e := add64Entry) (by kernel_rfl), run_add64 x y c hx.1 hy.1 (by omega) (by omega)]
  rfl
theorem add_lo (a b : Int) (w : World) : (callFunc 104 #[.int .u64 (lo a), .int .u64 (lo b), .int .u64 0]).run Try.prog w = .ok (.value (.tuple #[.int .u64 (lo (a + b)), .int .u64 (carry a b)])) w := by
  rw [add64 _ _ 0 (lo_word a) (lo_word b) (.inl rfl) w, Int.add_zero, lo_add]
  rfl
theorem add_hi (a b : Int) : ∃ k, ∀ w, (callFunc 104 #[.int .u64 (hi a), .int .u64 (hi b), .int .u64 (carry a b)]).run Try.prog w = .ok (.value (.tuple #[.int .u64 (hi (a + b)), .int .u64 k])) w := by
  refine ⟨(hi a + hi b + carry a b) / 18446744073709551616, fun w => ?_⟩
  rw [add64 _ _ _ (hi_word a) (hi_word b) (carry_is a b) w, hi_add]

set_option maxHeartbeats 400000 in
theorem widen_any (n : Int) (hn : Fits n) (w : World) :
    Calls Try.prog 93 #[.int .i64 n] w fun e w' => e = .returned (wideV n) ∧ Below w.heap.size w w' := by
  have h1 : IntKind.u64.wrap (n / 9223372036854775808) = hi n := by rw [IntKind.wrap_u64]; unfold Fits at hn; unfold hi; omega
  have h2 : IntKind.u64.wrap n = lo n := by rw [IntKind.wrap_u64]; rfl
  go_enter Try.func93, Try.ntmps93
  go_wp2
  exact bodyPost_ret (v := wideV n) (by simp [results, Try.results93, go_sem, wideV]) rfl ⟨rfl, (Below.refl _ _).alloc (Nat.le_refl _) _⟩
set_option maxHeartbeats 400000 in
theorem plus_any (a b : Int) (w : World) :
    Calls Try.prog 92 #[wideV a, wideV b] w fun e w' => e = .returned (wideV (a + b)) ∧ Below w.heap.size w w' := by
  have h1 := add_lo a b
  obtain ⟨k, h2⟩ := add_hi a b
  unfold wideV
  obtain ⟨s, hs⟩ : ∃ s, s = a + b := ⟨_, rfl⟩
  rw [← hs] at h1 h2 ⊢
  have HS := Lib.hid hs
  clear hs
  go_enter Try.func92, Try.ntmps92
  go_wp2
  exact bodyPost_ret (v := .agg #[.int .u64 (hi s), .int .u64 (lo s)]) (by simp [results, Try.results92, go_sem]) rfl ⟨rfl, (((Below.refl _ _).alloc (Nat.le_refl _) _).alloc (by simp) _).alloc (by simp; omega) _⟩
theorem not_word {x : Int} (h : Word x) : bits BinOp.xor IntKind.u64 IntKind.u64.max x = 18446744073709551615 - x := by
  obtain ⟨n, rfl⟩ := Int.eq_ofNat_of_zero_le h.1
  have hn : n < 18446744073709551616 := by have := h.2; omega
  have e := congrArg BitVec.toNat (BitVec.not_def (x := BitVec.ofNat 64 n))
  rw [BitVec.toNat_xor, BitVec.toNat_not, BitVec.toNat_allOnes, BitVec.toNat_ofNat, Nat.mod_eq_of_lt (by omega)] at e
  have hm : IntKind.u64.max = ((18446744073709551615 : Nat) : Int) := by decide
  have h1 : (18446744073709551615 : Nat) < 18446744073709551616 := by decide
  rw [hm, u64_xor_nat 18446744073709551615 n h1 hn]
  have e2 : 18446744073709551615 ^^^ n = 18446744073709551615 - n := e.symm
  rw [e2]; omega
set_option maxHeartbeats 400000 in
theorem opposite_any (a : Int) (w : World) :
    Calls Try.prog 103 #[wideV a] w fun e w' => e = .returned (wideV (-a)) ∧ Below w.heap.size w w' := by
  have h1 : bits BinOp.xor IntKind.u64 IntKind.u64.max (hi a) = hi (-a - 1) := by rw [not_word (hi_word a), hi_not]
  have h2 : bits BinOp.xor IntKind.u64 IntKind.u64.max (lo a) = lo (-a - 1) := by rw [not_word (lo_word a), lo_not]
  have C : ∀ w, Calls Try.prog 92 #[.agg #[.int .u64 (hi (-a - 1)), .int .u64 (lo (-a - 1))], .agg #[.int .u64 0, .int .u64 1]] w fun e w' => e = .returned (wideV (-a)) ∧ Below w.heap.size w w' := by
    intro w
    have h := plus_any (-a - 1) 1 w
    rw [neg_is] at h
    exact h
  unfold wideV at C ⊢
  obtain ⟨m, hm⟩ : ∃ m, m = -a - 1 := ⟨_, rfl⟩
  obtain ⟨t, ht⟩ : ∃ t, t = -a := ⟨_, rfl⟩
  rw [← hm] at h1 h2 C
  rw [← ht] at C ⊢
  clear hm ht
  have HC := Lib.hid C
  clear C
  go_enter Try.func103, Try.ntmps103
  go_wp2_with fail
  refine Calls.mono (HC.out _) ?_
  rintro e w1 ⟨rfl, hb1⟩
  obtain ⟨hc1, hf1⟩ := kept_new hb1 (g := w.heap.size + 1) (C := #[Value.int IntKind.u64 0, Value.int IntKind.u64 0]) (t := 145) (heap2 w _ _)
  have hsz := hb1.size
  have hbw : Below w.heap.size w w1 := (((Below.refl _ w).alloc (Nat.le_refl _) _).alloc (by simp) _).trans (hb1.mono (by simp; omega))
  have HB := Lib.hid hb1
  clear hb1
  go_wp2_with fail
  exact bodyPost_ret (v := .agg #[.int .u64 (hi t), .int .u64 (lo t)]) (by simp [results, Try.results103, go_sem, hc1]) rfl ⟨rfl, (hbw.setCell (by simp) _).setCell (by simp) _⟩
end Go.Proofs.Ytgdkgoiagjjccaa

/- The contract of a wide number as one of 64 bits, if it is one. -/
namespace Go.Proofs.Ytgdkgoiagjjccaa
set_option maxRecDepth 100000
open Go.RowKit

/-- The error ErrOver, as a value. -/
def over : Value := .iface 34 (.int .i64 7)
def numOf (z : Int) : Int := (z + 9223372036854775808) % 18446744073709551616 - 9223372036854775808
theorem numOf_fits (z : Int) : Fits (numOf z) := by unfold Fits numOf; omega
theorem numOf_same {z : Int} (h : Fits z) : numOf z = z := by unfold Fits at h; unfold numOf; omega

theorem below_held {w w1 : World} {o : Obj} (hb : Below (w.alloc o).drew.heap.size (w.alloc o).drew w1) : Below w.heap.size w w1 :=
  ((Below.refl _ w).alloc (Nat.le_refl _) o).drew.trans (hb.mono (by simp))

set_option maxHeartbeats 1000000 in
theorem number_yes (z : Int) (hf : Fits z) (w : World) :
    Calls Try.prog 91 #[wideV z] w fun e w' => e = .returned (.tuple #[.int .i64 z, .nilIface]) ∧ Below w.heap.size w w' := by
  have h1 : wrap64 (lo z) = z := by
    have : wrap64 (lo z) = numOf z := by unfold wrap64 numOf lo; omega
    rw [this]; exact numOf_same hf
  have C := fun w => widen_any z hf w
  unfold wideV at C ⊢
  have HC := Lib.hid C
  clear C
  go_enter Try.func91, Try.ntmps91
  go_wp2_with fail
  go_region_held3 (fun w' => w'.cell? ⟨w.heap.size, 0, none⟩ = some (.int .u64 (hi z)) ∧ w'.cell? ⟨w.heap.size, 1, none⟩ = some (.int .u64 (lo z)) ∧ w.heap.size < w'.heap.size)
    (first | go_keep | (go_split_ands; exact ⟨(hbK.cell (p := ⟨w.heap.size, 0, none⟩) (by assumption)).trans (by assumption), (hbK.cell (p := ⟨w.heap.size, 1, none⟩) (by assumption)).trans (by assumption), Nat.lt_of_lt_of_le (by assumption) hbK.size⟩))
    ((go_at_call 93; refine Calls.mono (HC.out _) ?_; rintro e w1 ⟨rfl, hbK⟩))
  go_wp2
  go_ret2
  exact ⟨rfl, below_held hbK⟩

set_option maxHeartbeats 1000000 in
theorem number_no (z : Int) (hz : Wide z) (hf : ¬ Fits z) (w : World) :
    Calls Try.prog 91 #[wideV z] w fun e w' => e = .returned (.tuple #[.int .i64 0, over]) ∧ Below w.heap.size w w' := by
  have h1 : wrap64 (lo z) = numOf z := by unfold wrap64 numOf lo; omega
  obtain ⟨n, hn⟩ : ∃ n, n = numOf z := ⟨_, rfl⟩
  have hnf : Fits n := by rw [hn]; exact numOf_fits z
  have hb := back_iff hz hn
  rw [← hn] at h1
  have hlo : lo n = lo z := by rw [hn]; unfold lo numOf; omega
  have C := fun w => widen_any n hnf w
  unfold wideV at C ⊢
  have HC := Lib.hid C
  have e1 : (hi n == hi z) = false := by
    rw [beq_eq_false_iff_ne]
    intro h
    exact hf (hb.1 ⟨h, hlo⟩)
  clear C hn hb hlo
  unfold over
  go_enter Try.func91, Try.ntmps91
  go_wp2_with fail
  go_region_held3 (fun w' => w'.cell? ⟨w.heap.size, 0, none⟩ = some (.int .u64 (hi z)) ∧ w'.cell? ⟨w.heap.size, 1, none⟩ = some (.int .u64 (lo z)) ∧ w.heap.size < w'.heap.size)
    (first | go_keep | (go_split_ands; exact ⟨(hbK.cell (p := ⟨w.heap.size, 0, none⟩) (by assumption)).trans (by assumption), (hbK.cell (p := ⟨w.heap.size, 1, none⟩) (by assumption)).trans (by assumption), Nat.lt_of_lt_of_le (by assumption) hbK.size⟩))
    ((go_at_call 93; refine Calls.mono (HC.out _) ?_; rintro e w1 ⟨rfl, hbK⟩))
  go_wp2
  go_ret2
  exact ⟨rfl, below_held hbK⟩

theorem below_two {w w1 : World} {o1 o2 : Obj} (hb : Below ((w.alloc o1).alloc o2).heap.size ((w.alloc o1).alloc o2) w1) : Below w.heap.size w w1 :=
  (((Below.refl _ w).alloc (Nat.le_refl _) o1).alloc (by simp) o2).trans (hb.mono (by simp; omega))

set_option maxHeartbeats 400000 in
theorem below_yes (z : Int) (hz : Wide z) (h0 : z < 0) (w : World) :
    Calls Try.prog 102 #[wideV z] w fun e w' => e = .returned (.bool true) ∧ Below w.heap.size w w' := by
  have h1 := hi_below hz h0
  unfold wideV
  go_enter Try.func102, Try.ntmps102
  go_wp2
  go_ret
  exact ⟨rfl, (Below.refl _ _).alloc (Nat.le_refl _) _⟩
set_option maxHeartbeats 400000 in
theorem below_no (z : Int) (hz : Wide z) (h0 : ¬ z < 0) (w : World) :
    Calls Try.prog 102 #[wideV z] w fun e w' => e = .returned (.bool false) ∧ Below w.heap.size w w' := by
  have h1 := hi_over hz h0
  unfold wideV
  go_enter Try.func102, Try.ntmps102
  go_wp2
  go_ret
  exact ⟨rfl, (Below.refl _ _).alloc (Nat.le_refl _) _⟩
set_option maxHeartbeats 400000 in
theorem size_neg (z : Int) (hz : Wide z) (h0 : z < 0) (w : World) :
    Calls Try.prog 101 #[wideV z] w fun e w' => e = .returned (wideV (-z)) ∧ Below w.heap.size w w' := by
  have C1 := fun w => below_yes z hz h0 w
  have C2 := fun w => opposite_any z w
  unfold wideV at C1 C2 ⊢
  obtain ⟨t, ht⟩ : ∃ t, t = -z := ⟨_, rfl⟩
  rw [← ht] at C2 ⊢
  have H1 := Lib.hid C1
  have H2 := Lib.hid C2
  clear C1 C2 ht
  go_enter Try.func101, Try.ntmps101
  go_wp2_with fail
  refine Calls.mono (H1.out _) ?_
  rintro e w1 ⟨rfl, hb1⟩
  obtain ⟨hc0, hf0⟩ := kept_new hb1 (heap2' w _ _)
  obtain ⟨hc1, hf1⟩ := kept_new hb1 (heap2 w _ _)
  have hbw := below_two hb1
  have hsz : w.heap.size + 1 < w1.heap.size := by have := hb1.size; simp at this; omega
  clear hb1
  go_wp2_with fail
  refine Calls.mono (H2.out _) ?_
  rintro e w2 ⟨rfl, hb2⟩
  have hc2 : ∀ j, w2.cell? ⟨w.heap.size + 1, j, none⟩ = w1.cell? ⟨w.heap.size + 1, j, none⟩ := fun j => hb2.cell (p := ⟨w.heap.size + 1, j, none⟩) hsz
  have hf2 : ∀ j, w2.frozen? ⟨w.heap.size + 1, j, none⟩ = w1.frozen? ⟨w.heap.size + 1, j, none⟩ := fun j => hb2.frozen (p := ⟨w.heap.size + 1, j, none⟩) hsz
  have hbw2 := hbw.trans (hb2.mono hbw.size)
  clear hb2
  go_wp2_with fail
  exact bodyPost_ret (v := .agg #[.int .u64 (hi t), .int .u64 (lo t)]) (by simp [results, Try.results101, go_sem, hc1, hc2]) rfl ⟨rfl, (hbw2.setCell (by simp) _).setCell (by simp) _⟩
set_option maxHeartbeats 400000 in
theorem size_pos (z : Int) (hz : Wide z) (h0 : ¬ z < 0) (w : World) :
    Calls Try.prog 101 #[wideV z] w fun e w' => e = .returned (wideV z) ∧ Below w.heap.size w w' := by
  have C1 := fun w => below_no z hz h0 w
  unfold wideV at C1 ⊢
  have H1 := Lib.hid C1
  clear C1
  go_enter Try.func101, Try.ntmps101
  go_wp2_with fail
  refine Calls.mono (H1.out _) ?_
  rintro e w1 ⟨rfl, hb1⟩
  obtain ⟨hc0, hf0⟩ := kept_new hb1 (heap2' w _ _)
  obtain ⟨hc1, hf1⟩ := kept_new hb1 (heap2 w _ _)
  have hbw := below_two hb1
  clear hb1
  go_wp2_with fail
  exact bodyPost_ret (v := .agg #[.int .u64 (hi z), .int .u64 (lo z)]) (by simp [results, Try.results101, go_sem, hc1]) rfl ⟨rfl, (hbw.setCell (by simp) _).setCell (by simp) _⟩
end Go.Proofs.Ytgdkgoiagjjccaa

/- The contracts of a product, and of Add, Sub, Mul. -/
namespace Go.Proofs.Ytgdkgoiagjjccaa
set_option maxRecDepth 100000
open Go.RowKit Go.Shelf

def ren : Go.Shelf.Ren := ⟨fun | 264 => 100 | n => n, fun | 53 => 102 | 46 => 86 | n => n, fun | n => n⟩
theorem lays264 : Go.Proofs.Lays.n264 Try.prog ren := {
  mixed := by kernel_rfl
  f264 := Try.func100.trans (congrArg some (by kernel_rfl))
  t46 := Try.underlying86
  a46 := Try.isAgg86
  z46 := Try.sizeOf86
  v46 := Try.zeroValue86
  t53 := Try.underlying102
  a53 := Try.isAgg102
  z53 := Try.sizeOf102
  v53 := Try.zeroValue102 }
theorem mul64 (A B : Nat) (hA : A < 18446744073709551616) (hB : B < 18446744073709551616) (w : World) :
    Calls Try.prog 100 #[.int .u64 (lo A), .int .u64 (lo B)] w fun e w' => e = .returned (.tuple #[.int .u64 (hi ((A * B : Nat) : Int)), .int .u64 (lo ((A * B : Nat) : Int))]) ∧ w = w' := by
  have h := Any.bits_Mul64 lays264 A B hA hB w
  have e1 : lo (A : Int) = (A : Int) := by unfold lo; omega
  have e2 : lo (B : Int) = (B : Int) := by unfold lo; omega
  have hAB : A * B < 340282366920938463463374607431768211456 := by
    calc A * B < 18446744073709551616 * 18446744073709551616 := Nat.mul_lt_mul'' hA hB
      _ = _ := by decide
  obtain ⟨m, hm⟩ : ∃ m, m = A * B := ⟨_, rfl⟩
  rw [← hm] at hAB h ⊢
  have e3 : hi (m : Int) = ((m / 18446744073709551616 : Nat) : Int) := by unfold hi; omega
  have e4 : lo (m : Int) = ((m % 18446744073709551616 : Nat) : Int) := by unfold lo; omega
  rw [e1, e2, e3, e4]
  exact Calls.mono h fun e w' hh => ⟨hh.1, hh.2.symm⟩

theorem run_lower (x y : Int) (w : World) : (Instr.field 145 (.agg #[.int .u64 x, .int .u64 y]) 1).run Try.prog w = .ok (.int .u64 y) w := by kernel_rfl
theorem size_any (z : Int) (hz : Wide z) (w : World) :
    Calls Try.prog 101 #[wideV z] w fun e w' => e = .returned (wideV (z.natAbs : Int)) ∧ Below w.heap.size w w' := by
  by_cases h0 : z < 0
  · have : ((z.natAbs : Nat) : Int) = -z := by omega
    rw [this]; exact size_neg z hz h0 w
  · have : ((z.natAbs : Nat) : Int) = z := by omega
    rw [this]; exact size_pos z hz h0 w
theorem below_any (z : Int) (hz : Wide z) (w : World) :
    Calls Try.prog 102 #[wideV z] w fun e w' => e = .returned (.bool (decide (z < 0))) ∧ Below w.heap.size w w' := by
  by_cases h0 : z < 0
  · rw [decide_eq_true h0]; exact below_yes z hz h0 w
  · rw [decide_eq_false h0]; exact below_no z hz h0 w

set_option maxHeartbeats 1000000 in
theorem product_any (a b : Int) (ha : Fits a) (hb : Fits b) (w : World) :
    Calls Try.prog 90 #[.int .i64 a, .int .i64 b] w fun e w' => e = .returned (wideV (a * b)) ∧ Below w.heap.size w w' := by
  have W1 := fun w => widen_any a ha w
  have W2 := fun w => widen_any b hb w
  have S1 := fun w => size_any a (fits_wide ha) w
  have S2 := fun w => size_any b (fits_wide hb) w
  have B1 := fun w => below_any a (fits_wide ha) w
  have B2 := fun w => below_any b (fits_wide hb) w
  have M := fun w => mul64 a.natAbs b.natAbs (by unfold Fits at ha; omega) (by unfold Fits at hb; omega) w
  have O := fun w => opposite_any ((a.natAbs * b.natAbs : Nat) : Int) w
  have hab : ((a.natAbs * b.natAbs : Nat) : Int) = if (decide (a < 0) != decide (b < 0)) = true then -(a * b) else a * b := by
    rw [Int.natCast_mul]
    by_cases h1 : a < 0 <;> by_cases h2 : b < 0
    · have e1 : ((a.natAbs : Nat) : Int) = -a := by omega
      have e2 : ((b.natAbs : Nat) : Int) = -b := by omega
      rw [e1, e2]; simp [h1, h2, Int.neg_mul_neg]
    · have e1 : ((a.natAbs : Nat) : Int) = -a := by omega
      have e2 : ((b.natAbs : Nat) : Int) = b := by omega
      rw [e1, e2]; simp [h1, h2, Int.neg_mul]
    · have e1 : ((a.natAbs : Nat) : Int) = a := by omega
      have e2 : ((b.natAbs : Nat) : Int) = -b := by omega
      rw [e1, e2]; simp [h1, h2, Int.mul_neg]
    · have e1 : ((a.natAbs : Nat) : Int) = a := by omega
      have e2 : ((b.natAbs : Nat) : Int) = b := by omega
      rw [e1, e2]; simp [h1, h2]
  obtain ⟨A, hA⟩ : ∃ A, A = ((a.natAbs : Nat) : Int) := ⟨_, rfl⟩
  obtain ⟨B, hB⟩ : ∃ B, B = ((b.natAbs : Nat) : Int) := ⟨_, rfl⟩
  obtain ⟨m, hm⟩ : ∃ m, m = ((a.natAbs * b.natAbs : Nat) : Int) := ⟨_, rfl⟩
  obtain ⟨p, hp⟩ : ∃ p, p = a * b := ⟨_, rfl⟩
  rw [← hA] at S1 M
  rw [← hB] at S2 M
  rw [← hm] at M O hab
  rw [← hp] at hab ⊢
  obtain ⟨x, hx⟩ : ∃ x, x = decide (a < 0) := ⟨_, rfl⟩
  obtain ⟨y, hy⟩ : ∃ y, y = decide (b < 0) := ⟨_, rfl⟩
  rw [← hx] at B1 hab
  rw [← hy] at B2 hab
  unfold wideV at *
  have HW1 := Lib.hid W1
  have HW2 := Lib.hid W2
  have HS1 := Lib.hid S1
  have HS2 := Lib.hid S2
  have HB1 := Lib.hid B1
  have HB2 := Lib.hid B2
  have HM := Lib.hid M
  have HO := Lib.hid O
  clear W1 W2 S1 S2 B1 B2 M O hA hB hm hp hx hy ha hb
  have hfd := run_lower
  by_cases hd : (x != y) = true
  · rw [if_pos hd] at hab
    have hpm : -m = p := by omega
    rw [hpm] at HO
    have he : (x == y) = false := by cases x <;> cases y <;> simp_all
    clear hab hpm hd
    go_enter Try.func90, Try.ntmps90
    go_wp2_with fail
    refine Calls.mono (HW1.out _) ?_
    rintro e w1 ⟨rfl, hb1⟩
    go_wp2_with fail
    refine Calls.mono (HW2.out _) ?_
    rintro e w2 ⟨rfl, hb2⟩
    have hb12 := hb1.trans (hb2.mono hb1.size)
    have hk2 := kept_new hb12 (heap_alloc_new w _)
    have hbw2 : Below w.heap.size w w2 := ((Below.refl _ w).alloc (Nat.le_refl _) _).trans (hb12.mono (by simp))
    have hsz2 : w.heap.size < w2.heap.size := by have := hb12.size; simp at this; omega
    have HK := Lib.hid hk2
    clear hb1 hb2 hb12 hk2
    go_wp2_with fail
    go_region_held3 (fun w' => w'.cell? ⟨w2.heap.size, 0, none⟩ = some (.int .u64 (hi a)) ∧ w'.cell? ⟨w2.heap.size, 1, none⟩ = some (.int .u64 (lo a)) ∧ w'.cell? ⟨w2.heap.size + 1, 0, none⟩ = some (.int .u64 (hi b)) ∧ w'.cell? ⟨w2.heap.size + 1, 1, none⟩ = some (.int .u64 (lo b)) ∧ w2.heap.size + 1 < w'.heap.size ∧ Below w2.heap.size w2 w')
      (first | (refine ⟨by simp [go_sem], by simp [go_sem], by simp [go_sem], by simp [go_sem], by simp, ?_⟩; exact (((Below.refl _ w2).alloc (Nat.le_refl _) _).alloc (by simp) _).drew) | go_keep | (go_split_ands; exact ⟨(hbK.cell (p := ⟨w2.heap.size, 0, none⟩) (by simp; omega)).trans (by assumption), (hbK.cell (p := ⟨w2.heap.size, 1, none⟩) (by simp; omega)).trans (by assumption), (hbK.cell (p := ⟨w2.heap.size + 1, 0, none⟩) (by assumption)).trans (by assumption), (hbK.cell (p := ⟨w2.heap.size + 1, 1, none⟩) (by assumption)).trans (by assumption), Nat.lt_of_lt_of_le (by assumption) hbK.size, Below.trans (by assumption) (hbK.mono (by omega))⟩))
      (first | (go_at_call 101; refine Calls.mono (HS1.out _) ?_; rintro e w3 ⟨rfl, hbK⟩) | (go_at_call 101; refine Calls.mono (HS2.out _) ?_; rintro e w3 ⟨rfl, hbK⟩) | (go_at_call 100; refine Calls.mono (HM.out _) ?_; rintro e w3 ⟨rfl, rfl⟩))
    rename_i hHeld
    obtain ⟨k1, k2, k3, k4, k5, k6⟩ := hHeld
    clear hbK
    go_wp2_with fail
    go_region_held3 (fun w' => w'.cell? ⟨w2.heap.size, 0, none⟩ = some (.int .u64 (hi a)) ∧ w'.cell? ⟨w2.heap.size, 1, none⟩ = some (.int .u64 (lo a)) ∧ w'.cell? ⟨w2.heap.size + 1, 0, none⟩ = some (.int .u64 (hi b)) ∧ w'.cell? ⟨w2.heap.size + 1, 1, none⟩ = some (.int .u64 (lo b)) ∧ w2.heap.size + 1 < w'.heap.size ∧ Below w2.heap.size w2 w')
      (first | (exact ⟨k1, k2, k3, k4, k5, k6.drew⟩) | go_keep | (go_split_ands; exact ⟨(hbK.cell (p := ⟨w2.heap.size, 0, none⟩) (by simp; omega)).trans (by assumption), (hbK.cell (p := ⟨w2.heap.size, 1, none⟩) (by simp; omega)).trans (by assumption), (hbK.cell (p := ⟨w2.heap.size + 1, 0, none⟩) (by assumption)).trans (by assumption), (hbK.cell (p := ⟨w2.heap.size + 1, 1, none⟩) (by assumption)).trans (by assumption), Nat.lt_of_lt_of_le (by assumption) hbK.size, Below.trans (by assumption) (hbK.mono (by omega))⟩))
      (first | (go_at_call 102; refine Calls.mono (HB1.out _) ?_; rintro e w4 ⟨rfl, hbK⟩) | (go_at_call 102; refine Calls.mono (HB2.out _) ?_; rintro e w4 ⟨rfl, hbK⟩))
    rename_i hHeld2
    obtain ⟨m1, m2, m3, m4, m5, m6⟩ := hHeld2
    have hc4 : ∀ j, w4.cell? ⟨w.heap.size, j, none⟩ = #[Value.int .u64 0, Value.int .u64 0][j]? := fun j => (m6.cell (p := ⟨w.heap.size, j, none⟩) hsz2).trans (HK.out.1 j)
    have hf4 : ∀ j, w4.frozen? ⟨w.heap.size, j, none⟩ = false := fun j => (m6.frozen (p := ⟨w.heap.size, j, none⟩) hsz2).trans (HK.out.2 j)
    have hbw4 : Below w.heap.size w w4 := hbw2.trans (m6.mono hbw2.size)
    have hsz4 := m6.size
    clear k1 k2 k3 k4 k5 k6 m1 m2 m3 m4 m5 m6 hbK
    go_wp2_with fail
    refine Calls.mono (HO.out _) ?_
    rintro e w5 ⟨rfl, hb5⟩
    have hc5 : ∀ j, w5.cell? ⟨w.heap.size, j, none⟩ = w4.cell? ⟨w.heap.size, j, none⟩ := fun j => hb5.cell (p := ⟨w.heap.size, j, none⟩) (by show w.heap.size < _; omega)
    have hf5 : ∀ j, w5.frozen? ⟨w.heap.size, j, none⟩ = w4.frozen? ⟨w.heap.size, j, none⟩ := fun j => hb5.frozen (p := ⟨w.heap.size, j, none⟩) (by show w.heap.size < _; omega)
    have hbw5 := hbw4.trans (hb5.mono (by omega))
    clear hb5
    go_wp2_with fail
    exact bodyPost_ret (v := .agg #[.int .u64 (hi p), .int .u64 (lo p)]) (by simp [results, Try.results90, go_sem, hc5, hc4]) rfl ⟨rfl, (hbw5.setCell (by simp) _).setCell (by simp) _⟩
  · rw [if_neg hd] at hab
    rw [hab] at HM
    have he : (x == y) = true := by cases x <;> cases y <;> simp_all
    clear hd hab
    go_enter Try.func90, Try.ntmps90
    go_wp2_with fail
    refine Calls.mono (HW1.out _) ?_
    rintro e w1 ⟨rfl, hb1⟩
    go_wp2_with fail
    refine Calls.mono (HW2.out _) ?_
    rintro e w2 ⟨rfl, hb2⟩
    have hb12 := hb1.trans (hb2.mono hb1.size)
    have hk2 := kept_new hb12 (heap_alloc_new w _)
    have hbw2 : Below w.heap.size w w2 := ((Below.refl _ w).alloc (Nat.le_refl _) _).trans (hb12.mono (by simp))
    have hsz2 : w.heap.size < w2.heap.size := by have := hb12.size; simp at this; omega
    have HK := Lib.hid hk2
    clear hb1 hb2 hb12 hk2
    go_wp2_with fail
    go_region_held3 (fun w' => w'.cell? ⟨w2.heap.size, 0, none⟩ = some (.int .u64 (hi a)) ∧ w'.cell? ⟨w2.heap.size, 1, none⟩ = some (.int .u64 (lo a)) ∧ w'.cell? ⟨w2.heap.size + 1, 0, none⟩ = some (.int .u64 (hi b)) ∧ w'.cell? ⟨w2.heap.size + 1, 1, none⟩ = some (.int .u64 (lo b)) ∧ w2.heap.size + 1 < w'.heap.size ∧ Below w2.heap.size w2 w')
      (first | (refine ⟨by simp [go_sem], by simp [go_sem], by simp [go_sem], by simp [go_sem], by simp, ?_⟩; exact (((Below.refl _ w2).alloc (Nat.le_refl _) _).alloc (by simp) _).drew) | go_keep | (go_split_ands; exact ⟨(hbK.cell (p := ⟨w2.heap.size, 0, none⟩) (by simp; omega)).trans (by assumption), (hbK.cell (p := ⟨w2.heap.size, 1, none⟩) (by simp; omega)).trans (by assumption), (hbK.cell (p := ⟨w2.heap.size + 1, 0, none⟩) (by assumption)).trans (by assumption), (hbK.cell (p := ⟨w2.heap.size + 1, 1, none⟩) (by assumption)).trans (by assumption), Nat.lt_of_lt_of_le (by assumption) hbK.size, Below.trans (by assumption) (hbK.mono (by omega))⟩))
      (first | (go_at_call 101; refine Calls.mono (HS1.out _) ?_; rintro e w3 ⟨rfl, hbK⟩) | (go_at_call 101; refine Calls.mono (HS2.out _) ?_; rintro e w3 ⟨rfl, hbK⟩) | (go_at_call 100; refine Calls.mono (HM.out _) ?_; rintro e w3 ⟨rfl, rfl⟩))
    rename_i hHeld
    obtain ⟨k1, k2, k3, k4, k5, k6⟩ := hHeld
    clear hbK
    go_wp2_with fail
    go_region_held3 (fun w' => w'.cell? ⟨w2.heap.size, 0, none⟩ = some (.int .u64 (hi a)) ∧ w'.cell? ⟨w2.heap.size, 1, none⟩ = some (.int .u64 (lo a)) ∧ w'.cell? ⟨w2.heap.size + 1, 0, none⟩ = some (.int .u64 (hi b)) ∧ w'.cell? ⟨w2.heap.size + 1, 1, none⟩ = some (.int .u64 (lo b)) ∧ w2.heap.size + 1 < w'.heap.size ∧ Below w2.heap.size w2 w')
      (first | (exact ⟨k1, k2, k3, k4, k5, k6.drew⟩) | go_keep | (go_split_ands; exact ⟨(hbK.cell (p := ⟨w2.heap.size, 0, none⟩) (by simp; omega)).trans (by assumption), (hbK.cell (p := ⟨w2.heap.size, 1, none⟩) (by simp; omega)).trans (by assumption), (hbK.cell (p := ⟨w2.heap.size + 1, 0, none⟩) (by assumption)).trans (by assumption), (hbK.cell (p := ⟨w2.heap.size + 1, 1, none⟩) (by assumption)).trans (by assumption), Nat.lt_of_lt_of_le (by assumption) hbK.size, Below.trans (by assumption) (hbK.mono (by omega))⟩))
      (first | (go_at_call 102; refine Calls.mono (HB1.out _) ?_; rintro e w4 ⟨rfl, hbK⟩) | (go_at_call 102; refine Calls.mono (HB2.out _) ?_; rintro e w4 ⟨rfl, hbK⟩))
    rename_i hHeld2
    obtain ⟨m1, m2, m3, m4, m5, m6⟩ := hHeld2
    have hc4 : ∀ j, w4.cell? ⟨w.heap.size, j, none⟩ = #[Value.int .u64 0, Value.int .u64 0][j]? := fun j => (m6.cell (p := ⟨w.heap.size, j, none⟩) hsz2).trans (HK.out.1 j)
    have hf4 : ∀ j, w4.frozen? ⟨w.heap.size, j, none⟩ = false := fun j => (m6.frozen (p := ⟨w.heap.size, j, none⟩) hsz2).trans (HK.out.2 j)
    have hbw4 : Below w.heap.size w w4 := hbw2.trans (m6.mono hbw2.size)
    have hsz4 := m6.size
    clear k1 k2 k3 k4 k5 k6 m1 m2 m3 m4 m5 m6 hbK
    go_wp2_with fail
    exact bodyPost_ret (v := .agg #[.int .u64 (hi p), .int .u64 (lo p)]) (by simp [results, Try.results90, go_sem, hc4]) rfl ⟨rfl, (hbw4.setCell (by simp) _).setCell (by simp) _⟩
end Go.Proofs.Ytgdkgoiagjjccaa

/- The contracts of arith.Add, Sub, Mul. -/
namespace Go.Proofs.Ytgdkgoiagjjccaa
set_option maxRecDepth 100000
open Go.RowKit

/-- What a call answers of a whole number: it, or ErrOver. -/
def numV (z : Int) : Value := if -9223372036854775808 ≤ z ∧ z ≤ 9223372036854775807 then .tuple #[.int .i64 z, .nilIface] else .tuple #[.int .i64 0, over]
theorem numV_yes {z : Int} (h : Fits z) : numV z = .tuple #[.int .i64 z, .nilIface] := if_pos h
theorem numV_no {z : Int} (h : ¬ Fits z) : numV z = .tuple #[.int .i64 0, over] := if_neg h
/-- The value and the error by themselves. -/
def numN (z : Int) : Int := if -9223372036854775808 ≤ z ∧ z ≤ 9223372036854775807 then z else 0
def numE (z : Int) : Value := if -9223372036854775808 ≤ z ∧ z ≤ 9223372036854775807 then .nilIface else over
theorem numV_eq (z : Int) : numV z = .tuple #[.int .i64 (numN z), numE z] := by
  unfold numV numN numE; split <;> rfl
theorem number_any (z : Int) (hz : Wide z) (w : World) :
    Calls Try.prog 91 #[wideV z] w fun e w' => e = .returned (.tuple #[.int .i64 (numN z), numE z]) ∧ Below w.heap.size w w' := by
  rw [← numV_eq]
  by_cases h : Fits z
  · rw [numV_yes h]; exact number_yes z h w
  · rw [numV_no h]; exact number_no z hz h w

theorem prod_wide {a b : Int} (ha : Fits a) (hb : Fits b) : Wide (a * b) := by
  have h : (a * b).natAbs ≤ 9223372036854775808 * 9223372036854775808 := by
    rw [Int.natAbs_mul]
    exact Nat.mul_le_mul (by unfold Fits at ha; omega) (by unfold Fits at hb; omega)
  have e : 9223372036854775808 * 9223372036854775808 = 85070591730234615865843651857942052864 := by decide
  rw [e] at h
  unfold Wide; omega

set_option maxHeartbeats 400000 in
theorem mul_any (a b : Int) (ha : Fits a) (hb : Fits b) (w : World) :
    Calls Try.prog 76 #[.int .i64 a, .int .i64 b] w fun e w' => e = .returned (numV (a * b)) ∧ Below w.heap.size w w' := by
  have P := fun w => product_any a b ha hb w
  have N := fun w => number_any (a * b) (prod_wide ha hb) w
  rw [numV_eq]
  obtain ⟨n, hn⟩ : ∃ n, n = numN (a * b) := ⟨_, rfl⟩
  obtain ⟨v, hv⟩ : ∃ v, v = numE (a * b) := ⟨_, rfl⟩
  obtain ⟨s, hs⟩ : ∃ s, s = a * b := ⟨_, rfl⟩
  rw [← hn, ← hv] at N ⊢
  rw [← hs] at P N
  have H3 := Lib.hid P
  have H4 := Lib.hid N
  clear P N hn hv hs
  go_enter Try.func76, Try.ntmps76
  go_wp2_with fail
  refine Calls.mono (H3.out _) ?_
  rintro e w1 ⟨rfl, hb1⟩
  go_wp2_with fail
  refine Calls.mono (H4.out _) ?_
  rintro e w2 ⟨rfl, hb2⟩
  have hbw := hb1.trans (hb2.mono hb1.size)
  have HB := Lib.hid hbw
  clear hb1 hb2 hbw
  go_wp2_with fail
  go_ret2
  exact ⟨rfl, HB.out⟩
end Go.Proofs.Ytgdkgoiagjjccaa

/- The contracts of num.Num and num.Is at no error and at ErrOver. -/
namespace Go.Proofs.Ytgdkgoiagjjccaa
set_option maxRecDepth 100000
open Go.RowKit

theorem as37 (v : Value) (w : World) : (Instr.typeAssert (.iface 34 v) 28 34 true).run Try.prog w = .ok (.tuple #[v, .bool true]) w := by kernel_rfl

set_option maxHeartbeats 1000000 in
theorem num_over (w : World) : Calls Try.prog 23 #[over] w fun e w' => e = .returned (.int .i64 7) ∧ w = w' := by
  have h1 := as37
  unfold over
  go_enter Try.func23, Try.ntmps23
  go_wp2
  refine wp_loop_rounds 1 ?_
  rw [rounds_succ]
  go_wp2
  go_ret
  exact ⟨rfl, rfl⟩
set_option maxHeartbeats 1000000 in
theorem num_nil (w : World) : Calls Try.prog 23 #[.nilIface] w fun e w' => e = .returned (.int .i64 0) ∧ w = w' := by
  go_enter Try.func23, Try.ntmps23
  go_wp2
  refine wp_loop_rounds 1 ?_
  rw [rounds_succ]
  go_wp2
  go_ret
  exact ⟨rfl, rfl⟩
set_option maxHeartbeats 400000 in
theorem is_over (w : World) : Calls Try.prog 18 #[over, .int .i64 7] w fun e w' => e = .returned (.bool true) ∧ w = w' := by
  have C := fun w => num_over w
  unfold over at C ⊢
  have HC := Lib.hid C
  clear C
  go_enter Try.func18, Try.ntmps18
  go_wp2_with fail
  refine Calls.mono (HC.out _) ?_
  rintro e w' ⟨rfl, rfl⟩
  go_wp2_with fail
  go_ret
  exact ⟨rfl, rfl⟩
set_option maxHeartbeats 400000 in
theorem is_nil (w : World) : Calls Try.prog 18 #[.nilIface, .int .i64 7] w fun e w' => e = .returned (.bool false) ∧ w = w' := by
  have C := fun w => num_nil w
  have HC := Lib.hid C
  clear C
  go_enter Try.func18, Try.ntmps18
  go_wp2_with fail
  refine Calls.mono (HC.out _) ?_
  rintro e w' ⟨rfl, rfl⟩
  go_wp2_with fail
  go_ret
  exact ⟨rfl, rfl⟩
end Go.Proofs.Ytgdkgoiagjjccaa

/- The contract of arith.Total. -/
namespace Go.Proofs.Ytgdkgoiagjjccaa
set_option maxRecDepth 100000
open Go.RowKit

/-- A slice that reads as whole numbers of 64 bits. -/
def Nums (w : World) (A : Option Addr) (n : Nat) (xs : List Int) : Prop :=
  xs.length = n ∧ (∀ x ∈ xs, Fits x) ∧ (0 < n → ∃ b off, A = some ⟨b, off, none⟩ ∧ ∀ j, j < n → w.cell? ⟨b, off + j, none⟩ = some (.int .i64 (xs.getD j 0)))
def sumZ (xs : List Int) : Int := xs.foldl (· + ·) 0
theorem sumZ_snoc (xs : List Int) (k : Nat) (h : k < xs.length) : sumZ (xs.take (k + 1)) = sumZ (xs.take k) + xs.getD k 0 := by
  unfold sumZ
  rw [List.take_succ_eq_append_getElem h, List.foldl_append]
  simp [List.getD_eq_getElem?_getD, h]
theorem getD_fits {xs : List Int} (h : ∀ x ∈ xs, Fits x) (k : Nat) : Fits (xs.getD k 0) := by
  rw [List.getD_eq_getElem?_getD]
  by_cases hk : k < xs.length
  · rw [List.getElem?_eq_getElem hk]; exact h _ (List.getElem_mem hk)
  · rw [List.getElem?_eq_none (by omega)]; unfold Fits; simp
theorem sumZ_bound {xs : List Int} (h : ∀ x ∈ xs, Fits x) (k : Nat) (hk : k ≤ xs.length) : -(9223372036854775808 * (k : Int)) ≤ sumZ (xs.take k) ∧ sumZ (xs.take k) ≤ 9223372036854775808 * (k : Int) := by
  induction k with
  | zero => simp [sumZ]
  | succ k ih =>
    have := ih (by omega)
    have hf := getD_fits h k
    unfold Fits at hf
    rw [sumZ_snoc xs k (by omega)]
    omega

set_option maxHeartbeats 1000000 in
theorem total_any (A : Option Addr) (n c : Nat) (xs : List Int) (w : World) (hb : Nums w A n xs) (hn : n ≤ 9223372036854775807) :
    Calls Try.prog 77 #[.slice A n c] w fun e w' => e = .returned (.tuple #[.int .i64 (numN (sumZ xs)), numE (sumZ xs)]) ∧ Below w.heap.size w w' := by
  obtain ⟨hl, hx, hc⟩ := hb
  have hbd := sumZ_bound hx n (by omega)
  rw [List.take_of_length_le (by omega)] at hbd
  have hwd : Wide (sumZ xs) := by unfold Wide; omega
  have N := fun w => number_any (sumZ xs) hwd w
  unfold wideV at N
  obtain ⟨m, hm⟩ : ∃ m, m = numN (sumZ xs) := ⟨_, rfl⟩
  obtain ⟨v, hv⟩ : ∃ v, v = numE (sumZ xs) := ⟨_, rfl⟩
  rw [← hm, ← hv] at N ⊢
  have HN := Lib.hid N
  have HL := Lib.hid hl
  clear hl N hm hv hwd hbd
  go_enter Try.func77, Try.ntmps77
  go_wp2
  go_loopw [6, 10] (fun _ i wr => ∃ k : Nat, k ≤ n ∧ i = .int .i64 k ∧ wr.cell? ⟨w.heap.size, 0, none⟩ = some (.int .u64 (hi (sumZ (xs.take k)))) ∧ wr.cell? ⟨w.heap.size, 1, none⟩ = some (.int .u64 (lo (sumZ (xs.take k)))) ∧
      wr.frozen? ⟨w.heap.size, 0, none⟩ = false ∧ wr.frozen? ⟨w.heap.size, 1, none⟩ = false ∧ w.heap.size < wr.heap.size ∧ Below w.heap.size w wr) (fun _ i _ => n - (intOf i).toNat)
  case atStart => exact ⟨0, Nat.zero_le _, rfl, by simp [go_sem]; rfl, by simp [go_sem]; rfl, by simp [go_sem], by simp [go_sem], by simp, (Below.refl _ _).alloc (Nat.le_refl _) _⟩
  case round =>
    obtain ⟨k, hk, rfl, c0, c1, f0, f1, hsz, hbr⟩ := hrel
    by_cases hlt : k < n
    · obtain ⟨b, off, rfl, hc'⟩ := hc (by omega)
      have hck := hc' k hlt
      obtain ⟨x, hxe⟩ : ∃ x, x = xs.getD k 0 := ⟨_, rfl⟩
      have hxf : Fits x := by rw [hxe]; exact getD_fits hx k
      rw [← hxe] at hck
      have hckr := (hbr.cell (p := ⟨b, off + k, none⟩) (World.block_lt_of_cell? _ _ hck)).trans hck
      have hsn := sumZ_snoc xs k (by rw [HL.out]; exact hlt)
      rw [← hxe] at hsn
      obtain ⟨s, hs⟩ : ∃ s, s = sumZ (xs.take k) := ⟨_, rfl⟩
      rw [← hs] at c0 c1 hsn
      have W1 := fun w => widen_any x hxf w
      have P := fun w => plus_any s x w
      unfold wideV at W1 P
      have hsx : s + x = sumZ (xs.take (k + 1)) := hsn.symm
      rw [hsx] at P
      obtain ⟨t, ht⟩ : ∃ t, t = sumZ (xs.take (k + 1)) := ⟨_, rfl⟩
      rw [← ht] at P
      have HW := Lib.hid W1
      have HP := Lib.hid P
      have HT := Lib.hid ht
      clear hxe hsn hs hsx ht W1 P hck hc' hc hx
      go_wp2_with fail
      go_region_with (first | (go_at_call 93; refine Calls.mono (HW.out _) ?_; rintro e w1 ⟨rfl, hb1⟩; have q0 := (hb1.cell (p := ⟨w.heap.size, 0, none⟩) (by simpa using hsz)); have q1 := (hb1.cell (p := ⟨w.heap.size, 1, none⟩) (by simpa using hsz)); have g0 := (hb1.frozen (p := ⟨w.heap.size, 0, none⟩) (by simpa using hsz)); have g1 := (hb1.frozen (p := ⟨w.heap.size, 1, none⟩) (by simpa using hsz)); have z1 := hb1.size) | (go_at_call 92; refine Calls.mono (HP.out _) ?_; rintro e w2 ⟨rfl, hb2⟩; have q2 := (hb2.cell (p := ⟨w.heap.size, 0, none⟩) (by simp at z1 ⊢; omega)); have q3 := (hb2.cell (p := ⟨w.heap.size, 1, none⟩) (by simp at z1 ⊢; omega)); have g2 := (hb2.frozen (p := ⟨w.heap.size, 0, none⟩) (by simp at z1 ⊢; omega)); have g3 := (hb2.frozen (p := ⟨w.heap.size, 1, none⟩) (by simp at z1 ⊢; omega)); have z2 := hb2.size))
      all_goals
        have hb12 : Below w.heap.size w w2 := (hbr.drew.trans (hb1.mono (by simp; omega))).trans (hb2.mono (by simp at z1; omega))
        have r0 : w2.cell? ⟨w.heap.size, 0, none⟩ = some (.int .u64 (hi s)) := q2.trans (q0.trans c0)
        have r1 : w2.cell? ⟨w.heap.size, 1, none⟩ = some (.int .u64 (lo s)) := q3.trans (q1.trans c1)
        have r2 : w2.frozen? ⟨w.heap.size, 0, none⟩ = false := g2.trans (g0.trans f0)
        have r3 : w2.frozen? ⟨w.heap.size, 1, none⟩ = false := g3.trans (g1.trans f1)
        have hsz2 : w.heap.size < w2.heap.size := by simp at z1; omega
        clear q0 q1 q2 q3 g0 g1 g2 g3 c0 c1 f0 f1 hb1 hb2 hckr hbr
        go_wp2_with fail
        go_roundw
        case rel => exact ⟨k + 1, by omega, by go_num, by rw [← HT.out]; simp [go_sem, r0], by rw [← HT.out]; simp [go_sem, r1], by simp [go_sem, r2], by simp [go_sem, r3], by simpa using hsz2, (hb12.setCell (by simp) _).setCell (by simp) _⟩
        case measure => simp [intOf]; omega
    · have hfl : xs.take k = xs := List.take_of_length_le (by rw [HL.out]; omega)
      rw [hfl] at c0 c1
      clear hfl
      go_wp2_with fail
      refine Calls.mono (HN.out _) ?_
      rintro e w3 ⟨rfl, hb3⟩
      have hbw := hbr.trans (hb3.mono (by omega))
      have HB := Lib.hid hbw
      clear hb3 hbw
      go_wp2_with fail
      go_ret2
      exact ⟨rfl, HB.out⟩
end Go.Proofs.Ytgdkgoiagjjccaa

/- The contracts of cost's asValues and asCommand. -/
namespace Go.Proofs.Ytgdkgoiagjjccaa
set_option maxRecDepth 100000
open Go.RowKit

instance (z : Int) : Decidable (Fits z) := by unfold Fits; infer_instance
/-- A policy's value. -/
abbrev polV (B C F W P : Int) : Value := .agg #[.int .i64 B, .int .i64 C, .int .i64 F, .int .i64 W, .int .i64 P]
/-- What a command costs; where that is beyond, a number beyond. -/
def cz (B C F b f : Int) : Int := if Fits (C * b) ∧ Fits (F * f) then B + C * b + F * f else 18446744073709551616
theorem numN_yes {z : Int} (h : Fits z) : numN z = z := if_pos h
theorem numE_yes {z : Int} (h : Fits z) : numE z = .nilIface := if_pos h
theorem numN_no {z : Int} (h : ¬ Fits z) : numN z = 0 := if_neg h
theorem numE_no {z : Int} (h : ¬ Fits z) : numE z = over := if_neg h
theorem mul_num (a b : Int) (ha : Fits a) (hb : Fits b) (w : World) : Calls Try.prog 76 #[.int .i64 a, .int .i64 b] w fun e w' => e = .returned (.tuple #[.int .i64 (numN (a * b)), numE (a * b)]) ∧ Below w.heap.size w w' := by
  rw [← numV_eq]; exact mul_any a b ha hb w
theorem nums3 (w : World) (a b c : Int) (ha : Fits a) (hb : Fits b) (hc : Fits c) : Nums (w.alloc (.cells #[.int .i64 a, .int .i64 b, .int .i64 c] 3)) (some ⟨w.heap.size, 0, none⟩) 3 [a, b, c] := by
  refine ⟨rfl, ?_, fun _ => ⟨_, _, rfl, fun j hj => ?_⟩⟩
  · intro x hx
    simp at hx
    rcases hx with rfl | rfl | rfl
    · exact ha
    · exact hb
    · exact hc
  · rw [Nat.zero_add, World.cell?_alloc_mark]
    match j, hj with
    | 0, _ => rfl
    | 1, _ => rfl
    | 2, _ => rfl

set_option maxHeartbeats 1000000 in
theorem asValues_any (B C F W P n : Int) (hW : Fits W) (hn : Fits n) (w : World) :
    Calls Try.prog 53 #[polV B C F W P, .int .i64 n] w fun e w' => e = .returned (.tuple #[.int .i64 (numN (W * n)), numE (W * n)]) ∧ Below w.heap.size w w' := by
  have C1 := fun w => mul_num W n hW hn w
  obtain ⟨m, hm⟩ : ∃ m, m = numN (W * n) := ⟨_, rfl⟩
  obtain ⟨v, hv⟩ : ∃ v, v = numE (W * n) := ⟨_, rfl⟩
  rw [← hm, ← hv] at C1
  rw [← hm, ← hv]
  have H1 := Lib.hid C1
  have HB := Lib.hid (show Below w.heap.size w (w.alloc (.cells #[.int .i64 B, .int .i64 C, .int .i64 F, .int .i64 W, .int .i64 P] 23)) from (Below.refl _ w).alloc (Nat.le_refl _) _)
  clear C1 hm hv hW hn
  go_enter Try.func53, Try.ntmps53
  go_wp2_with fail
  refine Calls.mono (H1.out _) ?_
  rintro e w1 ⟨rfl, hb1⟩
  have HE := Lib.hid (HB.out.trans (hb1.mono HB.out.size))
  clear hb1
  go_wp2_with fail
  go_ret2
  exact ⟨rfl, HE.out⟩

set_option maxHeartbeats 1000000 in
theorem asCommand_any (B C F W P b f : Int) (hB : Fits B) (hC : Fits C) (hF : Fits F) (hb : Fits b) (hf : Fits f) (w : World) :
    Calls Try.prog 52 #[polV B C F W P, .int .i64 b, .int .i64 f] w fun e w' => e = .returned (.tuple #[.int .i64 (numN (cz B C F b f)), numE (cz B C F b f)]) ∧ Below w.heap.size w w' := by
  have C1 := fun w => mul_num C b hC hb w
  have C2 := fun w => mul_num F f hF hf w
  have HB := Lib.hid (show Below w.heap.size w (w.alloc (.cells #[.int .i64 B, .int .i64 C, .int .i64 F, .int .i64 W, .int .i64 P] 23)) from (Below.refl _ w).alloc (Nat.le_refl _) _)
  obtain ⟨z, hz⟩ : ∃ z, z = cz B C F b f := ⟨_, rfl⟩
  rw [← hz]
  obtain ⟨x, hx⟩ : ∃ x, x = C * b := ⟨_, rfl⟩
  obtain ⟨y, hy⟩ : ∃ y, y = F * f := ⟨_, rfl⟩
  rw [← hx] at C1
  rw [← hy] at C2
  unfold cz at hz
  rw [← hx, ← hy] at hz
  clear hx hy hC hF hb hf
  by_cases hfx : Fits x
  · rw [numN_yes hfx, numE_yes hfx] at C1
    by_cases hfy : Fits y
    · rw [numN_yes hfy, numE_yes hfy] at C2
      rw [if_pos ⟨hfx, hfy⟩] at hz
      have C3 := fun w => total_any _ 3 3 _ _ (nums3 w B x y hB hfx hfy) (by decide)
      have hs : sumZ [B, x, y] = z := by simp [sumZ, hz]
      rw [hs] at C3
      obtain ⟨m, hm⟩ : ∃ m, m = numN z := ⟨_, rfl⟩
      obtain ⟨v, hv⟩ : ∃ v, v = numE z := ⟨_, rfl⟩
      rw [← hm, ← hv] at C3
      rw [← hm, ← hv]
      have H1 := Lib.hid C1
      have H2 := Lib.hid C2
      have H3 := Lib.hid C3
      clear C1 C2 C3 hs hm hv hz hB hfx hfy
      go_enter Try.func52, Try.ntmps52
      go_wp2_with fail
      refine Calls.mono (H1.out _) ?_
      rintro e w1 ⟨rfl, hb1⟩
      have K1 : w1.cell? ⟨w.heap.size, 2, none⟩ = some (.int .i64 F) := (hb1.cell (p := ⟨w.heap.size, 2, none⟩) (by simp)).trans (by simp [go_sem])
      have K0 : w1.cell? ⟨w.heap.size, 0, none⟩ = some (.int .i64 B) := (hb1.cell (p := ⟨w.heap.size, 0, none⟩) (by simp)).trans (by simp [go_sem])
      have hlt1 : w.heap.size < w1.heap.size := by have := hb1.size; simp at this; omega
      have HE := Lib.hid (HB.out.trans (hb1.mono HB.out.size))
      clear hb1
      go_wp2_with fail
      refine Calls.mono (H2.out _) ?_
      rintro e w2 ⟨rfl, hb2⟩
      have K2 : w2.cell? ⟨w.heap.size, 0, none⟩ = some (.int .i64 B) := (hb2.cell (p := ⟨w.heap.size, 0, none⟩) hlt1).trans K0
      have HE2 := Lib.hid (HE.out.trans (hb2.mono HE.out.size))
      clear hb2 K0 K1 hlt1
      go_wp2_with fail
      refine Calls.mono (H3.out _) ?_
      rintro e w3 ⟨rfl, hb3⟩
      have HE3 := Lib.hid ((HE2.out.alloc HE2.out.size _).trans (hb3.mono (by have := HE2.out.size; simp; omega)))
      clear hb3
      go_wp2_with fail
      go_ret2
      exact ⟨rfl, HE3.out⟩
    · rw [if_neg (fun h => hfy h.2)] at hz
      rw [numN_no hfy, numE_no hfy] at C2
      have hzf : ¬ Fits z := by rw [hz]; unfold Fits; decide
      rw [numN_no hzf, numE_no hzf]
      unfold over at C2 ⊢
      have H1 := Lib.hid C1
      have H2 := Lib.hid C2
      clear C1 C2 hz hzf hfx hfy
      go_enter Try.func52, Try.ntmps52
      go_wp2_with fail
      refine Calls.mono (H1.out _) ?_
      rintro e w1 ⟨rfl, hb1⟩
      have K1 : w1.cell? ⟨w.heap.size, 2, none⟩ = some (.int .i64 F) := (hb1.cell (p := ⟨w.heap.size, 2, none⟩) (by simp)).trans (by simp [go_sem])
      have HE := Lib.hid (HB.out.trans (hb1.mono HB.out.size))
      clear hb1
      go_wp2_with fail
      refine Calls.mono (H2.out _) ?_
      rintro e w2 ⟨rfl, hb2⟩
      have HE2 := Lib.hid (HE.out.trans (hb2.mono HE.out.size))
      clear hb2 K1
      go_wp2_with fail
      go_ret2
      exact ⟨rfl, HE2.out⟩
  · rw [if_neg (fun h => hfx h.1)] at hz
    rw [numN_no hfx, numE_no hfx] at C1
    have hzf : ¬ Fits z := by rw [hz]; unfold Fits; decide
    rw [numN_no hzf, numE_no hzf]
    unfold over at C1 ⊢
    have H1 := Lib.hid C1
    clear C1 C2 hz hzf hfx
    go_enter Try.func52, Try.ntmps52
    go_wp2_with fail
    refine Calls.mono (H1.out _) ?_
    rintro e w1 ⟨rfl, hb1⟩
    have HE := Lib.hid (HB.out.trans (hb1.mono HB.out.size))
    clear hb1
    go_wp2_with fail
    go_ret2
    exact ⟨rfl, HE.out⟩
end Go.Proofs.Ytgdkgoiagjjccaa

/- The contracts of cost's Command, Costs, Good. -/
namespace Go.Proofs.Ytgdkgoiagjjccaa
set_option maxRecDepth 100000
open Go.RowKit

/-- Is it logged as a command? -/
def cmdB (z v : Int) : Bool := if Fits z then decide (¬ Fits v ∨ z ≤ v) else decide (¬ Fits v)
/-- A block that holds a policy. -/
def Pb (w : World) (g : Nat) (B C F W P : Int) : Prop := w.heap[g]? = some (.cells #[.int .i64 B, .int .i64 C, .int .i64 F, .int .i64 W, .int .i64 P] 23 (0, 0))
theorem pb_new (w : World) (B C F W P : Int) : Pb (w.alloc (.cells #[.int .i64 B, .int .i64 C, .int .i64 F, .int .i64 W, .int .i64 P] 23)) w.heap.size B C F W P := heap_alloc_new w _
theorem Pb.lt {w : World} {g : Nat} {B C F W P : Int} (h : Pb w g B C F W P) : g < w.heap.size := (Array.getElem?_eq_some_iff.1 h).1
theorem Pb.below {w w' : World} {m g : Nat} {B C F W P : Int} (h : Pb w g B C F W P) (hb : Below m w w') (hg : g < m) : Pb w' g B C F W P := (hb.block g hg).trans h
theorem Pb.c0 {w : World} {g : Nat} {B C F W P : Int} (h : Pb w g B C F W P) : w.cell? ⟨g, 0, none⟩ = some (.int .i64 B) := cell_of_row w g 0 _ 23 (0, 0) h
theorem Pb.c1 {w : World} {g : Nat} {B C F W P : Int} (h : Pb w g B C F W P) : w.cell? ⟨g, 1, none⟩ = some (.int .i64 C) := cell_of_row w g 1 _ 23 (0, 0) h
theorem Pb.c2 {w : World} {g : Nat} {B C F W P : Int} (h : Pb w g B C F W P) : w.cell? ⟨g, 2, none⟩ = some (.int .i64 F) := cell_of_row w g 2 _ 23 (0, 0) h
theorem Pb.c3 {w : World} {g : Nat} {B C F W P : Int} (h : Pb w g B C F W P) : w.cell? ⟨g, 3, none⟩ = some (.int .i64 W) := cell_of_row w g 3 _ 23 (0, 0) h
theorem Pb.c4 {w : World} {g : Nat} {B C F W P : Int} (h : Pb w g B C F W P) : w.cell? ⟨g, 4, none⟩ = some (.int .i64 P) := cell_of_row w g 4 _ 23 (0, 0) h
theorem ret_bool2 {a b : Bool} (h : a = b) : Ending.returned (.bool a) = .returned (.bool b) := by rw [h]

set_option maxHeartbeats 1000000 in
theorem command_any (B C F W P b f n : Int) (hB : Fits B) (hC : Fits C) (hF : Fits F) (hW : Fits W) (hb : Fits b) (hf : Fits f) (hn : Fits n) (w : World) :
    Calls Try.prog 19 #[polV B C F W P, .int .i64 b, .int .i64 f, .int .i64 n] w fun e w' => e = .returned (.bool (cmdB (cz B C F b f) (W * n))) ∧ Below w.heap.size w w' := by
  have C1 := fun w => asCommand_any B C F W P b f hB hC hF hb hf w
  have C2 := fun w => asValues_any B C F W P n hW hn w
  have HB := Lib.hid (show Below w.heap.size w (w.alloc (.cells #[.int .i64 B, .int .i64 C, .int .i64 F, .int .i64 W, .int .i64 P] 23)) from (Below.refl _ w).alloc (Nat.le_refl _) _)
  have HP := Lib.hid (pb_new w B C F W P)
  obtain ⟨z, hz⟩ : ∃ z, z = cz B C F b f := ⟨_, rfl⟩
  obtain ⟨v, hv⟩ : ∃ v, v = W * n := ⟨_, rfl⟩
  rw [← hz] at C1 ⊢
  rw [← hv] at C2 ⊢
  clear hz hv hB hC hF hW hb hf hn
  by_cases hfz : Fits z
  · rw [numN_yes hfz, numE_yes hfz] at C1
    by_cases hfv : Fits v
    · rw [numN_yes hfv, numE_yes hfv] at C2
      have hc : cmdB z v = decide (z ≤ v) := by unfold cmdB; rw [if_pos hfz]; exact decide_eq_decide.2 ⟨fun h => h.resolve_left (fun h' => h' hfv), .inr⟩
      rw [hc]
      have H1 := Lib.hid C1
      have H2 := Lib.hid C2
      clear C1 C2 hc hfz hfv
      go_enter Try.func19, Try.ntmps19
      go_wp2_with fail
      refine Calls.mono (H1.out _) ?_
      rintro e w1 ⟨rfl, hb1⟩
      have hp1 := HP.out.below hb1 HP.out.lt
      have k0 := hp1.c0
      have k1 := hp1.c1
      have k2 := hp1.c2
      have k3 := hp1.c3
      have k4 := hp1.c4
      have HE := Lib.hid (HB.out.trans (hb1.mono HB.out.size))
      clear hb1 hp1
      go_wp2_with fail
      refine Calls.mono (H2.out _) ?_
      rintro e w2 ⟨rfl, hb2⟩
      have HE2 := Lib.hid (HE.out.trans (hb2.mono HE.out.size))
      clear hb2 k0 k1 k2 k3 k4
      go_wp2_with fail
      go_ret
      exact ⟨rfl, HE2.out⟩
    · rw [numN_no hfv, numE_no hfv] at C2
      have hc : cmdB z v = true := by unfold cmdB; rw [if_pos hfz]; exact decide_eq_true (.inl hfv)
      rw [hc]
      unfold over at C2
      have H1 := Lib.hid C1
      have H2 := Lib.hid C2
      clear C1 C2 hc hfz hfv
      go_enter Try.func19, Try.ntmps19
      go_wp2_with fail
      refine Calls.mono (H1.out _) ?_
      rintro e w1 ⟨rfl, hb1⟩
      have hp1 := HP.out.below hb1 HP.out.lt
      have k0 := hp1.c0
      have k1 := hp1.c1
      have k2 := hp1.c2
      have k3 := hp1.c3
      have k4 := hp1.c4
      have HE := Lib.hid (HB.out.trans (hb1.mono HB.out.size))
      clear hb1 hp1
      go_wp2_with fail
      refine Calls.mono (H2.out _) ?_
      rintro e w2 ⟨rfl, hb2⟩
      have HE2 := Lib.hid (HE.out.trans (hb2.mono HE.out.size))
      clear hb2 k0 k1 k2 k3 k4
      go_wp2_with fail
      go_ret
      exact ⟨rfl, HE2.out⟩
  · rw [numN_no hfz, numE_no hfz] at C1
    have hc : cmdB z v = decide (¬ Fits v) := by unfold cmdB; rw [if_neg hfz]
    rw [hc]
    by_cases hfv : Fits v
    · rw [numN_yes hfv, numE_yes hfv] at C2
      rw [decide_eq_false (fun h => h hfv)]
      unfold over at C1
      have H1 := Lib.hid C1
      have H2 := Lib.hid C2
      clear C1 C2 hc hfz hfv
      go_enter Try.func19, Try.ntmps19
      go_wp2_with fail
      refine Calls.mono (H1.out _) ?_
      rintro e w1 ⟨rfl, hb1⟩
      have hp1 := HP.out.below hb1 HP.out.lt
      have k0 := hp1.c0
      have k1 := hp1.c1
      have k2 := hp1.c2
      have k3 := hp1.c3
      have k4 := hp1.c4
      have HE := Lib.hid (HB.out.trans (hb1.mono HB.out.size))
      clear hb1 hp1
      go_wp2_with fail
      refine Calls.mono (H2.out _) ?_
      rintro e w2 ⟨rfl, hb2⟩
      have HE2 := Lib.hid (HE.out.trans (hb2.mono HE.out.size))
      clear hb2 k0 k1 k2 k3 k4
      go_wp2_with fail
      go_ret
      exact ⟨rfl, HE2.out⟩
    · rw [numN_no hfv, numE_no hfv] at C2
      rw [decide_eq_true hfv]
      unfold over at C1 C2
      have H1 := Lib.hid C1
      have H2 := Lib.hid C2
      clear C1 C2 hc hfz hfv
      go_enter Try.func19, Try.ntmps19
      go_wp2_with fail
      refine Calls.mono (H1.out _) ?_
      rintro e w1 ⟨rfl, hb1⟩
      have hp1 := HP.out.below hb1 HP.out.lt
      have k0 := hp1.c0
      have k1 := hp1.c1
      have k2 := hp1.c2
      have k3 := hp1.c3
      have k4 := hp1.c4
      have HE := Lib.hid (HB.out.trans (hb1.mono HB.out.size))
      clear hb1 hp1
      go_wp2_with fail
      refine Calls.mono (H2.out _) ?_
      rintro e w2 ⟨rfl, hb2⟩
      have HE2 := Lib.hid (HE.out.trans (hb2.mono HE.out.size))
      clear hb2 k0 k1 k2 k3 k4
      go_wp2_with fail
      go_ret
      exact ⟨rfl, HE2.out⟩

set_option maxHeartbeats 1000000 in
theorem costs_yes (B C F W P b f n : Int) (hB : Fits B) (hC : Fits C) (hF : Fits F) (hW : Fits W) (hb : Fits b) (hf : Fits f) (hn : Fits n) (w : World) (hfz : Fits (cz B C F b f)) (hfv : Fits (W * n)) :
    Calls Try.prog 16 #[polV B C F W P, .int .i64 b, .int .i64 f, .int .i64 n] w fun e w' => e = .returned (.tuple #[.int .i64 (cz B C F b f), .int .i64 (W * n), .nilIface]) ∧ Below w.heap.size w w' := by
  have C1 := fun w => asCommand_any B C F W P b f hB hC hF hb hf w
  have C2 := fun w => asValues_any B C F W P n hW hn w
  have HB := Lib.hid (show Below w.heap.size w (w.alloc (.cells #[.int .i64 B, .int .i64 C, .int .i64 F, .int .i64 W, .int .i64 P] 23)) from (Below.refl _ w).alloc (Nat.le_refl _) _)
  have HP := Lib.hid (pb_new w B C F W P)
  obtain ⟨z, hz⟩ : ∃ z, z = cz B C F b f := ⟨_, rfl⟩
  obtain ⟨v, hv⟩ : ∃ v, v = W * n := ⟨_, rfl⟩
  rw [← hz] at C1 hfz ⊢
  rw [← hv] at C2 hfv ⊢
  rw [numN_yes hfz, numE_yes hfz] at C1
  rw [numN_yes hfv, numE_yes hfv] at C2
  have H1 := Lib.hid C1
  have H2 := Lib.hid C2
  clear C1 C2 hz hv hB hC hF hW hb hf hn hfz hfv
  go_enter Try.func16, Try.ntmps16
  go_wp2_with fail
  refine Calls.mono (H1.out _) ?_
  rintro e w1 ⟨rfl, hb1⟩
  have hp1 := HP.out.below hb1 HP.out.lt
  have k0 := hp1.c0
  have k1 := hp1.c1
  have k2 := hp1.c2
  have k3 := hp1.c3
  have k4 := hp1.c4
  have HE := Lib.hid (HB.out.trans (hb1.mono HB.out.size))
  clear hb1 hp1
  go_wp2_with fail
  refine Calls.mono (H2.out _) ?_
  rintro e w2 ⟨rfl, hb2⟩
  have HE2 := Lib.hid (HE.out.trans (hb2.mono HE.out.size))
  clear hb2 k0 k1 k2 k3 k4
  go_wp2_with fail
  exact bodyPost_ret (v := .tuple #[.int .i64 z, .int .i64 v, .nilIface]) (by simp [results, Try.results16, go_sem]) rfl ⟨rfl, HE2.out⟩

set_option maxHeartbeats 1000000 in
theorem costs_no (B C F W P b f n : Int) (hB : Fits B) (hC : Fits C) (hF : Fits F) (hW : Fits W) (hb : Fits b) (hf : Fits f) (hn : Fits n) (w : World) (hno : ¬ (Fits (cz B C F b f) ∧ Fits (W * n))) :
    Calls Try.prog 16 #[polV B C F W P, .int .i64 b, .int .i64 f, .int .i64 n] w fun e w' => e = .returned (.tuple #[.int .i64 0, .int .i64 0, over]) ∧ Below w.heap.size w w' := by
  have C1 := fun w => asCommand_any B C F W P b f hB hC hF hb hf w
  have C2 := fun w => asValues_any B C F W P n hW hn w
  have HB := Lib.hid (show Below w.heap.size w (w.alloc (.cells #[.int .i64 B, .int .i64 C, .int .i64 F, .int .i64 W, .int .i64 P] 23)) from (Below.refl _ w).alloc (Nat.le_refl _) _)
  have HP := Lib.hid (pb_new w B C F W P)
  obtain ⟨z, hz⟩ : ∃ z, z = cz B C F b f := ⟨_, rfl⟩
  obtain ⟨v, hv⟩ : ∃ v, v = W * n := ⟨_, rfl⟩
  rw [← hz] at C1 hno
  rw [← hv] at C2 hno
  clear hz hv hB hC hF hW hb hf hn
  by_cases hfz : Fits z
  · have hfv : ¬ Fits v := fun h => hno ⟨hfz, h⟩
    rw [numN_yes hfz, numE_yes hfz] at C1
    rw [numN_no hfv, numE_no hfv] at C2
    unfold over at C2 ⊢
    have H1 := Lib.hid C1
    have H2 := Lib.hid C2
    clear C1 C2 hno hfz hfv
    go_enter Try.func16, Try.ntmps16
    go_wp2_with fail
    refine Calls.mono (H1.out _) ?_
    rintro e w1 ⟨rfl, hb1⟩
    have hp1 := HP.out.below hb1 HP.out.lt
    have k0 := hp1.c0
    have k1 := hp1.c1
    have k2 := hp1.c2
    have k3 := hp1.c3
    have k4 := hp1.c4
    have HE := Lib.hid (HB.out.trans (hb1.mono HB.out.size))
    clear hb1 hp1
    go_wp2_with fail
    refine Calls.mono (H2.out _) ?_
    rintro e w2 ⟨rfl, hb2⟩
    have HE2 := Lib.hid (HE.out.trans (hb2.mono HE.out.size))
    clear hb2 k0 k1 k2 k3 k4
    go_wp2_with fail
    exact bodyPost_ret (v := .tuple #[.int .i64 0, .int .i64 0, .iface 34 (.int .i64 7)]) (by simp [results, Try.results16, go_sem]) rfl ⟨rfl, HE2.out⟩
  · rw [numN_no hfz, numE_no hfz] at C1
    unfold over at C1 ⊢
    have H1 := Lib.hid C1
    clear C1 C2 hno hfz
    go_enter Try.func16, Try.ntmps16
    go_wp2_with fail
    refine Calls.mono (H1.out _) ?_
    rintro e w1 ⟨rfl, hb1⟩
    have HE := Lib.hid (HB.out.trans (hb1.mono HB.out.size))
    clear hb1
    go_wp2_with fail
    exact bodyPost_ret (v := .tuple #[.int .i64 0, .int .i64 0, .iface 34 (.int .i64 7)]) (by simp [results, Try.results16, go_sem]) rfl ⟨rfl, HE.out⟩

set_option maxHeartbeats 400000 in
theorem good_any (B C F W P : Int) (w : World) :
    Calls Try.prog 24 #[polV B C F W P] w fun e w' => e = .returned (.bool (decide (0 ≤ P ∧ P ≤ 2))) ∧ Below w.heap.size w w' := by
  have HB := Lib.hid (show Below w.heap.size w (w.alloc (.cells #[.int .i64 B, .int .i64 C, .int .i64 F, .int .i64 W, .int .i64 P] 23)) from (Below.refl _ w).alloc (Nat.le_refl _) _)
  by_cases h0 : 0 ≤ P
  · have hc : decide (0 ≤ P ∧ P ≤ 2) = decide (P ≤ 2) := decide_eq_decide.2 ⟨And.right, fun h => ⟨h0, h⟩⟩
    rw [hc]
    clear hc
    go_enter Try.func24, Try.ntmps24
    go_wp2_with fail
    go_ret
    exact ⟨rfl, HB.out⟩
  · have hc : decide (0 ≤ P ∧ P ≤ 2) = false := decide_eq_false (fun h => h0 h.1)
    rw [hc]
    clear hc
    go_enter Try.func24, Try.ntmps24
    go_wp2_with fail
    go_ret
    exact ⟨rfl, HB.out⟩

set_option maxHeartbeats 1000000 in
theorem alive_any (w : World) : Calls Try.prog 15 #[] w fun e w' => e = .returned (.bool true) ∧ Below w.heap.size w w' := by
  have z : Fits 0 ∧ Fits 1 ∧ Fits 10 ∧ Fits 30 ∧ Fits 31 ∧ Fits 5 ∧ Fits 3 := by decide
  have C1 := fun w => command_any 0 1 0 10 0 30 5 3 z.1 z.2.1 z.1 z.2.2.1 z.2.2.2.1 z.2.2.2.2.2.1 z.2.2.2.2.2.2 w
  have C2 := fun w => command_any 0 1 0 10 0 31 5 3 z.1 z.2.1 z.1 z.2.2.1 z.2.2.2.2.1 z.2.2.2.2.2.1 z.2.2.2.2.2.2 w
  have C3 := fun w => good_any 0 1 0 10 0 w
  rw [show cmdB (cz 0 1 0 30 5) (10 * 3) = true by decide] at C1
  rw [show cmdB (cz 0 1 0 31 5) (10 * 3) = false by decide] at C2
  rw [show decide ((0 : Int) ≤ 0 ∧ (0 : Int) ≤ 2) = true by decide] at C3
  have H1 := Lib.hid C1
  have H2 := Lib.hid C2
  have H3 := Lib.hid C3
  have HB := Lib.hid (show Below w.heap.size w (w.alloc (.cells #[.int .i64 0, .int .i64 1, .int .i64 0, .int .i64 10, .int .i64 0] 23)) from (Below.refl _ w).alloc (Nat.le_refl _) _)
  have HP := Lib.hid (pb_new w 0 1 0 10 0)
  clear C1 C2 C3 z
  go_enter Try.func15, Try.ntmps15
  go_wp2_with fail
  refine Calls.mono (H1.out _) ?_
  rintro e w1 ⟨rfl, hb1⟩
  have hp1 := HP.out.below hb1 HP.out.lt
  have k0 := hp1.c0
  have k1 := hp1.c1
  have k2 := hp1.c2
  have k3 := hp1.c3
  have k4 := hp1.c4
  have HE := Lib.hid (HB.out.trans (hb1.mono HB.out.size))
  have HP1 := Lib.hid hp1
  clear hb1 hp1
  go_wp2_with fail
  refine Calls.mono (H2.out _) ?_
  rintro e w2 ⟨rfl, hb2⟩
  have hp2 := HP1.out.below hb2 HP1.out.lt
  have HE2 := Lib.hid (HE.out.trans (hb2.mono HE.out.size))
  clear hb2 k0 k1 k2 k3 k4
  have k0 := hp2.c0
  have k1 := hp2.c1
  have k2 := hp2.c2
  have k3 := hp2.c3
  have k4 := hp2.c4
  clear hp2
  go_wp2_with fail
  refine Calls.mono (H3.out _) ?_
  rintro e w3 ⟨rfl, hb3⟩
  have HE3 := Lib.hid (HE2.out.trans (hb3.mono HE2.out.size))
  clear hb3 k0 k1 k2 k3 k4
  go_wp2_with fail
  go_ret
  exact ⟨rfl, HE3.out⟩
end Go.Proofs.Ytgdkgoiagjjccaa

/- CostSteady answers true of whatever policy and transaction. -/
namespace Go.Proofs.Ytgdkgoiagjjccaa
set_option maxRecDepth 100000
open Go.RowKit

/-- What is asked, as a value, and a block that holds it. -/
abbrev askV (B C F W P b f n : Int) : Value := .agg #[.int .i64 B, .int .i64 C, .int .i64 F, .int .i64 W, .int .i64 P, .int .i64 b, .int .i64 f, .int .i64 n]
def Ab (w : World) (g : Nat) (B C F W P b f n : Int) : Prop := w.heap[g]? = some (.cells #[.int .i64 B, .int .i64 C, .int .i64 F, .int .i64 W, .int .i64 P, .int .i64 b, .int .i64 f, .int .i64 n] 25 (0, 0))
theorem ab_new (w : World) (B C F W P b f n : Int) : Ab (w.alloc (.cells #[.int .i64 B, .int .i64 C, .int .i64 F, .int .i64 W, .int .i64 P, .int .i64 b, .int .i64 f, .int .i64 n] 25)) w.heap.size B C F W P b f n := heap_alloc_new w _
theorem Ab.lt {w : World} {g : Nat} {B C F W P b f n : Int} (h : Ab w g B C F W P b f n) : g < w.heap.size := (Array.getElem?_eq_some_iff.1 h).1
theorem Ab.below {w w' : World} {m g : Nat} {B C F W P b f n : Int} (h : Ab w g B C F W P b f n) (hb : Below m w w') (hg : g < m) : Ab w' g B C F W P b f n := (hb.block g hg).trans h
theorem Ab.c0 {w : World} {g : Nat} {B C F W P b f n : Int} (h : Ab w g B C F W P b f n) : w.cell? ⟨g, 0, none⟩ = some (.int .i64 B) := cell_of_row w g 0 _ 25 (0, 0) h
theorem Ab.c1 {w : World} {g : Nat} {B C F W P b f n : Int} (h : Ab w g B C F W P b f n) : w.cell? ⟨g, 1, none⟩ = some (.int .i64 C) := cell_of_row w g 1 _ 25 (0, 0) h
theorem Ab.c2 {w : World} {g : Nat} {B C F W P b f n : Int} (h : Ab w g B C F W P b f n) : w.cell? ⟨g, 2, none⟩ = some (.int .i64 F) := cell_of_row w g 2 _ 25 (0, 0) h
theorem Ab.c3 {w : World} {g : Nat} {B C F W P b f n : Int} (h : Ab w g B C F W P b f n) : w.cell? ⟨g, 3, none⟩ = some (.int .i64 W) := cell_of_row w g 3 _ 25 (0, 0) h
theorem Ab.c4 {w : World} {g : Nat} {B C F W P b f n : Int} (h : Ab w g B C F W P b f n) : w.cell? ⟨g, 4, none⟩ = some (.int .i64 P) := cell_of_row w g 4 _ 25 (0, 0) h
theorem Ab.c5 {w : World} {g : Nat} {B C F W P b f n : Int} (h : Ab w g B C F W P b f n) : w.cell? ⟨g, 5, none⟩ = some (.int .i64 b) := cell_of_row w g 5 _ 25 (0, 0) h
theorem Ab.c6 {w : World} {g : Nat} {B C F W P b f n : Int} (h : Ab w g B C F W P b f n) : w.cell? ⟨g, 6, none⟩ = some (.int .i64 f) := cell_of_row w g 6 _ 25 (0, 0) h
theorem Ab.c7 {w : World} {g : Nat} {B C F W P b f n : Int} (h : Ab w g B C F W P b f n) : w.cell? ⟨g, 7, none⟩ = some (.int .i64 n) := cell_of_row w g 7 _ 25 (0, 0) h

/-- The error of both costs. -/
def ce (z v : Int) : Value := if Fits z ∧ Fits v then .nilIface else over
def cn (z v : Int) (x : Int) : Int := if Fits z ∧ Fits v then x else 0
def co (z v : Int) : Bool := decide (¬ (Fits z ∧ Fits v))
theorem co_neq (z v : Int) (w : World) : (binOp .neq 28 (ce z v) .nilIface).run Try.prog w = .ok (.bool (co z v)) w := by
  unfold ce co
  by_cases h : Fits z ∧ Fits v
  · rw [if_pos h, decide_eq_false (fun h' => h' h)]; kernel_rfl
  · rw [if_neg h, decide_eq_true h]; kernel_rfl
theorem co_guard (z v : Int) (x : Operand) (w : World) : (eqGuard .neq 28 x (.const .nilIface) (ce z v) .nilIface).run Try.prog w = .ok () w := by
  unfold ce
  by_cases h : Fits z ∧ Fits v
  · rw [if_pos h]; simp [eqGuard]
  · rw [if_neg h]; unfold over; simp [eqGuard]
theorem costs_any (B C F W P b f n : Int) (hB : Fits B) (hC : Fits C) (hF : Fits F) (hW : Fits W) (hb : Fits b) (hf : Fits f) (hn : Fits n) (w : World) :
    Calls Try.prog 16 #[polV B C F W P, .int .i64 b, .int .i64 f, .int .i64 n] w fun e w' => e = .returned (.tuple #[.int .i64 (cn (cz B C F b f) (W * n) (cz B C F b f)), .int .i64 (cn (cz B C F b f) (W * n) (W * n)), ce (cz B C F b f) (W * n)]) ∧ Below w.heap.size w w' := by
  unfold cn ce
  by_cases h : Fits (cz B C F b f) ∧ Fits (W * n)
  · rw [if_pos h, if_pos h, if_pos h]; exact costs_yes B C F W P b f n hB hC hF hW hb hf hn w h.1 h.2
  · rw [if_neg h, if_neg h, if_neg h]; exact costs_no B C F W P b f n hB hC hF hW hb hf hn w h

theorem steady1 {z W n m : Int} (hW : 0 ≤ W) (hn : 0 ≤ n) (hm : n ≤ m) (h : cmdB z (W * n) = true) : cmdB z (W * m) = true := by
  have h1 : W * n ≤ W * m := Int.mul_le_mul_of_nonneg_left hm hW
  have h2 : 0 ≤ W * n := Int.mul_nonneg hW hn
  revert h h1 h2
  generalize W * n = v
  generalize W * m = v'
  intro h h1 h2
  unfold cmdB at h ⊢
  by_cases hz : Fits z
  · rw [if_pos hz] at h ⊢
    have h := of_decide_eq_true h
    refine decide_eq_true ?_
    rcases h with h | h
    · left; unfold Fits at h ⊢; omega
    · right; omega
  · rw [if_neg hz] at h ⊢
    have h := of_decide_eq_true h
    refine decide_eq_true ?_
    unfold Fits at h ⊢; omega
theorem cz_fits {B C F b f : Int} (h : Fits (cz B C F b f)) : cz B C F b f = B + C * b + F * f := by
  unfold cz at h ⊢
  by_cases hc : Fits (C * b) ∧ Fits (F * f)
  · rw [if_pos hc]
  · rw [if_neg hc] at h; exact absurd h (by decide)
theorem steady2 {B C F b f m v : Int} (hC : 0 ≤ C) (hm : b ≤ m) (h1 : co (cz B C F b f) v = false) (h2 : co (cz B C F m f) v = false) (h : cmdB (cz B C F b f) v = false) : cmdB (cz B C F m f) v = false := by
  have g1 : Fits (cz B C F b f) ∧ Fits v := Decidable.not_not.1 (of_decide_eq_false h1)
  have g2 : Fits (cz B C F m f) ∧ Fits v := Decidable.not_not.1 (of_decide_eq_false h2)
  have e1 := cz_fits g1.1
  have e2 := cz_fits g2.1
  have h3 : C * b ≤ C * m := Int.mul_le_mul_of_nonneg_left hm hC
  unfold cmdB at h ⊢
  rw [if_pos g1.1] at h
  rw [if_pos g2.1]
  have h := of_decide_eq_false h
  refine decide_eq_false ?_
  rintro (h' | h')
  · exact h' g2.2
  · exact h (.inr (by omega))

set_option maxHeartbeats 4000000 in
theorem steady_any (B C F W P b f n m k : Int) (hB : Fits B) (hC : Fits C) (hF : Fits F) (hW : Fits W) (hb : Fits b) (hf : Fits f) (hn : Fits n) (hm : Fits m) (hk : Fits k) (w : World) :
    Calls Try.prog 5 #[askV B C F W P b f n, .int .i64 m, .int .i64 k] w fun e w' => e = .returned (.bool true) ∧ Below w.heap.size w w' := by
  have HA := Lib.hid (fun w => alive_any w)
  have HB := Lib.hid (show Below w.heap.size w (w.alloc (.cells #[.int .i64 B, .int .i64 C, .int .i64 F, .int .i64 W, .int .i64 P, .int .i64 b, .int .i64 f, .int .i64 n] 25)) from (Below.refl _ w).alloc (Nat.le_refl _) _)
  have HP := Lib.hid (ab_new w B C F W P b f n)
  have C1 := fun w => command_any B C F W P b f n hB hC hF hW hb hf hn w
  have C2 := fun w => command_any B C F W P b f k hB hC hF hW hb hf hk w
  have C3 := fun w => command_any B C F W P m f n hB hC hF hW hm hf hn w
  have C4 := fun w => costs_any B C F W P b f n hB hC hF hW hb hf hn w
  have C5 := fun w => costs_any B C F W P m f n hB hC hF hW hm hf hn w
  have q1 := fun w => co_neq (cz B C F b f) (W * n) w
  have q2 := fun w => co_neq (cz B C F m f) (W * n) w
  have g1 := fun x w => co_guard (cz B C F b f) (W * n) x w
  have g2 := fun x w => co_guard (cz B C F m f) (W * n) x w
  have S1 := fun hW hn hm => steady1 (z := cz B C F b f) (W := W) (n := n) (m := k) hW hn hm
  have S2 := fun hC hm => steady2 (B := B) (C := C) (F := F) (b := b) (f := f) (m := m) (v := W * n) hC hm
  obtain ⟨x1, hx1⟩ : ∃ x, x = cmdB (cz B C F b f) (W * n) := ⟨_, rfl⟩
  obtain ⟨x2, hx2⟩ : ∃ x, x = cmdB (cz B C F b f) (W * k) := ⟨_, rfl⟩
  obtain ⟨x3, hx3⟩ : ∃ x, x = cmdB (cz B C F m f) (W * n) := ⟨_, rfl⟩
  obtain ⟨o1, ho1⟩ : ∃ x, x = co (cz B C F b f) (W * n) := ⟨_, rfl⟩
  obtain ⟨o2, ho2⟩ : ∃ x, x = co (cz B C F m f) (W * n) := ⟨_, rfl⟩
  obtain ⟨e1, he1⟩ : ∃ x, x = ce (cz B C F b f) (W * n) := ⟨_, rfl⟩
  obtain ⟨e2, he2⟩ : ∃ x, x = ce (cz B C F m f) (W * n) := ⟨_, rfl⟩
  obtain ⟨y1, hy1⟩ : ∃ x, x = cn (cz B C F b f) (W * n) (cz B C F b f) := ⟨_, rfl⟩
  obtain ⟨y2, hy2⟩ : ∃ x, x = cn (cz B C F m f) (W * n) (cz B C F m f) := ⟨_, rfl⟩
  obtain ⟨y3, hy3⟩ : ∃ x, x = cn (cz B C F b f) (W * n) (W * n) := ⟨_, rfl⟩
  obtain ⟨y4, hy4⟩ : ∃ x, x = cn (cz B C F m f) (W * n) (W * n) := ⟨_, rfl⟩
  rw [← hx1] at C1 S1 S2
  rw [← hx2] at C2 S1
  rw [← hx3] at C3 S2
  rw [← ho1] at q1 S2
  rw [← ho2] at q2 S2
  rw [← he1] at C4 q1 g1
  rw [← he2] at C5 q2 g2
  rw [← hy1, ← hy3] at C4
  rw [← hy2, ← hy4] at C5
  have H1 := Lib.hid C1
  have H2 := Lib.hid C2
  have H3 := Lib.hid C3
  have H4 := Lib.hid C4
  have H5 := Lib.hid C5
  have HS1 := Lib.hid S1
  have HS2 := Lib.hid S2
  have Q1 := Lib.hid q1
  have Q2 := Lib.hid q2
  have G1 := Lib.hid g1
  have G2 := Lib.hid g2
  clear C1 C2 C3 C4 C5 S1 S2 q1 q2 g1 g2 hx1 hx2 hx3 ho1 ho2 he1 he2 hy1 hy2 hy3 hy4 hB hC hF hW hb hf hn hm hk
  go_enter Try.func5, Try.ntmps5
  go_wp2_with fail
  refine Calls.mono (HA.out _) ?_
  rintro e w1 ⟨rfl, hb1⟩
  have hp1 := HP.out.below hb1 HP.out.lt
  have k0 := hp1.c0
  have k1 := hp1.c1
  have k2 := hp1.c2
  have k3 := hp1.c3
  have k4 := hp1.c4
  have k5 := hp1.c5
  have k6 := hp1.c6
  have k7 := hp1.c7
  have HE1 := Lib.hid (HB.out.trans (hb1.mono HB.out.size))
  have HP1 := Lib.hid hp1
  clear hb1 hp1
  by_cases h1 : W < 0
  · go_wp2_with fail
    go_ret
    exact ⟨rfl, HE1.out⟩
  by_cases h2 : C < 0
  · go_wp2_with fail
    go_ret
    exact ⟨rfl, HE1.out⟩
  by_cases h3 : b < 0
  · go_wp2_with fail
    go_ret
    exact ⟨rfl, HE1.out⟩
  by_cases h4 : n < 0
  · go_wp2_with fail
    go_ret
    exact ⟨rfl, HE1.out⟩
  by_cases h5 : m < b
  · go_wp2_with fail
    go_ret
    exact ⟨rfl, HE1.out⟩
  by_cases h6 : k < n
  · go_wp2_with fail
    go_ret
    exact ⟨rfl, HE1.out⟩
  have hs1 := HS1.out (by omega) (by omega) (by omega)
  have hs2 := HS2.out (by omega) (by omega)
  have T1 := Lib.hid hs1
  have T2 := Lib.hid hs2
  clear hs1 hs2
  go_wp2_with fail
  refine Calls.mono (H1.out _) ?_
  rintro e w2 ⟨rfl, hb2⟩
  have hp2 := HP1.out.below hb2 HP1.out.lt
  clear k0 k1 k2 k3 k4 k5 k6 k7
  have k0 := hp2.c0
  have k1 := hp2.c1
  have k2 := hp2.c2
  have k3 := hp2.c3
  have k4 := hp2.c4
  have k5 := hp2.c5
  have k6 := hp2.c6
  have k7 := hp2.c7
  have HE2 := Lib.hid (HE1.out.trans (hb2.mono HE1.out.size))
  have HP2 := Lib.hid hp2
  clear hb2 hp2
  by_cases hx1 : x1 = true
  · have hx2 := T1.out hx1
    subst hx1 hx2
    clear T1
    go_wp2_with fail
    refine Calls.mono (H2.out _) ?_
    rintro e w3 ⟨rfl, hb3⟩
    have hp3 := HP2.out.below hb3 HP2.out.lt
    clear k0 k1 k2 k3 k4 k5 k6 k7
    have k0 := hp3.c0
    have k1 := hp3.c1
    have k2 := hp3.c2
    have k3 := hp3.c3
    have k4 := hp3.c4
    have k5 := hp3.c5
    have k6 := hp3.c6
    have k7 := hp3.c7
    have HE3 := Lib.hid (HE2.out.trans (hb3.mono HE2.out.size))
    have HP3 := Lib.hid hp3
    clear hb3 hp3
    go_wp2_with fail
    refine Calls.mono (H4.out _) ?_
    rintro e w4 ⟨rfl, hb4⟩
    have hp4 := HP3.out.below hb4 HP3.out.lt
    clear k0 k1 k2 k3 k4 k5 k6 k7
    have k0 := hp4.c0
    have k1 := hp4.c1
    have k2 := hp4.c2
    have k3 := hp4.c3
    have k4 := hp4.c4
    have k5 := hp4.c5
    have k6 := hp4.c6
    have k7 := hp4.c7
    have HE4 := Lib.hid (HE3.out.trans (hb4.mono HE3.out.size))
    have HP4 := Lib.hid hp4
    clear hb4 hp4
    go_wp2_with fail
    refine Calls.mono (H5.out _) ?_
    rintro e w5 ⟨rfl, hb5⟩
    have hp5 := HP4.out.below hb5 HP4.out.lt
    clear k0 k1 k2 k3 k4 k5 k6 k7
    have k0 := hp5.c0
    have k1 := hp5.c1
    have k2 := hp5.c2
    have k3 := hp5.c3
    have k4 := hp5.c4
    have k5 := hp5.c5
    have k6 := hp5.c6
    have k7 := hp5.c7
    have HE5 := Lib.hid (HE4.out.trans (hb5.mono HE4.out.size))
    have HP5 := Lib.hid hp5
    clear hb5 hp5
    have q1 := Q1.out
    have q2 := Q2.out
    have g1 := G1.out
    have g2 := G2.out
    by_cases ho1 : o1 = true
    · subst ho1
      clear T2
      go_wp2_with fail
      go_ret
      exact ⟨rfl, HE5.out⟩
    have ho1' : o1 = false := by simpa using ho1
    clear ho1
    subst ho1'
    by_cases ho2 : o2 = true
    · subst ho2
      clear T2
      go_wp2_with fail
      go_ret
      exact ⟨rfl, HE5.out⟩
    have ho2' : o2 = false := by simpa using ho2
    clear ho2
    subst ho2'
    go_wp2_with fail
    go_ret
    exact ⟨rfl, HE5.out⟩
  · have hx1' : x1 = false := by simpa using hx1
    clear hx1 T1
    subst hx1'
    go_wp2_with fail
    refine Calls.mono (H4.out _) ?_
    rintro e w3 ⟨rfl, hb3⟩
    have hp3 := HP2.out.below hb3 HP2.out.lt
    clear k0 k1 k2 k3 k4 k5 k6 k7
    have k0 := hp3.c0
    have k1 := hp3.c1
    have k2 := hp3.c2
    have k3 := hp3.c3
    have k4 := hp3.c4
    have k5 := hp3.c5
    have k6 := hp3.c6
    have k7 := hp3.c7
    have HE3 := Lib.hid (HE2.out.trans (hb3.mono HE2.out.size))
    have HP3 := Lib.hid hp3
    clear hb3 hp3
    go_wp2_with fail
    refine Calls.mono (H5.out _) ?_
    rintro e w4 ⟨rfl, hb4⟩
    have hp4 := HP3.out.below hb4 HP3.out.lt
    clear k0 k1 k2 k3 k4 k5 k6 k7
    have k0 := hp4.c0
    have k1 := hp4.c1
    have k2 := hp4.c2
    have k3 := hp4.c3
    have k4 := hp4.c4
    have k5 := hp4.c5
    have k6 := hp4.c6
    have k7 := hp4.c7
    have HE4 := Lib.hid (HE3.out.trans (hb4.mono HE3.out.size))
    have HP4 := Lib.hid hp4
    clear hb4 hp4
    have q1 := Q1.out
    have q2 := Q2.out
    have g1 := G1.out
    have g2 := G2.out
    by_cases ho1 : o1 = true
    · subst ho1
      clear T2
      go_wp2_with fail
      go_ret
      exact ⟨rfl, HE4.out⟩
    have ho1' : o1 = false := by simpa using ho1
    clear ho1
    subst ho1'
    by_cases ho2 : o2 = true
    · subst ho2
      clear T2
      go_wp2_with fail
      go_ret
      exact ⟨rfl, HE4.out⟩
    have ho2' : o2 = false := by simpa using ho2
    clear ho2
    subst ho2'
    have hx3 : x3 = false := by simpa using T2.out
    subst hx3
    clear T2
    go_wp2_with fail
    refine Calls.mono (H3.out _) ?_
    rintro e w9 ⟨rfl, hb9⟩
    have HE9 := Lib.hid (HE4.out.trans (hb9.mono HE4.out.size))
    clear hb9
    go_wp2_with fail
    go_ret
    exact ⟨rfl, HE9.out⟩
end Go.Proofs.Ytgdkgoiagjjccaa

/- Struct arguments of whole numbers, opened. -/
namespace Go.Proofs.Ytgdkgoiagjjccaa
set_option maxRecDepth 100000
open Go.RowKit

def intIn : Value → Int
  | .int _ n => n
  | _ => 0
theorem okWide_ints {w : World} {r : Reach} {base : Nat} {t : TypeId} {v : Value} (k : Nat) (hu : ∃ fs, Try.prog.underlying t = some (.struct fs)) (hts : Try.prog.cellTypes Try.prog.depth t = some (List.replicate k 3)) (hk : Try.prog.cellsOf t = k)
    (h : Value.okWide Try.prog w r base t v) : ∃ zs : List Int, v = .agg (zs.map (Value.int .i64)).toArray ∧ zs.length = k ∧ ∀ z ∈ zs, Fits z := by
  obtain ⟨fs, hfs⟩ := hu
  unfold Value.okWide at h
  rw [hfs] at h
  obtain ⟨cs, rfl, hsz, ts, h1, _, h3⟩ := h
  rw [hts] at h1
  injection h1 with h1
  subst h1
  have hall : ∀ (i : Nat) (v : Value), cs[i]? = some v → ∃ n : Int, v = Value.int .i64 n ∧ Fits n := by
    intro i v hv
    obtain ⟨u, hu, hc⟩ := h3 i v hv
    have hu3 : u = 3 := (List.mem_replicate.1 (List.mem_of_getElem? hu)).2
    subst hu3
    unfold Cell.okWide at hc
    rw [Try.underlying3] at hc
    cases v with
    | int q n =>
      simp only [Cell.ok] at hc
      obtain ⟨rfl, h⟩ := hc
      exact ⟨n, rfl, (show IntKind.i64.min = -9223372036854775808 by decide) ▸ h.1, (show IntKind.i64.max = 9223372036854775807 by decide) ▸ h.2⟩
    | _ => simp_all [Cell.ok]
  refine ⟨cs.toList.map intIn, ?_, by simp [hsz, hk], ?_⟩
  · congr 1
    apply Array.ext
    · simp
    · intro i h1 h2
      obtain ⟨n, he, _⟩ := hall i cs[i] (by simp [h1])
      simp [he, intIn]
  · intro z hz
    simp only [List.mem_map] at hz
    obtain ⟨v, hv, rfl⟩ := hz
    obtain ⟨i, hi, he⟩ := List.getElem_of_mem hv
    obtain ⟨n, hn, hf⟩ := hall i v (by rw [← he]; simp at hi ⊢)
    rw [hn]; exact hf

theorem list8 (zs : List Int) (h : zs.length = 8) : ∃ B C F W P b f n, zs = [B, C, F, W, P, b, f, n] := by
  match zs, h with
  | [B, C, F, W, P, b, f, n], _ => exact ⟨B, C, F, W, P, b, f, n, rfl⟩
theorem list5 (zs : List Int) (h : zs.length = 5) : ∃ B C F W P, zs = [B, C, F, W, P] := by
  match zs, h with
  | [B, C, F, W, P], _ => exact ⟨B, C, F, W, P, rfl⟩
theorem open_ask {w : World} {r : Reach} {base : Nat} {v : Value} (h : Value.okWide Try.prog w r base 25 v) :
    ∃ B C F W P b f n, v = askV B C F W P b f n ∧ Fits B ∧ Fits C ∧ Fits F ∧ Fits W ∧ Fits b ∧ Fits f ∧ Fits n := by
  obtain ⟨zs, rfl, hl, hf⟩ := okWide_ints 8 ⟨_, Try.underlying25⟩ (by kernel_rfl) (by kernel_rfl) h
  obtain ⟨B, C, F, W, P, b, f, n, rfl⟩ := list8 zs hl
  exact ⟨B, C, F, W, P, b, f, n, rfl, hf _ (by simp), hf _ (by simp), hf _ (by simp), hf _ (by simp), hf _ (by simp), hf _ (by simp), hf _ (by simp)⟩
theorem open_pol {w : World} {r : Reach} {base : Nat} {v : Value} (h : Value.okWide Try.prog w r base 23 v) :
    ∃ B C F W P, v = polV B C F W P ∧ Fits P := by
  obtain ⟨zs, rfl, hl, hf⟩ := okWide_ints 5 ⟨_, Try.underlying23⟩ (by kernel_rfl) (by kernel_rfl) h
  obtain ⟨B, C, F, W, P, rfl⟩ := list5 zs hl
  exact ⟨B, C, F, W, P, rfl, hf _ (by simp)⟩
end Go.Proofs.Ytgdkgoiagjjccaa

/- The contracts of cost's byKey, roomiest, Place. -/
namespace Go.Proofs.Ytgdkgoiagjjccaa
set_option maxRecDepth 100000
open Go.RowKit

/-- The first write's key, if there is one. -/
def Wr0 (w : World) (A : Option Addr) (n : Nat) (T K : Int) : Prop :=
  0 < n → ∃ b off, A = some ⟨b, off, none⟩ ∧ w.cell? ⟨b, off, none⟩ = some (.int .i64 T) ∧ w.cell? ⟨b, off + 1, none⟩ = some (.int .i64 K)
theorem Wr0.ext {w w' : World} {A : Option Addr} {n : Nat} {T K : Int} (h : Wr0 w A n T K) (hs : ∀ p : Addr, p.block < w.heap.size → w'.cell? p = w.cell? p) : Wr0 w' A n T K := fun hn => by
  obtain ⟨b, off, e, h1, h2⟩ := h hn
  exact ⟨b, off, e, (hs _ (World.block_lt_of_cell? _ _ h1)).trans h1, (hs _ (World.block_lt_of_cell? _ _ h2)).trans h2⟩
theorem Nums.ext {w w' : World} {A : Option Addr} {n : Nat} {xs : List Int} (h : Nums w A n xs) (hs : ∀ p : Addr, p.block < w.heap.size → w'.cell? p = w.cell? p) : Nums w' A n xs :=
  ⟨h.1, h.2.1, fun hn => by
    obtain ⟨b, off, e, hc⟩ := h.2.2 hn
    exact ⟨b, off, e, fun j hj => (hs _ (World.block_lt_of_cell? _ _ (hc j hj))).trans (hc j hj)⟩⟩
theorem stays_w {w w' : World} (h : Below w.heap.size w w') : ∀ p : Addr, p.block < w.heap.size → w'.cell? p = w.cell? p := fun _ hp => h.cell hp
/-- The stream of a key. -/
def keyZ (T K : Int) (m : Nat) : Int := wrap64 ((IntKind.u64.wrap (IntKind.u64.wrap T + IntKind.u64.wrap K)).tmod m)
theorem keyZ_in (T K : Int) {m : Nat} (h0 : 0 < m) (h4 : m ≤ 4) : 0 ≤ keyZ T K m ∧ keyZ T K m < m := by
  have h1 : 0 ≤ IntKind.u64.wrap (IntKind.u64.wrap T + IntKind.u64.wrap K) := by
    have e : ∀ x : Int, IntKind.u64.wrap x = x % 18446744073709551616 := fun x => by simp [IntKind.wrap, IntKind.bits, IntKind.signed]
    rw [e (_ + _)]
    omega
  unfold keyZ
  have h2 := Int.tmod_nonneg (m : Int) h1
  have h3 := Int.tmod_lt_of_pos (IntKind.u64.wrap (IntKind.u64.wrap T + IntKind.u64.wrap K)) (show (0 : Int) < m by omega)
  have h5 := IntWalk.wrap64_in ((IntKind.u64.wrap (IntKind.u64.wrap T + IntKind.u64.wrap K)).tmod m) (by omega)
  rw [h5]
  exact ⟨h2, h3⟩

set_option maxHeartbeats 1000000 in
theorem byKey_any (A : Option Addr) (n c : Nat) (T K : Int) (m : Nat) (hm : 0 < m) (hm4 : m ≤ 4) (w : World) (h : Wr0 w A n T K) :
    Calls Try.prog 58 #[.slice A n c, .int .i64 (m : Int)] w fun e w' => e = .returned (.int .i64 (if n = 0 then 0 else keyZ T K m)) ∧ Below w.heap.size w w' := by
  by_cases h0 : n = 0
  · subst h0
    go_enter Try.func58, Try.ntmps58
    go_wp2_with fail
    go_ret
    exact ⟨rfl, Below.refl _ _⟩
  · obtain ⟨b, off, rfl, h1, h2⟩ := h (by omega)
    rw [if_neg h0]
    have HB := Lib.hid (show Below w.heap.size w (w.alloc (.cells #[.int .i64 T, .int .i64 K] 104)) from (Below.refl _ w).alloc (Nat.le_refl _) _)
    have hn : ((n : Int) == 0) = false := by rw [beq_eq_false_iff_ne]; omega
    unfold keyZ
    go_enter Try.func58, Try.ntmps58
    go_wp2_with fail
    go_ret
    exact ⟨rfl, HB.out⟩

/-- The first of the most. -/
def Best (xs : List Int) (n k : Nat) : Prop := k < n ∧ (∀ j, j < n → xs.getD j 0 ≤ xs.getD k 0) ∧ ∀ j, j < k → xs.getD j 0 < xs.getD k 0
theorem best_one {xs : List Int} {n k q : Nat} (h : Best xs n k) (h' : Best xs n q) : q = k := by
  obtain ⟨a1, a2, a3⟩ := h
  obtain ⟨b1, b2, b3⟩ := h'
  rcases Nat.lt_trichotomy q k with h | h | h
  · have := a3 q h; have := b2 k a1; omega
  · exact h
  · have := b3 k h; have := a2 q b1; omega
theorem best_step {xs : List Int} {i k : Nat} (h : Best xs i k) : Best xs (i + 1) (if xs.getD k 0 < xs.getD i 0 then i else k) := by
  obtain ⟨a1, a2, a3⟩ := h
  by_cases hc : xs.getD k 0 < xs.getD i 0
  · rw [if_pos hc]
    refine ⟨by omega, fun j hj => ?_, fun j hj => ?_⟩
    · rcases Nat.lt_succ_iff_lt_or_eq.1 hj with h | h
      · have := a2 j h; omega
      · rw [h]; exact Int.le_refl _
    · have := a2 j hj; omega
  · rw [if_neg hc]
    refine ⟨by omega, fun j hj => ?_, a3⟩
    rcases Nat.lt_succ_iff_lt_or_eq.1 hj with h | h
    · exact a2 j h
    · rw [h]; omega
theorem best_first (xs : List Int) : Best xs 1 0 := ⟨by omega, fun j hj => by rw [show j = 0 by omega]; exact Int.le_refl _, fun j hj => absurd hj (by omega)⟩
theorem best_ex (xs : List Int) : ∀ n, 0 < n → ∃ k, Best xs n k
  | 1, _ => ⟨0, best_first xs⟩
  | n + 2, _ => by
    obtain ⟨k, h⟩ := best_ex xs (n + 1) (by omega)
    exact ⟨_, best_step h⟩

set_option maxHeartbeats 1000000 in
theorem roomiest_any (A : Option Addr) (n c : Nat) (xs : List Int) (k : Nat) (hk : Best xs n k) (h4 : n ≤ 4) (w : World) (h : Nums w A n xs) :
    Calls Try.prog 59 #[.slice A n c] w fun e w' => e = .returned (.int .i64 (k : Int)) ∧ Below w.heap.size w w' := by
  obtain ⟨b, off, rfl, hc⟩ := h.2.2 (by have := hk.1; omega)
  have HC := Lib.hid hc
  have HK := Lib.hid hk
  have HB := Lib.hid (Below.refl w.heap.size w)
  have hn0 := hk.1
  clear hc hk h
  go_enter Try.func59, Try.ntmps59
  go_wp2_with fail
  go_loop [3, 4, 5, 8] (fun v _ _ i => ∃ (i' q : Nat), i = .int .i64 (i' : Int) ∧ v = .int .i64 (q : Int) ∧ i' ≤ n ∧ q < n ∧ (i' = 0 → q = 0) ∧ (0 < i' → Best xs i' q)) (fun _ _ _ i => n - (intOf i).toNat)
  case atStart => exact ⟨0, 0, rfl, rfl, by omega, by omega, fun _ => rfl, fun h => absurd h (by omega)⟩
  case round =>
    obtain ⟨i', q, rfl, rfl, hi, hq, hz, hb⟩ := hrel
    have BI := Lib.hid hb
    have ZI := Lib.hid hz
    clear hb hz
    by_cases hlt : i' < n
    · have c1 := HC.out i' hlt
      have c2 := HC.out q hq
      obtain ⟨x, hx⟩ : ∃ x, x = xs.getD i' 0 := ⟨_, rfl⟩
      obtain ⟨y, hy⟩ : ∃ x, x = xs.getD q 0 := ⟨_, rfl⟩
      rw [← hx] at c1
      rw [← hy] at c2
      have HX := Lib.hid hx
      have HY := Lib.hid hy
      clear hx hy
      have hstep : Best xs (i' + 1) (if y < x then i' else q) := by
        rcases Nat.eq_zero_or_pos i' with h0 | h0
        · have hq0 := ZI.out h0
          subst h0 hq0
          rw [HX.out, HY.out, if_neg (by omega)]
          exact best_first xs
        · rw [HX.out, HY.out]
          exact best_step (BI.out h0)
      have HS := Lib.hid hstep
      clear hstep
      by_cases hc : y < x
      · go_wp2_with fail
        go_round
        case rel =>
          have h := HS.out
          rw [if_pos hc] at h
          exact ⟨i' + 1, i', by go_num, rfl, by omega, hlt, fun h => absurd h (by omega), fun _ => h⟩
        case measure => simp [intOf]; omega
      · go_wp2_with fail
        go_round
        case rel =>
          have h := HS.out
          rw [if_neg hc] at h
          exact ⟨i' + 1, q, by go_num, rfl, by omega, hq, fun h => absurd h (by omega), fun _ => h⟩
        case measure => simp [intOf]; omega
    · obtain rfl : i' = n := by omega
      have hqk := best_one HK.out (BI.out (by omega))
      subst hqk
      go_wp2_with fail
      go_ret
      exact ⟨rfl, HB.out⟩

/-- May a place be told? -/
def plOk (P seq : Int) (m : Nat) : Prop := 0 ≤ P ∧ P ≤ 2 ∧ 1 ≤ seq ∧ 1 ≤ m ∧ m ≤ 4
def plZ (P seq : Int) (m n : Nat) (T K : Int) (k : Nat) : Int := if P = 0 then (seq - 1).tmod m else if P = 1 then (if n = 0 then 0 else keyZ T K m) else (k : Int)

set_option maxHeartbeats 2000000 in
theorem place_no (B C F W P seq : Int) (A : Option Addr) (n c : Nat) (A2 : Option Addr) (m c2 : Nat) (hno : ¬ plOk P seq m) (w : World) :
    Calls Try.prog 21 #[polV B C F W P, .int .i64 seq, .slice A n c, .slice A2 m c2] w fun e w' => e = .returned (.tuple #[.int .i64 0, .iface 34 (.int .i64 1)]) ∧ Below w.heap.size w w' := by
  have HB := Lib.hid (show Below w.heap.size w (w.alloc (.cells #[.int .i64 B, .int .i64 C, .int .i64 F, .int .i64 W, .int .i64 P] 23)) from (Below.refl _ w).alloc (Nat.le_refl _) _)
  have C1 := fun w => good_any B C F W P w
  by_cases h1 : 0 ≤ P ∧ P ≤ 2
  · rw [decide_eq_true h1] at C1
    have H1 := Lib.hid C1
    have HN := Lib.hid hno
    clear C1 hno
    go_enter Try.func21, Try.ntmps21
    go_wp2_with fail
    refine Calls.mono (H1.out _) ?_
    rintro e w1 ⟨rfl, hb1⟩
    have HE := Lib.hid (HB.out.trans (hb1.mono HB.out.size))
    clear hb1
    by_cases h2 : seq < 1
    · go_wp2_with fail
      go_ret2
      exact ⟨rfl, HE.out⟩
    · by_cases h3 : m < 1
      · obtain rfl : m = 0 := by omega
        go_wp2_with fail
        go_ret2
        exact ⟨rfl, HE.out⟩
      · have h4 : 4 < m := by
          rcases Nat.lt_or_ge 4 m with h | h
          · exact h
          · exact absurd ⟨h1.1, h1.2, by omega, by omega, h⟩ HN.out
        go_wp2_with fail
        go_ret2
        exact ⟨rfl, HE.out⟩
  · rw [decide_eq_false h1] at C1
    have H1 := Lib.hid C1
    clear C1 hno h1
    go_enter Try.func21, Try.ntmps21
    go_wp2_with fail
    refine Calls.mono (H1.out _) ?_
    rintro e w1 ⟨rfl, hb1⟩
    have HE := Lib.hid (HB.out.trans (hb1.mono HB.out.size))
    clear hb1
    go_wp2_with fail
    go_ret2
    exact ⟨rfl, HE.out⟩

set_option maxHeartbeats 2000000 in
theorem place_yes (B C F W P seq : Int) (A : Option Addr) (n c : Nat) (A2 : Option Addr) (m c2 : Nat) (T K : Int) (xs : List Int) (k : Nat) (hok : plOk P seq m) (hs : Fits seq) (hk : Best xs m k) (w : World) (hw : Wr0 w A n T K) (hr : Nums w A2 m xs) :
    Calls Try.prog 21 #[polV B C F W P, .int .i64 seq, .slice A n c, .slice A2 m c2] w fun e w' => e = .returned (.tuple #[.int .i64 (plZ P seq m n T K k), .nilIface]) ∧ Below w.heap.size w w' := by
  have HB := Lib.hid (show Below w.heap.size w (w.alloc (.cells #[.int .i64 B, .int .i64 C, .int .i64 F, .int .i64 W, .int .i64 P] 23)) from (Below.refl _ w).alloc (Nat.le_refl _) _)
  have HP := Lib.hid (pb_new w B C F W P)
  have C1 := fun w => good_any B C F W P w
  obtain ⟨p0, p2, s1, m1, m4⟩ := hok
  rw [decide_eq_true ⟨p0, p2⟩] at C1
  have H1 := Lib.hid C1
  have HW := Lib.hid hw
  have HR := Lib.hid hr
  have HK := Lib.hid hk
  have HS := Lib.hid hs
  clear C1 hw hr hk
  rcases (show P = 0 ∨ P = 1 ∨ P = 2 by omega) with rfl | rfl | rfl
  · have hz : plZ 0 seq m n T K k = (seq - 1).tmod m := rfl
    rw [hz]
    have e1 : wrap64 (seq - 1) = seq - 1 := IntWalk.wrap64_in _ (by unfold Fits at hs; omega)
    have hm0 : ((m : Int) == 0) = false := by rw [beq_eq_false_iff_ne]; omega
    have b1 := Int.tmod_nonneg (m : Int) (show 0 ≤ seq - 1 by omega)
    have b2 := Int.tmod_lt_of_pos (seq - 1) (show (0 : Int) < m by omega)
    obtain ⟨t, ht⟩ : ∃ t, t = (seq - 1).tmod m := ⟨_, rfl⟩
    rw [← ht] at b1 b2 ⊢
    have e3 : (seq - 1).tmod m = t := ht.symm
    clear ht hs hz
    go_enter Try.func21, Try.ntmps21
    go_wp2_with fail
    refine Calls.mono (H1.out _) ?_
    rintro e w1 ⟨rfl, hb1⟩
    have hp1 := HP.out.below hb1 HP.out.lt
    have c4 := hp1.c4
    have HE := Lib.hid (HB.out.trans (hb1.mono HB.out.size))
    clear hb1 hp1
    go_wp2_with fail
    go_ret2
    exact ⟨rfl, HE.out⟩
  · have hz : plZ 1 seq m n T K k = if n = 0 then 0 else keyZ T K m := rfl
    rw [hz]
    have C2 := fun w1 (h : Below w.heap.size w w1) => byKey_any A n c T K m (by omega) m4 w1 (HW.out.ext (stays_w h))
    obtain ⟨t, ht⟩ : ∃ t, t = (if n = 0 then 0 else keyZ T K m) := ⟨_, rfl⟩
    rw [← ht] at C2 ⊢
    have H2 := Lib.hid C2
    clear C2 ht hs hz
    go_enter Try.func21, Try.ntmps21
    go_wp2_with fail
    refine Calls.mono (H1.out _) ?_
    rintro e w1 ⟨rfl, hb1⟩
    have hp1 := HP.out.below hb1 HP.out.lt
    have c4 := hp1.c4
    have HE := Lib.hid (HB.out.trans (hb1.mono HB.out.size))
    clear hb1 hp1
    go_wp2_with fail
    refine Calls.mono (H2.out _ HE.out) ?_
    rintro e w2 ⟨rfl, hb2⟩
    have HE2 := Lib.hid (HE.out.trans (hb2.mono HE.out.size))
    clear hb2
    go_wp2_with fail
    go_ret2
    exact ⟨rfl, HE2.out⟩
  · have hz : plZ 2 seq m n T K k = k := rfl
    rw [hz]
    have C2 := fun w1 (h : Below w.heap.size w w1) => roomiest_any A2 m c2 xs k HK.out m4 w1 (HR.out.ext (stays_w h))
    have H2 := Lib.hid C2
    clear C2 hs hz
    go_enter Try.func21, Try.ntmps21
    go_wp2_with fail
    refine Calls.mono (H1.out _) ?_
    rintro e w1 ⟨rfl, hb1⟩
    have hp1 := HP.out.below hb1 HP.out.lt
    have c4 := hp1.c4
    have HE := Lib.hid (HB.out.trans (hb1.mono HB.out.size))
    clear hb1 hp1
    go_wp2_with fail
    refine Calls.mono (H2.out _ HE.out) ?_
    rintro e w2 ⟨rfl, hb2⟩
    have HE2 := Lib.hid (HE.out.trans (hb2.mono HE.out.size))
    clear hb2
    go_wp2_with fail
    go_ret2
    exact ⟨rfl, HE2.out⟩
end Go.Proofs.Ytgdkgoiagjjccaa

/- Slices of numbers and of writes, opened. -/
namespace Go.Proofs.Ytgdkgoiagjjccaa
set_option maxRecDepth 100000
open Go.ChangeShapes Go.WideShapes Go.ChangeAt Go.RowKit

/-- A slice that reads as writes. -/
def Wrs (w : World) (A : Option Addr) (n : Nat) (ws : List (Int × Int × Int × Bool)) : Prop :=
  ws.length = n ∧ (0 < n → ∃ b off, A = some ⟨b, off, none⟩ ∧ ∀ j (h : j < ws.length), w.cell? ⟨b, off + j * 4, none⟩ = some (.int .i64 ws[j].1) ∧ w.cell? ⟨b, off + j * 4 + 1, none⟩ = some (.int .i64 ws[j].2.1) ∧
    w.cell? ⟨b, off + j * 4 + 2, none⟩ = some (.int .i64 ws[j].2.2.1) ∧ w.cell? ⟨b, off + j * 4 + 3, none⟩ = some (.bool ws[j].2.2.2))
theorem Wrs.first {w : World} {A : Option Addr} {n : Nat} {ws : List (Int × Int × Int × Bool)} (h : Wrs w A n ws) : ∃ T K, Wr0 w A n T K := by
  obtain ⟨hl, hc⟩ := h
  rcases Nat.eq_zero_or_pos n with h0 | h0
  · exact ⟨0, 0, fun h => absurd h (by omega)⟩
  · obtain ⟨b, off, e, hj⟩ := hc h0
    have h1 := hj 0 (by omega)
    exact ⟨_, _, fun _ => ⟨b, off, e, by simpa using h1.1, by simpa using h1.2.1⟩⟩

theorem addr_add' (b off j : Nat) : (⟨b, off, none⟩ : Addr).add j = ⟨b, off + j, none⟩ := by
  unfold Addr.add
  by_cases h : j = 0
  · subst h; simp
  · simp [h]
theorem cells3 : Try.prog.cellsOf 3 = 1 := by kernel_rfl
theorem cells4 : Try.prog.cellsOf 4 = 1 := by kernel_rfl
theorem cells37 : Try.prog.cellsOf 37 = 1 := by kernel_rfl
theorem cells38 : Try.prog.cellsOf 38 = 1 := by kernel_rfl
theorem cells104 : Try.prog.cellsOf 104 = 2 := by kernel_rfl
theorem cells106 : Try.prog.cellsOf 106 = 4 := by kernel_rfl
section
variable {H : Type} {enc : TypeId × Value → H} {W : World} {sp : Nat → Bool}
theorem fits_wf {z : Int} (h : (Lit.int .i64 z).wf = true) : Fits z := by
  have := bounds_i64 h
  unfold Fits; omega
theorem open_nums {fuel : Nat} {v : Value} {x : DataW H × List MemPlace} (hf : DataW.trod enc Try.prog W 0 sp true fuel 38 [v] = some x) :
    ∃ A n c xs, v = .slice A n c ∧ Nums W A n xs ∧ n ≤ 9223372036854775807 ∧ n ≤ c ∧ (A = none → c = 0) := by
  rcases open_ints Try.underlying38 Try.underlying3 cells3 hf with ⟨hcs, _⟩ | ⟨a, len, cap, zs, hcs, _, hl, hm, hz, _, hcell, hwz⟩
  · injection hcs with hcs
    subst hcs
    exact ⟨none, 0, 0, [], rfl, ⟨rfl, fun x hx => (by cases hx), fun hn => absurd hn (by omega)⟩, by decide, Nat.le_refl _, fun _ => rfl⟩
  · injection hcs with hcs
    subst hcs
    unfold maxLen at hm
    have hlz : len ≤ zs.length := by rw [hz]; split <;> omega
    refine ⟨some a, len, cap, zs.take len, rfl, ⟨by simp; omega, fun x hx => fits_wf (hwz x (List.mem_of_mem_take hx)), fun hn => ?_⟩, by omega, hl, fun h => by cases h⟩
    obtain ⟨b, off, spot⟩ := a
    have h0 := hcell 0 (by omega)
    have hspot : spot = none := by simpa [Addr.add] using World.cell?_spot h0
    subst hspot
    refine ⟨b, off, rfl, fun j hj => ?_⟩
    have h1 := hcell j (by omega)
    rw [addr_add'] at h1
    rw [h1]
    have e : (zs.take len).getD j 0 = zs.getD j 0 := by simp [List.getD_eq_getElem?_getD, hj]
    rw [e]
theorem open_write {fuel : Nat} {cs : List Value} {x : DataW H × List MemPlace} (hf : DataW.trod enc Try.prog W 0 sp true fuel 106 cs = some x) : ∃ q : Int × Int × Int × Bool, cs = [.int .i64 q.1, .int .i64 q.2.1, .int .i64 q.2.2.1, .bool q.2.2.2] := by
  obtain ⟨y0, y1, y2, n, _, hl, g0, g1, g2⟩ := Go.Deep.trod_struct3 Try.underlying106 hf
  rw [cells106] at hl
  match cs, hl with
  | [v0, v1, v2, v3], _ =>
    obtain ⟨z0, z1, m, _, hl2, k0, k1⟩ := trod_struct2 Try.underlying104 g0
    simp [cells104, cells3, cells4] at g1 g2 k0 k1
    obtain ⟨a0, e0, _⟩ := DataW.trod_int Try.underlying3 k0
    obtain ⟨a1, e1, _⟩ := DataW.trod_int Try.underlying3 k1
    obtain ⟨a2, e2, _⟩ := DataW.trod_int Try.underlying3 g1
    obtain ⟨a3, e3, _⟩ := DataW.trod_bool Try.underlying4 g2
    injection e0 with e0
    injection e1 with e1
    injection e2 with e2
    injection e3 with e3
    exact ⟨(a0, a1, a2, a3), by rw [e0, e1, e2, e3]⟩
theorem open_writes {fuel : Nat} {v : Value} {x : DataW H × List MemPlace} (hf : DataW.trod enc Try.prog W 0 sp true fuel 37 [v] = some x) :
    ∃ A n c ws, v = .slice A n c ∧ Wrs W A n ws ∧ n ≤ 9223372036854775807 ∧ n ≤ c ∧ (A = none → c = 0) := by
  rcases Go.Deep.open_slice Try.underlying37 hf with ⟨hcs, _⟩ | ⟨a, len, cap, m, k, D, Pl, hcs, _, hl, hm, hmm, _, hx⟩
  · injection hcs with hcs
    subst hcs
    exact ⟨none, 0, 0, [], rfl, ⟨rfl, fun hn => absurd hn (by omega)⟩, by decide, Nat.le_refl _, fun _ => rfl⟩
  · injection hcs with hcs
    subst hcs
    unfold maxLen at hm
    have hlm : len ≤ m := by rw [hmm]; split <;> omega
    have hall : ∀ j, ∃ q : Int × Int × Int × Bool, j < len → W.cells? 0 (a.add (j * 4)) 4 = some [.int .i64 q.1, .int .i64 q.2.1, .int .i64 q.2.2.1, .bool q.2.2.2] := by
      intro j
      by_cases hj : j < len
      · obtain ⟨cs', h1, h2⟩ := hx j (by omega)
        rw [cells106] at h1
        obtain ⟨q, rfl⟩ := open_write h2
        exact ⟨q, fun _ => h1⟩
      · exact ⟨(0, 0, 0, false), fun h => absurd h hj⟩
    obtain ⟨F, hall⟩ := Classical.axiomOfChoice hall
    refine ⟨some a, len, cap, (List.range len).map F, rfl, ⟨by simp, fun hn => ?_⟩, by omega, hl, fun h => by cases h⟩
    obtain ⟨b, off, spot⟩ := a
    obtain ⟨_, _, h0⟩ := World.cells?_some (hall 0 hn)
    have h00 := h0 0 (by omega)
    have hspot : spot = none := by simpa [Addr.add] using World.cell?_spot h00
    subst hspot
    refine ⟨b, off, rfl, fun j hj => ?_⟩
    have hj' : j < len := by simpa using hj
    obtain ⟨_, _, h1⟩ := World.cells?_some (hall j hj')
    have c0 := h1 0 (by omega)
    have c1 := h1 1 (by omega)
    have c2 := h1 2 (by omega)
    have c3 := h1 3 (by omega)
    simp only [addr_add'] at c0 c1 c2 c3
    simp only [List.getElem_map, List.getElem_range]
    exact ⟨by simpa using c0, by simpa using c1, by simpa using c2, by simpa using c3⟩
theorem open_where {v : Value} {base : Nat} {r : Reach} {x : DataW H × List MemPlace} (hv : Value.okWide Try.prog W r base 40 v) (h : ∃ fuel, DataW.trod enc Try.prog W 0 sp true fuel 40 v.cells.toList = some x) :
    ∃ A n c A2 m c2 ws xs, v = .agg #[.slice A n c, .slice A2 m c2] ∧ Wrs W A n ws ∧ Nums W A2 m xs ∧ n ≤ 9223372036854775807 ∧ m ≤ 9223372036854775807 ∧ (n ≤ c ∧ (A = none → c = 0)) ∧ m ≤ c2 ∧ (A2 = none → c2 = 0) := by
  obtain ⟨cs, rfl, hsz⟩ := okWide_struct Try.underlying40 hv
  obtain ⟨fuel, hf⟩ := h
  obtain ⟨y0, y1, n, _, hl, g0, g1⟩ := trod_struct2 Try.underlying40 hf
  obtain ⟨l⟩ := cs
  rw [show Try.prog.cellsOf 40 = 2 by kernel_rfl] at hl
  simp only [Value.cells] at hl g0 g1
  match l, hl with
  | [u0, u1], _ =>
    simp [cells37, cells38] at g0 g1
    obtain ⟨A, n1, c, ws, rfl, h1, h2, h3⟩ := open_writes g0
    obtain ⟨A2, m, c2, xs, rfl, h4, h5, h6⟩ := open_nums g1
    exact ⟨A, n1, c, A2, m, c2, ws, xs, rfl, h1, h4, h2, h5, h3, h6⟩
end
end Go.Proofs.Ytgdkgoiagjjccaa

/- The contracts of num.Ints at like numbers, and of num.Num at what arith answers. -/
namespace Go.Proofs.Ytgdkgoiagjjccaa
set_option maxRecDepth 100000
open Go.RowKit

set_option maxHeartbeats 1000000 in
theorem ints_same (A : Option Addr) (n c : Nat) (A2 : Option Addr) (c2 : Nat) (xs : List Int) (w : World) (ha : Nums w A n xs) (hb : Nums w A2 n xs) (hn : n ≤ 9223372036854775807) :
    Calls Try.prog 26 #[.slice A n c, .slice A2 n c2] w fun e w' => e = .returned (.bool true) ∧ Below w.heap.size w w' := by
  have HA := Lib.hid ha
  have HB := Lib.hid hb
  clear ha hb
  go_enter Try.func26, Try.ntmps26
  go_wp2_with fail
  go_loopw [5, 13] (fun _ i wr => ∃ k : Nat, i = .int .i64 (k : Int) ∧ k ≤ n ∧ Below w.heap.size w wr) (fun _ i _ => n - (intOf i).toNat)
  case atStart => exact ⟨0, rfl, by omega, Below.refl _ _⟩
  case round =>
    obtain ⟨k, rfl, hk, hbr⟩ := hrel
    by_cases hlt : k < n
    · obtain ⟨b, off, rfl, hc⟩ := (HA.out.ext (stays_w hbr)).2.2 (by omega)
      obtain ⟨b2, off2, rfl, hc2⟩ := (HB.out.ext (stays_w hbr)).2.2 (by omega)
      have c1 := hc k hlt
      have c2' := hc2 k hlt
      obtain ⟨x, hx⟩ : ∃ x, x = xs.getD k 0 := ⟨_, rfl⟩
      rw [← hx] at c1 c2'
      have HR := Lib.hid hbr
      clear hc hc2 hx hbr HA HB
      go_wp2_with fail
      go_quiet (fail)
      have hbd : Below w.heap.size w (wr.drewN nq) := ⟨HR.out.os, HR.out.tape, HR.out.output, HR.out.size, HR.out.block⟩
      go_wp2_with fail
      go_roundw
      case rel => exact ⟨k + 1, by go_num, by omega, hbd⟩
      case measure => simp [intOf]; omega
    · obtain rfl : k = n := by omega
      go_wp2_with fail
      go_ret
      exact ⟨rfl, hbr⟩

/-- An error's number. -/
def numC (z : Int) : Int := if -9223372036854775808 ≤ z ∧ z ≤ 9223372036854775807 then 0 else 7
theorem num_any (z : Int) (w : World) : Calls Try.prog 23 #[numE z] w fun e w' => e = .returned (.int .i64 (numC z)) ∧ w = w' := by
  unfold numE numC
  by_cases h : -9223372036854775808 ≤ z ∧ z ≤ 9223372036854775807
  · rw [if_pos h, if_pos h]; exact num_nil w
  · rw [if_neg h, if_neg h]; exact num_over w
end Go.Proofs.Ytgdkgoiagjjccaa

/- The contracts of the reference's Place and of num.Writes. -/
namespace Go.Proofs.Ytgdkgoiagjjccaa
set_option maxRecDepth 100000
open Go.RowKit

theorem Wrs.ext {w w' : World} {A : Option Addr} {n : Nat} {ws : List (Int × Int × Int × Bool)} (h : Wrs w A n ws) (hs : ∀ p : Addr, p.block < w.heap.size → w'.cell? p = w.cell? p) : Wrs w' A n ws :=
  ⟨h.1, fun hn => by
    obtain ⟨b, off, e, hc⟩ := h.2 hn
    exact ⟨b, off, e, fun j hj => by
      obtain ⟨h0, h1, h2, h3⟩ := hc j hj
      exact ⟨(hs _ (World.block_lt_of_cell? _ _ h0)).trans h0, (hs _ (World.block_lt_of_cell? _ _ h1)).trans h1, (hs _ (World.block_lt_of_cell? _ _ h2)).trans h2, (hs _ (World.block_lt_of_cell? _ _ h3)).trans h3⟩⟩⟩
theorem key_eq (d : Nat) (T K : Int) (w : World) : (Op.equalIn (d + 1 + 1) 104 (.agg #[.int .i64 T, .int .i64 K]) (.agg #[.int .i64 T, .int .i64 K])).run Try.prog w = .ok true w := by
  have u3 := Try.underlying3
  have a3 := Try.isAgg3
  have z3 := Try.sizeOf3
  have hS : Try.prog.underlying 104 = some (.struct (Try.prog.fieldsOf 104)) := by kernel_rfl
  have hp : Try.prog.stoodInHeld 104 = false := by kernel_rfl
  rw [run_equalIn_agg w (d + 1) 104 _ _ hS hp]
  simp only [Program.fieldsOf, Try.underlying104]
  go_simp
theorem write_eq (T K V : Int) (D : Bool) (w : World) : (Op.equalIn 10000 106 (.agg #[.int .i64 T, .int .i64 K, .int .i64 V, .bool D]) (.agg #[.int .i64 T, .int .i64 K, .int .i64 V, .bool D])).run Try.prog w = .ok true w := by
  have u3 := Try.underlying3
  have a3 := Try.isAgg3
  have z3 := Try.sizeOf3
  have u4 := Try.underlying4
  have a4 := Try.isAgg4
  have z4 := Try.sizeOf4
  have u104 := Try.underlying104
  have a104 := Try.isAgg104
  have z104 := Try.sizeOf104
  have hk := key_eq 9997 T K
  have hS : Try.prog.underlying 106 = some (.struct (Try.prog.fieldsOf 106)) := by kernel_rfl
  have hp : Try.prog.stoodInHeld 106 = false := by kernel_rfl
  rw [show (10000 : Nat) = 9999 + 1 from rfl, run_equalIn_agg w 9999 106 _ _ hS hp]
  simp only [Program.fieldsOf, Try.underlying106]
  go_simp
theorem write_neq (T K V : Int) (D : Bool) (w : World) : (binOp .neq 106 (.agg #[.int .i64 T, .int .i64 K, .int .i64 V, .bool D]) (.agg #[.int .i64 T, .int .i64 K, .int .i64 V, .bool D])).run Try.prog w = .ok (.bool false) w := by
  rw [run_neq_struct, write_eq]
  rfl

set_option maxHeartbeats 1000000 in
theorem writes_same (A : Option Addr) (n c : Nat) (A2 : Option Addr) (c2 : Nat) (ws : List (Int × Int × Int × Bool)) (w : World) (ha : Wrs w A n ws) (hb : Wrs w A2 n ws) (hn : n ≤ 9223372036854775807) :
    Calls Try.prog 25 #[.slice A n c, .slice A2 n c2] w fun e w' => e = .returned (.bool true) ∧ Below w.heap.size w w' := by
  have HA := Lib.hid ha
  have HB := Lib.hid hb
  clear ha hb
  go_enter Try.func25, Try.ntmps25
  go_wp2_with fail
  go_loopw [5, 13] (fun _ i wr => ∃ k : Nat, i = .int .i64 (k : Int) ∧ k ≤ n ∧ Below w.heap.size w wr) (fun _ i _ => n - (intOf i).toNat)
  case atStart => exact ⟨0, rfl, by omega, Below.refl _ _⟩
  case round =>
    obtain ⟨k, rfl, hk, hbr⟩ := hrel
    by_cases hlt : k < n
    · obtain ⟨b, off, rfl, hc⟩ := (HA.out.ext (stays_w hbr)).2 (by omega)
      obtain ⟨b2, off2, rfl, hc2⟩ := (HB.out.ext (stays_w hbr)).2 (by omega)
      have hl : k < ws.length := by rw [HA.out.1]; exact hlt
      obtain ⟨p0, p1, p2, p3⟩ := hc k hl
      obtain ⟨q0, q1, q2, q3⟩ := hc2 k hl
      obtain ⟨T, hT⟩ : ∃ T, T = ws[k].1 := ⟨_, rfl⟩
      obtain ⟨K, hK⟩ : ∃ T, T = ws[k].2.1 := ⟨_, rfl⟩
      obtain ⟨V, hV⟩ : ∃ T, T = ws[k].2.2.1 := ⟨_, rfl⟩
      obtain ⟨D, hD⟩ : ∃ T, T = ws[k].2.2.2 := ⟨_, rfl⟩
      rw [← hT] at p0 q0
      rw [← hK] at p1 q1
      rw [← hV] at p2 q2
      rw [← hD] at p3 q3
      have hne := write_neq T K V D
      have HR := Lib.hid hbr
      clear hc hc2 hT hK hV hD hbr HA HB hl
      go_wp2_with fail
      go_quiet (fail)
      have hbd : Below w.heap.size w (wr.drewN nq) := ⟨HR.out.os, HR.out.tape, HR.out.output, HR.out.size, HR.out.block⟩
      go_wp2_with fail
      go_roundw
      case rel => exact ⟨k + 1, by go_num, by omega, hbd⟩
      case measure => simp [intOf]; omega
    · obtain rfl : k = n := by omega
      go_wp2_with fail
      go_ret
      exact ⟨rfl, hbr⟩
end Go.Proofs.Ytgdkgoiagjjccaa

/- The contract of the reference's Place. -/
namespace Go.Proofs.Ytgdkgoiagjjccaa
set_option maxRecDepth 100000
open Go.RowKit

set_option maxHeartbeats 2000000 in
theorem ref_no (B C F W P seq : Int) (A : Option Addr) (n c : Nat) (A2 : Option Addr) (m c2 : Nat) (hno : ¬ plOk P seq m) (w : World) :
    Calls Try.prog 22 #[polV B C F W P, .int .i64 seq, .slice A n c, .slice A2 m c2] w fun e w' => e = .returned (.tuple #[.int .i64 0, .int .i64 1]) ∧ Below w.heap.size w w' := by
  have HB := Lib.hid (show Below w.heap.size w (w.alloc (.cells #[.int .i64 B, .int .i64 C, .int .i64 F, .int .i64 W, .int .i64 P] 23)) from (Below.refl _ w).alloc (Nat.le_refl _) _)
  have HN := Lib.hid hno
  clear hno
  by_cases h1 : P < 0
  · go_enter Try.func22, Try.ntmps22
    go_wp2_with fail
    go_ret2
    exact ⟨rfl, HB.out⟩
  by_cases h2 : 2 < P
  · go_enter Try.func22, Try.ntmps22
    go_wp2_with fail
    go_ret2
    exact ⟨rfl, HB.out⟩
  by_cases h3 : seq < 1
  · go_enter Try.func22, Try.ntmps22
    go_wp2_with fail
    go_ret2
    exact ⟨rfl, HB.out⟩
  by_cases h4 : m = 0
  · subst h4
    go_enter Try.func22, Try.ntmps22
    go_wp2_with fail
    go_ret2
    exact ⟨rfl, HB.out⟩
  · have h5 : 4 < m := by
      rcases Nat.lt_or_ge 4 m with h | h
      · exact h
      · exact absurd ⟨by omega, by omega, by omega, by omega, h⟩ HN.out
    have h6 : ¬ (m : Int) < 1 := by omega
    have h7 : 4 < (m : Int) := by omega
    go_enter Try.func22, Try.ntmps22
    go_wp2_with fail
    go_ret2
    exact ⟨rfl, HB.out⟩

def allLe (xs : List Int) (i k : Nat) : Bool := decide (∀ j, j < k → xs.getD j 0 ≤ xs.getD i 0)
theorem allLe_zero (xs : List Int) (i : Nat) : allLe xs i 0 = true := decide_eq_true (fun j hj => absurd hj (by omega))
theorem allLe_succ (xs : List Int) (i k : Nat) : allLe xs i (k + 1) = (allLe xs i k && decide (xs.getD k 0 ≤ xs.getD i 0)) := by
  unfold allLe
  rw [← Bool.decide_and]
  exact decide_eq_decide.2 ⟨fun h => ⟨fun j hj => h j (by omega), h k (by omega)⟩, fun h j hj => by
    rcases Nat.lt_succ_iff_lt_or_eq.1 hj with h1 | h1
    · exact h.1 j h1
    · rw [h1]; exact h.2⟩
theorem allLe_best {xs : List Int} {m K i : Nat} (h : Best xs m K) (hi : i ≤ K) : allLe xs i m = decide (i = K) := by
  unfold allLe
  refine decide_eq_decide.2 ⟨fun h1 => ?_, fun h1 => ?_⟩
  · rcases Nat.lt_or_ge i K with h2 | h2
    · have := h.2.2 i h2; have := h1 K h.1; omega
    · omega
  · rw [h1]; exact h.2.1

set_option maxHeartbeats 4000000 in
theorem ref_yes (B C F W P seq : Int) (A : Option Addr) (n c : Nat) (A2 : Option Addr) (m c2 : Nat) (T K : Int) (xs : List Int) (k : Nat) (hok : plOk P seq m) (hs : Fits seq) (hk : Best xs m k) (w : World) (hw : Wr0 w A n T K) (hr : Nums w A2 m xs) (hn : n ≤ 9223372036854775807) :
    Calls Try.prog 22 #[polV B C F W P, .int .i64 seq, .slice A n c, .slice A2 m c2] w fun e w' => e = .returned (.tuple #[.int .i64 (plZ P seq m n T K k), .int .i64 0]) ∧ Below w.heap.size w w' := by
  have hb0 : Below w.heap.size w (w.alloc (.cells #[.int .i64 B, .int .i64 C, .int .i64 F, .int .i64 W, .int .i64 P] 23)) := (Below.refl _ w).alloc (Nat.le_refl _) _
  have HB := Lib.hid hb0
  obtain ⟨p0, p2, s1, m1, m4⟩ := hok
  have HW := Lib.hid (hw.ext (stays_w hb0))
  have HR := Lib.hid (hr.ext (stays_w hb0))
  have HK := Lib.hid hk
  have HS := Lib.hid hs
  clear hw hr hk hb0
  rcases (show P = 0 ∨ P = 1 ∨ P = 2 by omega) with rfl | rfl | rfl
  · have hz : plZ 0 seq m n T K k = (seq - 1).tmod m := rfl
    rw [hz]
    have e1 : wrap64 (seq - 1) = seq - 1 := IntWalk.wrap64_in _ (by unfold Fits at hs; omega)
    have hm0 : ((m : Int) == 0) = false := by rw [beq_eq_false_iff_ne]; omega
    have b1 := Int.tmod_nonneg (m : Int) (show 0 ≤ seq - 1 by omega)
    have b2 := Int.tmod_lt_of_pos (seq - 1) (show (0 : Int) < m by omega)
    obtain ⟨t, ht⟩ : ∃ t, t = (seq - 1).tmod m := ⟨_, rfl⟩
    rw [← ht] at b1 b2 ⊢
    have e3 : (seq - 1).tmod m = t := ht.symm
    clear ht hs hz
    go_enter Try.func22, Try.ntmps22
    go_wp2_with fail
    go_ret2
    exact ⟨rfl, HB.out⟩
  · have hz : plZ 1 seq m n T K k = if n = 0 then 0 else keyZ T K m := rfl
    rw [hz]
    by_cases h0 : n = 0
    · subst h0
      rw [if_pos rfl]
      clear hs hz
      go_enter Try.func22, Try.ntmps22
      go_wp2_with fail
      go_ret2
      exact ⟨rfl, HB.out⟩
    · rw [if_neg h0]
      obtain ⟨b, off, rfl, h1, h2⟩ := HW.out (by omega)
      have hn0 : ((n : Int) == 0) = false := by rw [beq_eq_false_iff_ne]; omega
      have hm0 : ((m : Int) == 0) = false := by rw [beq_eq_false_iff_ne]; omega
      unfold keyZ
      clear hs hz
      go_enter Try.func22, Try.ntmps22
      go_wp2_with fail
      go_quiet (fail)
      have HD := Lib.hid (show Below w.heap.size w (World.drewN (w.alloc (.cells #[.int .i64 B, .int .i64 C, .int .i64 F, .int .i64 W, .int .i64 1] 23)) nq) from ⟨HB.out.os, HB.out.tape, HB.out.output, HB.out.size, HB.out.block⟩)
      go_wp2_with fail
      go_ret2
      exact ⟨rfl, HD.out⟩
  · have hz : plZ 2 seq m n T K k = k := rfl
    rw [hz]
    obtain ⟨b, off, rfl, hcc⟩ := HR.out.2.2 (by omega)
    have HC := Lib.hid hcc
    clear hs hz hcc HR
    go_enter Try.func22, Try.ntmps22
    go_wp2_with fail
    go_loopw [12, 13, 14] (fun i _ _ wr => ∃ q : Nat, i = .int .i64 (q : Int) ∧ q ≤ k ∧ (∀ p : Addr, p.block < (w.alloc (.cells #[.int .i64 B, .int .i64 C, .int .i64 F, .int .i64 W, .int .i64 2] 23)).heap.size → wr.cell? p = (w.alloc (.cells #[.int .i64 B, .int .i64 C, .int .i64 F, .int .i64 W, .int .i64 2] 23)).cell? p) ∧ Below w.heap.size w wr) (fun i _ _ _ => k - (intOf i).toNat)
    case atStart => exact ⟨0, rfl, by omega, fun _ _ => rfl, HB.out⟩
    case round =>
      obtain ⟨q, rfl, hq, hsame, hbr⟩ := hrel
      have hkm := HK.out.1
      have SM := Lib.hid hsame
      have BR := Lib.hid hbr
      clear hsame hbr
      have hle := allLe_best HK.out hq
      have HLE := Lib.hid hle
      have hz := allLe_zero xs q
      have HZ := Lib.hid hz
      have hqm : q < m := by omega
      clear hle hz
      go_wp2_with fail
      go_loopw [13, 14] (fun v i wq => ∃ j : Nat, i = .int .i64 (j : Int) ∧ j ≤ m ∧ v = .bool (allLe xs q j) ∧ (∀ p : Addr, p.block < (w.alloc (.cells #[.int .i64 B, .int .i64 C, .int .i64 F, .int .i64 W, .int .i64 2] 23)).heap.size → wq.cell? p = (w.alloc (.cells #[.int .i64 B, .int .i64 C, .int .i64 F, .int .i64 W, .int .i64 2] 23)).cell? p) ∧ Below w.heap.size w wq) (fun _ i _ => m - (intOf i).toNat)
      case atStart => exact ⟨0, rfl, by omega, by rw [HZ.out], SM.out, BR.out⟩
      case round =>
        obtain ⟨j, rfl, hj, rfl, hsame, hbr⟩ := hrel
        clear SM BR HZ
        by_cases hlt : j < m
        · have c1 := (hsame ⟨b, off + j, none⟩ (World.block_lt_of_cell? _ _ (HC.out j hlt))).trans (HC.out j hlt)
          have c2' := (hsame ⟨b, off + q, none⟩ (World.block_lt_of_cell? _ _ (HC.out q hqm))).trans (HC.out q hqm)
          have hsc := allLe_succ xs q j
          obtain ⟨x, hx⟩ : ∃ x, x = xs.getD j 0 := ⟨_, rfl⟩
          obtain ⟨y, hy⟩ : ∃ x, x = xs.getD q 0 := ⟨_, rfl⟩
          rw [← hx] at c1
          rw [← hy] at c2'
          rw [← hx, ← hy] at hsc
          have SM := Lib.hid hsame
          have BR := Lib.hid hbr
          have HSC := Lib.hid hsc
          obtain ⟨v, hv⟩ : ∃ v, v = allLe xs q j := ⟨_, rfl⟩
          rw [← hv] at HSC ⊢
          clear hsame hbr hx hy hsc hv
          by_cases hvt : v = true
          · subst hvt
            go_wp2_with fail
            go_quiet (fail)
            have hbd : Below w.heap.size w (wr.drewN nq) := ⟨BR.out.os, BR.out.tape, BR.out.output, BR.out.size, BR.out.block⟩
            have hsd : ∀ p : Addr, p.block < (w.alloc (.cells #[.int .i64 B, .int .i64 C, .int .i64 F, .int .i64 W, .int .i64 2] 23)).heap.size → (wr.drewN nq).cell? p = (w.alloc (.cells #[.int .i64 B, .int .i64 C, .int .i64 F, .int .i64 W, .int .i64 2] 23)).cell? p := fun p hp => by
              have := SM.out p hp
              rw [← this]; simp
            have BD := Lib.hid hbd
            have SD := Lib.hid hsd
            clear hbd hsd
            go_wp2_with fail
            go_roundw
            case rel => exact ⟨j + 1, by go_num, by omega, by rw [HSC.out, Bool.true_and], SD.out, BD.out⟩
            case measure => simp [intOf]; omega
          · have hvf : v = false := by simpa using hvt
            clear hvt
            subst hvf
            go_wp2_with fail
            go_quiet (fail)
            have hbd : Below w.heap.size w (wr.drewN nq) := ⟨BR.out.os, BR.out.tape, BR.out.output, BR.out.size, BR.out.block⟩
            have hsd : ∀ p : Addr, p.block < (w.alloc (.cells #[.int .i64 B, .int .i64 C, .int .i64 F, .int .i64 W, .int .i64 2] 23)).heap.size → (wr.drewN nq).cell? p = (w.alloc (.cells #[.int .i64 B, .int .i64 C, .int .i64 F, .int .i64 W, .int .i64 2] 23)).cell? p := fun p hp => by
              have := SM.out p hp
              rw [← this]; simp
            have BD := Lib.hid hbd
            have SD := Lib.hid hsd
            clear hbd hsd
            go_wp2_with fail
            go_roundw
            case rel => exact ⟨j + 1, by go_num, by omega, by rw [HSC.out, Bool.false_and], SD.out, BD.out⟩
            case measure => simp [intOf]; omega
        · obtain rfl : j = m := by omega
          rw [HLE.out]
          have SM := Lib.hid hsame
          have BR := Lib.hid hbr
          clear hsame hbr
          by_cases hqk : q = k
          · rw [decide_eq_true hqk]
            subst hqk
            go_wp2_with fail
            go_ret2
            exact ⟨rfl, BR.out⟩
          · rw [decide_eq_false hqk]
            have hq1 : q + 1 ≤ k := by omega
            clear hqk
            go_wp2_with fail
            go_roundw
            case rel => exact ⟨q + 1, by go_num, hq1, SM.out, BR.out⟩
            case measure => simp [intOf]; omega
end Go.Proofs.Ytgdkgoiagjjccaa

/- Rows of values: read, appended, in regions that draw and in such that do not. -/
namespace Go.Proofs.Ytgdkgoiagjjccaa
set_option maxRecDepth 100000
open Go.RowKit

/-- A slice that reads as values. -/
def Rdv (w : World) (A : Option Addr) (n size : Nat) (ys : List Value) : Prop :=
  ys.length = n * size ∧ (0 < n → ∃ b off, A = some ⟨b, off, none⟩ ∧ ∀ j u, ys[j]? = some u → w.cell? ⟨b, off + j, none⟩ = some u)
theorem Rdv.ext {w w' : World} {A : Option Addr} {n size : Nat} {ys : List Value} (h : Rdv w A n size ys) (hs : ∀ p : Addr, p.block < w.heap.size → w'.cell? p = w.cell? p) : Rdv w' A n size ys :=
  ⟨h.1, fun hn => by
    obtain ⟨b, off, e, hc⟩ := h.2 hn
    exact ⟨b, off, e, fun j u hj => (hs _ (World.block_lt_of_cell? _ _ (hc j u hj))).trans (hc j u hj)⟩⟩
theorem addr_plus (b off j : Nat) : (⟨b, off, none⟩ : Addr).add j = ⟨b, off + j, none⟩ := by
  unfold Addr.add
  by_cases h : j = 0
  · subst h; simp
  · simp [h]
theorem rdv_own {w : World} {B e size n : Nat} {v : Value} {xs : List Value} (h : w.ownsRow B e size v n xs) : ∃ A c, v = .slice A n c ∧ Rdv w A n size xs ∧ (A = none → c = 0) ∧ n ≤ c := by
  rcases h.2 with ⟨rfl, h0⟩ | ⟨g, cap, cur, rfl, _, _, hle, _⟩
  · subst h0
    exact ⟨none, 0, rfl, ⟨h.1, fun hn => absurd hn (by omega)⟩, fun _ => rfl, Nat.le_refl _⟩
  · refine ⟨_, _, rfl, ⟨h.1, fun _ => ⟨g, 0, rfl, fun j u hj => ?_⟩⟩, (fun he => by cases he), hle⟩
    have hc := h.cells (g := g) rfl j u hj
    rw [addr_plus] at hc
    exact hc
/-- What is known of the element's type. -/
structure ElemT (P : Program) (t e : TypeId) (size bytes : Nat) : Prop where
  slice : P.underlying t = some (.slice e)
  info : (P.info? e).map (fun i => (i.size, i.bytes)) = some (size, bytes)
  zero : ∃ i z, P.info? e = some i ∧ i.zero = some z ∧ z.cells.size = size
  pos : 0 < size
theorem run_append_row {P : Program} {t e : TypeId} {size bytes : Nat} (E : ElemT P t e size bytes) (w : World) (B : Nat) (ty : TypeId) (v : Value) (n : Nat) (xs : List Value) (hown : w.ownsRow B e size v n xs)
    (A : Option Addr) (m c : Nat) (ys : List Value) (hr : Rdv w A m size ys) (h1 : ∀ u ∈ ys, u.oneCell' = true) (hnil : A = none → c = 0) (hmx : n + m ≤ maxLen) (hby : (n + m) * bytes ≤ 140737488355328) (hbase : B ≤ w.heap.size) :
    ∃ v' w', (Builtin.append_ #[t, t] ty #[v, .slice A m c]).run P w = .ok v' w' ∧ w'.ownsRow B e size v' (n + m) (xs ++ ys) ∧ Below B w w' := by
  obtain ⟨ht, hinfo, ⟨i, z, hi, hz, hzs⟩, hpos⟩ := E
  rw [hi] at hinfo
  simp at hinfo
  obtain ⟨hl, hc⟩ := hr
  rcases A with _ | ad
  · have hm : m = 0 := by
      rcases Nat.eq_zero_or_pos m with h0 | h0
      · exact h0
      · obtain ⟨b, off, h2, _⟩ := hc h0; cases h2
    have hc0 := hnil rfl
    subst hm hc0
    have hy : ys = [] := List.eq_nil_of_length_eq_zero (by rw [hl]; simp)
    subst hy
    exact ⟨v, w, run_append_owned_none (P := P) (w := w) B t ty e i size ht hi v n xs hown, by rw [List.append_nil]; exact hown, Below.refl _ _⟩
  · obtain ⟨v', w', hrun, h2, h3, _⟩ := run_append_own (P := P) w B t ty e i z size bytes ht hi hz hinfo.1 hinfo.2 hzs hpos v n xs hown ad m c ys (by rw [hl]) (fun j u hj => by
      have hm : 0 < m := by
        rcases Nat.eq_zero_or_pos m with h0 | h0
        · subst h0
          have : ys = [] := List.eq_nil_of_length_eq_zero (by rw [hl]; simp)
          subst this
          simp at hj
        · exact h0
      obtain ⟨b, off, h4, h5⟩ := hc hm
      injection h4 with h4
      subst h4
      rw [addr_plus]
      exact h5 j u hj) h1 hmx hby hbase
    exact ⟨v', w', hrun, h2, (Below.refl B w).grown h3 hbase (fun k hk => (hown.lt k hk).1)⟩
theorem wpList_append_rowv {P : Program} {t e : TypeId} {size bytes : Nat} (E : ElemT P t e size bytes) {w : World} {ops : Array Oper} {rest : List Oper} {o : Oper} {a : Act} {Q : Exit → Act → World → Prop} (hgd : o.guard = none) (s x : Operand)
    (ho : o.op = .call { callee := .builtin .append, args := #[s, x], argTypes := #[t, t] })
    (B : Nat) (v : Value) (n : Nat) (xs : List Value) (hs : a.eval s = v) (hown : w.ownsRow B e size v n xs)
    (A : Option Addr) (m c : Nat) (ys : List Value) (hx : a.eval x = .slice A m c) (hr : Rdv w A m size ys) (h1 : ∀ u ∈ ys, u.oneCell' = true) (hnil : A = none → c = 0)
    (hmx : n + m ≤ maxLen) (hby : (n + m) * bytes ≤ 140737488355328) (hbase : B ≤ w.heap.size)
    (h : ∀ v' w', w'.ownsRow B e size v' (n + m) (xs ++ ys) → Below B w w' → wpList P ops Q rest (a.put o.dst v') w') : wpList P ops Q (o :: rest) a w := by
  obtain ⟨v', w', hrun, h2, h3⟩ := run_append_row E w B o.type v n xs hown A m c ys hr h1 hnil hmx hby hbase
  refine wpList_plain hgd fun K hK => ?_
  have h4 := h v' w' h2 h3
  unfold Oper.wp
  simp [execOp, ho, resolve, invoke, builtin, hs, hx, hrun, Result.andThen]
  exact hK _ _ h4
theorem step_append_rowv {P : Program} {t e : TypeId} {size bytes : Nat} (E : ElemT P t e size bytes) {w : World} {ops : Array Oper} {o : Oper} {a : Act} {K : Act → World → Prop} {Q : Exit → Act → World → Prop} {F : Prop}
    (hw : Region.wanted o (yielded ops a.tmps) = true) (s x : Operand)
    (ho : o.op = .call { callee := .builtin .append, args := #[s, x], argTypes := #[t, t] })
    (B : Nat) (v : Value) (n : Nat) (xs : List Value) (hs : a.eval s = v) (hown : w.ownsRow B e size v n xs)
    (A : Option Addr) (m c : Nat) (ys : List Value) (hx : a.eval x = .slice A m c) (hr : Rdv w A m size ys) (h1 : ∀ u ∈ ys, u.oneCell' = true) (hnil : A = none → c = 0)
    (hmx : n + m ≤ maxLen) (hby : (n + m) * bytes ≤ 140737488355328) (hbase : B ≤ w.heap.size)
    (h : ∀ v' w', w'.ownsRow B e size v' (n + m) (xs ++ ys) → Below B w w' → K (a.put o.dst v') w') : if Region.wanted o (yielded ops a.tmps) = true then Oper.wp P o a w K Q else F := by
  rw [if_pos hw]
  obtain ⟨v', w', hrun, h2, h3⟩ := run_append_row E w B o.type v n xs hown A m c ys hr h1 hnil hmx hby hbase
  have h4 := h v' w' h2 h3
  unfold Oper.wp
  simp [execOp, ho, resolve, invoke, builtin, hs, hx, hrun, Result.andThen]
  exact h4
theorem own_empty (w : World) (B e size : Nat) (t : TypeId) (ht : t = e) (hB : B ≤ w.heap.size) : (w.alloc (.cells #[] t)).ownsRow B e size (.slice (some ⟨w.heap.size, 0, none⟩) 0 0) 0 [] := by
  subst ht
  exact ⟨by simp, .inr ⟨w.heap.size, 0, #[], rfl, hB, heap_alloc_new w _, Nat.le_refl _, by decide, by simp, by simp⟩⟩
end Go.Proofs.Ytgdkgoiagjjccaa

/- Rows of numbers and of writes, as values. -/
namespace Go.Proofs.Ytgdkgoiagjjccaa
set_option maxRecDepth 100000
open Go.RowKit

theorem elem38 : ElemT Try.prog 38 3 1 8 :=
  ⟨Try.underlying38, by kernel_rfl, by
    obtain ⟨i, hi, hz, h1, _⟩ := info_parts (show (Try.prog.info? 3).map (fun i => (i.zero, i.size, i.bytes)) = some (some (.int .i64 0), 1, 8) by kernel_rfl)
    exact ⟨i, _, hi, hz, rfl⟩, by decide⟩
theorem elem37 : ElemT Try.prog 37 106 4 32 :=
  ⟨Try.underlying37, by kernel_rfl, by
    obtain ⟨i, hi, hz, h1, _⟩ := info_parts (show (Try.prog.info? 106).map (fun i => (i.zero, i.size, i.bytes)) = some (some (.agg #[.int .i64 0, .int .i64 0, .int .i64 0, .bool false]), 4, 32) by kernel_rfl)
    exact ⟨i, _, hi, hz, rfl⟩, by decide⟩
def valsZ (xs : List Int) : List Value := xs.map (Value.int .i64)
theorem valsZ_one (xs : List Int) : ∀ u ∈ valsZ xs, u.oneCell' = true := by
  intro u hu
  simp only [valsZ, List.mem_map] at hu
  obtain ⟨x, _, rfl⟩ := hu
  rfl
theorem rdv_nums {w : World} {A : Option Addr} {n : Nat} {xs : List Int} (h : Nums w A n xs) : Rdv w A n 1 (valsZ xs) := by
  refine ⟨by simp [valsZ, h.1], fun hn => ?_⟩
  obtain ⟨b, off, e, hc⟩ := h.2.2 hn
  refine ⟨b, off, e, fun j u hj => ?_⟩
  have hl : j < xs.length := by
    rcases Nat.lt_or_ge j xs.length with h' | h'
    · exact h'
    · rw [List.getElem?_eq_none (by simp [valsZ]; exact h')] at hj; cases hj
  rw [hc j (by rw [← h.1]; exact hl)]
  simp [valsZ, hl] at hj
  rw [← hj]
  simp [List.getD_eq_getElem?_getD, hl]
theorem nums_rdv {w : World} {A : Option Addr} {n : Nat} {xs : List Int} (h : Rdv w A n 1 (valsZ xs)) (hf : ∀ x ∈ xs, Fits x) : Nums w A n xs := by
  have hl : xs.length = n := by have := h.1; simpa [valsZ] using this
  refine ⟨hl, hf, fun hn => ?_⟩
  obtain ⟨b, off, e, hc⟩ := h.2 hn
  refine ⟨b, off, e, fun j hj => hc j _ ?_⟩
  simp [valsZ, List.getD_eq_getElem?_getD, show j < xs.length by omega]
theorem nums_own {w : World} {B n : Nat} {v : Value} {xs : List Int} (h : w.ownsRow B 3 1 v n (valsZ xs)) (hf : ∀ x ∈ xs, Fits x) : ∃ A c, v = .slice A n c ∧ Nums w A n xs ∧ (A = none → c = 0) ∧ n ≤ c := by
  obtain ⟨A, c, hv, hr, h1, h2⟩ := rdv_own h
  exact ⟨A, c, hv, nums_rdv hr hf, h1, h2⟩

def wval (q : Int × Int × Int × Bool) : List Value := [.int .i64 q.1, .int .i64 q.2.1, .int .i64 q.2.2.1, .bool q.2.2.2]
def valsW (ws : List (Int × Int × Int × Bool)) : List Value := ws.flatMap wval
theorem valsW_one (ws : List (Int × Int × Int × Bool)) : ∀ u ∈ valsW ws, u.oneCell' = true := by
  intro u hu
  simp only [valsW, List.mem_flatMap, wval] at hu
  obtain ⟨q, _, hq⟩ := hu
  simp at hq
  rcases hq with rfl | rfl | rfl | rfl <;> rfl
theorem valsW_length (ws : List (Int × Int × Int × Bool)) : (valsW ws).length = ws.length * 4 := by
  induction ws with
  | nil => rfl
  | cons q ws ih =>
    have e : valsW (q :: ws) = wval q ++ valsW ws := rfl
    rw [e, List.length_append, ih, List.length_cons]
    show 4 + _ = _
    omega
theorem valsW_at (ws : List (Int × Int × Int × Bool)) (i r : Nat) (hr : r < 4) (hi : i < ws.length) : (valsW ws)[i * 4 + r]? = (wval ws[i])[r]? := by
  induction ws generalizing i with
  | nil => simp at hi
  | cons q ws ih =>
    have e : valsW (q :: ws) = wval q ++ valsW ws := rfl
    have hw : (wval q).length = 4 := rfl
    rw [e]
    cases i with
    | zero => rw [List.getElem?_append_left (by rw [hw]; omega)]; simp
    | succ i =>
      rw [List.getElem?_append_right (by rw [hw]; omega), hw]
      have h1 := ih i (by simpa using hi)
      rw [show (i + 1) * 4 + r - 4 = i * 4 + r by omega, h1]
      rfl
theorem rdv_wrs {w : World} {A : Option Addr} {n : Nat} {ws : List (Int × Int × Int × Bool)} (h : Wrs w A n ws) : Rdv w A n 4 (valsW ws) := by
  refine ⟨by rw [valsW_length, h.1], fun hn => ?_⟩
  obtain ⟨b, off, e, hc⟩ := h.2 hn
  refine ⟨b, off, e, fun j u hj => ?_⟩
  have hl : j < ws.length * 4 := by
    rcases Nat.lt_or_ge j (ws.length * 4) with h' | h'
    · exact h'
    · rw [List.getElem?_eq_none (by rw [valsW_length]; exact h')] at hj; cases hj
  have hi : j / 4 < ws.length := by omega
  obtain ⟨c0, c1, c2, c3⟩ := hc (j / 4) hi
  have ej : j / 4 * 4 + j % 4 = j := by omega
  have ha := valsW_at ws (j / 4) (j % 4) (by omega) hi
  rw [ej, hj] at ha
  rcases (show j % 4 = 0 ∨ j % 4 = 1 ∨ j % 4 = 2 ∨ j % 4 = 3 by omega) with h4 | h4 | h4 | h4
  · rw [h4] at ha
    simp [wval] at ha
    rw [ha, show off + j = off + j / 4 * 4 by omega]; exact c0
  · rw [h4] at ha
    simp [wval] at ha
    rw [ha, show off + j = off + j / 4 * 4 + 1 by omega]; exact c1
  · rw [h4] at ha
    simp [wval] at ha
    rw [ha, show off + j = off + j / 4 * 4 + 2 by omega]; exact c2
  · rw [h4] at ha
    simp [wval] at ha
    rw [ha, show off + j = off + j / 4 * 4 + 3 by omega]; exact c3
theorem wrs_rdv {w : World} {A : Option Addr} {n : Nat} {ws : List (Int × Int × Int × Bool)} (h : Rdv w A n 4 (valsW ws)) : Wrs w A n ws := by
  have hl : ws.length = n := by have := h.1; rw [valsW_length] at this; omega
  refine ⟨hl, fun hn => ?_⟩
  obtain ⟨b, off, e, hc⟩ := h.2 hn
  refine ⟨b, off, e, fun j hj => ⟨?_, ?_, ?_, ?_⟩⟩
  · have := hc (j * 4 + 0) _ ((valsW_at ws j 0 (by omega) hj).trans rfl)
    simpa using this
  · have := hc (j * 4 + 1) _ ((valsW_at ws j 1 (by omega) hj).trans rfl)
    rw [Nat.add_assoc]; exact this
  · have := hc (j * 4 + 2) _ ((valsW_at ws j 2 (by omega) hj).trans rfl)
    rw [Nat.add_assoc]; exact this
  · have := hc (j * 4 + 3) _ ((valsW_at ws j 3 (by omega) hj).trans rfl)
    rw [Nat.add_assoc]; exact this
theorem wrs_own {w : World} {B n : Nat} {v : Value} {ws : List (Int × Int × Int × Bool)} (h : w.ownsRow B 106 4 v n (valsW ws)) : ∃ A c, v = .slice A n c ∧ Wrs w A n ws ∧ (A = none → c = 0) ∧ n ≤ c := by
  obtain ⟨A, c, hv, hr, h1, h2⟩ := rdv_own h
  exact ⟨A, c, hv, wrs_rdv hr, h1, h2⟩
theorem ownsRow_ext {w w' : World} {B e size n : Nat} {v : Value} {xs : List Value} (h : w.ownsRow B e size v n xs) (hb : Below w.heap.size w w') : w'.ownsRow B e size v n xs := by
  refine ⟨h.1, ?_⟩
  rcases h.2 with h0 | ⟨g, cap, cur, hv, hB, hg, hrest⟩
  · exact .inl h0
  · exact .inr ⟨g, cap, cur, hv, hB, (hb.block g (Array.getElem?_eq_some_iff.1 hg).1).trans hg, hrest⟩
theorem ownsRow_low {w : World} {B B' e size n : Nat} {v : Value} {xs : List Value} (h : w.ownsRow B e size v n xs) (hB : B' ≤ B) : w.ownsRow B' e size v n xs := by
  refine ⟨h.1, ?_⟩
  rcases h.2 with h0 | ⟨g, cap, cur, hv, hb, hg, hrest⟩
  · exact .inl h0
  · exact .inr ⟨g, cap, cur, hv, by omega, hg, hrest⟩
end Go.Proofs.Ytgdkgoiagjjccaa
