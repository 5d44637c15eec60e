/- The contracts of arith's wide numbers. -/
import Derived.Test.YtgdkgoiagjjccaaRows
import Derived.Test.YtgdkgoiagjjccaaWideMath
import Derived.WalkKit
import Derived.WalkLawsBesides
import Derived.WalkSpells
import Derived.Lib.Hide
import Derived.Outline
import Derived.Laws.Externs
namespace Go.Proofs.Ytgdkgoiagjjccaa
set_option maxRecDepth 100000
open Go.RowKit
/-- What a callee leaves of a block of the caller's own. -/
theorem kept_new {W w1 : World} (hb : Below W.heap.size W w1) {g : Nat} {C : Array Value} {t : TypeId} (h : W.heap[g]? = some (.cells C t (0, 0))) :
    (∀ j, w1.cell? ⟨g, j, none⟩ = C[j]?) ∧ (∀ j, w1.frozen? ⟨g, j, none⟩ = false) := by
  have hlt : g < W.heap.size := by
    rcases Nat.lt_or_ge g W.heap.size with h' | h'
    · exact h'
    · rw [Array.getElem?_eq_none h'] at h; cases h
  have h1 : w1.heap[g]? = some (.cells C t (0, 0)) := (hb.block g hlt).trans h
  exact ⟨fun j => by simp [World.cell?, h1], fun j => by simp [World.frozen?, h1]⟩
theorem heap2 (w : World) (o1 o2 : Obj) : ((w.alloc o1).alloc o2).heap[w.heap.size + 1]? = some o2 := by
  have h := heap_alloc_new (w.alloc o1) o2
  rwa [World.size_alloc] at h
theorem heap2' (w : World) (o1 o2 : Obj) : ((w.alloc o1).alloc o2).heap[w.heap.size]? = some o1 :=
  (Below.heap_alloc (w.alloc o1) o2 w.heap.size (by simp)).trans (heap_alloc_new w o1)
def wideV (z : Int) : Value := .agg #[.int .u64 (hi z), .int .u64 (lo z)]

theorem add64 (x y c : Int) (hx : Word x) (hy : Word y) (hc : c = 0 ∨ c = 1) (w : World) :
    (callFunc 104 #[.int .u64 x, .int .u64 y, .int .u64 c]).run Try.prog w =
      .ok (.value (.tuple #[.int .u64 ((x + y + c) % 18446744073709551616), .int .u64 ((x + y + c) / 18446744073709551616)])) w := by
  rw [run_callFunc_extern Try.func104 (by kernel_rfl) (by kernel_rfl) (by kernel_rfl) (e := add64Entry) (by kernel_rfl), run_add64 x y c hx.1 hy.1 (by omega) (by omega)]
  rfl
theorem add_lo (a b : Int) (w : World) : (callFunc 104 #[.int .u64 (lo a), .int .u64 (lo b), .int .u64 0]).run Try.prog w = .ok (.value (.tuple #[.int .u64 (lo (a + b)), .int .u64 (carry a b)])) w := by
  rw [add64 _ _ 0 (lo_word a) (lo_word b) (.inl rfl) w, Int.add_zero, lo_add]
  rfl
theorem add_hi (a b : Int) : ∃ k, ∀ w, (callFunc 104 #[.int .u64 (hi a), .int .u64 (hi b), .int .u64 (carry a b)]).run Try.prog w = .ok (.value (.tuple #[.int .u64 (hi (a + b)), .int .u64 k])) w := by
  refine ⟨(hi a + hi b + carry a b) / 18446744073709551616, fun w => ?_⟩
  rw [add64 _ _ _ (hi_word a) (hi_word b) (carry_is a b) w, hi_add]

set_option maxHeartbeats 400000 in
theorem widen_any (n : Int) (hn : Fits n) (w : World) :
    Calls Try.prog 93 #[.int .i64 n] w fun e w' => e = .returned (wideV n) ∧ Below w.heap.size w w' := by
  have h1 : IntKind.u64.wrap (n / 9223372036854775808) = hi n := by rw [IntKind.wrap_u64]; unfold Fits at hn; unfold hi; omega
  have h2 : IntKind.u64.wrap n = lo n := by rw [IntKind.wrap_u64]; rfl
  go_enter Try.func93, Try.ntmps93
  go_wp2
  exact bodyPost_ret (v := wideV n) (by simp [results, Try.results93, go_sem, wideV]) rfl ⟨rfl, (Below.refl _ _).alloc (Nat.le_refl _) _⟩
set_option maxHeartbeats 400000 in
theorem plus_any (a b : Int) (w : World) :
    Calls Try.prog 92 #[wideV a, wideV b] w fun e w' => e = .returned (wideV (a + b)) ∧ Below w.heap.size w w' := by
  have h1 := add_lo a b
  obtain ⟨k, h2⟩ := add_hi a b
  unfold wideV
  obtain ⟨s, hs⟩ : ∃ s, s = a + b := ⟨_, rfl⟩
  rw [← hs] at h1 h2 ⊢
  have HS := Lib.hid hs
  clear hs
  go_enter Try.func92, Try.ntmps92
  go_wp2
  exact bodyPost_ret (v := .agg #[.int .u64 (hi s), .int .u64 (lo s)]) (by simp [results, Try.results92, go_sem]) rfl ⟨rfl, (((Below.refl _ _).alloc (Nat.le_refl _) _).alloc (by simp) _).alloc (by simp; omega) _⟩
theorem not_word {x : Int} (h : Word x) : bits BinOp.xor IntKind.u64 IntKind.u64.max x = 18446744073709551615 - x := by
  obtain ⟨n, rfl⟩ := Int.eq_ofNat_of_zero_le h.1
  have hn : n < 18446744073709551616 := by have := h.2; omega
  have e := congrArg BitVec.toNat (BitVec.not_def (x := BitVec.ofNat 64 n))
  rw [BitVec.toNat_xor, BitVec.toNat_not, BitVec.toNat_allOnes, BitVec.toNat_ofNat, Nat.mod_eq_of_lt (by omega)] at e
  have hm : IntKind.u64.max = ((18446744073709551615 : Nat) : Int) := by decide
  have h1 : (18446744073709551615 : Nat) < 18446744073709551616 := by decide
  rw [hm, u64_xor_nat 18446744073709551615 n h1 hn]
  have e2 : 18446744073709551615 ^^^ n = 18446744073709551615 - n := e.symm
  rw [e2]; omega
set_option maxHeartbeats 400000 in
theorem opposite_any (a : Int) (w : World) :
    Calls Try.prog 103 #[wideV a] w fun e w' => e = .returned (wideV (-a)) ∧ Below w.heap.size w w' := by
  have h1 : bits BinOp.xor IntKind.u64 IntKind.u64.max (hi a) = hi (-a - 1) := by rw [not_word (hi_word a), hi_not]
  have h2 : bits BinOp.xor IntKind.u64 IntKind.u64.max (lo a) = lo (-a - 1) := by rw [not_word (lo_word a), lo_not]
  have C : ∀ w, Calls Try.prog 92 #[.agg #[.int .u64 (hi (-a - 1)), .int .u64 (lo (-a - 1))], .agg #[.int .u64 0, .int .u64 1]] w fun e w' => e = .returned (wideV (-a)) ∧ Below w.heap.size w w' := by
    intro w
    have h := plus_any (-a - 1) 1 w
    rw [neg_is] at h
    exact h
  unfold wideV at C ⊢
  obtain ⟨m, hm⟩ : ∃ m, m = -a - 1 := ⟨_, rfl⟩
  obtain ⟨t, ht⟩ : ∃ t, t = -a := ⟨_, rfl⟩
  rw [← hm] at h1 h2 C
  rw [← ht] at C ⊢
  clear hm ht
  have HC := Lib.hid C
  clear C
  go_enter Try.func103, Try.ntmps103
  go_wp2_with fail
  refine Calls.mono (HC.out _) ?_
  rintro e w1 ⟨rfl, hb1⟩
  obtain ⟨hc1, hf1⟩ := kept_new hb1 (g := w.heap.size + 1) (C := #[Value.int IntKind.u64 0, Value.int IntKind.u64 0]) (t := 145) (heap2 w _ _)
  have hsz := hb1.size
  have hbw : Below w.heap.size w w1 := (((Below.refl _ w).alloc (Nat.le_refl _) _).alloc (by simp) _).trans (hb1.mono (by simp; omega))
  have HB := Lib.hid hb1
  clear hb1
  go_wp2_with fail
  exact bodyPost_ret (v := .agg #[.int .u64 (hi t), .int .u64 (lo t)]) (by simp [results, Try.results103, go_sem, hc1]) rfl ⟨rfl, (hbw.setCell (by simp) _).setCell (by simp) _⟩
end Go.Proofs.Ytgdkgoiagjjccaa
