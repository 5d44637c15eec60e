/- The contract of slab.Seal. -/
import Derived.Test.YtiemjgkpjmncfaaParts
import Derived.Deep.CutRange
import Derived.Laws.CopyRow
import Derived.Laws.CopyOwn
namespace Go.Proofs.Ytiemjgkpjmncfaa
set_option maxRecDepth 100000
open Go.RowKit
attribute [local go_sem] Oper.semAt_some

theorem zeros_sec : (#[.int .u8 0, .int .u8 0, .int .u8 0, .int .u8 0, .int .u8 0, .int .u8 0, .int .u8 0, .int .u8 0, .int .u8 0, .int .u8 0, .int .u8 0, .int .u8 0, .int .u8 0, .int .u8 0, .int .u8 0, .int .u8 0, .int .u8 0, .int .u8 0, .int .u8 0, .int .u8 0, .int .u8 0, .int .u8 0, .int .u8 0, .int .u8 0, .int .u8 0, .int .u8 0, .int .u8 0, .int .u8 0, .int .u8 0, .int .u8 0, .int .u8 0, .int .u8 0, .int .u8 0, .int .u8 0, .int .u8 0, .int .u8 0, .int .u8 0, .int .u8 0, .int .u8 0, .int .u8 0, .int .u8 0, .int .u8 0, .int .u8 0, .int .u8 0, .int .u8 0, .int .u8 0, .int .u8 0, .int .u8 0, .int .u8 0, .int .u8 0, .int .u8 0, .int .u8 0, .int .u8 0, .int .u8 0, .int .u8 0, .int .u8 0, .int .u8 0, .int .u8 0, .int .u8 0, .int .u8 0, .int .u8 0, .int .u8 0, .int .u8 0, .int .u8 0] : Array Value) = secV (noughts 64) := by rfl
def eRange : Value := .iface 71 (.int .i64 1)
def eForm : Value := .iface 71 (.int .i64 2)
theorem secV_one (l : List Nat) : (secV l).all (·.oneCell') = true := by
  simp [secV, valsB, Value.oneCell']
theorem store_sec {w : World} {g : Nat} {z l : List Nat} (h : Sec w g z) (hz : z.length = 64) (hl : l.length = 64) : (storeCells ⟨g, 0, none⟩ (secV l).toList).run Try.prog w = .ok () (w.setRow g (secV l)) := by
  have hs : (secV z).size = 64 := by rw [secV_size, hz]
  have hs2 : (secV l).size = 64 := by rw [secV_size, hl]
  have hx := run_storeCells_at (P := Try.prog) g 0 50 (secV l).toList 0 (secV z) w h (by simp [hs, hs2]) (by
    intro x hx
    have := secV_one l
    rw [Array.all_eq_true] at this
    obtain ⟨i, hi, rfl⟩ := List.mem_iff_getElem.1 hx
    simpa using this i (by simpa using hi))
  rw [hx]
  congr 2
  rw [List.drop_eq_nil_of_le (by simp [hs, hs2])]
  simp
theorem Sec.put {w : World} {g : Nat} {z : List Nat} (h : Sec w g z) (l : List Nat) : Sec (w.setRow g (secV l)) g l := setRow_heap w g _ _ 50 _ h
theorem res37 {w : World} {g : Nat} {l : List Nat} (h : Sec w g l) (hl : l.length = 64) (tmps : Array Value) (h2 : tmps.getD 2 undef = .pointer (some ⟨g, 0, none⟩)) :
    (results Try.f37 tmps).run Try.prog w = .ok (.tuple #[.agg (secV l), tmps.getD 3 undef]) w := by
  have h2' : tmps[2]?.getD undef = .pointer (some ⟨g, 0, none⟩) := by simpa using h2
  have hl := load_sec h hl
  have e : Try.f37.results = #[.cell 2 50, .tmp 3] := Try.results37
  simp only [results, e]
  simp [asAddr, h2', hl]

theorem heap_alloc3_new (w : World) (a b c : Obj) : (((w.alloc a).alloc b).alloc c).heap[w.heap.size + 1 + 1]? = some c := by
  have := heap_alloc_new ((w.alloc a).alloc b) c
  rw [World.size_alloc, World.size_alloc] at this
  exact this
/-- The world of Seal's variables: the slab, the result, the sector. -/
structure SealW (w w1 : World) (st kd : Int) (S : Value) (r s : List Nat) : Prop where
  slab : Sl w1 w.heap.size (.int .i64 st) (.int .i64 kd) S
  res : Sec w1 (w.heap.size + 1) r
  sec : Sec w1 (w.heap.size + 1 + 1) s
  below : Below w.heap.size w w1
theorem sealW_new (w : World) (st kd : Int) (S : Value) :
    SealW w (((w.alloc (.cells #[.int .i64 st, .int .i64 kd, S] 77)).alloc (.cells (secV (noughts 64)) 50)).alloc (.cells (secV (noughts 64)) 50)) st kd S (noughts 64) (noughts 64) where
  slab := (heap_alloc_old _ _ (by simp; omega)).trans ((heap_alloc_old _ _ (by simp)).trans (heap_alloc_new w _))
  res := (heap_alloc_old _ _ (by simp)).trans (heap_alloc2_new w _ _)
  sec := heap_alloc3_new w _ _ _
  below := (((Below.refl _ w).alloc (Nat.le_refl _) _).alloc (by simp) _).alloc (by simp; omega) _
theorem SealW.put {w w1 : World} {st kd : Int} {S : Value} {r s : List Nat} (h : SealW w w1 st kd S r s) (l : List Nat) : Sec (w1.setRow (w.heap.size + 1) (secV l)) (w.heap.size + 1) l ∧ Below w.heap.size w (w1.setRow (w.heap.size + 1) (secV l)) :=
  ⟨h.res.put l, below_setRow h.below (Nat.le_succ _) _⟩
theorem noughts64 : (noughts 64).length = 64 := noughts_length 64

set_option maxHeartbeats 1000000 in
theorem seal_range (st kd : Int) (A : Option Addr) (n c : Nat) (w : World) (h : st < 1 ∨ 281474976710655 < st ∨ kd < 1 ∨ 255 < kd) :
    Calls Try.prog 37 #[.agg #[.int .i64 st, .int .i64 kd, .slice A n c]] w fun e w' => e = .returned (.tuple #[.agg (secV (noughts 64)), eRange]) ∧ Below w.heap.size w w' := by
  have hW := sealW_new w st kd (.slice A n c)
  have tail : ∀ (w1 : World), SealW w w1 st kd (.slice A n c) (noughts 64) (noughts 64) → (storeCells ⟨w.heap.size + 1, 0, none⟩ (secV (noughts 64)).toList).run Try.prog w1 = .ok () (w1.setRow (w.heap.size + 1) (secV (noughts 64))) := fun w1 h => store_sec h.res noughts64 noughts64
  go_enter Try.func37, Try.ntmps37
  go_upto_region 2 with (fail)
  rw [zeros_sec]
  obtain ⟨w1, hw1⟩ : ∃ w1, w1 = ((w.alloc (.cells #[.int .i64 st, .int .i64 kd, .slice A n c] 77)).alloc (.cells (secV (noughts 64)) 50)).alloc (.cells (secV (noughts 64)) 50) := ⟨_, rfl⟩
  rw [← hw1] at hW ⊢
  have hst := tail w1 hW
  clear tail hw1
  have k0 := hW.slab.c0
  have k1 := hW.slab.c1
  have HW := Lib.hid hW
  clear hW
  by_cases h1 : st < 1
  · have d1 : decide (st < 1) = true := decide_eq_true h1
    go_wp2_with (first | refine wpList_load_sec (by rfl) (.tmp 4) rfl (w.heap.size + 1 + 1) rfl (noughts 64) noughts64 HW.out.sec ?_)
    exact bodyPost_ret (res37 (HW.out.put _).1 noughts64 _ rfl) rfl ⟨rfl, (HW.out.put _).2⟩
  · have d1 : decide (st < 1) = false := decide_eq_false h1
    by_cases h2 : 281474976710655 < st
    · have d2 : decide (281474976710655 < st) = true := decide_eq_true h2
      go_wp2_with (first | refine wpList_load_sec (by rfl) (.tmp 4) rfl (w.heap.size + 1 + 1) rfl (noughts 64) noughts64 HW.out.sec ?_)
      exact bodyPost_ret (res37 (HW.out.put _).1 noughts64 _ rfl) rfl ⟨rfl, (HW.out.put _).2⟩
    · have d2 : decide (281474976710655 < st) = false := decide_eq_false h2
      by_cases h3 : kd < 1
      · have d3 : decide (kd < 1) = true := decide_eq_true h3
        go_wp2_with (first | refine wpList_load_sec (by rfl) (.tmp 4) rfl (w.heap.size + 1 + 1) rfl (noughts 64) noughts64 HW.out.sec ?_)
        exact bodyPost_ret (res37 (HW.out.put _).1 noughts64 _ rfl) rfl ⟨rfl, (HW.out.put _).2⟩
      · have d3 : decide (kd < 1) = false := decide_eq_false h3
        have h4 : 255 < kd := by omega
        have d4 : decide (255 < kd) = true := decide_eq_true h4
        go_wp2_with (first | refine wpList_load_sec (by rfl) (.tmp 4) rfl (w.heap.size + 1 + 1) rfl (noughts 64) noughts64 HW.out.sec ?_)
        exact bodyPost_ret (res37 (HW.out.put _).1 noughts64 _ rfl) rfl ⟨rfl, (HW.out.put _).2⟩
set_option maxHeartbeats 1000000 in
theorem seal_form (st kd : Int) (A : Option Addr) (n c : Nat) (w : World) (h1 : 1 ≤ st) (h2 : st ≤ 281474976710655) (h3 : 1 ≤ kd) (h4 : kd ≤ 255) (h5 : 50 < n) (hn : n ≤ 9223372036854775807) :
    Calls Try.prog 37 #[.agg #[.int .i64 st, .int .i64 kd, .slice A n c]] w fun e w' => e = .returned (.tuple #[.agg (secV (noughts 64)), eForm]) ∧ Below w.heap.size w w' := by
  have hW := sealW_new w st kd (.slice A n c)
  have tail : ∀ (w1 : World), SealW w w1 st kd (.slice A n c) (noughts 64) (noughts 64) → (storeCells ⟨w.heap.size + 1, 0, none⟩ (secV (noughts 64)).toList).run Try.prog w1 = .ok () (w1.setRow (w.heap.size + 1) (secV (noughts 64))) := fun w1 h => store_sec h.res noughts64 noughts64
  go_enter Try.func37, Try.ntmps37
  go_upto_region 2 with (fail)
  rw [zeros_sec]
  obtain ⟨w1, hw1⟩ : ∃ w1, w1 = ((w.alloc (.cells #[.int .i64 st, .int .i64 kd, .slice A n c] 77)).alloc (.cells (secV (noughts 64)) 50)).alloc (.cells (secV (noughts 64)) 50) := ⟨_, rfl⟩
  rw [← hw1] at hW ⊢
  have hst := tail w1 hW
  clear tail hw1
  have k0 := hW.slab.c0
  have k1 := hW.slab.c1
  have k2 := hW.slab.c2
  have HW := Lib.hid hW
  clear hW
  have d1 : decide (st < 1) = false := decide_eq_false (by omega)
  have d2 : decide (281474976710655 < st) = false := decide_eq_false (by omega)
  have d3 : decide (kd < 1) = false := decide_eq_false (by omega)
  have d4 : decide (255 < kd) = false := decide_eq_false (by omega)
  go_wp2_with (first | refine wpList_load_sec (by rfl) (.tmp 4) rfl (w.heap.size + 1 + 1) rfl (noughts 64) noughts64 HW.out.sec ?_)
  exact bodyPost_ret (res37 (HW.out.put _).1 noughts64 _ rfl) rfl ⟨rfl, (HW.out.put _).2⟩
end Go.Proofs.Ytiemjgkpjmncfaa
