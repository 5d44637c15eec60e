/- LRefSeal: put together. -/
import Derived.Test.YtjmjehhmkjhalaaQb31
/- The contract of the document's Seal. -/
namespace Go.Proofs.Ytjmjehhmkjhalaa
set_option maxRecDepth 100000
open Go.RowKit

/-- The world of the document's Seal: the slab, the result, the sector. -/
structure RefW (w w1 : World) (st kd : Int) (S : Value) (s : List Nat) : Prop where
  slab : Ar w1 w.heap.size st kd S
  res : Sec w1 (w.heap.size + 1) (noughts 64)
  sec : Sec w1 (w.heap.size + 1 + 1) s
  below : Below w.heap.size w w1
theorem refW_new (w : World) (st kd : Int) (S : Value) :
    RefW w (((w.alloc (.cells #[.int .i64 st, .int .i64 kd, S] 172)).alloc (.cells (secV (noughts 64)) 75)).alloc (.cells (secV (noughts 64)) 75)) st kd S (noughts 64) where
  slab := (heap_alloc_old _ _ (by simp; omega)).trans ((heap_alloc_old _ _ (by simp)).trans (heap_alloc_new w _))
  res := (heap_alloc_old _ _ (by simp)).trans (heap_alloc2_new w _ _)
  sec := heap_alloc3_new w _ _ _
  below := (((Below.refl _ w).alloc (Nat.le_refl _) _).alloc (by simp) _).alloc (by simp; omega) _
theorem Ar.other {w : World} {g : Nat} {a k : Int} {S : Value} (h : Ar w g a k S) (p : Addr) (v : Value) (hne : g ≠ p.block) : Ar (w.setCell p v) g a k S := (Deep.blk_setCell_other w p v g hne).trans h
theorem RefW.set {w w1 : World} {st kd : Int} {S : Value} {s : List Nat} (h : RefW w w1 st kd S s) (k x : Nat) : RefW w (w1.setCell ⟨w.heap.size + 1 + 1, k, none⟩ (.int .u8 (x : Int))) st kd S (s.set k x) where
  slab := h.slab.other _ _ (by show w.heap.size ≠ w.heap.size + 1 + 1; omega)
  res := h.res.other _ _ (by show w.heap.size + 1 ≠ w.heap.size + 1 + 1; omega)
  sec := h.sec.set k x
  below := h.below.setCell (by show w.heap.size ≤ w.heap.size + 1 + 1; omega) _
theorem RefW.row {w w1 : World} {st kd : Int} {S : Value} {s : List Nat} (h : RefW w w1 st kd S s) (l : List Nat) : RefW w (w1.setRow (w.heap.size + 1 + 1) (secV l)) st kd S l where
  slab := (setRow_other w1 _ _ _ (by omega)).trans h.slab
  res := (setRow_other w1 _ _ _ (by omega)).trans h.res
  sec := h.sec.put l
  below := below_setRow h.below (by omega) _
theorem RefW.put {w w1 : World} {st kd : Int} {S : Value} {s : List Nat} (h : RefW w w1 st kd S s) (l : List Nat) : Sec (w1.setRow (w.heap.size + 1) (secV l)) (w.heap.size + 1) l ∧ Below w.heap.size w (w1.setRow (w.heap.size + 1) (secV l)) :=
  ⟨h.res.put l, below_setRow h.below (Nat.le_succ _) _⟩
theorem res38 {w : World} {g : Nat} {l : List Nat} (h : Sec w g l) (hl : l.length = 64) (tmps : Array Value) (h2 : tmps.getD 2 undef = .pointer (some ⟨g, 0, none⟩)) :
    (results Try.f85 tmps).run Try.prog w = .ok (.tuple #[.agg (secV l), tmps.getD 3 undef]) w := by
  have h2' : tmps[2]?.getD undef = .pointer (some ⟨g, 0, none⟩) := by simpa using h2
  have hl := load_sec h hl
  have e : Try.f85.results = #[.cell 2 75, .tmp 3] := Try.results85
  simp only [results, e]
  simp [asAddr, h2', hl]
/-- The sector with k bytes of the data. -/
def dataP (st kd n : Nat) (ds : List Nat) (k : Nat) : List Nat := leN st 6 ++ (kd :: n :: (ds.take k ++ noughts (50 - k))) ++ leN st 6
theorem dataP_zero (st kd n : Nat) (ds : List Nat) : dataP st kd n ds 0 = ((midN st 6).set 6 kd).set 7 n := by rw [midN_six]; simp [dataP]
theorem dataP_end (st kd n : Nat) (ds : List Nat) (hn : ds.length = n) : dataP st kd n ds n = sealN st kd ds := by
  subst hn
  simp [dataP, sealN]
theorem dataP_length (st kd n : Nat) (ds : List Nat) (k : Nat) (h : k ≤ ds.length) (h5 : ds.length ≤ 50) : (dataP st kd n ds k).length = 64 := by
  simp [dataP, leN_length, noughts_length]; omega
theorem dataP_set (st kd n : Nat) (ds : List Nat) (k : Nat) (h : k < ds.length) (h5 : ds.length ≤ 50) : (dataP st kd n ds k).set (8 + k) (ds.getD k 0) = dataP st kd n ds (k + 1) := by
  have e1 : dataP st kd n ds k = (leN st 6 ++ [kd, n] ++ ds.take k) ++ 0 :: (noughts (50 - (k + 1)) ++ leN st 6) := by
    unfold dataP
    rw [show noughts (50 - k) = 0 :: noughts (50 - (k + 1)) by rw [show 50 - k = (50 - (k + 1)) + 1 by omega]; rfl]
    simp
  rw [e1, set_mid _ _ 0 _ (8 + k) (by simp [leN_length]; omega)]
  have h3 : ds.take (k + 1) = ds.take k ++ [ds.getD k 0] := by
    rw [List.take_add_one, List.getD_eq_getElem?_getD, List.getElem?_eq_getElem h]
    rfl
  unfold dataP
  rw [h3]
  simp only [List.append_assoc, List.cons_append, List.nil_append]
theorem ref_lit (w : World) (st kd : Int) (S : Value) : Sec (((w.alloc (.cells #[.int .i64 st, .int .i64 kd, S] 172)).alloc (.cells #[.int .u8 0, .int .u8 0, .int .u8 0, .int .u8 0, .int .u8 0, .int .u8 0, .int .u8 0, .int .u8 0, .int .u8 0, .int .u8 0, .int .u8 0, .int .u8 0, .int .u8 0, .int .u8 0, .int .u8 0, .int .u8 0, .int .u8 0, .int .u8 0, .int .u8 0, .int .u8 0, .int .u8 0, .int .u8 0, .int .u8 0, .int .u8 0, .int .u8 0, .int .u8 0, .int .u8 0, .int .u8 0, .int .u8 0, .int .u8 0, .int .u8 0, .int .u8 0, .int .u8 0, .int .u8 0, .int .u8 0, .int .u8 0, .int .u8 0, .int .u8 0, .int .u8 0, .int .u8 0, .int .u8 0, .int .u8 0, .int .u8 0, .int .u8 0, .int .u8 0, .int .u8 0, .int .u8 0, .int .u8 0, .int .u8 0, .int .u8 0, .int .u8 0, .int .u8 0, .int .u8 0, .int .u8 0, .int .u8 0, .int .u8 0, .int .u8 0, .int .u8 0, .int .u8 0, .int .u8 0, .int .u8 0, .int .u8 0, .int .u8 0, .int .u8 0] 75)).alloc (.cells #[.int .u8 0, .int .u8 0, .int .u8 0, .int .u8 0, .int .u8 0, .int .u8 0, .int .u8 0, .int .u8 0, .int .u8 0, .int .u8 0, .int .u8 0, .int .u8 0, .int .u8 0, .int .u8 0, .int .u8 0, .int .u8 0, .int .u8 0, .int .u8 0, .int .u8 0, .int .u8 0, .int .u8 0, .int .u8 0, .int .u8 0, .int .u8 0, .int .u8 0, .int .u8 0, .int .u8 0, .int .u8 0, .int .u8 0, .int .u8 0, .int .u8 0, .int .u8 0, .int .u8 0, .int .u8 0, .int .u8 0, .int .u8 0, .int .u8 0, .int .u8 0, .int .u8 0, .int .u8 0, .int .u8 0, .int .u8 0, .int .u8 0, .int .u8 0, .int .u8 0, .int .u8 0, .int .u8 0, .int .u8 0, .int .u8 0, .int .u8 0, .int .u8 0, .int .u8 0, .int .u8 0, .int .u8 0, .int .u8 0, .int .u8 0, .int .u8 0, .int .u8 0, .int .u8 0, .int .u8 0, .int .u8 0, .int .u8 0, .int .u8 0, .int .u8 0] 75)) (w.heap.size + 1 + 1) (noughts 64) := by
  rw [zeros_sec]; exact (refW_new w st kd S).sec
theorem ref_world (w : World) (st kd : Int) (S : Value) : RefW w ((((w.alloc (.cells #[.int .i64 st, .int .i64 kd, S] 172)).alloc (.cells #[.int .u8 0, .int .u8 0, .int .u8 0, .int .u8 0, .int .u8 0, .int .u8 0, .int .u8 0, .int .u8 0, .int .u8 0, .int .u8 0, .int .u8 0, .int .u8 0, .int .u8 0, .int .u8 0, .int .u8 0, .int .u8 0, .int .u8 0, .int .u8 0, .int .u8 0, .int .u8 0, .int .u8 0, .int .u8 0, .int .u8 0, .int .u8 0, .int .u8 0, .int .u8 0, .int .u8 0, .int .u8 0, .int .u8 0, .int .u8 0, .int .u8 0, .int .u8 0, .int .u8 0, .int .u8 0, .int .u8 0, .int .u8 0, .int .u8 0, .int .u8 0, .int .u8 0, .int .u8 0, .int .u8 0, .int .u8 0, .int .u8 0, .int .u8 0, .int .u8 0, .int .u8 0, .int .u8 0, .int .u8 0, .int .u8 0, .int .u8 0, .int .u8 0, .int .u8 0, .int .u8 0, .int .u8 0, .int .u8 0, .int .u8 0, .int .u8 0, .int .u8 0, .int .u8 0, .int .u8 0, .int .u8 0, .int .u8 0, .int .u8 0, .int .u8 0] 75)).alloc (.cells #[.int .u8 0, .int .u8 0, .int .u8 0, .int .u8 0, .int .u8 0, .int .u8 0, .int .u8 0, .int .u8 0, .int .u8 0, .int .u8 0, .int .u8 0, .int .u8 0, .int .u8 0, .int .u8 0, .int .u8 0, .int .u8 0, .int .u8 0, .int .u8 0, .int .u8 0, .int .u8 0, .int .u8 0, .int .u8 0, .int .u8 0, .int .u8 0, .int .u8 0, .int .u8 0, .int .u8 0, .int .u8 0, .int .u8 0, .int .u8 0, .int .u8 0, .int .u8 0, .int .u8 0, .int .u8 0, .int .u8 0, .int .u8 0, .int .u8 0, .int .u8 0, .int .u8 0, .int .u8 0, .int .u8 0, .int .u8 0, .int .u8 0, .int .u8 0, .int .u8 0, .int .u8 0, .int .u8 0, .int .u8 0, .int .u8 0, .int .u8 0, .int .u8 0, .int .u8 0, .int .u8 0, .int .u8 0, .int .u8 0, .int .u8 0, .int .u8 0, .int .u8 0, .int .u8 0, .int .u8 0, .int .u8 0, .int .u8 0, .int .u8 0, .int .u8 0] 75)).setRow (w.heap.size + 1 + 1) (secV (noughts 64))) st kd S (noughts 64) := by
  rw [zeros_sec]; exact (refW_new w st kd S).row _
set_option maxHeartbeats 1000000 in
theorem refSeal_range (st kd : Int) (A : Option Addr) (n c : Nat) (w : World) (h : st < 1 ∨ 281474976710655 < st ∨ kd < 1 ∨ 255 < kd) :
    Calls Try.prog 85 #[.agg #[.int .i64 st, .int .i64 kd, .slice A n c]] w fun e w' => e = .returned (.tuple #[.agg (secV (noughts 64)), .int .i64 1]) ∧ Below w.heap.size w w' := by
  go_enter Try.func85, Try.ntmps85
  go_upto_region 2 with (first | refine wpList_store_sec rfl (.tmp 4) (.tmp 8) rfl (w.heap.size + 1 + 1) rfl (noughts 64) (noughts 64) (congrArg Value.agg zeros_sec) noughts64 noughts64 (ref_lit w _ _ _) ?_)
  have hW := ref_world w st kd (.slice A n c)
  obtain ⟨w1, hw1⟩ : ∃ w1, w1 = ((((w.alloc (.cells #[.int .i64 st, .int .i64 kd, .slice A n c] 172)).alloc (.cells #[.int .u8 0, .int .u8 0, .int .u8 0, .int .u8 0, .int .u8 0, .int .u8 0, .int .u8 0, .int .u8 0, .int .u8 0, .int .u8 0, .int .u8 0, .int .u8 0, .int .u8 0, .int .u8 0, .int .u8 0, .int .u8 0, .int .u8 0, .int .u8 0, .int .u8 0, .int .u8 0, .int .u8 0, .int .u8 0, .int .u8 0, .int .u8 0, .int .u8 0, .int .u8 0, .int .u8 0, .int .u8 0, .int .u8 0, .int .u8 0, .int .u8 0, .int .u8 0, .int .u8 0, .int .u8 0, .int .u8 0, .int .u8 0, .int .u8 0, .int .u8 0, .int .u8 0, .int .u8 0, .int .u8 0, .int .u8 0, .int .u8 0, .int .u8 0, .int .u8 0, .int .u8 0, .int .u8 0, .int .u8 0, .int .u8 0, .int .u8 0, .int .u8 0, .int .u8 0, .int .u8 0, .int .u8 0, .int .u8 0, .int .u8 0, .int .u8 0, .int .u8 0, .int .u8 0, .int .u8 0, .int .u8 0, .int .u8 0, .int .u8 0, .int .u8 0] 75)).alloc (.cells #[.int .u8 0, .int .u8 0, .int .u8 0, .int .u8 0, .int .u8 0, .int .u8 0, .int .u8 0, .int .u8 0, .int .u8 0, .int .u8 0, .int .u8 0, .int .u8 0, .int .u8 0, .int .u8 0, .int .u8 0, .int .u8 0, .int .u8 0, .int .u8 0, .int .u8 0, .int .u8 0, .int .u8 0, .int .u8 0, .int .u8 0, .int .u8 0, .int .u8 0, .int .u8 0, .int .u8 0, .int .u8 0, .int .u8 0, .int .u8 0, .int .u8 0, .int .u8 0, .int .u8 0, .int .u8 0, .int .u8 0, .int .u8 0, .int .u8 0, .int .u8 0, .int .u8 0, .int .u8 0, .int .u8 0, .int .u8 0, .int .u8 0, .int .u8 0, .int .u8 0, .int .u8 0, .int .u8 0, .int .u8 0, .int .u8 0, .int .u8 0, .int .u8 0, .int .u8 0, .int .u8 0, .int .u8 0, .int .u8 0, .int .u8 0, .int .u8 0, .int .u8 0, .int .u8 0, .int .u8 0, .int .u8 0, .int .u8 0, .int .u8 0, .int .u8 0] 75)).setRow (w.heap.size + 1 + 1) (secV (noughts 64))) := ⟨_, rfl⟩
  rw [← hw1] at hW ⊢
  clear hw1
  have k0 := hW.slab.c0
  have k1 := hW.slab.c1
  have k2 := hW.slab.c2
  have hst := store_sec hW.res noughts64 noughts64
  have HW := Lib.hid hW
  clear hW k2
  by_cases h1 : st < 1
  · have d1 : decide (st < 1) = true := decide_eq_true h1
    go_wp2_with (first | refine wpList_load_sec (by rfl) (.tmp 4) rfl (w.heap.size + 1 + 1) rfl (noughts 64) noughts64 HW.out.sec ?_)
    exact bodyPost_ret (res38 (HW.out.put _).1 noughts64 _ rfl) rfl ⟨rfl, (HW.out.put _).2⟩
  · have d1 : decide (st < 1) = false := decide_eq_false h1
    by_cases h2 : 281474976710655 < st
    · have d2 : decide (281474976710655 < st) = true := decide_eq_true h2
      go_wp2_with (first | refine wpList_load_sec (by rfl) (.tmp 4) rfl (w.heap.size + 1 + 1) rfl (noughts 64) noughts64 HW.out.sec ?_)
      exact bodyPost_ret (res38 (HW.out.put _).1 noughts64 _ rfl) rfl ⟨rfl, (HW.out.put _).2⟩
    · have d2 : decide (281474976710655 < st) = false := decide_eq_false h2
      by_cases h3 : kd < 1
      · have d3 : decide (kd < 1) = true := decide_eq_true h3
        go_wp2_with (first | refine wpList_load_sec (by rfl) (.tmp 4) rfl (w.heap.size + 1 + 1) rfl (noughts 64) noughts64 HW.out.sec ?_)
        exact bodyPost_ret (res38 (HW.out.put _).1 noughts64 _ rfl) rfl ⟨rfl, (HW.out.put _).2⟩
      · have d3 : decide (kd < 1) = false := decide_eq_false h3
        have h4 : 255 < kd := by omega
        have d4 : decide (255 < kd) = true := decide_eq_true h4
        go_wp2_with (first | refine wpList_load_sec (by rfl) (.tmp 4) rfl (w.heap.size + 1 + 1) rfl (noughts 64) noughts64 HW.out.sec ?_)
        exact bodyPost_ret (res38 (HW.out.put _).1 noughts64 _ rfl) rfl ⟨rfl, (HW.out.put _).2⟩
set_option maxHeartbeats 2000000 in
theorem refSeal_ok (st kd : Nat) (A : Option Addr) (n c : Nat) (ds : List Nat) (w : World) (h1 : 1 ≤ st) (h2 : st ≤ 281474976710655) (h3 : 1 ≤ kd) (h4 : kd ≤ 255) (h5 : n ≤ 50) (hr : Rdv w A n 1 (valsB ds)) (hs : ∀ x ∈ ds, x < 256) :
    Calls Try.prog 85 #[.agg #[.int .i64 (st : Int), .int .i64 (kd : Int), .slice A n c]] w fun e w' => e = .returned (.tuple #[.agg (secV (sealN st kd ds)), .int .i64 0]) ∧ Below w.heap.size w w' := by
  have hln : ds.length = n := by have := hr.1; rw [valsB_length] at this; omega
  have HLN := Lib.hid hln
  have HR := Lib.hid hr
  have HSM := Lib.hid hs
  clear hr hs hln
  go_enter Try.func85, Try.ntmps85
  go_upto_region 2 with (first | refine wpList_store_sec rfl (.tmp 4) (.tmp 8) rfl (w.heap.size + 1 + 1) rfl (noughts 64) (noughts 64) (congrArg Value.agg zeros_sec) noughts64 noughts64 (ref_lit w _ _ _) ?_)
  have hW := ref_world w (st : Int) (kd : Int) (.slice A n c)
  obtain ⟨w1, hw1⟩ : ∃ w1, w1 = ((((w.alloc (.cells #[.int .i64 (st : Int), .int .i64 (kd : Int), .slice A n c] 172)).alloc (.cells #[.int .u8 0, .int .u8 0, .int .u8 0, .int .u8 0, .int .u8 0, .int .u8 0, .int .u8 0, .int .u8 0, .int .u8 0, .int .u8 0, .int .u8 0, .int .u8 0, .int .u8 0, .int .u8 0, .int .u8 0, .int .u8 0, .int .u8 0, .int .u8 0, .int .u8 0, .int .u8 0, .int .u8 0, .int .u8 0, .int .u8 0, .int .u8 0, .int .u8 0, .int .u8 0, .int .u8 0, .int .u8 0, .int .u8 0, .int .u8 0, .int .u8 0, .int .u8 0, .int .u8 0, .int .u8 0, .int .u8 0, .int .u8 0, .int .u8 0, .int .u8 0, .int .u8 0, .int .u8 0, .int .u8 0, .int .u8 0, .int .u8 0, .int .u8 0, .int .u8 0, .int .u8 0, .int .u8 0, .int .u8 0, .int .u8 0, .int .u8 0, .int .u8 0, .int .u8 0, .int .u8 0, .int .u8 0, .int .u8 0, .int .u8 0, .int .u8 0, .int .u8 0, .int .u8 0, .int .u8 0, .int .u8 0, .int .u8 0, .int .u8 0, .int .u8 0] 75)).alloc (.cells #[.int .u8 0, .int .u8 0, .int .u8 0, .int .u8 0, .int .u8 0, .int .u8 0, .int .u8 0, .int .u8 0, .int .u8 0, .int .u8 0, .int .u8 0, .int .u8 0, .int .u8 0, .int .u8 0, .int .u8 0, .int .u8 0, .int .u8 0, .int .u8 0, .int .u8 0, .int .u8 0, .int .u8 0, .int .u8 0, .int .u8 0, .int .u8 0, .int .u8 0, .int .u8 0, .int .u8 0, .int .u8 0, .int .u8 0, .int .u8 0, .int .u8 0, .int .u8 0, .int .u8 0, .int .u8 0, .int .u8 0, .int .u8 0, .int .u8 0, .int .u8 0, .int .u8 0, .int .u8 0, .int .u8 0, .int .u8 0, .int .u8 0, .int .u8 0, .int .u8 0, .int .u8 0, .int .u8 0, .int .u8 0, .int .u8 0, .int .u8 0, .int .u8 0, .int .u8 0, .int .u8 0, .int .u8 0, .int .u8 0, .int .u8 0, .int .u8 0, .int .u8 0, .int .u8 0, .int .u8 0, .int .u8 0, .int .u8 0, .int .u8 0, .int .u8 0] 75)).setRow (w.heap.size + 1 + 1) (secV (noughts 64))) := ⟨_, rfl⟩
  rw [← hw1] at hW ⊢
  clear hw1
  have k0 := hW.slab.c0
  have k1 := hW.slab.c1
  have k2 := hW.slab.c2
  have HW := Lib.hid hW
  clear hW
  have d1 : decide ((st : Int) < 1) = false := decide_eq_false (by omega)
  have d2 : decide (281474976710655 < (st : Int)) = false := decide_eq_false (by omega)
  have d3 : decide ((kd : Int) < 1) = false := decide_eq_false (by omega)
  have d4 : decide (255 < (kd : Int)) = false := decide_eq_false (by omega)
  go_wp2_with fail
  clear d1 d2 d3 d4 k0 k1 k2
  go_loopw [5, 6] (fun x i wr => ∃ k : Nat, k ≤ 6 ∧ i = .int .i64 (k : Int) ∧ x = .int .i64 ((st / 256 ^ k : Nat) : Int) ∧ RefW w wr st kd (.slice A n c) (midN st k)) (fun _ i _ => 6 - (intOf i).toNat)
  case atStart => exact ⟨0, by omega, rfl, by simp, by rw [midN_zero]; exact HW.out⟩
  case round =>
    obtain ⟨k, hk, rfl, rfl, hw⟩ := hrel
    by_cases hlt : k < 6
    · have hml := midN_length st k (by omega)
      have m1 := hw.sec.cell k (by omega)
      have f1 := hw.sec.frozen k
      obtain ⟨N, hN⟩ : ∃ N, N = st / 256 ^ k := ⟨_, rfl⟩
      have hN2 : st / 256 ^ (k + 1) = N / 256 := by rw [hN, Nat.pow_succ, Nat.div_div_eq_div_mul]
      have hset := midN_set st k hlt
      rw [← hN] at hset ⊢
      have hNb : N ≤ 281474976710655 := by rw [hN]; exact Nat.le_trans (Nat.div_le_self _ _) h2
      obtain ⟨x, hx⟩ : ∃ x, x = N % 256 := ⟨_, rfl⟩
      rw [← hx] at hset
      have ex : (N : Int) % 256 = (x : Int) := by omega
      have hx256 : x < 256 := by omega
      have ew : IntKind.u8.wrap (x : Int) = (x : Int) := IntWalk.u8_in _ (by omega)
      have eq : (N : Int) / 256 = ((N / 256 : Nat) : Int) := rfl
      obtain ⟨M, hM⟩ : ∃ M, M = N / 256 := ⟨_, rfl⟩
      rw [← hM] at hN2 eq
      have m2 := (hw.sec.set k x).cell (58 + k) (by rw [List.length_set]; omega)
      have f2 := (hw.sec.set k x).frozen (58 + k)
      obtain ⟨y1, hy1⟩ : ∃ y1, y1 = (midN st k).getD k 0 := ⟨_, rfl⟩
      obtain ⟨y2, hy2⟩ : ∃ y2, y2 = ((midN st k).set k x).getD (58 + k) 0 := ⟨_, rfl⟩
      rw [← hy1] at m1
      rw [← hy2] at m2
      have h := (hw.set k x).set (58 + k) x
      rw [hset] at h
      have HN2 := Lib.hid hN2
      have HW2 := Lib.hid h
      clear hml hx hw hy1 hy2 hN hN2 hset h hM
      go_wp2_with fail
      refine ⟨⟨k + 1, by omega, by go_num, by rw [HN2.out], HW2.out⟩, by simp [intOf]; omega⟩
    · obtain rfl : k = 6 := by omega
      have k1 := hw.slab.c1
      have k2 := hw.slab.c2
      have hml := midN_length st 6 (by omega)
      have m1 := hw.sec.cell 6 (by omega)
      have f1 := hw.sec.frozen 6
      have m2 := (hw.sec.set 6 kd).cell 7 (by rw [List.length_set]; omega)
      have f2 := (hw.sec.set 6 kd).frozen 7
      have k22 := (hw.set 6 kd).slab.c2
      obtain ⟨y1, hy1⟩ : ∃ y1, y1 = (midN st 6).getD 6 0 := ⟨_, rfl⟩
      obtain ⟨y2, hy2⟩ : ∃ y2, y2 = ((midN st 6).set 6 kd).getD 7 0 := ⟨_, rfl⟩
      rw [← hy1] at m1
      rw [← hy2] at m2
      have h := (hw.set 6 kd).set 7 n
      rw [← dataP_zero st kd n ds] at h
      have HW2 := Lib.hid h
      have e1 : IntKind.u8.wrap (kd : Int) = (kd : Int) := IntWalk.u8_in _ (by omega)
      have e2 : IntKind.u8.wrap (n : Int) = (n : Int) := IntWalk.u8_in _ (by omega)
      clear hml hw hy1 hy2 hk hlt h
      go_wp2_with fail
      obtain ⟨w2, hw2⟩ : ∃ w2, w2 = (wr.setCell ⟨w.heap.size + 1 + 1, 6, none⟩ (.int .u8 (kd : Int))).setCell ⟨w.heap.size + 1 + 1, 7, none⟩ (.int .u8 (n : Int)) := ⟨_, rfl⟩
      rw [← hw2] at HW2 ⊢
      clear hw2 m1 m2 f1 f2 k1 k2 k22 e1 e2
      go_loopw [7] (fun i wr => ∃ k : Nat, k ≤ n ∧ i = .int .i64 (k : Int) ∧ RefW w wr st kd (.slice A n c) (dataP st kd n ds k)) (fun i _ => n - (intOf i).toNat)
      case atStart => exact ⟨0, by omega, rfl, HW2.out⟩
      case round =>
        obtain ⟨k, hk, rfl, hw⟩ := hrel
        have k2 := hw.slab.c2
        by_cases hlt : k < n
        · obtain ⟨b, off, rfl, hc⟩ := (HR.out.ext (stays_b hw.below)).2 (by omega)
          have hck := hc k _ (show (valsB ds)[k]? = some (.int .u8 ((ds.getD k 0 : Nat) : Int)) by
            rw [valsB_get, List.getD_eq_getElem?_getD, List.getElem?_eq_getElem (by rw [HLN.out]; exact hlt)]; rfl)
          have hset := dataP_set st kd n ds k (by rw [HLN.out]; exact hlt) (by rw [HLN.out]; exact h5)
          have hx256 : ds.getD k 0 < 256 := getD_small HSM.out k
          obtain ⟨x, hx⟩ : ∃ x, x = ds.getD k 0 := ⟨_, rfl⟩
          rw [← hx] at hck hset hx256
          have m1 := hw.sec.cell (8 + k) (by rw [dataP_length st kd n ds k (by rw [HLN.out]; exact hk) (by rw [HLN.out]; exact h5)]; omega)
          have f1 := hw.sec.frozen (8 + k)
          obtain ⟨y1, hy1⟩ : ∃ y1, y1 = (dataP st kd n ds k).getD (8 + k) 0 := ⟨_, rfl⟩
          rw [← hy1] at m1
          have h := hw.set (8 + k) x
          rw [hset] at h
          have HW3 := Lib.hid h
          clear hw hc hset hx hy1 h
          go_wp2_with fail
          exact ⟨⟨k + 1, by omega, by go_num, HW3.out⟩, by simp [intOf]; omega⟩
        · obtain rfl : k = n := by omega
          rw [dataP_end st kd k ds HLN.out] at hw
          have hl : (sealN st kd ds).length = 64 := sealN_length st kd ds (by rw [HLN.out]; exact h5)
          have hst := store_sec hw.res noughts64 hl
          have hsz : (secV (sealN st kd ds)).size = 64 := by rw [secV_size, hl]
          have HL := Lib.hid hl
          have HW4 := Lib.hid hw
          clear hl hw
          go_wp2_with (first | refine wpList_load_sec (by rfl) (.tmp 4) rfl (w.heap.size + 1 + 1) rfl (sealN st kd ds) HL.out HW4.out.sec ?_)
          exact bodyPost_ret (res38 (HW4.out.put _).1 HL.out _ rfl) rfl ⟨rfl, (HW4.out.put _).2⟩
end Go.Proofs.Ytjmjehhmkjhalaa
