/- Blocks that hold the 32 columns; the contract of crc.oneNought. -/
import Derived.Test.YtfajalhpenincaaDoorOf
import Derived.Deep.Heap
import Derived.Deep.WholeRow
import Derived.Laws.CopyRow
import Derived.Laws.CopyOwn
namespace Go.Proofs.YtfajalhpenincaaDoor
open Go.RowKit

def Blk (w : World) (g : Nat) (m : List Nat) : Prop := w.heap[g]? = some (.cells (cols m) 48 (0, 0))
theorem Blk.cell {w : World} {g : Nat} {m : List Nat} (h : Blk w g m) (k : Nat) (hk : k < m.length) : w.cell? ⟨g, k, none⟩ = some (.int .u32 ((m.getD k 0 : Nat) : Int)) :=
  (cell_of_row w g k (cols m) 48 (0, 0) h).trans (cols_at m k hk)
theorem Blk.frozen {w : World} {g : Nat} {m : List Nat} (h : Blk w g m) (k : Nat) : w.frozen? ⟨g, k, none⟩ = false := by
  unfold Blk at h
  simp [World.frozen?, h]
theorem Blk.alloc {w : World} {g : Nat} {m : List Nat} (h : Blk w g m) (o : Obj) : Blk (w.alloc o) g m :=
  (heap_alloc_old w o (Array.getElem?_eq_some_iff.1 h).1).trans h
theorem Blk.other {w : World} {g : Nat} {m : List Nat} (h : Blk w g m) (a : Addr) (v : Value) (hne : g ≠ a.block) : Blk (w.setCell a v) g m :=
  (Deep.blk_setCell_other w a v g hne).trans h
theorem cols_set (m : List Nat) (k x : Nat) : cols (m.set k x) = (cols m).setIfInBounds k (.int .u32 (x : Int)) := by
  simp [cols, List.map_set]
theorem Blk.set {w : World} {g : Nat} {m : List Nat} (h : Blk w g m) (k x : Nat) : Blk (w.setCell ⟨g, k, none⟩ (.int .u32 (x : Int))) g (m.set k x) := by
  unfold Blk at h ⊢
  rw [cols_set]
  simp [World.setCell, Array.getElem?_modify, h]
theorem Blk.ext {w w' : World} {B g : Nat} {m : List Nat} (h : Blk w g m) (hb : Below B w w') (hg : g < B) : Blk w' g m :=
  (hb.block g hg).trans h
theorem Below.blk_old {w w' : World} {g : Nat} {m : List Nat} (hb : Below w.heap.size w w') (h : Blk w g m) : Blk w' g m :=
  h.ext hb (Array.getElem?_eq_some_iff.1 h).1
theorem info48 : (Tryd.prog.info? 48).map (·.size) = some 32 := by kernel_rfl
theorem u48 : Tryd.prog.underlying 48 = some (.array 32 23) := by kernel_rfl
theorem info_cols {m : List Nat} (hl : m.length = 32) : (Tryd.prog.info? 48).map (·.size) = some (cols m).size := by rw [cols_size, hl]; exact info48
theorem cols_one (m : List Nat) : (cols m).all (·.oneCell') = true := by
  simp [cols, Value.oneCell']

theorem store_cols {w : World} {g : Nat} {z m : List Nat} (h : Blk w g z) (hz : z.length = 32) (hm : m.length = 32) :
    (storeCells ⟨g, 0, none⟩ (cols m).toList).run Tryd.prog w = .ok () (w.setRow g (cols m)) := by
  have hs : (cols z).size = 32 := by rw [cols_size, hz]
  have hs2 : (cols m).size = 32 := by rw [cols_size, hm]
  have hx := run_storeCells_at (P := Tryd.prog) g 0 48 (cols m).toList 0 (cols z) w h (by simp [hs, hs2]) (by
    intro x hx
    have := cols_one m
    rw [Array.all_eq_true] at this
    obtain ⟨i, hi, rfl⟩ := List.mem_iff_getElem.1 hx
    simpa using this i (by simpa using hi))
  rw [hx]
  congr 2
  rw [List.drop_eq_nil_of_le (by simp [hs, hs2])]
  simp
theorem Blk.put {w : World} {g : Nat} {z : List Nat} (h : Blk w g z) (m : List Nat) : Blk (w.setRow g (cols m)) g m := setRow_heap w g _ _ 48 _ h

/-- The first k columns of what a byte 0 does, the others 0. -/
def part (m : List Nat) (k : Nat) : List Nat := m.take k ++ List.replicate (32 - k) 0
theorem part_length (m : List Nat) (hl : m.length = 32) (k : Nat) (hk : k ≤ 32) : (part m k).length = 32 := by simp [part]; omega
theorem part_set (m : List Nat) (hl : m.length = 32) (k : Nat) (hk : k < 32) : (part m k).set k (m.getD k 0) = part m (k + 1) := by
  have h1 : (m.take k).length = k := by simp; omega
  unfold part
  rw [show 32 - k = (32 - (k + 1)) + 1 by omega, List.replicate_succ, List.set_append_right _ _ (by omega), h1, Nat.sub_self, List.set_cons_zero, take_succ_getD m k (by omega)]
  simp
theorem part_all (m : List Nat) (hl : m.length = 32) : part m 32 = m := by
  unfold part
  rw [List.take_of_length_le (by omega)]
  simp
theorem zeros_cols : (#[.int .u32 0, .int .u32 0, .int .u32 0, .int .u32 0, .int .u32 0, .int .u32 0, .int .u32 0, .int .u32 0, .int .u32 0, .int .u32 0, .int .u32 0, .int .u32 0, .int .u32 0, .int .u32 0, .int .u32 0, .int .u32 0, .int .u32 0, .int .u32 0, .int .u32 0, .int .u32 0, .int .u32 0, .int .u32 0, .int .u32 0, .int .u32 0, .int .u32 0, .int .u32 0, .int .u32 0, .int .u32 0, .int .u32 0, .int .u32 0, .int .u32 0, .int .u32 0] : Array Value) = cols (part [] 0) := by rfl

set_option maxHeartbeats 1000000 in
theorem oneNought_any (w : World) (hT : Tab w) :
    Calls Tryd.prog 23 #[] w fun e w' => e = .returned (.agg (cols oneN)) ∧ Below w.heap.size w w' := by
  go_enter Tryd.func23, Tryd.ntmps23
  go_wp2
  rw [zeros_cols]
  have hb2 : Below w.heap.size w ((w.alloc (.cells (cols (part [] 0)) 48)).alloc (.cells (cols (part [] 0)) 48)) := ((Below.refl _ w).alloc (Nat.le_refl _) _).alloc (by simp) _
  have hB0 : Blk ((w.alloc (.cells (cols (part [] 0)) 48)).alloc (.cells (cols (part [] 0)) 48)) w.heap.size (part [] 0) := (show Blk (w.alloc (.cells (cols (part [] 0)) 48)) w.heap.size (part [] 0) from heap_alloc_new w _).alloc _
  have hB1 : Blk ((w.alloc (.cells (cols (part [] 0)) 48)).alloc (.cells (cols (part [] 0)) 48)) (w.heap.size + 1) (part oneN 0) := heap_alloc2_new w _ _
  obtain ⟨w2, hw2⟩ : ∃ w2, w2 = (w.alloc (.cells (cols (part [] 0)) 48)).alloc (.cells (cols (part [] 0)) 48) := ⟨_, rfl⟩
  rw [← hw2] at hb2 hB0 hB1 ⊢
  clear hw2
  go_loopw [2, 3] (fun _ i wr => ∃ k : Nat, k ≤ 32 ∧ i = .int .i64 k ∧ Blk wr w.heap.size (part [] 0) ∧ Blk wr (w.heap.size + 1) (part oneN k) ∧ Below w.heap.size w wr) (fun _ i _ => 32 - (intOf i).toNat)
  case atStart => exact ⟨0, Nat.zero_le _, rfl, hB0, hB1, hb2⟩
  case round =>
    obtain ⟨k, hk, rfl, h0, h1, hbr⟩ := hrel
    clear hB0 hB1 hb2
    by_cases hlt : k < 32
    · have hsz : w.heap.size + 1 < wr.heap.size := (Array.getElem?_eq_some_iff.1 h1).1
      have hbr1 : Below w.heap.size w (wr.alloc (.cells #[.int .u8 0] 5)) := hbr.alloc (by omega) _
      obtain ⟨p, hp⟩ : ∃ p, p = 2 ^ k := ⟨_, rfl⟩
      have hp32 : p < 4294967296 := by rw [hp]; exact two_pow_lt hlt
      have e1 : (2 : Int) ^ k % 4294967296 = (p : Int) := by
        rw [show (2 : Int) ^ k = (p : Int) by rw [hp]; simp]
        omega
      have C := feed_any p hp32 _ 1 1 [0] (wr.alloc (.cells #[.int .u8 0] 5)) (bts_at wr [0] 5 (0, 0) _ wr.heap.size 1 rfl rfl rfl small_zero) (hT.ext (stays_below hbr1)) (by decide)
      have hset := part_set oneN oneN_length k hlt
      have hy := oneN_getD k hlt
      rw [← hp] at hy
      rw [← hy] at C
      have h1' := h1.alloc (.cells #[.int .u8 0] 5)
      have h0' := (h0.alloc (.cells #[.int .u8 0] 5))
      have hc := h1'.cell k (by rw [part_length _ oneN_length _ hk]; exact hlt)
      have hf := h1'.frozen k
      obtain ⟨y, hye⟩ : ∃ y, y = oneN.getD k 0 := ⟨_, rfl⟩
      rw [← hye] at C hset
      obtain ⟨z, hze⟩ : ∃ z, z = (part oneN k).getD k 0 := ⟨_, rfl⟩
      rw [← hze] at hc
      have hn1 := (h1.set k y).alloc (.cells #[.int .u8 0] 5)
      rw [hset] at hn1
      have hn0 := (h0.other ⟨w.heap.size + 1, k, none⟩ (.int .u32 (y : Int)) (by show w.heap.size ≠ w.heap.size + 1; omega)).alloc (.cells #[.int .u8 0] 5)
      have hbs : Below w.heap.size w ((wr.setCell ⟨w.heap.size + 1, k, none⟩ (.int .u32 (y : Int))).alloc (.cells #[.int .u8 0] 5)) := (hbr.setCell (by show w.heap.size ≤ w.heap.size + 1; omega) _).alloc (by rw [Deep.nblk_setCell]; omega) _
      have D := Lib.hid C
      have N1 := Lib.hid hn1
      have N0 := Lib.hid hn0
      have NB := Lib.hid hbs
      clear C hn1 hn0 hbs hye hze hset hy hp h0 h1 h0' h1' hbr hbr1 hT
      go_wp2_with fail
      refine Calls.mono D.out ?_
      rintro e w9 ⟨rfl, rfl⟩
      go_wp2_with fail
      go_roundw
      case rel => exact ⟨k + 1, by omega, by go_num, N0.out, N1.out, NB.out⟩
      case measure => simp [intOf]; omega
    · obtain rfl : k = 32 := by omega
      rw [part_all _ oneN_length] at h1
      have hst := store_cols h0 (by decide) oneN_length
      have h2 := h0.put oneN
      have hb := below_setRow hbr (Nat.le_refl _) (cols oneN)
      have H2 := Lib.hid h2
      have HB := Lib.hid hb
      clear hT h0 hbr hb h2
      go_wp2_with (first | refine wpList_load_row rfl 48 (.tmp 1) rfl (w.heap.size + 1) rfl 48 (cols oneN) (0, 0) _ h1 u48 rfl (info_cols oneN_length) ?_)
      exact bodyPost_ret (v := .agg (cols oneN)) (results_cell_row rfl _ _ w.heap.size 48 _ (0, 0) _ rfl H2.out u48 rfl (info_cols oneN_length)) rfl ⟨rfl, HB.out⟩
end Go.Proofs.YtfajalhpenincaaDoor
