/- DFull, DOps: put together. -/
import Derived.Test.YtjmjehhmkjhalaaQb10
import Derived.Deep.RegionLaw
import Derived.Deep.CutRange
import Derived.Deep.CutBlock
import Derived.Great.BuildSlice
import Derived.Great.Walk
import Derived.OwnWalk
import Derived.Laws.Tables
/- The contract of the law's full. -/
namespace Go.Proofs.Ytjmjehhmkjhalaa
set_option maxRecDepth 100000
open Go.RowKit

theorem wpList_load_val {ty : TypeId} {w : World} {b off : Nat} {ops : Array Oper} {rest : List Oper} {o : Oper} {a : Act} {Q : Exit → Act → World → Prop} (hwt : Region.wanted o (yielded ops a.tmps) = true) (x : Operand) (ho : o.op = .load ty x) (hx : a.eval x = .pointer (some ⟨b, off, none⟩)) (v : Value) (hv : (loadVar ty ⟨b, off, none⟩).run Try.prog w = .ok v w)
    (h : wpList Try.prog ops Q rest (a.put o.dst v) w) : wpList Try.prog ops Q (o :: rest) a w := by
  unfold wpList
  rw [if_pos hwt]
  exact .inl (wp_load_val x ho hx v hv h)
theorem wpList_store_val {ty : TypeId} {w w' : World} {b off : Nat} {ops : Array Oper} {rest : List Oper} {o : Oper} {a : Act} {Q : Exit → Act → World → Prop} (hgd : o.guard = none) (x y : Operand) (ho : o.op = .store ty x y) (hx : a.eval x = .pointer (some ⟨b, off, none⟩)) (v : Value) (hy : a.eval y = v) (hv : (storeVar ty ⟨b, off, none⟩ v).run Try.prog w = .ok () w')
    (h : wpList Try.prog ops Q rest (a.put o.dst undef) w') : wpList Try.prog ops Q (o :: rest) a w := by
  refine wpList_plain hgd fun K hK => ?_
  unfold Oper.wp execOp
  simp only [ho, hx, hy, Instr.storeAt, Instr.sureAddr, Sem.run_bind, Sem.run_pure, Result.andThen_ok, hv]
  exact hK _ _ h
/-- A sector in a block of its own. -/
def SBlk (w : World) (b : Nat) (x : Sx) : Prop := w.heap[b]? = some (.cells x.arr 75 (0, 0))
theorem SBlk.at {w : World} {b : Nat} {x : Sx} (h : SBlk w b x) : At w b 0 x.vals := by rw [← x.toList]; exact At.of_block h
theorem SBlk.load {w : World} {b : Nat} {x : Sx} (h : SBlk w b x) : (loadVar 75 ⟨b, 0, none⟩).run Try.prog w = .ok x.val w := load_sx h.at
theorem SBlk.lt {w : World} {b : Nat} {x : Sx} (h : SBlk w b x) : b < w.heap.size := (Array.getElem?_eq_some_iff.1 h).1
theorem SBlk.below {w w' : World} {b : Nat} {x : Sx} (h : SBlk w b x) (hb : Below w.heap.size w w') : SBlk w' b x := (hb.block b h.lt).trans h
theorem setRow_eq {w : World} {g : Nat} {c cs : Array Value} {t : TypeId} (h : w.heap[g]? = some (.cells c t (0, 0))) : (w.setRow g cs).heap[g]? = some (.cells cs t (0, 0)) := setRow_heap w g _ _ t _ h
theorem storeCells_sx {w : World} {b : Nat} {z x : Sx} (h : SBlk w b z) : (storeCells ⟨b, 0, none⟩ x.arr.toList).run Try.prog w = .ok () (w.setRow b x.arr) := by
  have hx := run_storeCells_at (P := Try.prog) b 0 75 x.arr.toList 0 z.arr w h (by simp [z.size, x.size]) (by
    intro u hu
    rw [x.toList] at hu
    exact x.one u hu)
  rw [hx]
  congr 2
  rw [List.drop_eq_nil_of_le (by simp [z.size, x.size])]
  simp
theorem SBlk.store {w : World} {b : Nat} {z : Sx} (h : SBlk w b z) (x : Sx) : (storeVar 75 ⟨b, 0, none⟩ x.val).run Try.prog w = .ok () (w.setRow b x.arr) := by
  have h2 := storeCells_sx (x := x) h
  cases hq : Try.prog.info? 75 with
  | none => have := info50; rw [hq] at this; cases this
  | some i =>
    have hs : i.size = 64 := by have := info50; rw [hq] at this; simpa using this
    unfold Sx.val
    simp [storeVar, sizeOf, typeInfo, hq, Value.cells, hs, x.size]
    exact h2
theorem SBlk.put {w : World} {b : Nat} {z : Sx} (h : SBlk w b z) (x : Sx) : SBlk (w.setRow b x.arr) b x := setRow_eq h
theorem setRow_below {w W : World} {b : Nat} {cs : Array Value} (h : Below w.heap.size w W) (hb : w.heap.size ≤ b) : Below w.heap.size w (W.setRow b cs) :=
  ⟨h.os, h.tape, h.output, by rw [size_setRow]; exact h.size, fun k hk => (setRow_other W b k _ (by omega)).trans (h.block k hk)⟩
/-- The first k bytes set. -/
def fillL (b k : Nat) : List Nat := List.replicate k b ++ List.replicate (64 - k) 0
def fillS (b : Nat) (hb : b < 256) (k : Nat) (hk : k ≤ 64) : Sx := ⟨fillL b k, by simp [fillL]; omega, fun x hx => by
  unfold fillL at hx
  rcases List.mem_append.1 hx with h | h
  · rw [(List.mem_replicate.1 h).2]; exact hb
  · rw [(List.mem_replicate.1 h).2]; decide⟩
end Go.Proofs.Ytjmjehhmkjhalaa

/- A write is built, and a row of one; operations by their laws. -/
namespace Go.Proofs.Ytjmjehhmkjhalaa
set_option maxRecDepth 100000
open Go.RowKit

theorem range_get (l : List Nat) (h : l.length = 64) : l = (List.range 64).map fun j => l.getD j 0 := by
  refine List.ext_getElem (by simp [h]) fun j h1 h2 => ?_
  simp [List.getD_eq_getElem?_getD, List.getElem?_eq_getElem h1]
theorem built_wx' (i : Int) (f : Nat → Nat) : Try.prog.built 190 [(0, .int .i64 i), (1, .agg (valsB ((List.range 64).map f)).toArray)] = some (Value.int .i64 i :: valsB ((List.range 64).map f)).toArray := by kernel_rfl
theorem built_wx (y : Wx) : Try.prog.built 190 [(0, .int .i64 y.i), (1, y.x.val)] = some y.arr := by
  have h := built_wx' y.i fun j => y.x.l.getD j 0
  rw [← range_get y.x.l y.x.len] at h
  exact h
theorem run_build_wx (w : World) (y : Wx) : (Instr.build 190 #[(0, .int .i64 y.i), (1, y.x.val)]).run Try.prog w = .ok y.val w := run_build w 190 _ _ (built_wx y)
theorem wp_build_wx {w : World} {o : Oper} {a : Act} {K : Act → World → Prop} {Q : Exit → Act → World → Prop} (x1 x2 : Operand) (ho : o.op = .build 190 #[(0, x1), (1, x2)]) (y : Wx) (h1 : a.eval x1 = .int .i64 y.i) (h2 : a.eval x2 = y.x.val) (h : K (a.put o.dst y.val) w) : Oper.wp Try.prog o a w K Q := by
  unfold Oper.wp execOp
  simp only [ho, List.map_toArray, List.map_cons, List.map_nil, h1, h2, run_build_wx, Sem.run_bind, Sem.run_pure, Result.andThen_ok]
  exact h
theorem sliced_wx' (i : Int) (f : Nat → Nat) : Try.prog.builtSlice 190 1 [(0, .agg (Value.int .i64 i :: valsB ((List.range 64).map f)).toArray)] = some (Value.int .i64 i :: valsB ((List.range 64).map f)).toArray := by kernel_rfl
theorem sliced_wx (y : Wx) : Try.prog.builtSlice 190 1 [(0, y.val)] = some y.arr := by
  have h := sliced_wx' y.i fun j => y.x.l.getD j 0
  rw [← range_get y.x.l y.x.len] at h
  exact h
theorem run_slice_wx (w : World) (y : Wx) : (Instr.buildSlice 149 1 #[(0, y.val)]).run Try.prog w = .ok (.slice (some ⟨w.heap.size, 0, none⟩) 1 1) (w.alloc (.cells y.arr 190)) := by
  have hf := sliced_wx y
  unfold Program.builtSlice at hf
  cases hie : Try.prog.info? 190 with
  | none => simp [hie] at hf
  | some ie =>
    simp only [hie] at hf
    cases hz : ie.zero with
    | none => simp [hz] at hf
    | some z =>
      simp only [hz] at hf
      by_cases hc : 1 * ie.size > 2 ^ 24 ∨ 1 * ie.size = 0
      · exfalso
        simp at hf
        omega
      · rw [if_neg hc] at hf
        exact run_buildSlice w 149 190 1 _ y.arr ie z Try.underlying149 hie hz (fun h' => hc (Or.inl h')) (fun h' => hc (Or.inr h')) hf
theorem wp_slice_wx {w : World} {o : Oper} {a : Act} {K : Act → World → Prop} {Q : Exit → Act → World → Prop} (x1 : Operand) (ho : o.op = .buildSlice 149 1 #[(0, x1)]) (y : Wx) (h1 : a.eval x1 = y.val) (h : K (a.put o.dst (.slice (some ⟨w.heap.size, 0, none⟩) 1 1)) (w.alloc (.cells y.arr 190))) : Oper.wp Try.prog o a w K Q := by
  unfold Oper.wp execOp
  simp only [ho, List.map_toArray, List.map_cons, List.map_nil, h1, run_slice_wx, Sem.run_bind, Sem.run_pure, Result.andThen_ok]
  exact h
theorem elem79 : ElemT Try.prog 149 190 65 72 :=
  ⟨Try.underlying149, by kernel_rfl, by
    obtain ⟨i, hi, hz, h1, _⟩ := info_parts (show (Try.prog.info? 190).map (fun i => (i.zero, i.size, i.bytes)) = some (some (.agg #[.int .i64 0, .int .u8 0, .int .u8 0, .int .u8 0, .int .u8 0, .int .u8 0, .int .u8 0, .int .u8 0, .int .u8 0, .int .u8 0, .int .u8 0, .int .u8 0, .int .u8 0, .int .u8 0, .int .u8 0, .int .u8 0, .int .u8 0, .int .u8 0, .int .u8 0, .int .u8 0, .int .u8 0, .int .u8 0, .int .u8 0, .int .u8 0, .int .u8 0, .int .u8 0, .int .u8 0, .int .u8 0, .int .u8 0, .int .u8 0, .int .u8 0, .int .u8 0, .int .u8 0, .int .u8 0, .int .u8 0, .int .u8 0, .int .u8 0, .int .u8 0, .int .u8 0, .int .u8 0, .int .u8 0, .int .u8 0, .int .u8 0, .int .u8 0, .int .u8 0, .int .u8 0, .int .u8 0, .int .u8 0, .int .u8 0, .int .u8 0, .int .u8 0, .int .u8 0, .int .u8 0, .int .u8 0, .int .u8 0, .int .u8 0, .int .u8 0, .int .u8 0, .int .u8 0, .int .u8 0, .int .u8 0, .int .u8 0, .int .u8 0, .int .u8 0, .int .u8 0]), 65, 72) by kernel_rfl)
    exact ⟨i, _, hi, hz, rfl⟩, by decide⟩
theorem elem75 : ElemT Try.prog 145 151 3 40 :=
  ⟨Try.underlying145, by kernel_rfl, by
    obtain ⟨i, hi, hz, h1, _⟩ := info_parts (show (Try.prog.info? 151).map (fun i => (i.zero, i.size, i.bytes)) = some (some (.agg #[.int .i64 0, .map none, .slice none 0 0]), 3, 40) by kernel_rfl)
    exact ⟨i, _, hi, hz, rfl⟩, by decide⟩
end Go.Proofs.Ytjmjehhmkjhalaa
