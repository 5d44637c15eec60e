/- A write is built, and a row of one; operations by their laws. -/
import Derived.Test.YthmebgpleegonaaDFull
import Derived.Great.BuildSlice
import Derived.Great.Walk
import Derived.OwnWalk
import Derived.Laws.Tables
namespace Go.Proofs.Ythmebgpleegonaa
set_option maxRecDepth 100000
open Go.RowKit

theorem range_get (l : List Nat) (h : l.length = 64) : l = (List.range 64).map fun j => l.getD j 0 := by
  refine List.ext_getElem (by simp [h]) fun j h1 h2 => ?_
  simp [List.getD_eq_getElem?_getD, List.getElem?_eq_getElem h1]
theorem built_wx' (i : Int) (f : Nat → Nat) : Try.prog.built 99 [(0, .int .i64 i), (1, .agg (valsB ((List.range 64).map f)).toArray)] = some (Value.int .i64 i :: valsB ((List.range 64).map f)).toArray := by kernel_rfl
theorem built_wx (y : Wx) : Try.prog.built 99 [(0, .int .i64 y.i), (1, y.x.val)] = some y.arr := by
  have h := built_wx' y.i fun j => y.x.l.getD j 0
  rw [← range_get y.x.l y.x.len] at h
  exact h
theorem run_build_wx (w : World) (y : Wx) : (Instr.build 99 #[(0, .int .i64 y.i), (1, y.x.val)]).run Try.prog w = .ok y.val w := run_build w 99 _ _ (built_wx y)
theorem step_of {P : Program} {w : World} {ops : Array Oper} {o : Oper} {a : Act} {K : Act → World → Prop} {Q : Exit → Act → World → Prop} {F : Prop} (hw : Region.wanted o (yielded ops a.tmps) = true) (h : Oper.wp P o a w K Q) : if Region.wanted o (yielded ops a.tmps) = true then Oper.wp P o a w K Q else F := by
  rw [if_pos hw]; exact h
theorem wp_build_wx {w : World} {o : Oper} {a : Act} {K : Act → World → Prop} {Q : Exit → Act → World → Prop} (x1 x2 : Operand) (ho : o.op = .build 99 #[(0, x1), (1, x2)]) (y : Wx) (h1 : a.eval x1 = .int .i64 y.i) (h2 : a.eval x2 = y.x.val) (h : K (a.put o.dst y.val) w) : Oper.wp Try.prog o a w K Q := by
  unfold Oper.wp execOp
  simp only [ho, List.map_toArray, List.map_cons, List.map_nil, h1, h2, run_build_wx, Sem.run_bind, Sem.run_pure, Result.andThen_ok]
  exact h
theorem sliced_wx' (i : Int) (f : Nat → Nat) : Try.prog.builtSlice 99 1 [(0, .agg (Value.int .i64 i :: valsB ((List.range 64).map f)).toArray)] = some (Value.int .i64 i :: valsB ((List.range 64).map f)).toArray := by kernel_rfl
theorem sliced_wx (y : Wx) : Try.prog.builtSlice 99 1 [(0, y.val)] = some y.arr := by
  have h := sliced_wx' y.i fun j => y.x.l.getD j 0
  rw [← range_get y.x.l y.x.len] at h
  exact h
theorem run_slice_wx (w : World) (y : Wx) : (Instr.buildSlice 79 1 #[(0, y.val)]).run Try.prog w = .ok (.slice (some ⟨w.heap.size, 0, none⟩) 1 1) (w.alloc (.cells y.arr 99)) := by
  have hf := sliced_wx y
  unfold Program.builtSlice at hf
  cases hie : Try.prog.info? 99 with
  | none => simp [hie] at hf
  | some ie =>
    simp only [hie] at hf
    cases hz : ie.zero with
    | none => simp [hz] at hf
    | some z =>
      simp only [hz] at hf
      by_cases hc : 1 * ie.size > 2 ^ 24 ∨ 1 * ie.size = 0
      · exfalso
        simp at hf
        omega
      · rw [if_neg hc] at hf
        exact run_buildSlice w 79 99 1 _ y.arr ie z Try.underlying79 hie hz (fun h' => hc (Or.inl h')) (fun h' => hc (Or.inr h')) hf
theorem wp_slice_wx {w : World} {o : Oper} {a : Act} {K : Act → World → Prop} {Q : Exit → Act → World → Prop} (x1 : Operand) (ho : o.op = .buildSlice 79 1 #[(0, x1)]) (y : Wx) (h1 : a.eval x1 = y.val) (h : K (a.put o.dst (.slice (some ⟨w.heap.size, 0, none⟩) 1 1)) (w.alloc (.cells y.arr 99))) : Oper.wp Try.prog o a w K Q := by
  unfold Oper.wp execOp
  simp only [ho, List.map_toArray, List.map_cons, List.map_nil, h1, run_slice_wx, Sem.run_bind, Sem.run_pure, Result.andThen_ok]
  exact h
theorem elem79 : ElemT Try.prog 79 99 65 72 :=
  ⟨Try.underlying79, by kernel_rfl, by
    obtain ⟨i, hi, hz, h1, _⟩ := info_parts (show (Try.prog.info? 99).map (fun i => (i.zero, i.size, i.bytes)) = some (some (.agg #[.int .i64 0, .int .u8 0, .int .u8 0, .int .u8 0, .int .u8 0, .int .u8 0, .int .u8 0, .int .u8 0, .int .u8 0, .int .u8 0, .int .u8 0, .int .u8 0, .int .u8 0, .int .u8 0, .int .u8 0, .int .u8 0, .int .u8 0, .int .u8 0, .int .u8 0, .int .u8 0, .int .u8 0, .int .u8 0, .int .u8 0, .int .u8 0, .int .u8 0, .int .u8 0, .int .u8 0, .int .u8 0, .int .u8 0, .int .u8 0, .int .u8 0, .int .u8 0, .int .u8 0, .int .u8 0, .int .u8 0, .int .u8 0, .int .u8 0, .int .u8 0, .int .u8 0, .int .u8 0, .int .u8 0, .int .u8 0, .int .u8 0, .int .u8 0, .int .u8 0, .int .u8 0, .int .u8 0, .int .u8 0, .int .u8 0, .int .u8 0, .int .u8 0, .int .u8 0, .int .u8 0, .int .u8 0, .int .u8 0, .int .u8 0, .int .u8 0, .int .u8 0, .int .u8 0, .int .u8 0, .int .u8 0, .int .u8 0, .int .u8 0, .int .u8 0, .int .u8 0]), 65, 72) by kernel_rfl)
    exact ⟨i, _, hi, hz, rfl⟩, by decide⟩
theorem elem75 : ElemT Try.prog 75 81 3 40 :=
  ⟨Try.underlying75, by kernel_rfl, by
    obtain ⟨i, hi, hz, h1, _⟩ := info_parts (show (Try.prog.info? 81).map (fun i => (i.zero, i.size, i.bytes)) = some (some (.agg #[.int .i64 0, .map none, .slice none 0 0]), 3, 40) by kernel_rfl)
    exact ⟨i, _, hi, hz, rfl⟩, by decide⟩
end Go.Proofs.Ythmebgpleegonaa
