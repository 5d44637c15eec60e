/- DSec: put together. -/
import Derived.Test.YtjmjehhmkjhalaaQb00
import Derived.Maps.OwnSet
import Derived.Maps.OwnOps
import Derived.Deep.WholeRow
import Derived.Laws.CopyRow
import Derived.Laws.Rows
import Derived.WalkArith
/- Sectors, as values and in memory; a map of them. -/
namespace Go.Proofs.Ytjmjehhmkjhalaa
set_option maxRecDepth 100000
open Go.RowKit

/-- A sector. -/
structure Sx where
  l : List Nat
  len : l.length = 64
  small : ∀ x ∈ l, x < 256
theorem Sx.same {a b : Sx} (h : a.l = b.l) : a = b := by cases a; cases b; simp at h; subst h; rfl
def valsB (xs : List Nat) : List Value := xs.map fun (x : Nat) => Value.int .u8 (x : Int)
theorem valsB_length (xs : List Nat) : (valsB xs).length = xs.length := by simp [valsB]
theorem valsB_get (xs : List Nat) (j : Nat) : (valsB xs)[j]? = (xs[j]?).map fun (x : Nat) => Value.int .u8 (x : Int) := by simp [valsB]
theorem valsB_one (xs : List Nat) : ∀ u ∈ valsB xs, u.oneCell' = true := by
  intro u hu
  simp only [valsB, List.mem_map] at hu
  obtain ⟨x, _, rfl⟩ := hu
  rfl
def Sx.vals (x : Sx) : List Value := valsB x.l
def Sx.arr (x : Sx) : Array Value := x.vals.toArray
def Sx.val (x : Sx) : Value := .agg x.arr
theorem Sx.vlen (x : Sx) : x.vals.length = 64 := by unfold Sx.vals; rw [valsB_length, x.len]
theorem Sx.size (x : Sx) : x.arr.size = 64 := by unfold Sx.arr; rw [List.size_toArray, x.vlen]
theorem Sx.toList (x : Sx) : x.arr.toList = x.vals := by simp [Sx.arr]
theorem rep_small (b : Nat) (hb : b < 256) : ∀ x ∈ List.replicate 64 b, x < 256 := fun x hx => by rw [(List.mem_replicate.1 hx).2]; exact hb
/-- A sector of one byte. -/
def Sx.full (b : Nat) (hb : b < 256) : Sx := ⟨List.replicate 64 b, by simp, rep_small b hb⟩
def Sx.zero : Sx := Sx.full 0 (by decide)
theorem zero_arr : (#[.int .u8 0, .int .u8 0, .int .u8 0, .int .u8 0, .int .u8 0, .int .u8 0, .int .u8 0, .int .u8 0, .int .u8 0, .int .u8 0, .int .u8 0, .int .u8 0, .int .u8 0, .int .u8 0, .int .u8 0, .int .u8 0, .int .u8 0, .int .u8 0, .int .u8 0, .int .u8 0, .int .u8 0, .int .u8 0, .int .u8 0, .int .u8 0, .int .u8 0, .int .u8 0, .int .u8 0, .int .u8 0, .int .u8 0, .int .u8 0, .int .u8 0, .int .u8 0, .int .u8 0, .int .u8 0, .int .u8 0, .int .u8 0, .int .u8 0, .int .u8 0, .int .u8 0, .int .u8 0, .int .u8 0, .int .u8 0, .int .u8 0, .int .u8 0, .int .u8 0, .int .u8 0, .int .u8 0, .int .u8 0, .int .u8 0, .int .u8 0, .int .u8 0, .int .u8 0, .int .u8 0, .int .u8 0, .int .u8 0, .int .u8 0, .int .u8 0, .int .u8 0, .int .u8 0, .int .u8 0, .int .u8 0, .int .u8 0, .int .u8 0, .int .u8 0] : Array Value) = Sx.zero.arr := by rfl
theorem Sx.one (x : Sx) : ∀ u ∈ x.vals, u.oneCell' = true := valsB_one _
theorem Sx.all_one (x : Sx) : x.arr.all (·.oneCell') = true := by
  rw [Array.all_eq_true]
  intro i hi
  have h := x.one (x.arr[i]) (by rw [← x.toList]; exact Array.getElem_mem_toList ..)
  exact h
/-- A write that waits. -/
structure Wx where
  i : Int
  x : Sx
def Wx.vals (y : Wx) : List Value := .int .i64 y.i :: y.x.vals
def Wx.arr (y : Wx) : Array Value := y.vals.toArray
def Wx.val (y : Wx) : Value := .agg y.arr
theorem Wx.vlen (y : Wx) : y.vals.length = 65 := by unfold Wx.vals; rw [List.length_cons, y.x.vlen]
theorem Wx.size (y : Wx) : y.arr.size = 65 := by unfold Wx.arr; rw [List.size_toArray, y.vlen]
theorem Wx.one (y : Wx) : ∀ u ∈ y.vals, u.oneCell' = true := by
  intro u hu
  rcases List.mem_cons.1 hu with rfl | hu
  · rfl
  · exact y.x.one u hu
theorem Wx.all_one (y : Wx) : y.arr.all (·.oneCell') = true := by
  rw [Array.all_eq_true]
  intro i hi
  exact y.one (y.arr[i]) (by have : y.arr.toList = y.vals := by simp [Wx.arr]
                             rw [← this]; exact Array.getElem_mem_toList ..)
theorem zero_wx : (#[.int .i64 0, .int .u8 0, .int .u8 0, .int .u8 0, .int .u8 0, .int .u8 0, .int .u8 0, .int .u8 0, .int .u8 0, .int .u8 0, .int .u8 0, .int .u8 0, .int .u8 0, .int .u8 0, .int .u8 0, .int .u8 0, .int .u8 0, .int .u8 0, .int .u8 0, .int .u8 0, .int .u8 0, .int .u8 0, .int .u8 0, .int .u8 0, .int .u8 0, .int .u8 0, .int .u8 0, .int .u8 0, .int .u8 0, .int .u8 0, .int .u8 0, .int .u8 0, .int .u8 0, .int .u8 0, .int .u8 0, .int .u8 0, .int .u8 0, .int .u8 0, .int .u8 0, .int .u8 0, .int .u8 0, .int .u8 0, .int .u8 0, .int .u8 0, .int .u8 0, .int .u8 0, .int .u8 0, .int .u8 0, .int .u8 0, .int .u8 0, .int .u8 0, .int .u8 0, .int .u8 0, .int .u8 0, .int .u8 0, .int .u8 0, .int .u8 0, .int .u8 0, .int .u8 0, .int .u8 0, .int .u8 0, .int .u8 0, .int .u8 0, .int .u8 0, .int .u8 0] : Array Value) = (⟨0, Sx.zero⟩ : Wx).arr := by rfl
theorem info50 : (Try.prog.info? 75).map (·.size) = some 64 := by kernel_rfl
theorem info99 : (Try.prog.info? 190).map (·.size) = some 65 := by kernel_rfl
section
variable {w : World} {b off : Nat}
/-- Cells that read as values. -/
def At (w : World) (b off : Nat) (vs : List Value) : Prop := ∀ j u, vs[j]? = some u → w.cell? ⟨b, off + j, none⟩ = some u
theorem At.lt {vs : List Value} (h : At w b off vs) (hl : 0 < vs.length) : b < w.heap.size := World.block_lt_of_cell? _ _ (h 0 _ (List.getElem?_eq_getElem hl))
theorem At.keep {w' : World} {vs : List Value} (h : At w b off vs) (hb : w'.heap[b]? = w.heap[b]?) : At w' b off vs := fun j u hj => (World.cell?_of_block hb).trans (h j u hj)
theorem At.below {w' : World} {vs : List Value} (h : At w b off vs) (hb : Below w.heap.size w w') : At w' b off vs := fun j u hj =>
  (hb.cell (p := ⟨b, off + j, none⟩) (World.block_lt_of_cell? _ _ (h j u hj))).trans (h j u hj)
theorem At.of_block {cs : Array Value} {t : TypeId} (h : w.heap[b]? = some (.cells cs t (0, 0))) : At w b 0 cs.toList := fun j u hj => by
  rw [Nat.zero_add, cell_of_row w b j cs t (0, 0) h]
  simpa using hj
theorem run_loadVar_at (ty : TypeId) (d : TypeDesc) (cs : Array Value) (h : At w b off cs.toList) (hu : Try.prog.underlying ty = some d) (hd : (match d with | .struct _ | .array _ _ => true | _ => false) = true) (hi : (Try.prog.info? ty).map (·.size) = some cs.size) :
    (loadVar ty ⟨b, off, none⟩).run Try.prog w = .ok (.agg cs) w := by
  have hl : (loadCells ⟨b, off, none⟩ cs.toList.length).run Try.prog w = .ok cs.toList.toArray w :=
    run_loadCells_list (P := Try.prog) w ⟨b, off, none⟩ cs.toList (fun j v hv => by
      rw [addr_plus]
      exact h j v hv)
  cases hq : Try.prog.info? ty with
  | none => simp [hq] at hi
  | some i =>
    have hs : i.size = cs.size := by simpa [hq] using hi
    have hagg : (isAgg ty).run Try.prog w = .ok true w := by
      unfold isAgg
      rw [Sem.run_bind, run_underlying hu w]
      cases d <;> simp_all
    simp only [Array.length_toList, Array.toArray_toList] at hl
    simp [loadVar, Sem.run_bind, hagg, sizeOf, typeInfo, hq, hs, hl]
theorem load_sx {x : Sx} (h : At w b off x.vals) : (loadVar 75 ⟨b, off, none⟩).run Try.prog w = .ok x.val w :=
  run_loadVar_at 75 _ x.arr (by rw [x.toList]; exact h) Try.underlying75 rfl (by rw [x.size]; exact info50)
theorem load_wx {y : Wx} (h : At w b off y.vals) : (loadVar 190 ⟨b, off, none⟩).run Try.prog w = .ok y.val w :=
  run_loadVar_at 190 _ y.arr (by unfold Wx.arr; simpa using h) Try.underlying190 rfl (by rw [y.size]; exact info99)
theorem wp_load_val {ty : TypeId} {o : Oper} {a : Act} {K : Act → World → Prop} {Q : Exit → Act → World → Prop} (x : Operand) (ho : o.op = .load ty x) (hx : a.eval x = .pointer (some ⟨b, off, none⟩)) (v : Value) (hv : (loadVar ty ⟨b, off, none⟩).run Try.prog w = .ok v w)
    (h : K (a.put o.dst v) w) : Oper.wp Try.prog o a w K Q := by
  unfold Oper.wp execOp
  simp only [ho, hx, Instr.loadAt, Instr.sureAddr, Sem.run_bind, Sem.run_pure, Result.andThen_ok, hv]
  exact h
end
theorem store_newW (w1 : World) (y : Wx) : (storeCells ⟨w1.heap.size, 0, none⟩ y.arr.toList).run Try.prog (w1.alloc (.cells #[.int .i64 0, .int .u8 0, .int .u8 0, .int .u8 0, .int .u8 0, .int .u8 0, .int .u8 0, .int .u8 0, .int .u8 0, .int .u8 0, .int .u8 0, .int .u8 0, .int .u8 0, .int .u8 0, .int .u8 0, .int .u8 0, .int .u8 0, .int .u8 0, .int .u8 0, .int .u8 0, .int .u8 0, .int .u8 0, .int .u8 0, .int .u8 0, .int .u8 0, .int .u8 0, .int .u8 0, .int .u8 0, .int .u8 0, .int .u8 0, .int .u8 0, .int .u8 0, .int .u8 0, .int .u8 0, .int .u8 0, .int .u8 0, .int .u8 0, .int .u8 0, .int .u8 0, .int .u8 0, .int .u8 0, .int .u8 0, .int .u8 0, .int .u8 0, .int .u8 0, .int .u8 0, .int .u8 0, .int .u8 0, .int .u8 0, .int .u8 0, .int .u8 0, .int .u8 0, .int .u8 0, .int .u8 0, .int .u8 0, .int .u8 0, .int .u8 0, .int .u8 0, .int .u8 0, .int .u8 0, .int .u8 0, .int .u8 0, .int .u8 0, .int .u8 0, .int .u8 0] 190)) = .ok () (w1.alloc (.cells y.arr 190)) := by
  rw [zero_wx]
  exact run_storeCells_new w1 190 _ _ (by rw [y.size]; exact info99) (by rw [y.size, Wx.size]) y.all_one
/-- What reads as a map of sectors. -/
def RV (v : Value) : Option (DataW Value × List MemPlace) := some (.held v, [])
def WfI (i : Int) : Prop := (Lit.int .i64 i).wf = true
theorem wfI {i : Int} (h : -9223372036854775808 ≤ i ∧ i ≤ 9223372036854775807) : WfI i := WalkArith.wf_i64 h
def MapS (w : World) (b n : Nat) (f : Int → Sx) : Prop := ∃ D, w.ownsMap Try.prog 3 RV b n D ∧ ∀ i, WfI i → D.atKey (.int .i64 i) (.held Sx.zero.val) = .held (f i).val
theorem MapS.made (w : World) : MapS (w.alloc (.map #[] 0)) w.heap.size 0 fun _ => Sx.zero :=
  ⟨.map [], World.ownsMap_made w _ _ _, fun _ _ => rfl⟩
theorem MapS.lt {w : World} {b n : Nat} {f : Int → Sx} (h : MapS w b n f) : b < w.heap.size := by
  obtain ⟨D, h, _⟩ := h
  exact h.lt
theorem MapS.keep {w w' : World} {b n : Nat} {f : Int → Sx} (h : MapS w b n f) (hb : w'.heap[b]? = w.heap[b]?) : MapS w' b n f := by
  obtain ⟨D, ⟨es, clock, h1, h2⟩, hf⟩ := h
  exact ⟨D, ⟨es, clock, hb.trans h1, h2⟩, hf⟩
theorem keyed3 : Go.Maps.Keyed Try.prog 3 := Go.Maps.int_keyed Try.underlying3
theorem zero50 (w : World) : (zeroValue 75).run Try.prog w = .ok Sx.zero.val w := by
  have h := Try.zeroValue75 (w := w)
  exact h
theorem MapS.look {w : World} {b n : Nat} {f : Int → Sx} (h : MapS w b n f) (i : Int) (hi : WfI i) : (Instr.lookup 148 (.map (some b)) (.int .i64 i) false).run Try.prog w = .ok (f i).val w := by
  obtain ⟨D, ho, hf⟩ := h
  obtain ⟨v, ps, hrun, hv⟩ := ho.lookup keyed3 Try.underlying148 (zero50 w) (zd := .held Sx.zero.val) (zp := []) rfl (Go.Maps.keyOf_int_mk Try.underlying3 hi)
  rw [hf i hi] at hv
  unfold RV at hv
  injection hv with hv
  injection hv with hv _
  injection hv with hv
  rw [hrun, hv]
/-- A function with another value at a place. -/
def upd (f : Int → Sx) (i : Int) (x : Sx) : Int → Sx := fun k => if k = i then x else f k
theorem MapS.store {w : World} {b n : Nat} {f : Int → Sx} (h : MapS w b n f) (i : Int) (hi : WfI i) (x : Sx) (hn : n < maxLen) :
    ∃ w', (Instr.mapUpdate 148 (.map (some b)) (.int .i64 i) x.val).run Try.prog w = .ok () w' ∧ MapS w' b (n + 1) (upd f i x) ∧ w.grownBy w' (some b) := by
  obtain ⟨D, ho, hf⟩ := h
  obtain ⟨w', hrun, h1, h2⟩ := ho.update (d := .held x.val) (ps := []) keyed3 Try.underlying148 hn (Go.Maps.keyOf_int_mk Try.underlying3 hi) rfl
  refine ⟨w', hrun, ⟨_, h1, fun k hk => ?_⟩, h2⟩
  unfold upd
  by_cases e : k = i
  · subst e
    rw [if_pos rfl]
    exact Go.Maps.atKey_put_same ho.isMap (by simp [WideAt.IsKeyLit]) _ _
  · rw [if_neg e]
    rw [Go.Maps.atKey_put_other (by intro h; injection h with _ h; exact e h)]
    exact hf k hk
end Go.Proofs.Ytjmjehhmkjhalaa
