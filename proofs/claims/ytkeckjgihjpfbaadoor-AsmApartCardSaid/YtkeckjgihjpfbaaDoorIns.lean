/- Instructions and programs: as numbers and in memory; how they are compared. -/
import Derived.Test.YtkeckjgihjpfbaaDoorCodec
import Derived.DeepKeys
namespace Go.Proofs.YtkeckjgihjpfbaaDoor
set_option maxRecDepth 100000
open Go.RowKit

/-- An instruction. -/
structure Ins where
  op : Int
  a : Int
  b : Int
  c : Int
  t : Int
  n : Int
deriving DecidableEq
def Ins.vals (x : Ins) : List Value := [.int .i64 x.op, .int .i64 x.a, .int .i64 x.b, .int .i64 x.c, .int .i64 x.t, .int .i64 x.n]
def Ins.val (x : Ins) : Value := .agg #[.int .i64 x.op, .int .i64 x.a, .int .i64 x.b, .int .i64 x.c, .int .i64 x.t, .int .i64 x.n]
def Ins.zero : Ins := ⟨0, 0, 0, 0, 0, 0⟩
structure Ins.Ok (x : Ins) : Prop where
  op : Fits x.op
  a : Fits x.a
  b : Fits x.b
  c : Fits x.c
  t : Fits x.t
  n : Fits x.n
def insV (l : List Ins) : List Value := l.flatMap Ins.vals
theorem insV_length (l : List Ins) : (insV l).length = l.length * 6 := by
  induction l with
  | nil => rfl
  | cons x l ih => rw [insV, List.flatMap_cons, List.length_append, ← insV, ih, List.length_cons]; show 6 + _ = _; omega
theorem insV_get (l : List Ins) : ∀ (k : Nat) (hk : k < l.length) (j : Nat), j < 6 → (insV l)[k * 6 + j]? = (l[k]).vals[j]? := by
  induction l with
  | nil => intro k hk; cases hk
  | cons x l ih =>
    intro k hk j hj
    rw [insV, List.flatMap_cons]
    rcases k with _ | k
    · rw [List.getElem?_append_left (by show 0 * 6 + j < 6; omega)]
      rw [Nat.zero_mul, Nat.zero_add]
      rfl
    · rw [List.getElem?_append_right (by show 6 ≤ _; omega)]
      have e : (k + 1) * 6 + j - x.vals.length = k * 6 + j := by show (k + 1) * 6 + j - 6 = _; omega
      rw [e]
      exact ih k (by simpa using hk) j hj
theorem insV_append (l m : List Ins) : insV (l ++ m) = insV l ++ insV m := by simp [insV]
theorem insV_one (l : List Ins) : ∀ u ∈ insV l, u.oneCell' = true := by
  intro u hu
  simp only [insV, List.mem_flatMap] at hu
  obtain ⟨x, _, hu⟩ := hu
  simp only [Ins.vals, List.mem_cons, List.not_mem_nil, or_false] at hu
  rcases hu with rfl | rfl | rfl | rfl | rfl | rfl <;> rfl
/-- A slice that reads as instructions. -/
structure Codes (w : World) (A : Option Addr) (n : Nat) (l : List Ins) : Prop where
  len : l.length = n
  row : Rdv w A n 6 (insV l)
theorem Codes.ext {w w' : World} {A : Option Addr} {n : Nat} {l : List Ins} (h : Codes w A n l) (hs : ∀ p : Addr, p.block < w.heap.size → w'.cell? p = w.cell? p) : Codes w' A n l := ⟨h.len, h.row.ext hs⟩
theorem Codes.cells {w : World} {A : Option Addr} {n : Nat} {l : List Ins} (h : Codes w A n l) (hn : 0 < n) : ∃ b off, A = some ⟨b, off, none⟩ ∧ ∀ k (hk : k < l.length),
    w.cell? ⟨b, off + k * 6, none⟩ = some (.int .i64 (l[k]).op) ∧ w.cell? ⟨b, off + k * 6 + 1, none⟩ = some (.int .i64 (l[k]).a) ∧ w.cell? ⟨b, off + k * 6 + 2, none⟩ = some (.int .i64 (l[k]).b) ∧
    w.cell? ⟨b, off + k * 6 + 3, none⟩ = some (.int .i64 (l[k]).c) ∧ w.cell? ⟨b, off + k * 6 + 4, none⟩ = some (.int .i64 (l[k]).t) ∧ w.cell? ⟨b, off + k * 6 + 5, none⟩ = some (.int .i64 (l[k]).n) := by
  obtain ⟨b, off, e, hc⟩ := h.row.2 hn
  refine ⟨b, off, e, fun k hk => ?_⟩
  have g : ∀ j u, j < 6 → (l[k]).vals[j]? = some u → w.cell? ⟨b, off + k * 6 + j, none⟩ = some u := fun j u hj hu => by
    rw [Nat.add_assoc]
    exact hc _ _ ((insV_get l k hk j hj).trans hu)
  exact ⟨g 0 _ (by omega) rfl, g 1 _ (by omega) rfl, g 2 _ (by omega) rfl, g 3 _ (by omega) rfl, g 4 _ (by omega) rfl, g 5 _ (by omega) rfl⟩

theorem elemC : ElemT Tryd.prog 22 43 6 48 :=
  ⟨Tryd.underlying22, by kernel_rfl, by
    obtain ⟨i, hi, hz, h1, _⟩ := info_parts (show (Tryd.prog.info? 43).map (fun i => (i.zero, i.size, i.bytes)) = some (some (.agg #[.int .i64 0, .int .i64 0, .int .i64 0, .int .i64 0, .int .i64 0, .int .i64 0]), 6, 48) by kernel_rfl)
    exact ⟨i, _, hi, hz, rfl⟩, by decide⟩
theorem ret_bool' {a b : Bool} (h : a = b) : Ending.returned (.bool a) = .returned (.bool b) := by rw [h]
theorem und3 : Tryd.prog.underlying 3 = some (.int .i64) := Tryd.underlying3
theorem fields43 : (Tryd.prog.fieldsOf 43).toList = [{ name := "Op", type := 3, offset := 0, embedded := false, tag := "", pkgPath := "", byteOffset := 0 }, { name := "A", type := 3, offset := 1, embedded := false, tag := "", pkgPath := "", byteOffset := 8 }, { name := "B", type := 3, offset := 2, embedded := false, tag := "", pkgPath := "", byteOffset := 16 }, { name := "C", type := 3, offset := 3, embedded := false, tag := "", pkgPath := "", byteOffset := 24 }, { name := "T", type := 3, offset := 4, embedded := false, tag := "", pkgPath := "", byteOffset := 32 }, { name := "N", type := 3, offset := 5, embedded := false, tag := "", pkgPath := "", byteOffset := 40 }] := by kernel_rfl
theorem eq_step (d : Nat) (w : World) (xs ys : Array Value) (f : Field) (fs : List Field) (a b : Int) (r : Bool) (h3 : f.type = 3) (hn : f.name ≠ "_") (hx : (part 3 xs f.offset).run Tryd.prog w = .ok (.int .i64 a) w) (hy : (part 3 ys f.offset).run Tryd.prog w = .ok (.int .i64 b) w)
    (hr : (Op.eqFields (d + 1) xs ys fs).run Tryd.prog w = .ok r w) : (Op.eqFields (d + 1) xs ys (f :: fs)).run Tryd.prog w = .ok (decide (a = b) && r) w := by
  unfold Op.eqFields
  rw [if_pos hn, h3]
  by_cases h : a = b <;> simp [hx, hy, hr, run_equalIn_int w d 3 .i64 .i64 _ _ Tryd.underlying3, h]
theorem part_int (w : World) (xs : Array Value) (k : Nat) (a : Int) (h : xs[k]? = some (.int .i64 a)) : (part 3 xs k).run Tryd.prog w = .ok (.int .i64 a) w := by
  simp [go_sem, part, h]
theorem run_ins (d : Nat) (w : World) (x y : Ins) : (Op.equalIn (d + 2) 43 x.val y.val).run Tryd.prog w = .ok (decide (x = y)) w := by
  have e : decide (x = y) = (decide (x.op = y.op) && (decide (x.a = y.a) && (decide (x.b = y.b) && (decide (x.c = y.c) && (decide (x.t = y.t) && (decide (x.n = y.n) && true)))))) := by
    rw [Bool.eq_iff_iff]
    simp only [decide_eq_true_iff, Bool.and_eq_true]
    cases x; cases y; simp
  rw [e]
  unfold Ins.val
  rw [run_equalIn_struct w (d + 1) 43 _ _ Tryd.underlying43 (by kernel_rfl), fields43]
  refine eq_step _ w _ _ _ _ _ _ _ rfl (by decide) (part_int w _ _ _ rfl) (part_int w _ _ _ rfl) ?_
  refine eq_step _ w _ _ _ _ _ _ _ rfl (by decide) (part_int w _ _ _ rfl) (part_int w _ _ _ rfl) ?_
  refine eq_step _ w _ _ _ _ _ _ _ rfl (by decide) (part_int w _ _ _ rfl) (part_int w _ _ _ rfl) ?_
  refine eq_step _ w _ _ _ _ _ _ _ rfl (by decide) (part_int w _ _ _ rfl) (part_int w _ _ _ rfl) ?_
  refine eq_step _ w _ _ _ _ _ _ _ rfl (by decide) (part_int w _ _ _ rfl) (part_int w _ _ _ rfl) ?_
  refine eq_step _ w _ _ _ _ _ _ _ rfl (by decide) (part_int w _ _ _ rfl) (part_int w _ _ _ rfl) ?_
  simp [Op.eqFields]
theorem eql_ins (w : World) (x y : Ins) : (binOp .eql 43 x.val y.val).run Tryd.prog w = .ok (.bool (decide (x = y))) w := by
  have h := run_ins 9998 w x y
  unfold Ins.val at h ⊢
  rw [run_eql_struct, show (10000 : Nat) = 9998 + 2 from rfl, h]
  rfl
theorem neq_ins (w : World) (x y : Ins) : (binOp .neq 43 x.val y.val).run Tryd.prog w = .ok (.bool (!decide (x = y))) w := by
  have h := run_ins 9998 w x y
  unfold Ins.val at h ⊢
  rw [run_neq_struct, show (10000 : Nat) = 9998 + 2 from rfl, h]
  rfl
end Go.Proofs.YtkeckjgihjpfbaaDoor
