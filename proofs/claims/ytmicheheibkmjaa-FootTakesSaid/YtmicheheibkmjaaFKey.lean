/- Keys, spans, feet: as numbers and in memory; how keys are compared. -/
import Derived.Test.YtmicheheibkmjaaFRow
import Derived.DeepKeys
import Derived.Deep.QuietTactic
import Derived.BigQuiet
namespace Go.Proofs.Ytmicheheibkmjaa
set_option maxRecDepth 100000
open Go.RowKit

section
variable {α : Type} (f : α → List Value) (k : Nat)
/-- A row of things of k cells each. -/
def rowV (l : List α) : List Value := l.flatMap f
theorem rowV_length (hf : ∀ x, (f x).length = k) (l : List α) : (rowV f l).length = l.length * k := by
  induction l with
  | nil => simp [rowV]
  | cons x l ih => rw [rowV, List.flatMap_cons, List.length_append, ← rowV, ih, hf, List.length_cons, Nat.succ_mul, Nat.add_comm]
theorem rowV_get (hf : ∀ x, (f x).length = k) (l : List α) : ∀ (i : Nat) (hi : i < l.length) (j : Nat), j < k → (rowV f l)[i * k + j]? = (f l[i])[j]? := by
  induction l with
  | nil => intro i hi; cases hi
  | cons x l ih =>
    intro i hi j hj
    rw [rowV, List.flatMap_cons]
    rcases i with _ | i
    · rw [List.getElem?_append_left (by rw [hf]; omega), Nat.zero_mul, Nat.zero_add]
      rfl
    · rw [List.getElem?_append_right (by rw [hf, Nat.succ_mul]; omega)]
      have e : (i + 1) * k + j - (f x).length = i * k + j := by rw [hf, Nat.succ_mul]; omega
      rw [e]
      exact ih i (by simpa using hi) j hj
theorem rowV_append (l m : List α) : rowV f (l ++ m) = rowV f l ++ rowV f m := by simp [rowV]
/-- A slice that reads as such a row. -/
structure RowAt (w : World) (A : Option Addr) (n : Nat) (l : List α) : Prop where
  len : l.length = n
  row : Rdv w A n k (rowV f l)
end
theorem RowAt.ext {α : Type} {f : α → List Value} {k : Nat} {w w' : World} {A : Option Addr} {n : Nat} {l : List α} (h : RowAt f k w A n l) (hs : ∀ p : Addr, p.block < w.heap.size → w'.cell? p = w.cell? p) : RowAt f k w' A n l := ⟨h.len, h.row.ext hs⟩
theorem RowAt.below {α : Type} {f : α → List Value} {k : Nat} {w w' : World} {A : Option Addr} {n : Nat} {l : List α} (h : RowAt f k w A n l) (hb : Below w.heap.size w w') : RowAt f k w' A n l := h.ext fun _ hp => hb.cell hp
theorem RowAt.cells {α : Type} {f : α → List Value} {k : Nat} {w : World} {A : Option Addr} {n : Nat} {l : List α} (h : RowAt f k w A n l) (hf : ∀ x, (f x).length = k) (hn : 0 < n) :
    ∃ b off, A = some ⟨b, off, none⟩ ∧ ∀ (i : Nat) (hi : i < l.length) (j : Nat) (u : Value), j < k → (f l[i])[j]? = some u → w.cell? ⟨b, off + i * k + j, none⟩ = some u := by
  obtain ⟨b, off, e, hc⟩ := h.row.2 hn
  refine ⟨b, off, e, fun i hi j u hj hu => ?_⟩
  rw [Nat.add_assoc]
  exact hc _ _ ((rowV_get f k hf l i hi j hj).trans hu)
/-- A key. -/
structure K where
  t : Int
  k : Int
deriving DecidableEq
def K.vals (x : K) : List Value := [.int .i64 x.t, .int .i64 x.k]
def K.val (x : K) : Value := .agg #[.int .i64 x.t, .int .i64 x.k]
/-- A span. -/
structure Sp where
  t : Int
  lo : Int
  hi : Int
deriving DecidableEq
def Sp.vals (x : Sp) : List Value := [.int .i64 x.t, .int .i64 x.lo, .int .i64 x.hi]
def Sp.val (x : Sp) : Value := .agg #[.int .i64 x.t, .int .i64 x.lo, .int .i64 x.hi]
theorem K.len (x : K) : x.vals.length = 2 := rfl
theorem Sp.len (x : Sp) : x.vals.length = 3 := rfl
abbrev Keys := RowAt K.vals 2
abbrev Spans := RowAt Sp.vals 3
theorem Keys.cells {w : World} {A : Option Addr} {n : Nat} {l : List K} (h : Keys w A n l) (hn : 0 < n) : ∃ b off, A = some ⟨b, off, none⟩ ∧ ∀ (i : Nat) (hi : i < l.length),
    w.cell? ⟨b, off + i * 2, none⟩ = some (.int .i64 l[i].t) ∧ w.cell? ⟨b, off + i * 2 + 1, none⟩ = some (.int .i64 l[i].k) := by
  obtain ⟨b, off, e, hc⟩ := RowAt.cells h K.len hn
  exact ⟨b, off, e, fun i hi => ⟨hc i hi 0 _ (by omega) rfl, hc i hi 1 _ (by omega) rfl⟩⟩
theorem Spans.cells {w : World} {A : Option Addr} {n : Nat} {l : List Sp} (h : Spans w A n l) (hn : 0 < n) : ∃ b off, A = some ⟨b, off, none⟩ ∧ ∀ (i : Nat) (hi : i < l.length),
    w.cell? ⟨b, off + i * 3, none⟩ = some (.int .i64 l[i].t) ∧ w.cell? ⟨b, off + i * 3 + 1, none⟩ = some (.int .i64 l[i].lo) ∧ w.cell? ⟨b, off + i * 3 + 2, none⟩ = some (.int .i64 l[i].hi) := by
  obtain ⟨b, off, e, hc⟩ := RowAt.cells h Sp.len hn
  exact ⟨b, off, e, fun i hi => ⟨hc i hi 0 _ (by omega) rfl, hc i hi 1 _ (by omega) rfl, hc i hi 2 _ (by omega) rfl⟩⟩
def lessK (x y : K) : Bool := decide (x.t < y.t) || (decide (x.t = y.t) && decide (x.k < y.k))
theorem fields24 : (Try.prog.fieldsOf 24).toList = [{ name := "Table", type := 3, offset := 0, embedded := false, tag := "", pkgPath := "", byteOffset := 0 }, { name := "K", type := 3, offset := 1, embedded := false, tag := "", pkgPath := "", byteOffset := 8 }] := by kernel_rfl
theorem eq_step (d : Nat) (w : World) (xs ys : Array Value) (f : Field) (fs : List Field) (a b : Int) (r : Bool) (h3 : f.type = 3) (hn : f.name ≠ "_") (hx : (part 3 xs f.offset).run Try.prog w = .ok (.int .i64 a) w) (hy : (part 3 ys f.offset).run Try.prog w = .ok (.int .i64 b) w)
    (hr : (Op.eqFields (d + 1) xs ys fs).run Try.prog w = .ok r w) : (Op.eqFields (d + 1) xs ys (f :: fs)).run Try.prog w = .ok (decide (a = b) && r) w := by
  unfold Op.eqFields
  rw [if_pos hn, h3]
  by_cases h : a = b <;> simp [hx, hy, hr, run_equalIn_int w d 3 .i64 .i64 _ _ Try.underlying3, h]
theorem part_int (w : World) (xs : Array Value) (k : Nat) (a : Int) (h : xs[k]? = some (.int .i64 a)) : (part 3 xs k).run Try.prog w = .ok (.int .i64 a) w := by
  simp [go_sem, part, h]
theorem run_key (d : Nat) (w : World) (x y : K) : (Op.equalIn (d + 2) 24 x.val y.val).run Try.prog w = .ok (decide (x = y)) w := by
  have e : decide (x = y) = (decide (x.t = y.t) && (decide (x.k = y.k) && true)) := by
    rw [Bool.eq_iff_iff]
    simp only [decide_eq_true_iff, Bool.and_eq_true]
    cases x; cases y; simp
  rw [e]
  unfold K.val
  rw [run_equalIn_struct w (d + 1) 24 _ _ Try.underlying24 (by kernel_rfl), fields24]
  refine eq_step _ w _ _ _ _ _ _ _ rfl (by decide) (part_int w _ _ _ rfl) (part_int w _ _ _ rfl) ?_
  refine eq_step _ w _ _ _ _ _ _ _ rfl (by decide) (part_int w _ _ _ rfl) (part_int w _ _ _ rfl) ?_
  simp [Op.eqFields]
theorem eql_key (w : World) (x y : K) : (binOp .eql 24 x.val y.val).run Try.prog w = .ok (.bool (decide (x = y))) w := by
  have h := run_key 9998 w x y
  unfold K.val at h ⊢
  rw [run_eql_struct, show (10000 : Nat) = 9998 + 2 from rfl, h]
  rfl
set_option maxHeartbeats 400000 in
theorem less22 (x y : K) (w : World) : Calls Try.prog 23 #[x.val, y.val] w fun e w' => e = .returned (.bool (lessK x y)) ∧ Below w.heap.size w w' := by
  have hb := ((Below.refl w.heap.size w).alloc (Nat.le_refl _) (.cells #[.int .i64 x.t, .int .i64 x.k] 24)).alloc (by rw [World.size_alloc]; omega) (.cells #[.int .i64 y.t, .int .i64 y.k] 24)
  have HB := Lib.hid hb
  clear hb
  unfold lessK K.val
  by_cases h1 : x.t < y.t
  · have d1 : decide (x.t < y.t) = true := decide_eq_true h1
    go_enter Try.func23, Try.ntmps23
    go_wp2_with fail
    go_ret
    exact ⟨by simp [d1], HB.out⟩
  · have d1 : decide (x.t < y.t) = false := decide_eq_false h1
    by_cases h2 : x.t = y.t
    · have d2 : (x.t == y.t) = true := beq_iff_eq.2 h2
      go_enter Try.func23, Try.ntmps23
      go_wp2_with fail
      go_ret
      have hq := HB.out
      rw [h2] at hq
      exact ⟨by simp, hq⟩
    · have d2 : (x.t == y.t) = false := beq_eq_false_iff_ne.2 h2
      go_enter Try.func23, Try.ntmps23
      go_wp2_with fail
      go_ret
      exact ⟨by simp, HB.out⟩
/-- A list of keys beside a key in a box of the call's own. -/
structure HI (w : World) (A : Option Addr) (n : Nat) (l : List K) (x : K) (W : World) : Prop where
  below : Below w.heap.size w W
  keys : Keys W A n l
  box : W.heap[w.heap.size]? = some (.cells #[.int .i64 x.t, .int .i64 x.k] 24 (0, 0))
theorem below_drewN' {B : Nat} {a w : World} (h : Below B a w) (n : Nat) : Below B a (w.drewN n) := ⟨h.os, h.tape, h.output, h.size, h.block⟩
theorem HI.drewN {w : World} {A : Option Addr} {n : Nat} {l : List K} {x : K} {W : World} (h : HI w A n l x W) (q : Nat) : HI w A n l x (W.drewN q) :=
  ⟨below_drewN' h.below q, h.keys.ext fun _ _ => rfl, h.box⟩
set_option maxHeartbeats 1000000 in
theorem has_any (A : Option Addr) (n c : Nat) (l : List K) (x : K) (w : World) (h : Keys w A n l) (hn : n ≤ 9223372036854775807) : Calls Try.prog 32 #[.slice A n c, x.val] w fun e w' => e = .returned (.bool (decide (x ∈ l))) ∧ Below w.heap.size w w' := by
  have hbx := (Below.refl w.heap.size w).alloc (Nat.le_refl _) (.cells #[.int .i64 x.t, .int .i64 x.k] 24)
  have HI0 := Lib.hid (show HI w A n l x (w.alloc (.cells #[.int .i64 x.t, .int .i64 x.k] 24)) from ⟨hbx, h.below hbx, heap_alloc_new w _⟩)
  have HL := Lib.hid h.len
  have HX := Lib.hid (show ∀ q : Nat, q = n → (∀ j (hj : j < l.length), j < q → l[j] ≠ x) → decide (x ∈ l) = false from fun q hq hno => by
    rw [decide_eq_false_iff_not]
    intro hm
    obtain ⟨i, hi, he⟩ := List.getElem_of_mem hm
    exact hno i hi (by have := h.len; omega) he)
  have HE := Lib.hid (show ∀ j (hj : j < l.length), l[j] = x → decide (x ∈ l) = true from fun j hj he => decide_eq_true (he ▸ List.getElem_mem hj))
  obtain ⟨R, hR⟩ : ∃ R, R = decide (x ∈ l) := ⟨_, rfl⟩
  rw [← hR] at HX HE ⊢
  unfold K.val
  clear hR h hbx
  go_enter Try.func32, Try.ntmps32
  go_wp2_with fail
  go_loopw [5] (fun i wr => ∃ k : Nat, i = .int .i64 (k : Int) ∧ k ≤ n ∧ (∀ j (hj : j < l.length), j < k → l[j] ≠ x) ∧ HI w A n l x wr) (fun i _ => n - (intOf i).toNat)
  case atStart => exact ⟨0, rfl, by omega, fun j _ h => by omega, HI0.out⟩
  case round =>
    obtain ⟨k, rfl, hk, hno, hhi⟩ := hrel
    have HNO := Lib.hid hno
    have HH := Lib.hid hhi
    have x0 : wr.cell? ⟨w.heap.size, 0, none⟩ = some (.int .i64 x.t) := cell_of_row wr _ 0 _ 24 (0, 0) hhi.box
    have x1 : wr.cell? ⟨w.heap.size, 1, none⟩ = some (.int .i64 x.k) := cell_of_row wr _ 1 _ 24 (0, 0) hhi.box
    clear hno hhi
    by_cases hlt : k < n
    · have hkl : k < l.length := by rw [HL.out]; exact hlt
      obtain ⟨b, off, rfl, hc⟩ := Keys.cells HH.out.keys (by omega)
      obtain ⟨k0, k1⟩ := hc k hkl
      have heq0 := fun w => eql_key w l[k] x
      have HEK := Lib.hid (HE.out k hkl)
      have HNK := Lib.hid (show l[k] ≠ x → ∀ j (hj : j < l.length), j < k + 1 → l[j] ≠ x from fun h j hj hj2 => by
        by_cases e : j = k
        · subst e; exact h
        · exact HNO.out j hj (by omega))
      obtain ⟨y, hy⟩ : ∃ y, y = l[k] := ⟨_, rfl⟩
      rw [← hy] at k0 k1 heq0 HEK HNK
      unfold K.val at heq0
      clear hc hy
      by_cases he : y = x
      · have hR := HEK.out he
        rw [decide_eq_true he] at heq0
        clear he
        go_wp2_with fail
        go_quiet (fail)
        go_wp2_with fail
        go_ret
        exact ⟨by rw [hR]; exact rfl, (HH.out.drewN _).below⟩
      · rw [decide_eq_false he] at heq0
        have HN2 := Lib.hid (HNK.out he)
        clear he
        go_wp2_with fail
        go_quiet (fail)
        go_wp2_with fail
        go_roundw
        case rel => exact ⟨k + 1, by go_num, by omega, HN2.out, HH.out.drewN _⟩
        case measure => simp [intOf]; omega
    · have hR := HX.out k (by omega) HNO.out
      go_wp2_with fail
      go_ret
      exact ⟨by rw [hR]; exact rfl, HH.out.below⟩
end Go.Proofs.Ytmicheheibkmjaa
