/- A reader in memory, and the contracts of its functions. -/
import Derived.Test.YtkeckjgihjpfbaaDoorOut
namespace Go.Proofs.YtkeckjgihjpfbaaDoor
set_option maxRecDepth 100000
open Go.RowKit

/-- Nothing but what a pointer points at is changed, and what is new. -/
structure Only (w w' : World) (V : Value) : Prop where
  os : w'.os = w.os
  tape : w'.tape = w.tape
  output : w'.output = w.output
  size : w.heap.size ≤ w'.heap.size
  block : ∀ k, k < w.heap.size → V ≠ .pointer (some ⟨k, 0, none⟩) → w'.heap[k]? = w.heap[k]?
theorem Only.refl (w : World) (V : Value) : Only w w V := ⟨rfl, rfl, rfl, Nat.le_refl _, fun _ _ _ => rfl⟩
theorem Only.trans {w w1 w2 : World} {V : Value} (h : Only w w1 V) (k : Only w1 w2 V) : Only w w2 V :=
  ⟨k.os.trans h.os, k.tape.trans h.tape, k.output.trans h.output, Nat.le_trans h.size k.size, fun q hq hv => (k.block q (Nat.lt_of_lt_of_le hq h.size) hv).trans (h.block q hq hv)⟩
theorem Only.of_below {w w' : World} {V : Value} (h : Below w.heap.size w w') : Only w w' V := ⟨h.os, h.tape, h.output, h.size, fun k hk _ => h.block k hk⟩
theorem Only.set (w : World) (g o : Nat) (u : Value) : Only w (w.setCell ⟨g, o, none⟩ u) (.pointer (some ⟨g, 0, none⟩)) :=
  ⟨rfl, rfl, rfl, by rw [World.size_setCell]; exact Nat.le_refl _, fun k _ hv => Deep.blk_setCell_other w ⟨g, o, none⟩ u k (fun he => hv (by rw [he]))⟩
/-- A slice that lies somewhere above, but not in a block. -/
def Lies (w : World) (B : Nat → Prop) (g : Nat) (A : Option Addr) (n c : Nat) : Prop := (A = none ∧ n = 0 ∧ c = 0) ∨ ∃ b off, A = some ⟨b, off, none⟩ ∧ B b ∧ b ≠ g ∧ b < w.heap.size ∧ n ≤ c
/-- A reader of its own bytes; a nil one is bad. -/
inductive Rdr (w : World) (B : Nat → Prop) : Value → List Nat → Bool → Prop
  | none : Rdr w B (.pointer none) [] true
  | some (g : Nat) (A : Option Addr) (n c : Nat) (bs : List Nat) (bad : Bool) (low : B g) (block : w.heap[g]? = some (.cells #[.slice A n c, .bool bad] 112 (0, 0))) (row : Rdv w A n 1 (valsB bs)) (lies : Lies w B g A n c) (hbad : bad = true → bs = []) (small : ∀ x ∈ bs, x < 256) (len : n ≤ 140737488355328) : Rdr w B (.pointer (some ⟨g, 0, none⟩)) bs bad
theorem Rdr.small' {w : World} {B : Nat → Prop} {V : Value} {bs : List Nat} {bad : Bool} (h : Rdr w B V bs bad) : ∀ x ∈ bs, x < 256 := by
  cases h with
  | none => intro x hx; cases hx
  | some _ _ _ _ _ _ _ _ _ _ _ s => exact s
theorem Rdr.empty {w : World} {B : Nat → Prop} {V : Value} {bs : List Nat} (h : Rdr w B V bs true) : bs = [] := by
  cases h with
  | none => rfl
  | some _ _ _ _ _ _ _ _ _ _ hb => exact hb rfl
theorem Rdr.low' {w : World} {B : Nat → Prop} {V : Value} {bs : List Nat} {bad : Bool} (h : Rdr w B V bs bad) : ∀ k, V = .pointer (Option.some ⟨k, 0, Option.none⟩) → B k := by
  cases h with
  | none => intro k hk; cases hk
  | some _ _ _ _ _ _ low => intro k hk; injection hk with hk; injection hk with hk; injection hk with hk; rw [← hk]; exact low
theorem Rdr.only {w w' : World} {B : Nat → Prop} {V : Value} {bs : List Nat} {bad : Bool} (h : Rdr w B V bs bad) (k : Only w w' V) {M : Nat} (hM : ∀ j, B j → M ≤ j) (hB : M ≤ w.heap.size) : Below M w w' :=
  ⟨k.os, k.tape, k.output, k.size, fun q hq => k.block q (by omega) (fun he => by have := hM q (h.low' q he); omega)⟩
/-- A reader stands where its block and its row stand. -/
theorem Rdr.stays {w w' : World} {B : Nat → Prop} {V : Value} {bs : List Nat} {bad : Bool} (h : Rdr w B V bs bad) (hs : w.heap.size ≤ w'.heap.size) (hk : ∀ k, k < w.heap.size → B k → w'.heap[k]? = w.heap[k]?) : Rdr w' B V bs bad := by
  cases h with
  | none => exact .none
  | some g A n c bs bad low block row lies hbad small len =>
    refine .some g A n c bs bad low ((hk g (Array.getElem?_eq_some_iff.1 block).1 low).trans block) ?_ ?_ hbad small len
    · refine ⟨row.1, fun hn => ?_⟩
      obtain ⟨b, off, e, hc⟩ := row.2 hn
      rcases lies with ⟨_, h0, _⟩ | ⟨b', off', e', h1, h2, h3, h4⟩
      · omega
      · rw [e] at e'
        injection e' with e'
        injection e' with e1 e2 e3
        subst e1
        refine ⟨b, off, e, fun j u hj => ?_⟩
        rw [← hc j u hj]
        exact World.cell?_of_block (hk b h3 h1)
    · rcases lies with h0 | ⟨b, off, e, h1, h2, h3, h4⟩
      · exact .inl h0
      · exact .inr ⟨b, off, e, h1, h2, Nat.lt_of_lt_of_le h3 hs, h4⟩

set_option maxHeartbeats 400000 in
theorem isBad_any (B : Nat → Prop) (V : Value) (bs : List Nat) (bad : Bool) (w : World) (h : Rdr w B V bs bad) :
    Calls Tryd.prog 75 #[V] w fun e w' => e = .returned (.bool bad) ∧ w = w' := by
  cases h with
  | none =>
    go_enter Tryd.func75, Tryd.ntmps75
    go_wp2_with fail
    go_ret
    exact ⟨rfl, rfl⟩
  | some g A n c bs bad low block row lies hbad small len =>
    have c1 : w.cell? ⟨g, 1, none⟩ = some (.bool bad) := cell_of_row w g 1 _ 112 (0, 0) block
    clear low block row lies hbad small len
    go_enter Tryd.func75, Tryd.ntmps75
    go_wp2_with fail
    go_ret
    exact ⟨rfl, rfl⟩
set_option maxHeartbeats 400000 in
theorem spoil_any (B : Nat → Prop) (V : Value) (bs : List Nat) (bad : Bool) (w : World) (h : Rdr w B V bs bad) :
    Calls Tryd.prog 74 #[V] w fun e w' => e = .returned (.tuple #[]) ∧ Rdr w' B V [] true ∧ Only w w' V := by
  cases h with
  | none =>
    go_enter Tryd.func74, Tryd.ntmps74
    go_wp2_with fail
    exact bodyPost_end (v := .tuple #[]) (by simp [results, Tryd.results74, go_sem]) rfl ⟨rfl, .none, Only.refl _ _⟩
  | some g A n c bs bad low block row lies hbad small len =>
    have c1 : w.cell? ⟨g, 1, none⟩ = some (.bool bad) := cell_of_row w g 1 _ 112 (0, 0) block
    have c0 : w.cell? ⟨g, 0, none⟩ = some (.slice A n c) := cell_of_row w g 0 _ 112 (0, 0) block
    have f1 : ∀ o, w.frozen? ⟨g, o, none⟩ = false := fun o => by simp [World.frozen?, block]
    have f10 := f1 0
    have f11 := f1 1
    have HB := Lib.hid block
    clear block row lies hbad small len f1
    go_enter Tryd.func74, Tryd.ntmps74
    go_wp2_with fail
    refine bodyPost_end (v := .tuple #[]) (by simp [results, Tryd.results74, go_sem]) rfl ⟨rfl, ?_, (Only.set _ _ _ _).trans (Only.set _ _ _ _)⟩
    have hb := HB.out
    refine .some g none 0 0 [] true low ?_ ⟨rfl, fun h => absurd h (by omega)⟩ (.inl ⟨rfl, rfl, rfl⟩) (fun _ => rfl) (fun x hx => by cases hx) (by omega)
    simp [World.setCell, Array.getElem?_modify, hb]
end Go.Proofs.YtkeckjgihjpfbaaDoor
