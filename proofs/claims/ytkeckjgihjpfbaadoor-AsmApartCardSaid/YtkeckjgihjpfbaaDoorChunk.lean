/- The contracts of a writer's Bytes and Text. -/
import Derived.Test.YtkeckjgihjpfbaaDoorStr
namespace Go.Proofs.YtkeckjgihjpfbaaDoor
set_option maxRecDepth 100000
open Go.RowKit

theorem Wtr.ext {w w' : World} {B g : Nat} {v : Value} {xs : List Nat} (h : Wtr w B g v xs) (k : Below w.heap.size w w') : Wtr w' B g v xs :=
  ⟨h.low, (k.block g h.lt).trans h.block, row_stays h.own (fun j hj => k.block j (h.own.lt j hj).2)⟩
theorem Wrote.after {w w1 w' : World} {B g : Nat} {v v' : Value} {xs : List Nat} (k : Below w.heap.size w w1) (h : Wrote w1 w' B g v v' xs) : Wrote w w' B g v v' xs := by
  refine ⟨h.wtr, ⟨h.touch.os.trans k.os, h.touch.tape.trans k.tape, h.touch.output.trans k.output, Nat.le_trans k.size h.touch.size, fun j hj h1 h2 => (h.touch.block j (Nat.lt_of_lt_of_le hj k.size) h1 h2).trans (k.block j hj)⟩, ?_⟩
  rcases h.row with h1 | ⟨j, h1, h2⟩
  · exact .inl h1
  · exact .inr ⟨j, h1, Nat.le_trans k.size h2⟩
theorem Wrote.of_put {w w' : World} {B g : Nat} {v v' : Value} {xs : List Nat} (h1 : Wtr w' B g v' xs) (h2 : Touch w w' g v.ownBlock) (h3 : v'.ownBlock = v.ownBlock ∨ v'.ownBlock = some w.heap.size) : Wrote w w' B g v v' xs :=
  ⟨h1, h2, h3.imp id fun h => ⟨_, h, Nat.le_refl _⟩⟩
/-- A row of bytes that a writer's calls leave alone. -/
def Away (w : World) (g : Nat) (v : Value) (A : Option Addr) : Prop := ∀ ad, A = some ad → ad.block < w.heap.size → ad.block ≠ g ∧ v.ownBlock ≠ some ad.block
theorem Touch.rdv {w w' : World} {g n size : Nat} {v : Value} {A : Option Addr} {ys : List Value} (h : Touch w w' g v.ownBlock) (hr : Rdv w A n size ys) (ha : 0 < n → Away w g v A) : Rdv w' A n size ys := by
  refine ⟨hr.1, fun hn => ?_⟩
  obtain ⟨b, off, e, hc⟩ := hr.2 hn
  refine ⟨b, off, e, fun j u hj => ?_⟩
  have hlt := World.block_lt_of_cell? _ _ (hc j u hj)
  have := ha hn _ e hlt
  rw [← hc j u hj]
  exact World.cell?_of_block (h.block b hlt this.1 this.2)

theorem bytesWorld_below (w : World) (s : ByteArray) : Below w.heap.size w (Lib.bytesWorld w 5 s) :=
  ⟨rfl, rfl, rfl, by rw [Lib.bytesWorld_size]; omega, fun k hk => Lib.bytesWorld_at_old w 5 s k hk⟩
theorem bytesWorld_rdv (w : World) (ys : List Nat) (hy : ∀ y ∈ ys, y < 256) : Rdv (Lib.bytesWorld w 5 (strN ys)) (some ⟨w.heap.size, 0, none⟩) ys.length 1 (valsB ys) := by
  refine ⟨by rw [valsB_length, Nat.mul_one], fun _ => ⟨_, 0, rfl, fun j u hj => ?_⟩⟩
  rw [valsB_get] at hj
  cases hx : ys[j]? with
  | none => rw [hx] at hj; cases hj
  | some y =>
    rw [hx] at hj
    cases hj
    have hlt := (List.getElem?_eq_some_iff.1 hx).1
    rw [Nat.zero_add, Lib.bytesWorld_cell w 5 (strN ys) j (by rw [strN_size]; exact hlt), strN_data]
    have hy' := hy y (List.mem_of_getElem? hx)
    simp [List.getD_eq_getElem?_getD, hx]
    omega
end Go.Proofs.YtkeckjgihjpfbaaDoor
