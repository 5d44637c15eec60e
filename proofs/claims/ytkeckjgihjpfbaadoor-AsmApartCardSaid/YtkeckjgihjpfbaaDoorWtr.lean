/- A writer in memory, and the contract of its put. -/
import Derived.Test.YtkeckjgihjpfbaaDoorRowv
import Derived.Deep.Heap
namespace Go.Proofs.YtkeckjgihjpfbaaDoor
set_option maxRecDepth 100000
open Go.RowKit

theorem elemB : ElemT Tryd.prog 28 5 1 1 :=
  ⟨Tryd.underlying28, by kernel_rfl, by
    obtain ⟨i, hi, hz, h1, _⟩ := info_parts (show (Tryd.prog.info? 5).map (fun i => (i.zero, i.size, i.bytes)) = some (some (.int .u8 0), 1, 1) by kernel_rfl)
    exact ⟨i, _, hi, hz, rfl⟩, by decide⟩
def valsB (xs : List Nat) : List Value := xs.map fun (x : Nat) => Value.int .u8 (x : Int)
theorem valsB_one (xs : List Nat) : ∀ u ∈ valsB xs, u.oneCell' = true := by
  intro u hu
  simp only [valsB, List.mem_map] at hu
  obtain ⟨x, _, rfl⟩ := hu
  rfl
theorem valsB_length (xs : List Nat) : (valsB xs).length = xs.length := by simp [valsB]
theorem valsB_append (xs ys : List Nat) : valsB (xs ++ ys) = valsB xs ++ valsB ys := by simp [valsB]

/-- Nothing but a block and a row is changed, and what is new. -/
structure Touch (w w' : World) (g : Nat) (r : Option Nat) : Prop where
  os : w'.os = w.os
  tape : w'.tape = w.tape
  output : w'.output = w.output
  size : w.heap.size ≤ w'.heap.size
  block : ∀ k, k < w.heap.size → k ≠ g → r ≠ some k → w'.heap[k]? = w.heap[k]?
theorem Touch.below {w w' : World} {g B : Nat} {r : Option Nat} (h : Touch w w' g r) (hg : B ≤ g) (hr : ∀ k, r = some k → B ≤ k) (hB : B ≤ w.heap.size) : Below B w w' :=
  ⟨h.os, h.tape, h.output, h.size, fun k hk => h.block k (by omega) (by omega) (fun e => by have := hr k e; omega)⟩
/-- A block that holds a writer of its own bytes. -/
structure Wtr (w : World) (B g : Nat) (v : Value) (xs : List Nat) : Prop where
  low : B ≤ g
  block : w.heap[g]? = some (.cells #[v] 66 (0, 0))
  own : w.ownsRow B 5 1 v xs.length (valsB xs)
theorem Wtr.lt {w : World} {B g : Nat} {v : Value} {xs : List Nat} (h : Wtr w B g v xs) : g < w.heap.size := (Array.getElem?_eq_some_iff.1 h.block).1
theorem Wtr.cell {w : World} {B g : Nat} {v : Value} {xs : List Nat} (h : Wtr w B g v xs) : w.cell? ⟨g, 0, none⟩ = some v := cell_of_row w g 0 _ 66 (0, 0) h.block
theorem Wtr.frozen {w : World} {B g : Nat} {v : Value} {xs : List Nat} (h : Wtr w B g v xs) : w.frozen? ⟨g, 0, none⟩ = false := by
  have := h.block
  simp [World.frozen?, this]
/-- The row is not the block itself: they are of unlike types. -/
theorem row_not_block {w : World} {B g n : Nat} {v u : Value} {xs : List Value} (h : w.ownsRow B 5 1 v n xs) (hg : w.heap[g]? = some (.cells #[u] 66 (0, 0))) : v.ownBlock ≠ some g := by
  rcases h.2 with ⟨rfl, _⟩ | ⟨k, cap, cur, rfl, _, hk, _⟩
  · simp [Value.ownBlock]
  · intro he
    simp [Value.ownBlock] at he
    subst he
    rw [hk] at hg
    simp at hg
theorem row_low {w : World} {B n : Nat} {v : Value} {xs : List Value} (h : w.ownsRow B 5 1 v n xs) : ∀ k, v.ownBlock = some k → B ≤ k := fun k hk => (h.lt k hk).1
/-- A row stands where nothing is changed but blocks that aren't its own. -/
theorem row_stays {w w' : World} {B n : Nat} {v : Value} {xs : List Value} (h : w.ownsRow B 5 1 v n xs) (hk : ∀ k, v.ownBlock = some k → w'.heap[k]? = w.heap[k]?) : w'.ownsRow B 5 1 v n xs := by
  refine ⟨h.1, ?_⟩
  rcases h.2 with h0 | ⟨g, cap, cur, rfl, hb, hg, hrest⟩
  · exact .inl h0
  · exact .inr ⟨g, cap, cur, rfl, hb, (hk g rfl).trans hg, hrest⟩

set_option maxHeartbeats 1000000 in
theorem put_any (B g : Nat) (v : Value) (xs : List Nat) (A : Option Addr) (m c : Nat) (ys : List Nat) (w : World) (hw : Wtr w B g v xs) (hr : Rdv w A m 1 (valsB ys)) (hnil : A = none → c = 0) (hmx : xs.length + m ≤ 17592186044416) :
    Calls Tryd.prog 66 #[.pointer (some ⟨g, 0, none⟩), .slice A m c] w fun e w' => e = .returned (.tuple #[]) ∧ ∃ v', Wtr w' B g v' (xs ++ ys) ∧ Touch w w' g v.ownBlock ∧ (v'.ownBlock = v.ownBlock ∨ v'.ownBlock = some w.heap.size) := by
  have c0 := hw.cell
  have hlt := hw.lt
  have HW := Lib.hid hw
  have HR := Lib.hid hr
  have hne := row_not_block hw.own hw.block
  have HNE := Lib.hid hne
  have hl : ys.length = m := by have := hr.1; rw [valsB_length] at this; omega
  have HL := Lib.hid hl
  clear hw hr hne hl
  go_enter Tryd.func66, Tryd.ntmps66
  go_wp2_with (at_builtin; refine wpList_append_rowv elemB rfl (.tmp 10) (.tmp 11) rfl B v xs.length (valsB xs) rfl HW.out.own A m c (valsB ys) rfl HR.out (valsB_one _) hnil (by unfold maxLen; omega) (by omega) (Nat.le_trans HW.out.low (Nat.le_of_lt hlt)) ?_; intro v3 w3 hown3 hg3 hb3; obtain ⟨A3, k3, rfl, _, _, _⟩ := rdv_own hown3; have hblk : w3.heap[g]? = some (.cells #[v] 66 (0, 0)) := (hg3.block g hlt (fun he => HNE.out he.symm)).trans HW.out.block; have c3 : w3.cell? ⟨g, 0, none⟩ = some v := cell_of_row w3 g 0 _ 66 (0, 0) hblk; have f3 : w3.frozen? ⟨g, 0, none⟩ = false := by simp [World.frozen?, hblk])
  have hlt3 : g < w3.heap.size := Nat.lt_of_lt_of_le hlt hg3.size
  have hw' : Wtr (w3.setCell ⟨g, 0, none⟩ (.slice A3 (xs.length + m) k3)) B g (.slice A3 (xs.length + m) k3) (xs ++ ys) := by
    refine ⟨HW.out.low, ?_, ?_⟩
    · simp [World.setCell, Array.getElem?_modify, hblk]
    · rw [List.length_append, HL.out, valsB_append]
      exact row_stays hown3 (fun k hk => Deep.blk_setCell_other w3 _ _ k (fun he => row_not_block hown3 hblk (by rw [hk]; exact congrArg some he)))
  have ht : Touch w (w3.setCell ⟨g, 0, none⟩ (.slice A3 (xs.length + m) k3)) g v.ownBlock :=
    ⟨hg3.os, hg3.tape, hg3.output, by rw [World.size_setCell]; exact hg3.size, fun k hk h1 h2 => (Deep.blk_setCell_other w3 _ _ k h1).trans (hg3.block k hk (fun he => h2 he.symm))⟩
  have H1 := Lib.hid hw'
  have H2 := Lib.hid ht
  have H3 := Lib.hid hb3
  clear hw' ht hb3 hown3 hg3 hblk c0
  go_wp2_with fail
  refine bodyPost_end (v := .tuple #[]) (by simp [results, Tryd.results66, go_sem]) rfl ⟨rfl, _, H1.out, H2.out, H3.out⟩
end Go.Proofs.YtkeckjgihjpfbaaDoor
