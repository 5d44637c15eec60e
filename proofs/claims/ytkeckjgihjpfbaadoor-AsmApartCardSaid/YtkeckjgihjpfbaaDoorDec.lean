/- The contract of prog.Decode. -/
import Derived.Test.YtkeckjgihjpfbaaDoorTakeI
import Derived.Test.YtkeckjgihjpfbaaDoorWholes
import Derived.Test.YtkeckjgihjpfbaaDoorEnc
namespace Go.Proofs.YtkeckjgihjpfbaaDoor
set_option maxRecDepth 100000
open Go.RowKit

def takeN : Nat → List Nat → Bool → List Ins × List Nat × Bool
  | 0, bs, bad => ([], bs, bad)
  | k + 1, bs, bad => ((takeN k bs bad).1 ++ [(takeI (takeN k bs bad).2.1 (takeN k bs bad).2.2).1], (takeI (takeN k bs bad).2.1 (takeN k bs bad).2.2).2)
theorem takeN_len (k : Nat) (bs : List Nat) (bad : Bool) : (takeN k bs bad).1.length = k := by
  induction k with
  | zero => rfl
  | succ k ih => simp [takeN, ih]
/-- What is read of bytes. -/
def readP (xs : List Nat) : Int × List Ins × List Nat × Bool := (wrapI (rcount xs).1, takeN (min (rcount (rcount xs).2.1).1 33) (rcount (rcount xs).2.1).2.1 (rcount (rcount xs).2.1).2.2)
def decOk (xs : List Nat) : Bool := decide ((readP xs).2.2.2 = false ∧ (readP xs).2.2.1 = []) && decide (chk (readP xs).1 (readP xs).2.1 = -2)
def DecE (xs : List Nat) (w w' : World) (e : Ending) : Prop :=
  (decOk xs = true ∧ ∃ A c, e = .returned (.tuple #[.agg #[.int .i64 (readP xs).1, .slice A (readP xs).2.1.length c], .nilIface]) ∧ Codes w' A (readP xs).2.1.length (readP xs).2.1 ∧ w'.ownsRow w.heap.size 43 6 (.slice A (readP xs).2.1.length c) (readP xs).2.1.length (insV (readP xs).2.1)) ∨
  (decOk xs = false ∧ e = .returned (.tuple #[.agg #[.int .i64 0, .slice none 0 0], .iface 36 (.int .i64 2)]))
theorem results19 (w : World) (g : Nat) (f : Int) (A : Option Addr) (n c : Nat) (v : Value) (h : w.heap[g]? = some (.cells #[.int .i64 f, .slice A n c] 24 (0, 0))) (tmps : Array Value) (h2 : tmps.getD 2 undef = .pointer (some ⟨g, 0, none⟩)) (h3 : tmps.getD 3 undef = v) :
    (results Tryd.f19 tmps).run Tryd.prog w = .ok (.tuple #[.agg #[.int .i64 f, .slice A n c], v]) w := by
  have h2' : tmps[2]?.getD undef = .pointer (some ⟨g, 0, none⟩) := by simpa using h2
  have h3' : tmps[3]?.getD undef = v := by simpa using h3
  have c0 : w.cell? ⟨g, 0, none⟩ = some (.int .i64 f) := cell_of_row w g 0 _ 24 (0, 0) h
  have c1 : w.cell? ⟨g, 1, none⟩ = some (.slice A n c) := cell_of_row w g 1 _ 24 (0, 0) h
  have e : Tryd.f19.results = #[.cell 2 24, .tmp 3] := Tryd.results19
  have hl : (loadVar 24 ⟨g, 0, none⟩).run Tryd.prog w = .ok (.agg #[.int .i64 f, .slice A n c]) w := by simp [go_sem, c0, c1]
  simp only [results, e]
  simp [asAddr, h2', hl, h3']
/-- What stands in Decode's round. -/
structure DI (w : World) (q hi : Nat) (wr : World) (B : Nat → Prop) (g : Nat) (f : Int) (v : Value) (s : List Ins × List Nat × Bool) : Prop where
  rdr : Rdr wr B (.pointer (some ⟨g, 0, none⟩)) s.2.1 s.2.2
  below : Below w.heap.size w wr
  out : wr.heap[w.heap.size]? = some (.cells #[.int .i64 0, .slice none 0 0] 24 (0, 0))
  cur : wr.heap[q]? = some (.cells #[.int .i64 f, v] 24 (0, 0))
  own : wr.ownsRow w.heap.size 43 6 v s.1.length (insV s.1)
  away : ∀ b, v.ownBlock = some b → hi ≤ b
  lo : w.heap.size + 1 ≤ q
  hiq : hi ≤ q
  lt : q + 1 ≤ wr.heap.size
theorem rdr_block {w : World} {B : Nat → Prop} {g : Nat} {bs : List Nat} {bad : Bool} (h : Rdr w B (.pointer (some ⟨g, 0, none⟩)) bs bad) : B g ∧ ∃ u, w.heap[g]? = some (.cells u 112 (0, 0)) := by
  generalize hv : (Value.pointer (some ⟨g, 0, none⟩)) = V at h
  cases h with
  | none => cases hv
  | some g' A n c bs bad low block row lies hbad small len =>
    injection hv with hv
    injection hv with hv
    injection hv with hv
    subst hv
    exact ⟨low, _, block⟩
theorem DI.step {w wr w2 : World} {q hi : Nat} {B : Nat → Prop} {g : Nat} {f : Int} {v : Value} {s : List Ins × List Nat × Bool} {bs : List Nat} {bad : Bool} (h : DI w q hi wr B g f v s) (hB : ∀ k, B k → w.heap.size < k ∧ k < hi) (hr : Rdr w2 B (.pointer (some ⟨g, 0, none⟩)) bs bad) (ho : Only wr w2 (.pointer (some ⟨g, 0, none⟩))) : DI w q hi w2 B g f v (s.1, bs, bad) := by
  obtain ⟨hg, u, hu⟩ := rdr_block h.rdr
  have hgb := hB g hg
  have keep : ∀ k, k < wr.heap.size → k ≠ g → w2.heap[k]? = wr.heap[k]? := fun k hk hne => ho.block k hk (fun e => by injection e with e; injection e with e; injection e with e; exact hne e.symm)
  refine ⟨hr, ⟨ho.os.trans h.below.os, ho.tape.trans h.below.tape, ho.output.trans h.below.output, Nat.le_trans h.below.size ho.size, fun k hk => (keep k (by have := h.below.size; omega) (by omega)).trans (h.below.block k hk)⟩, (keep _ (by have := h.lt; have := h.lo; omega) (by omega)).trans h.out, (keep _ (by have := h.lt; omega) (by have := h.hiq; omega)).trans h.cur, own_keep h.own fun b cur _ e => keep b (Array.getElem?_eq_some_iff.1 e).1 (fun e2 => by subst e2; rw [hu] at e; cases e), h.away, h.lo, h.hiq, Nat.le_trans h.lt ho.size⟩
theorem rdv_ins (w : World) (x : Ins) : Rdv (w.alloc (.cells #[.int .i64 x.op, .int .i64 x.a, .int .i64 x.b, .int .i64 x.c, .int .i64 x.t, .int .i64 x.n] 43)) (some ⟨w.heap.size, 0, none⟩) 1 6 (insV [x]) := by
  refine ⟨rfl, fun _ => ⟨_, _, rfl, fun j u hj => ?_⟩⟩
  rw [cell_of_row _ _ _ _ 43 (0, 0) (heap_alloc_new w _), Nat.zero_add]
  exact (show (#[Value.int .i64 x.op, .int .i64 x.a, .int .i64 x.b, .int .i64 x.c, .int .i64 x.t, .int .i64 x.n])[j]? = (insV [x])[j]? by simp [insV, Ins.vals]).trans hj
/-- The append, and the store behind it. -/
theorem DI.push {w wr w3 : World} {q hi : Nat} {B : Nat → Prop} {g : Nat} {f : Int} {v v' : Value} {s : List Ins × List Nat × Bool} {x : Ins} {o : Obj} (h : DI w q hi wr B g f v s) (hB : ∀ k, B k → w.heap.size < k ∧ k < hi) (hown : w3.ownsRow w.heap.size 43 6 v' (s.1.length + 1) (insV s.1 ++ insV [x]))
    (hg : (wr.alloc o).grownBy w3 v.ownBlock) (hv : v'.ownBlock = v.ownBlock ∨ v'.ownBlock = some (wr.alloc o).heap.size) :
    w3.heap[q]? = some (.cells #[.int .i64 f, v] 24 (0, 0)) ∧ DI w q hi (w3.setCell ⟨q, 1, none⟩ v') B g f v' (s.1 ++ [x], s.2) := by
  have hs := hg.size
  rw [World.size_alloc] at hs
  have vt : ∀ b cur t, wr.heap[b]? = some (.cells cur t (0, 0)) → t ≠ 43 → v.ownBlock ≠ some b := fun b cur t e ht e2 => by
    obtain ⟨_, _, c2, h2⟩ := own_cells h.own b e2
    rw [e] at h2
    injection h2 with h2
    injection h2 with _ h2
    exact ht h2
  have keep : ∀ b, b < wr.heap.size → v.ownBlock ≠ some b → w3.heap[b]? = wr.heap[b]? := fun b hb hne => (hg.block b (by rw [World.size_alloc]; omega) (fun e => hne e.symm)).trans (heap_alloc_old wr o hb)
  have lt := h.lt
  have lo := h.lo
  have hiq := h.hiq
  have hq : w3.heap[q]? = some (.cells #[.int .i64 f, v] 24 (0, 0)) := (keep q (by omega) (vt _ _ _ h.cur (by decide))).trans h.cur
  have hsz := h.below.size
  refine ⟨hq, ⟨?_, ?_, ?_, ?_, ?_, ?_, lo, hiq, by rw [World.size_setCell]; omega⟩⟩
  · refine Rdr.stays (h.rdr) (by rw [World.size_setCell]; omega) (fun k hk hBk => ?_)
    have := hB k hBk
    exact (Deep.blk_setCell_other w3 _ _ k (by show k ≠ q; omega)).trans (keep k hk (fun e => by have := h.away k e; omega))
  · have h1 : Below w.heap.size w (wr.alloc o) := h.below.alloc hsz o
    exact (h1.grown hg (by rw [World.size_alloc]; omega) (fun k e => (own_cells h.own k e).1)).setCell (by show w.heap.size ≤ q; omega) v'
  · exact (Deep.blk_setCell_other w3 _ _ _ (by show w.heap.size ≠ q; omega)).trans ((keep _ (by omega) (vt _ _ _ h.out (by decide))).trans h.out)
  · exact heap_at hq 1 v'
  · rw [List.length_append, insV_append]
    exact own_keep hown fun b cur _ e => Deep.blk_setCell_other w3 _ _ b (fun e2 => by have e3 : b = q := e2; subst e3; rw [hq] at e; cases e)
  · intro b e
    rcases hv with hv | hv
    · exact h.away b (hv ▸ e)
    · rw [hv, World.size_alloc] at e
      injection e with e
      omega
end Go.Proofs.YtkeckjgihjpfbaaDoor
