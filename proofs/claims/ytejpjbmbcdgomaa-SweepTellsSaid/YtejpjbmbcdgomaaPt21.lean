/- SCopy, SOpen, WWtr, WSize: put together. -/
import Derived.Test.YtejpjbmbcdgomaaPt20
import Derived.Test.YtejpjbmbcdgomaaPt18
import Derived.ProofKit
import Derived.OpenShut
import Derived.Deep.Slices
import Derived.Deep.Strs
import Derived.ShutString
import Derived.ChangeOld
import Derived.WideShapes
import Derived.Test.YtejpjbmbcdgomaaPt01
import Derived.Deep.Heap
import Derived.Shelf.Strconv.Itoa0
/- Copy: another store like it. -/
namespace Go.Proofs.Ytejpjbmbcdgomaa
set_option maxRecDepth 100000
open Go.RowKit

def stC (tb : Nat → Nat) (live last : Int) (i : Nat) : Array Value := #[pvN tb i 0, pvN tb i 1, pvN tb i 2, pvN tb i 3, .int .i64 live, .int .i64 last]
theorem stC_set (tb : Nat → Nat) (live last : Int) {i : Nat} (hi : i < 4) (b : Nat) : (stC tb live last i).setIfInBounds i (.pointer (some ⟨b, 0, none⟩)) = stC (fun j => if j = i then b else tb j) live last (i + 1) := by
  have : i = 0 ∨ i = 1 ∨ i = 2 ∨ i = 3 := by omega
  rcases this with rfl | rfl | rfl | rfl
  · show #[_, _, _, _, _, _] = stC _ _ _ _
    unfold stC
    rw [pvN_eq, pvN_ne (by decide), pvN_ne (by decide), pvN_ne (by decide)]
  · show #[_, _, _, _, _, _] = stC _ _ _ _
    unfold stC
    rw [pvN_eq, pvN_ne (by decide), pvN_ne (by decide), pvN_ne (by decide)]
  · show #[_, _, _, _, _, _] = stC _ _ _ _
    unfold stC
    rw [pvN_eq, pvN_ne (by decide), pvN_ne (by decide), pvN_ne (by decide)]
  · show #[_, _, _, _, _, _] = stC _ _ _ _
    unfold stC
    rw [pvN_eq, pvN_ne (by decide), pvN_ne (by decide), pvN_ne (by decide)]
/-- The first i trees are copied. -/
structure CI (w wr : World) (ts : Tb) (live last : Int) (i : Nat) (tb : Nat → Nat) (F : Nat → Nat → Prop) (d : Nat → Nat) : Prop where
  block : wr.heap[w.heap.size]? = some (.cells (stC tb live last i) 101 (0, 0))
  tree : ∀ j, j < i → TL wr (F j) (tb j) (ts j) (d j)
  new : ∀ j, j < i → ∀ q, F j q → w.heap.size < q
  apart : ∀ a b, a < i → b < i → a ≠ b → ∀ q, F a q → ¬ F b q
  b : Below w.heap.size w wr
theorem CI.next {w wr w1 : World} {ts : Tb} {live last : Int} {i b d1 : Nat} {tb d : Nat → Nat} {F : Nat → Nat → Prop} {F1 : Nat → Prop} (h : CI w wr ts live last i tb F d) (hi : i < 4) (hT : TL w1 F1 b (ts i) d1) (hF : ∀ k, F1 k → wr.heap.size ≤ k) (hb : Below wr.heap.size wr w1) :
    CI w (w1.setCell ⟨w.heap.size, i, none⟩ (.pointer (some ⟨b, 0, none⟩))) ts live last (i + 1) (fun j => if j = i then b else tb j) (fun j => if j = i then F1 else F j) (fun j => if j = i then d1 else d j) := by
  have hsb := (Array.getElem?_eq_some_iff.1 h.block).1
  have h1 := (hb.block _ hsb).trans h.block
  have hk : ∀ q, q ≠ w.heap.size → (w1.setCell ⟨w.heap.size, i, none⟩ (.pointer (some ⟨b, 0, none⟩))).heap[q]? = w1.heap[q]? := fun q e => heap_ne _ _ _ _ e
  refine ⟨(heap_set w1 _ i _ h1).trans (by rw [stC_set tb live last hi]), fun j hj => ?_, fun j hj q e => ?_, fun x y hx hy hxy q e1 e2 => ?_, ⟨h.b.os ▸ hb.os, h.b.tape ▸ hb.tape, h.b.output ▸ hb.output, by rw [World.size_setCell]; exact Nat.le_trans h.b.size hb.size, fun k hkl => ?_⟩⟩
  · by_cases e : j = i
    · rw [if_pos e, if_pos e, if_pos e, e]
      exact hT.keep fun q hq => hk q (by have := hF q hq; omega)
    · rw [if_neg e, if_neg e, if_neg e]
      have hj2 : j < i := by omega
      exact ((h.tree j hj2).below hb).keep fun q hq => hk q (by have := h.new j hj2 q hq; omega)
  · by_cases e3 : j = i
    · rw [if_pos e3] at e
      have := hF q e
      omega
    · rw [if_neg e3] at e
      exact h.new j (by omega) q e
  · by_cases ex : x = i
    · have ey : y ≠ i := fun c => hxy (ex.trans c.symm)
      rw [if_pos ex] at e1
      rw [if_neg ey] at e2
      have a1 := hF q e1
      have a2 := (h.tree y (by omega)).lt e2
      omega
    · rw [if_neg ex] at e1
      by_cases ey : y = i
      · rw [if_pos ey] at e2
        have a1 := hF q e2
        have a2 := (h.tree x (by omega)).lt e1
        omega
      · rw [if_neg ey] at e2
        exact h.apart x y (by omega) (by omega) hxy q e1 e2
  · rw [hk k (by omega), hb.block k (by have := h.b.size; omega)]
    exact h.b.block k hkl
theorem CI.store {w wr : World} {ts : Tb} {live last : Int} {tb d : Nat → Nat} {F : Nat → Nat → Prop} (h : CI w wr ts live last 4 tb F d) : ∃ G, SM wr G w.heap.size ts live last ∧ ∀ q, G q → w.heap.size ≤ q :=
  ⟨fun q => q = w.heap.size ∨ ∃ i, i < 4 ∧ F i q, ⟨tb, F, d, h.block, fun i hi => h.tree i hi, fun i j hi hj => h.apart i j hi hj, fun i hi e => by have := h.new i hi _ e; omega, fun _ => Iff.rfl⟩, fun q e => by
    rcases e with e | ⟨i, hi, e⟩
    · omega
    · have := h.new i hi q e; omega⟩
end Go.Proofs.Ytejpjbmbcdgomaa

/- Acts on a store, opened. -/
namespace Go.Proofs.Ytejpjbmbcdgomaa
set_option maxRecDepth 100000
open Go.ChangeShapes Go.WideShapes Go.ChangeAt Go.RowKit

theorem addr_add' (b off j : Nat) : (⟨b, off, none⟩ : Addr).add j = ⟨b, off + j, none⟩ := by
  unfold Addr.add
  by_cases h : j = 0
  · subst h; simp
  · simp [h]
theorem RowAt.of {α : Type} {f : α → List Value} {k : Nat} {W : World} {n : Nat} {l : List α} (hf : ∀ x, (f x).length = k) (hk : 0 < k) (hl : l.length = n) (b off : Nat) (hc : ∀ (i : Nat) (hi : i < l.length) (r : Nat) (u : Value), r < k → (f l[i])[r]? = some u → W.cell? ⟨b, off + i * k + r, none⟩ = some u) : RowAt f k W (some ⟨b, off, none⟩) n l := by
  have hlen : (rowV f l).length = n * k := by
    rw [← hl]
    clear hl hc
    induction l with
    | nil => simp [rowV]
    | cons a l ih =>
      have e : rowV f (a :: l) = f a ++ rowV f l := by simp [rowV]
      rw [e, List.length_append, ih, hf, List.length_cons, Nat.succ_mul, Nat.add_comm]
  refine ⟨hl, hlen, fun _ => ⟨b, off, rfl, fun j u hj => ?_⟩⟩
  have hjl : j < n * k := by rw [← hlen]; exact (List.getElem?_eq_some_iff.1 hj).1
  have h1 : j / k < l.length := by rw [hl]; exact Nat.div_lt_of_lt_mul (by rw [Nat.mul_comm]; exact hjl)
  have h2 : j % k < k := Nat.mod_lt _ hk
  have e : j / k * k + j % k = j := Nat.div_add_mod' j k
  have h3 := rowV_get f k hf l (j / k) h1 (j % k) h2
  rw [e, hj] at h3
  have h4 := hc (j / k) h1 (j % k) u h2 h3.symm
  rw [Nat.add_assoc, e] at h4
  exact h4
section
variable {H : Type} {enc : TypeId × Value → H} {W : World} {sp : Nat → Bool}
theorem trod_struct3 {P : Program} {base : Nat} {held : Bool} {t : TypeId} {f0 f1 f2 : Field} {fuel : Nat} {cs : List Value} {x : DataW H × List MemPlace} (ht : P.underlying t = some (.struct #[f0, f1, f2])) (h : DataW.trod enc P W base sp held fuel t cs = some x) :
    ∃ y0 y1 y2 n, x = (.agg [y0.1, y1.1, y2.1], y0.2 ++ (y1.2 ++ y2.2)) ∧ cs.length = P.cellsOf t ∧ DataW.trod enc P W base sp held n f0.type ((cs.drop f0.offset).take (P.cellsOf f0.type)) = some y0 ∧
      DataW.trod enc P W base sp held n f1.type ((cs.drop f1.offset).take (P.cellsOf f1.type)) = some y1 ∧ DataW.trod enc P W base sp held n f2.type ((cs.drop f2.offset).take (P.cellsOf f2.type)) = some y2 := by
  obtain ⟨xs, n, _, rfl, hl, hlen, hf⟩ := DataW.trod_struct ht h
  match xs, hlen with
  | [y0, y1, y2], _ => exact ⟨y0, y1, y2, n, by simp, hl, by simpa using hf 0 f0 rfl, by simpa using hf 1 f1 rfl, by simpa using hf 2 f2 rfl⟩
theorem open_rowat {α : Type} {f : α → List Value} {k : Nat} (p : α → Prop) (hf : ∀ x, (f x).length = k) (hk : 0 < k) {t e : TypeId} (hu : Try.prog.underlying t = some (.slice e)) (he : Try.prog.cellsOf e = k) (d : α)
    (ho : ∀ {fuel : Nat} {cs : List Value} {x : DataW H × List MemPlace}, DataW.trod enc Try.prog W 0 sp true fuel e cs = some x → ∃ q : α, cs = f q ∧ p q) {fuel : Nat} {v : Value} {x : DataW H × List MemPlace} (hin : DataW.trod enc Try.prog W 0 sp true fuel t [v] = some x) :
    ∃ A n c l, v = .slice A n c ∧ RowAt f k W A n l ∧ n ≤ 9223372036854775807 ∧ (A = none → c = 0) ∧ ∀ s ∈ l, p s := by
  rcases Go.Deep.open_slice hu hin with ⟨hcs, _⟩ | ⟨a, len, cap, m, k2, D, Pl, hcs, _, hl, hm, hmm, _, hx⟩
  · injection hcs with hcs
    subst hcs
    exact ⟨none, 0, 0, [], rfl, ⟨rfl, by simp [rowV], fun hn => absurd hn (by omega)⟩, by decide, fun _ => rfl, fun s hs => by simp at hs⟩
  · injection hcs with hcs
    subst hcs
    unfold maxLen at hm
    have hlm : len ≤ m := by rw [hmm]; split <;> omega
    have hall : ∀ j, ∃ q : α, j < len → W.cells? 0 (a.add (j * k)) k = some (f q) ∧ p q := by
      intro j
      by_cases hj : j < len
      · obtain ⟨cs', h1, h2⟩ := hx j (by omega)
        rw [he] at h1
        obtain ⟨q, rfl, hp⟩ := ho h2
        exact ⟨q, fun _ => ⟨h1, hp⟩⟩
      · exact ⟨d, fun h => absurd h hj⟩
    obtain ⟨F, hall⟩ := Classical.axiomOfChoice hall
    rcases Nat.eq_zero_or_pos len with h0 | h0
    · subst h0
      exact ⟨some a, 0, cap, [], rfl, ⟨rfl, by simp [rowV], fun hn => absurd hn (by omega)⟩, by decide, fun h => absurd h (by simp), fun s hs => by simp at hs⟩
    obtain ⟨b, off, spot⟩ := a
    obtain ⟨_, _, h0'⟩ := World.cells?_some (hall 0 h0).1
    have h00 := h0' 0 hk
    rw [List.getElem?_eq_getElem (by rw [hf]; exact hk)] at h00
    have hspot : spot = none := by simpa [Addr.add] using World.cell?_spot h00
    subst hspot
    refine ⟨_, len, cap, (List.range len).map F, rfl, RowAt.of hf hk (by simp) b off fun j hj r u hr hu => ?_, by omega, fun h => absurd h (by simp), fun s hs => ?_⟩
    · have hj' : j < len := by simpa using hj
      obtain ⟨_, _, h1⟩ := World.cells?_some (hall j hj').1
      have c0 := h1 r (by omega)
      simp only [addr_add'] at c0
      simp only [List.getElem_map, List.getElem_range] at hu
      rw [c0]
      simpa using hu
    · rw [List.mem_map] at hs
      obtain ⟨i, hi, rfl⟩ := hs
      exact (hall i (List.mem_range.1 hi)).2
end
/-- An act: a transaction's number, its writes where they lie. -/
structure Oq where
  q : Int
  A : Option Addr
  c : Nat
  ws : List Wr
  pg : Bool
def Oq.vals (o : Oq) : List Value := [.int .i64 o.q, .slice o.A o.ws.length o.c, .bool o.pg]
theorem Oq.vlen (o : Oq) : o.vals.length = 3 := rfl
/-- A write of numbers. -/
def WrOk (x : Wr) : Prop := (-9223372036854775808 ≤ x.k ∧ x.k ≤ 9223372036854775807) ∧ (-9223372036854775808 ≤ x.v ∧ x.v ≤ 9223372036854775807)
structure OqOk (W : World) (o : Oq) : Prop where
  row : Wrs W o.A o.ws
  nums : ∀ x ∈ o.ws, WrOk x
  big : o.ws.length ≤ 9223372036854775807
  num : -9223372036854775808 ≤ o.q ∧ o.q ≤ 9223372036854775807
  nil : o.A = none → o.c = 0
theorem OqOk.below {W W' : World} {o : Oq} (h : OqOk W o) (hb : Below W.heap.size W W') : OqOk W' o := ⟨RowAt.below h.row hb, h.nums, h.big, h.num, h.nil⟩
/-- Acts as they lie. -/
structure Acts (W : World) (A : Option Addr) (os : List Oq) : Prop where
  row : RowAt Oq.vals 3 W A os.length os
  ok : ∀ o ∈ os, OqOk W o
  big : os.length ≤ 9223372036854775807
theorem Acts.below {W W' : World} {A : Option Addr} {os : List Oq} (h : Acts W A os) (hb : Below W.heap.size W W') : Acts W' A os := ⟨RowAt.below h.row hb, fun o ho => (h.ok o ho).below hb, h.big⟩
theorem Acts.cell {W : World} {A : Option Addr} {os : List Oq} (h : Acts W A os) (hn : 0 < os.length) : ∃ b off, A = some ⟨b, off, none⟩ ∧ ∀ q (hq : q < os.length), W.cell? ⟨b, off + q * 3, none⟩ = some (.int .i64 os[q].q) ∧ W.cell? ⟨b, off + q * 3 + 1, none⟩ = some (.slice os[q].A os[q].ws.length os[q].c) ∧ W.cell? ⟨b, off + q * 3 + 2, none⟩ = some (.bool os[q].pg) := by
  obtain ⟨b, off, e, hc⟩ := RowAt.cells h.row Oq.vlen hn
  exact ⟨b, off, e, fun q hq => ⟨hc q hq 0 _ (by omega) rfl, hc q hq 1 _ (by omega) rfl, hc q hq 2 _ (by omega) rfl⟩⟩
theorem cells3 : Try.prog.cellsOf 3 = 1 := by kernel_rfl
theorem cellsBo : Try.prog.cellsOf 4 = 1 := by kernel_rfl
theorem cellsKy : Try.prog.cellsOf 42 = 2 := by kernel_rfl
theorem cellsWr : Try.prog.cellsOf 51 = 4 := by kernel_rfl
theorem cellsWs : Try.prog.cellsOf 32 = 1 := by kernel_rfl
section
variable {H : Type} {enc : TypeId × Value → H} {W : World} {sp : Nat → Bool}
theorem trod_struct2 {P : Program} {base : Nat} {held : Bool} {t : TypeId} {f0 f1 : Field} {fuel : Nat} {cs : List Value} {x : DataW H × List MemPlace} (ht : P.underlying t = some (.struct #[f0, f1])) (h : DataW.trod enc P W base sp held fuel t cs = some x) :
    ∃ y0 y1 n, x = (.agg [y0.1, y1.1], y0.2 ++ y1.2) ∧ cs.length = P.cellsOf t ∧ DataW.trod enc P W base sp held n f0.type ((cs.drop f0.offset).take (P.cellsOf f0.type)) = some y0 ∧
      DataW.trod enc P W base sp held n f1.type ((cs.drop f1.offset).take (P.cellsOf f1.type)) = some y1 := by
  obtain ⟨xs, n, _, rfl, hl, hlen, hf⟩ := DataW.trod_struct ht h
  match xs, hlen with
  | [y0, y1], _ => exact ⟨y0, y1, n, by simp, hl, by simpa using hf 0 f0 rfl, by simpa using hf 1 f1 rfl⟩
theorem open_wr {fuel : Nat} {cs : List Value} {x : DataW H × List MemPlace} (hf : DataW.trod enc Try.prog W 0 sp true fuel 51 cs = some x) : ∃ q : Wr, cs = q.vals ∧ WrOk q := by
  obtain ⟨y0, y1, y2, n, _, hl, g0, g1, g2⟩ := trod_struct3 Try.underlying51 hf
  rw [cellsWr] at hl
  match cs, hl with
  | [v0, v1, v2, v3], _ =>
    simp [cells3, cellsBo, cellsKy] at g0 g1 g2
    obtain ⟨z0, z1, n2, _, hl2, k0, k1⟩ := trod_struct2 Try.underlying42 g0
    simp [cells3] at k0 k1
    obtain ⟨a0, e0, _⟩ := DataW.trod_int Try.underlying3 k0
    obtain ⟨a1, e1, _, w1⟩ := DataW.trod_int Try.underlying3 k1
    obtain ⟨a2, e2, _, w2⟩ := DataW.trod_int Try.underlying3 g1
    obtain ⟨b3, e3, _⟩ := DataW.trod_bool Try.underlying4 g2
    injection e0 with e0
    injection e1 with e1
    injection e2 with e2
    injection e3 with e3
    exact ⟨⟨a0, a1, a2, b3⟩, by rw [e0, e1, e2, e3]; rfl, bounds_i64 w1, bounds_i64 w2⟩
end
end Go.Proofs.Ytejpjbmbcdgomaa

/- A writer in memory, and the contract of its put. -/
namespace Go.Proofs.Ytejpjbmbcdgomaa
set_option maxRecDepth 100000
open Go.RowKit

theorem elemB : ElemT Try.prog 57 5 1 1 :=
  ⟨Try.underlying57, by kernel_rfl, by
    obtain ⟨i, hi, hz, h1, _⟩ := info_parts (show (Try.prog.info? 5).map (fun i => (i.zero, i.size, i.bytes)) = some (some (.int .u8 0), 1, 1) by kernel_rfl)
    exact ⟨i, _, hi, hz, rfl⟩, by decide⟩
def valsB (xs : List Nat) : List Value := xs.map fun (x : Nat) => Value.int .u8 (x : Int)
theorem valsB_one (xs : List Nat) : ∀ u ∈ valsB xs, u.oneCell' = true := by
  intro u hu
  simp only [valsB, List.mem_map] at hu
  obtain ⟨x, _, rfl⟩ := hu
  rfl
theorem valsB_length (xs : List Nat) : (valsB xs).length = xs.length := by simp [valsB]
theorem valsB_append (xs ys : List Nat) : valsB (xs ++ ys) = valsB xs ++ valsB ys := by simp [valsB]

/-- Nothing but a block and a row is changed, and what is new. -/
structure Touch (w w' : World) (g : Nat) (r : Option Nat) : Prop where
  os : w'.os = w.os
  tape : w'.tape = w.tape
  output : w'.output = w.output
  size : w.heap.size ≤ w'.heap.size
  block : ∀ k, k < w.heap.size → k ≠ g → r ≠ some k → w'.heap[k]? = w.heap[k]?
theorem Touch.below {w w' : World} {g B : Nat} {r : Option Nat} (h : Touch w w' g r) (hg : B ≤ g) (hr : ∀ k, r = some k → B ≤ k) (hB : B ≤ w.heap.size) : Below B w w' :=
  ⟨h.os, h.tape, h.output, h.size, fun k hk => h.block k (by omega) (by omega) (fun e => by have := hr k e; omega)⟩
/-- A block that holds a writer of its own bytes. -/
structure Wtr (w : World) (B g : Nat) (v : Value) (xs : List Nat) : Prop where
  low : B ≤ g
  block : w.heap[g]? = some (.cells #[v] 133 (0, 0))
  own : w.ownsRow B 5 1 v xs.length (valsB xs)
theorem Wtr.lt {w : World} {B g : Nat} {v : Value} {xs : List Nat} (h : Wtr w B g v xs) : g < w.heap.size := (Array.getElem?_eq_some_iff.1 h.block).1
theorem Wtr.cell {w : World} {B g : Nat} {v : Value} {xs : List Nat} (h : Wtr w B g v xs) : w.cell? ⟨g, 0, none⟩ = some v := cell_of_row w g 0 _ 133 (0, 0) h.block
theorem Wtr.frozen {w : World} {B g : Nat} {v : Value} {xs : List Nat} (h : Wtr w B g v xs) : w.frozen? ⟨g, 0, none⟩ = false := by
  have := h.block
  simp [World.frozen?, this]
/-- The row is not the block itself: they are of unlike types. -/
theorem row_not_block {w : World} {B g n : Nat} {v u : Value} {xs : List Value} (h : w.ownsRow B 5 1 v n xs) (hg : w.heap[g]? = some (.cells #[u] 133 (0, 0))) : v.ownBlock ≠ some g := by
  rcases h.2 with ⟨rfl, _⟩ | ⟨k, cap, cur, rfl, _, hk, _⟩
  · simp [Value.ownBlock]
  · intro he
    simp [Value.ownBlock] at he
    subst he
    rw [hk] at hg
    simp at hg
theorem row_low {w : World} {B n : Nat} {v : Value} {xs : List Value} (h : w.ownsRow B 5 1 v n xs) : ∀ k, v.ownBlock = some k → B ≤ k := fun k hk => (h.lt k hk).1
/-- A row stands where nothing is changed but blocks that aren't its own. -/
theorem row_stays {w w' : World} {B n : Nat} {v : Value} {xs : List Value} (h : w.ownsRow B 5 1 v n xs) (hk : ∀ k, v.ownBlock = some k → w'.heap[k]? = w.heap[k]?) : w'.ownsRow B 5 1 v n xs := by
  refine ⟨h.1, ?_⟩
  rcases h.2 with h0 | ⟨g, cap, cur, rfl, hb, hg, hrest⟩
  · exact .inl h0
  · exact .inr ⟨g, cap, cur, rfl, hb, (hk g rfl).trans hg, hrest⟩

set_option maxHeartbeats 1000000 in
theorem put_any (B g : Nat) (v : Value) (xs : List Nat) (A : Option Addr) (m c : Nat) (ys : List Nat) (w : World) (hw : Wtr w B g v xs) (hr : Rdv w A m 1 (valsB ys)) (hnil : A = none → c = 0) (hmx : xs.length + m ≤ 17592186044416) :
    Calls Try.prog 99 #[.pointer (some ⟨g, 0, none⟩), .slice A m c] w fun e w' => e = .returned (.tuple #[]) ∧ ∃ v', Wtr w' B g v' (xs ++ ys) ∧ Touch w w' g v.ownBlock ∧ (v'.ownBlock = v.ownBlock ∨ v'.ownBlock = some w.heap.size) := by
  have c0 := hw.cell
  have hlt := hw.lt
  have HW := Lib.hid hw
  have HR := Lib.hid hr
  have hne := row_not_block hw.own hw.block
  have HNE := Lib.hid hne
  have hl : ys.length = m := by have := hr.1; rw [valsB_length] at this; omega
  have HL := Lib.hid hl
  clear hw hr hne hl
  go_enter Try.func99, Try.ntmps99
  go_wp2_with (at_builtin; refine wpList_append_rowv elemB rfl (.tmp 10) (.tmp 11) rfl B v xs.length (valsB xs) rfl HW.out.own A m c (valsB ys) rfl HR.out (valsB_one _) hnil (by unfold maxLen; omega) (by omega) (Nat.le_trans HW.out.low (Nat.le_of_lt hlt)) ?_; intro v3 w3 hown3 hg3 hb3; obtain ⟨A3, k3, rfl, _, _, _⟩ := rdv_own hown3; have hblk : w3.heap[g]? = some (.cells #[v] 133 (0, 0)) := (hg3.block g hlt (fun he => HNE.out he.symm)).trans HW.out.block; have c3 : w3.cell? ⟨g, 0, none⟩ = some v := cell_of_row w3 g 0 _ 133 (0, 0) hblk; have f3 : w3.frozen? ⟨g, 0, none⟩ = false := by simp [World.frozen?, hblk])
  have hlt3 : g < w3.heap.size := Nat.lt_of_lt_of_le hlt hg3.size
  have hw' : Wtr (w3.setCell ⟨g, 0, none⟩ (.slice A3 (xs.length + m) k3)) B g (.slice A3 (xs.length + m) k3) (xs ++ ys) := by
    refine ⟨HW.out.low, ?_, ?_⟩
    · simp [World.setCell, Array.getElem?_modify, hblk]
    · rw [List.length_append, HL.out, valsB_append]
      exact row_stays hown3 (fun k hk => Deep.blk_setCell_other w3 _ _ k (fun he => row_not_block hown3 hblk (by rw [hk]; exact congrArg some he)))
  have ht : Touch w (w3.setCell ⟨g, 0, none⟩ (.slice A3 (xs.length + m) k3)) g v.ownBlock :=
    ⟨hg3.os, hg3.tape, hg3.output, by rw [World.size_setCell]; exact hg3.size, fun k hk h1 h2 => (Deep.blk_setCell_other w3 _ _ k h1).trans (hg3.block k hk (fun he => h2 he.symm))⟩
  have H1 := Lib.hid hw'
  have H2 := Lib.hid ht
  have H3 := Lib.hid hb3
  clear hw' ht hb3 hown3 hg3 hblk c0
  go_wp2_with fail
  refine bodyPost_end (v := .tuple #[]) (by simp [results, Try.results99, go_sem]) rfl ⟨rfl, _, H1.out, H2.out, H3.out⟩
end Go.Proofs.Ytejpjbmbcdgomaa

/- The contract of wire's Size. -/
namespace Go.Proofs.Ytejpjbmbcdgomaa
set_option maxRecDepth 100000
open Go.RowKit Go.Shelf

def renLen : Go.Shelf.Ren := ⟨fun | 129 => 112 | n => n, fun | 53 => 119 | 46 => 69 | n => n, fun | n => n⟩
theorem lays129 : Go.Proofs.Lays.n129 Try.prog renLen := {
  mixed := by kernel_rfl
  f129 := Try.func112.trans (congrArg some (by kernel_rfl))
  t3 := Try.underlying3
  a3 := Try.isAgg3
  z3 := Try.sizeOf3
  v3 := Try.zeroValue3
  t4 := Try.underlying4
  a4 := Try.isAgg4
  z4 := Try.sizeOf4
  v4 := Try.zeroValue4
  t5 := Try.underlying5
  a5 := Try.isAgg5
  z5 := Try.sizeOf5
  v5 := Try.zeroValue5
  t9 := Try.underlying9
  a9 := Try.isAgg9
  z9 := Try.sizeOf9
  v9 := Try.zeroValue9
  t46 := Try.underlying69
  a46 := Try.isAgg69
  z46 := Try.sizeOf69
  v46 := Try.zeroValue69
  t53 := Try.underlying119
  a53 := Try.isAgg119
  z53 := Try.sizeOf119
  v53 := Try.zeroValue119 }
theorem len64_any (x : Int) (h0 : 0 ≤ x) (h1 : x ≤ 18446744073709551615) (w : World) :
    Calls Try.prog 112 #[.int .u64 x] w fun e w' => e = .returned (.int .i64 (Lib.bitLen x.toNat : Int)) ∧ w = w' :=
  (Any.bits_Len64 lays129 x w h0 h1).mono fun _ _ h => ⟨h.1, h.2.symm⟩
/-- In how many bytes a count is written. -/
def sizeN (n : Nat) : Nat := max 1 ((Lib.bitLen n + 6) / 7)
theorem ret_int {a b : Int} (h : a = b) : Ending.returned (.int .i64 a) = .returned (.int .i64 b) := by rw [h]
set_option maxHeartbeats 400000 in
theorem size_any (n : Nat) (h : n < 18446744073709551616) (w : World) :
    Calls Try.prog 98 #[.int .u64 (n : Int)] w fun e w' => e = .returned (.int .i64 (sizeN n : Int)) ∧ w = w' := by
  have C := len64_any (n : Int) (by omega) (by omega) w
  rw [show ((n : Int)).toNat = n by omega] at C
  have hl := Lib.bitLen_le n 64 (Nat.le_refl _) h
  unfold sizeN
  obtain ⟨L, hL⟩ : ∃ L, L = Lib.bitLen n := ⟨_, rfl⟩
  rw [← hL] at C hl ⊢
  have D := Lib.hid C
  clear C hL h
  go_enter Try.func98, Try.ntmps98
  go_wp2_with fail
  refine Calls.mono D.out ?_
  rintro e w1 ⟨rfl, rfl⟩
  go_wp2_with fail
  go_ret
  exact ⟨ret_int (by omega), rfl⟩
end Go.Proofs.Ytejpjbmbcdgomaa
