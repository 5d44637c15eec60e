/- The memory of graph.Least. -/
import Derived.Test.YtgdkgoiagjjccaaGReach
import Derived.Test.YtgdkgoiagjjccaaGHand
import Derived.Test.YtgdkgoiagjjccaaZA
import Derived.Test.YtgdkgoiagjjccaaGTurn
namespace Go.Proofs.Ytgdkgoiagjjccaa
set_option maxRecDepth 100000
open Go.RowKit

/-- The blocks that Least makes, but for the rows themselves. -/
structure LS (w : World) (A : Option Addr) (n c : Nat) (f : Nat → Int) (ra : Nat → Option Addr) (rc : Nat → Nat) (R : Nat → List Int) (W : World) : Prop where
  lbox : W.heap[w.heap.size]? = some (.cells #[.slice A n c] 56 (0, 0))
  rbox : W.heap[w.heap.size + 2]? = some (.cells #[.slice (some ⟨w.heap.size + 1, 0, none⟩) n n] 38 (0, 0))
  obox : W.heap[w.heap.size + 4]? = some (.cells #[.slice (some ⟨w.heap.size + 3, 0, none⟩) n n] 56 (0, 0))
  nums : LV w.heap.size w (w.heap.size + 1) n f W
  cells : ∀ x, x < n → W.cell? ⟨w.heap.size + 3, x, none⟩ = some (.slice (ra x) (R x).length (rc x))
  fr : ∀ o, W.frozen? ⟨w.heap.size + 3, o, none⟩ = false
  size : w.heap.size + 5 ≤ W.heap.size
/-- A row that is done. -/
def RowD (W : World) (lo hi : Nat) (a : Option Addr) (l : List Int) : Prop :=
  0 < l.length → ∃ g, a = some ⟨g, 0, none⟩ ∧ lo ≤ g ∧ g < hi ∧ (∀ o, W.frozen? ⟨g, o, none⟩ = false) ∧ ∀ u, u < l.length → W.cell? ⟨g, u, none⟩ = some (.int .i64 (l.getD u 0))
section
variable {w W W' : World} {A : Option Addr} {n c : Nat} {f : Nat → Int} {ra : Nat → Option Addr} {rc : Nat → Nat} {R : Nat → List Int}
theorem LV.but {B : Nat} {W0 : World} {g : Nat} (H : LV B W0 g n f W) (hb : Below B W0 W') (hz : W.heap.size ≤ W'.heap.size) (hg : W'.heap[g]? = W.heap[g]?) : LV B W0 g n f W' :=
  ⟨hb, H.lo, Nat.lt_of_lt_of_le H.lt hz, fun x hx => by rw [(cell_frozen hg).1]; exact H.cells x hx, fun o => by rw [(cell_frozen hg).2]; exact H.fr o⟩
theorem LS.but (H : LS w A n c f ra rc R W) {l : Nat} (hl : w.heap.size + 5 ≤ l) (hb : Below w.heap.size w W') (hz : W.heap.size ≤ W'.heap.size) (hk : ∀ q, q < W.heap.size → q ≠ l → W'.heap[q]? = W.heap[q]?) : LS w A n c f ra rc R W' := by
  have hs := H.size
  have k0 := hk w.heap.size (by omega) (by omega)
  have k1 := hk (w.heap.size + 1) (by omega) (by omega)
  have k2 := hk (w.heap.size + 2) (by omega) (by omega)
  have k3 := hk (w.heap.size + 3) (by omega) (by omega)
  have k4 := hk (w.heap.size + 4) (by omega) (by omega)
  exact ⟨k0.trans H.lbox, k2.trans H.rbox, k4.trans H.obox, H.nums.but hb hz k1, fun x hx => by rw [(cell_frozen k3).1]; exact H.cells x hx, fun o => by rw [(cell_frozen k3).2]; exact H.fr o, by omega⟩
theorem RowD.but {lo hi : Nat} {a : Option Addr} {l : List Int} (H : RowD W lo hi a l) (hk : ∀ q, lo ≤ q → q < hi → W'.heap[q]? = W.heap[q]?) : RowD W' lo hi a l := fun h => by
  obtain ⟨g, e, h1, h2, h3, h4⟩ := H h
  have k := hk g h1 h2
  exact ⟨g, e, h1, h2, fun o => by rw [(cell_frozen k).2]; exact h3 o, fun u hu => by rw [(cell_frozen k).1]; exact h4 u hu⟩
theorem RowD.up {lo hi hi' : Nat} {a : Option Addr} {l : List Int} (H : RowD W lo hi a l) (h : hi ≤ hi') : RowD W lo hi' a l := fun h0 => by
  obtain ⟨g, e, h1, h2, h3, h4⟩ := H h0
  exact ⟨g, e, h1, by omega, h3, h4⟩
theorem own_but {B e n : Nat} {v : Value} {xs : List Value} (H : W.ownsRow B e 1 v n xs) {l : Nat} (hno : ∀ o, W.heap[l]? = some o → o.isCells = false) (hk : ∀ q, q < W.heap.size → q ≠ l → W'.heap[q]? = W.heap[q]?) : W'.ownsRow B e 1 v n xs :=
  own_stays H fun q hq => by
    refine hk q (H.lt q hq).2 fun e => ?_
    subst e
    rcases H.2 with ⟨rfl, _⟩ | ⟨g, cap, cur, rfl, _, hg, _⟩
    · cases hq
    · injection hq with hq
      subst hq
      have := hno _ hg
      cases this
/-- Where what was put off for the end lies. -/
def Offs (b : Nat) (ds : List Nat) (W : World) : Prop := ds.Pairwise (· > ·) ∧ ∀ D ∈ ds, b ≤ D ∧ W.heap[D]? = some (.deferred (some []))
theorem Offs.but {b : Nat} {ds : List Nat} {l : Nat} (H : Offs b ds W) (hl : ∀ D ∈ ds, D ≠ l) (hk : ∀ q, q < W.heap.size → q ≠ l → W'.heap[q]? = W.heap[q]?) : Offs b ds W' :=
  ⟨H.1, fun D hD => ⟨(H.2 D hD).1, (hk D (Array.getElem?_eq_some_iff.1 (H.2 D hD).2).1 (hl D hD)).trans (H.2 D hD).2⟩⟩
theorem off_lt {b : Nat} {ds : List Nat} (h : Offs b ds W) : ∀ D ∈ ds, D < W.heap.size := fun D hD => (Array.getElem?_eq_some_iff.1 (h.2 D hD).2).1
theorem cell_is {g o : Nat} {v : Value} (h : W.cell? ⟨g, o, none⟩ = some v) : ∀ x, W.heap[g]? = some x → x.isCells = true := fun x hx => by
  cases x with
  | cells => rfl
  | _ => simp [World.cell?, hx] at h
end
/-- Between two rounds of the outer loop. -/
structure LO (w : World) (A : Option Addr) (n c : Nat) (ls : List (List Int)) (k : Nat) (ds : List Nat) (f : Nat → Int) (ra : Nat → Option Addr) (rc : Nat → Nat) (R : Nat → List Int) (W : World) : Prop where
  ls' : LS w A n c f ra rc R W
  low : ∀ x, f x < (k : Int) ∨ f x = 0
  rows : ∀ j, j < k → RowD W (w.heap.size + 5) W.heap.size (ra j) (R j) ∧ R j = leastRow ls j
  later : ∀ j, k ≤ j → ra j = none ∧ rc j = 0 ∧ R j = []
  offs : Offs (w.heap.size + 5) ds W
/-- Within a round of it: p of the row are looked at, what m of them reach is marked. -/
structure LI (w : World) (A : Option Addr) (n c : Nat) (ls : List (List Int)) (i z : Nat) (A' : Option Addr) (L c' : Nat) (ds : List Nat) (p m : Nat) (f : Nat → Int) (ra : Nat → Option Addr) (rc : Nat → Nat) (R : Nat → List Int) (W : World) : Prop where
  ls' : LS w A n c f ra rc R W
  low : ∀ x, f x < (i : Int) ∨ f x = 0 ∨ f x = (i : Int)
  marks : 0 < L → ∀ x, f x = (i : Int) ↔ Mk ls i m x
  rows : ∀ j, j < i → RowD W (w.heap.size + 5) z (ra j) (R j) ∧ R j = leastRow ls j
  later : ∀ j, i < j → ra j = none ∧ rc j = 0 ∧ R j = []
  row : R i = selR ls i p
  own : W.ownsRow (z + 3) 3 1 (.slice (ra i) (R i).length (rc i)) (R i).length (valsZ (R i))
  offs : Offs (w.heap.size + 5) ds W
  early : ∀ D ∈ ds, D < z
  ibox : W.heap[z]? = some (.cells #[.int .i64 (i : Int)] 3 (0, 0))
  nbox : W.heap[z + 1]? = some (.cells #[.slice A' L c'] 38 (0, 0))
  bbox : W.heap[z + 2]? = some (.cells #[.slice A' L c'] 38 (0, 0))
  lo : w.heap.size + 5 ≤ z
  hi : z + 3 ≤ W.heap.size
section
variable {w W W' : World} {A : Option Addr} {n c : Nat} {ls : List (List Int)} {i z : Nat} {A' : Option Addr} {L c' : Nat} {ds : List Nat} {p m : Nat} {f : Nat → Int} {ra : Nat → Option Addr} {rc : Nat → Nat} {R : Nat → List Int}
theorem LI.but (H : LI w A n c ls i z A' L c' ds p m f ra rc R W) {l : Nat} (hl : z + 3 ≤ l) (hno : ∀ o, W.heap[l]? = some o → o.isCells = false) (hb : Below w.heap.size w W') (hz : W.heap.size ≤ W'.heap.size) (hk : ∀ q, q < W.heap.size → q ≠ l → W'.heap[q]? = W.heap[q]?) : LI w A n c ls i z A' L c' ds p m f ra rc R W' := by
  have h1 := H.lo
  have h2 := H.hi
  exact ⟨H.ls'.but (by omega) hb hz hk, H.low, H.marks, fun j hj => ⟨(H.rows j hj).1.but fun q _ hq => hk q (by omega) (by omega), (H.rows j hj).2⟩, H.later, H.row, own_but H.own hno hk, H.offs.but (fun D hD => by have := H.early D hD; omega) hk, H.early, (hk _ (by omega) (by omega)).trans H.ibox, (hk _ (by omega) (by omega)).trans H.nbox, (hk _ (by omega) (by omega)).trans H.bbox, h1, by omega⟩
theorem LI.ext (H : LI w A n c ls i z A' L c' ds p m f ra rc R W) (hb : Below W.heap.size W W') : LI w A n c ls i z A' L c' ds p m f ra rc R W' :=
  H.but (l := W.heap.size) H.hi (fun o ho => by rw [Array.getElem?_eq_none (Nat.le_refl _)] at ho; cases ho) (H.ls'.nums.below.trans (hb.mono (by have := H.ls'.size; omega))) hb.size fun q hq _ => hb.block q hq
theorem LI.turn (H : LI w A n c ls i z A' L c' ds p m f ra rc R W) {l : Nat} {o : Obj} (o' : Obj) (hl : z + 3 ≤ l) (ho : W.heap[l]? = some o) (hc : o.isCells = false) : LI w A n c ls i z A' L c' ds p m f ra rc R (W.putObj l o') :=
  H.but hl (fun o2 h2 => by rw [ho] at h2; cases h2; exact hc) (H.ls'.nums.below.grown (grownBy_putObj' W l o') (by have := H.ls'.size; omega) fun k e => by cases e; have := H.lo; omega) (grownBy_putObj' W l o').size fun q _ hq => World.putObj_heap_other hq
/-- One that is marked is left out. -/
theorem LI.skip (H : LI w A n c ls i z A' L c' ds p p f ra rc R W) (hg : GoodL ls) (hL : L = (ls.getD i []).length) (hp : p < L) {j : Nat} (hj : (ls.getD i []).getD (L - 1 - p) 0 = (j : Int)) (hm : f j = (i : Int)) : LI w A n c ls i z A' L c' ds (p + 1) (p + 1) f ra rc R W := by
  subst hL
  have hmk := (H.marks (by omega) j).1 hm
  have hok := (mk_ok hg hp hj).1 hmk
  refine ⟨H.ls', H.low, fun hL x => (H.marks hL x).trans (mk_skip hg hp hj hmk x).symm, H.rows, H.later, ?_, H.own, H.offs, H.early, H.ibox, H.nbox, H.bbox, H.lo, H.hi⟩
  rw [selR_succ hp, hj, hok, H.row]
  simp
/-- One that reaches no more that counts. -/
theorem LI.first (H : LI w A n c ls i z A' L c' ds (p + 1) p f ra rc R W) (hg : GoodL ls) (hL : L = (ls.getD i []).length) (hp : p < L) {j : Nat} (hj : (ls.getD i []).getD (L - 1 - p) 0 = (j : Int)) (hm : ¬ (ls.getD i []).getD 0 0 < (j : Int)) : LI w A n c ls i z A' L c' ds (p + 1) (p + 1) f ra rc R W := by
  subst hL
  exact ⟨H.ls', H.low, fun hL x => (H.marks hL x).trans (mk_first hg hp hj hm x).symm, H.rows, H.later, H.row, H.own, H.offs, H.early, H.ibox, H.nbox, H.bbox, H.lo, H.hi⟩
/-- What one reaches is marked. -/
theorem LI.mark (H : LI w A n c ls i z A' L c' ds (p + 1) p f ra rc R W) {f' : Nat → Int} (hin : i < n) (hO : Only1 W (w.heap.size + 1) W') (hV : LV w.heap.size w (w.heap.size + 1) n f' W') (hst : ∀ x, f' x = f x ∨ f' x = (i : Int)) (hM : ∀ x, f' x = (i : Int) ↔ Mk ls i (p + 1) x) :
    LI w A n c ls i z A' L c' ds (p + 1) (p + 1) f' ra rc R W' ∧ KeepsOthers W W' := by
  have h1 := H.lo
  have h2 := H.hi
  have h3 := H.ls'.size
  have hk := hO.block
  have k0 := hk w.heap.size (by omega) (by omega)
  have k2 := hk (w.heap.size + 2) (by omega) (by omega)
  have k3 := hk (w.heap.size + 3) (by omega) (by omega)
  have k4 := hk (w.heap.size + 4) (by omega) (by omega)
  refine ⟨⟨⟨k0.trans H.ls'.lbox, k2.trans H.ls'.rbox, k4.trans H.ls'.obox, hV, fun x hx => by rw [(cell_frozen k3).1]; exact H.ls'.cells x hx, fun o => by rw [(cell_frozen k3).2]; exact H.ls'.fr o, Nat.le_trans h3 hO.size⟩, fun x => ?_, fun _ => hM,
    fun j hj => ⟨(H.rows j hj).1.but fun q hq1 hq => hk q (by omega) (by omega), (H.rows j hj).2⟩, H.later, H.row, own_stays H.own fun q hq => hk q (H.own.lt q hq).2 (by have := (H.own.lt q hq).1; omega),
    H.offs.but (fun D hD => by have := (H.offs.2 D hD).1; omega) hk, H.early, (hk _ (by omega) (by omega)).trans H.ibox, (hk _ (by omega) (by omega)).trans H.nbox, (hk _ (by omega) (by omega)).trans H.bbox, h1, Nat.le_trans h2 hO.size⟩, hO.size, fun q o hq ho => ?_⟩
  · rcases hst x with e | e
    · rw [e]; exact H.low x
    · exact .inr (.inr e)
  · refine (hk q (Array.getElem?_eq_some_iff.1 hq).1 fun e => ?_).trans hq
    subst e
    rw [cell_is (H.ls'.nums.cells i hin) o hq] at ho
    cases ho
/-- One more in the row. -/
theorem LI.push (H : LI w A n c ls i z A' L c' ds p p f ra rc R W) (hg : GoodL ls) (hL : L = (ls.getD i []).length) (hp : p < L) {j : Nat} (hj : (ls.getD i []).getD (L - 1 - p) 0 = (j : Int)) (hm : f j ≠ (i : Int)) {Wa Wb : World} {a1 : Option Addr} {c1 : Nat} (hin : i < n)
    (hba : Below W.heap.size W Wa) (ho : Wb.ownsRow (z + 3) 3 1 (.slice a1 ((R i).length + 1) c1) ((R i).length + 1) (valsZ (R i) ++ [.int .i64 (j : Int)])) (hb : Below (z + 3) Wa Wb)
    (hk : ∀ q, q < Wa.heap.size → some q ≠ (Value.slice (ra i) (R i).length (rc i)).ownBlock → Wb.heap[q]? = Wa.heap[q]?) :
    LI w A n c ls i z A' L c' ds (p + 1) p f (upd ra i a1) (upd rc i c1) (upd R i (R i ++ [(j : Int)])) (Wb.setCell ⟨w.heap.size + 3, i, none⟩ (.slice a1 ((R i).length + 1) c1)) ∧
      KeepsOthers W (Wb.setCell ⟨w.heap.size + 3, i, none⟩ (.slice a1 ((R i).length + 1) c1)) := by
  subst hL
  have h1 := H.lo
  have h2 := H.hi
  have h3 := H.ls'.size
  have hsz := hba.size
  have hsz2 := hb.size
  obtain ⟨W3, hW3⟩ : ∃ W3, W3 = Wb.setCell ⟨w.heap.size + 3, i, none⟩ (.slice a1 ((R i).length + 1) c1) := ⟨_, rfl⟩
  have hset : ∀ q, q ≠ w.heap.size + 3 → W3.heap[q]? = Wb.heap[q]? := fun q hq => by rw [hW3]; exact Below.heap_setCell _ _ _ _ hq
  have hz3 : W3.heap.size = Wb.heap.size := by rw [hW3, World.size_setCell]
  have low : ∀ q, q < z + 3 → Wb.heap[q]? = W.heap[q]? := fun q hq => (hb.block q hq).trans (hba.block q (by omega))
  have low3 : ∀ q, q < z + 3 → q ≠ w.heap.size + 3 → W3.heap[q]? = W.heap[q]? := fun q hq hne => (hset q hne).trans (low q hq)
  have hok : okL ls i (j : Int) = true := by
    cases hr : okL ls i (j : Int) with
    | true => rfl
    | false => exact absurd ((H.marks (by omega) j).2 ((mk_ok hg hp hj).2 hr)) hm
  have hbw : Below w.heap.size w W3 := by
    rw [hW3]
    exact ((H.ls'.nums.below.trans (hba.mono (by omega))).trans (hb.mono (by omega))).setCell (by show _ ≤ w.heap.size + 3; omega) _
  have hci : ∀ x, x < n → Wb.cell? ⟨w.heap.size + 3, x, none⟩ = some (.slice (ra x) (R x).length (rc x)) := fun x hx => by rw [(cell_frozen (low _ (by omega))).1]; exact H.ls'.cells x hx
  rw [← hW3]
  refine ⟨⟨⟨(low3 _ (by omega) (by omega)).trans H.ls'.lbox, (low3 _ (by omega) (by omega)).trans H.ls'.rbox, (low3 _ (by omega) (by omega)).trans H.ls'.obox, H.ls'.nums.but hbw (by omega) (low3 _ (by omega) (by omega)), fun x hx => ?_, fun o => by rw [hW3, World.frozen?_setCell, (cell_frozen (low _ (by omega))).2]; exact H.ls'.fr o, by omega⟩, H.low, H.marks,
    fun y hy => ?_, fun y hy => ?_, ?_, ?_, ⟨H.offs.1, fun D hD => ?_⟩, H.early, (low3 _ (by omega) (by omega)).trans H.ibox, (low3 _ (by omega) (by omega)).trans H.nbox, (low3 _ (by omega) (by omega)).trans H.bbox, h1, by omega⟩, by omega, fun q o hq ho2 => ?_⟩
  · by_cases e : x = i
    · subst e
      rw [upd_same, upd_same, upd_same, hW3, List.length_append, List.length_singleton]
      exact set_same (hci x hx)
    · rw [upd_other _ _ e, upd_other _ _ e, upd_other _ _ e, hW3, set_off e]
      exact hci x hx
  · rw [upd_other _ _ (show y ≠ i by omega), upd_other _ _ (show y ≠ i by omega)]
    exact ⟨(H.rows y hy).1.but fun q hq1 hq2 => low3 q (by omega) (by omega), (H.rows y hy).2⟩
  · rw [upd_other _ _ (show y ≠ i by omega), upd_other _ _ (show y ≠ i by omega), upd_other _ _ (show y ≠ i by omega)]
    exact H.later y hy
  · rw [upd_same, selR_succ hp, hj, hok, H.row]
    simp
  · rw [upd_same, upd_same, upd_same, List.length_append, List.length_singleton, valsZ_snoc]
    exact own_stays ho fun q hq => hset q (by have := (ho.lt q hq).1; omega)
  · have hd := H.offs.2 D hD
    have he := H.early D hD
    exact ⟨hd.1, (low3 D (by omega) (by omega)).trans hd.2⟩
  · have hq1 := (Array.getElem?_eq_some_iff.1 hq).1
    have n1 : q ≠ w.heap.size + 3 := fun e => by
      subst e
      rw [cell_is (H.ls'.cells i hin) o hq] at ho2
      cases ho2
    refine (hset q n1).trans ((hk q (by omega) fun e => ?_).trans ((hba.block q hq1).trans hq))
    rcases H.own.2 with ⟨e2, _⟩ | ⟨g, cap, cur, e2, _, hg2, _⟩
    · injection e2 with e2 _ _
      rw [e2] at e
      cases e
    · injection e2 with e2 _ _
      rw [e2] at e
      injection e with e
      subst e
      rw [hq] at hg2
      cases hg2
      cases ho2
end
end Go.Proofs.Ytgdkgoiagjjccaa
