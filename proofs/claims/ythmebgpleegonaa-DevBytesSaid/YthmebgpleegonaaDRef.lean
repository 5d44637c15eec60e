/- The document's devices in memory: what they read as. -/
import Derived.Test.YthmebgpleegonaaDEq
namespace Go.Proofs.Ythmebgpleegonaa
set_option maxRecDepth 100000
open Go.RowKit

/-- A device's sectors in a row. -/
def secs (d : Dk) : List Sx := (List.range d.size).map fun (i : Nat) => d.sure (i : Int)
theorem secs_length (d : Dk) : (secs d).length = d.size := by simp [secs]
theorem secs_get (d : Dk) (i : Nat) (hi : i < (secs d).length) : (secs d)[i] = d.sure (i : Int) := by simp [secs]
/-- A device of the document, as it lies. -/
structure RDx where
  A : Option Addr
  c : Nat
  d : Dk
  A2 : Option Addr
  c2 : Nat
def RDx.vals (r : RDx) : List Value := [.slice r.A r.d.size r.c, .slice r.A2 r.d.waits.length r.c2]
theorem RDx.vlen (r : RDx) : r.vals.length = 2 := rfl
theorem RDx.one (r : RDx) : ∀ u ∈ r.vals, u.oneCell' = true := by
  intro u hu
  rcases List.mem_cons.1 hu with rfl | hu
  · rfl
  · rw [List.mem_singleton.1 hu]; rfl
structure RDok (w : World) (X : Nat → Prop) (r : RDx) : Prop where
  sec : RowAt Sx.vals 64 w r.A r.d.size (secs r.d)
  wts : RowAt Wx.vals 65 w r.A2 r.d.waits.length r.d.waits
  n1 : r.A = none → r.c = 0
  n2 : r.A2 = none → r.c2 = 0
  x1 : ∀ a, r.A = some a → X a.block
  x2 : ∀ a, r.A2 = some a → X a.block
theorem RowAt.keep {α : Type} {f : α → List Value} {k : Nat} {w w' : World} {A : Option Addr} {n : Nat} {l : List α} {X : Nat → Prop} (h : RowAt f k w A n l) (hx : ∀ a, A = some a → X a.block) (hk : ∀ q, X q → w'.heap[q]? = w.heap[q]?) : RowAt f k w' A n l :=
  ⟨h.len, h.row.1, fun hn => by
    obtain ⟨b, off, e, hc⟩ := h.row.2 hn
    exact ⟨b, off, e, fun j u hj => (World.cell?_of_block (hk b (hx _ e))).trans (hc j u hj)⟩⟩
theorem RDok.keep {w w' : World} {X : Nat → Prop} {r : RDx} (h : RDok w X r) (hk : ∀ q, X q → w'.heap[q]? = w.heap[q]?) : RDok w' X r := ⟨h.sec.keep h.x1 hk, h.wts.keep h.x2 hk, h.n1, h.n2, h.x1, h.x2⟩
theorem RDok.wide {w : World} {X Y : Nat → Prop} {r : RDx} (h : RDok w X r) (hk : ∀ q, X q → Y q) : RDok w Y r := ⟨h.sec, h.wts, h.n1, h.n2, fun a e => hk _ (h.x1 a e), fun a e => hk _ (h.x2 a e)⟩
/-- The document's devices: they read as these; they lie in the blocks X. -/
def RSet (w : World) (X : Nat → Prop) (A : Option Addr) (c : Nat) (ds : List Dk) : Prop :=
  (∀ k, X k → k < w.heap.size) ∧ ∃ L : List RDx, L.map RDx.d = ds ∧ RowAt RDx.vals 2 w A ds.length L ∧ (A = none → c = 0) ∧ (∀ a, A = some a → X a.block) ∧ ∀ r ∈ L, RDok w X r
theorem RSet.keep {w w' : World} {X : Nat → Prop} {A : Option Addr} {c : Nat} {ds : List Dk} (h : RSet w X A c ds) (hs : w.heap.size ≤ w'.heap.size) (hk : ∀ q, X q → w'.heap[q]? = w.heap[q]?) : RSet w' X A c ds := by
  obtain ⟨h0, L, h1, h2, h3, h4, h5⟩ := h
  exact ⟨fun k e => Nat.lt_of_lt_of_le (h0 k e) hs, L, h1, h2.keep h4 hk, h3, h4, fun r hr => (h5 r hr).keep hk⟩
theorem RSet.below {w w' : World} {X : Nat → Prop} {A : Option Addr} {c : Nat} {ds : List Dk} (h : RSet w X A c ds) (hb : Below w.heap.size w w') : RSet w' X A c ds := h.keep hb.size fun q e => hb.block q (h.1 q e)
theorem RSet.lt {w : World} {X : Nat → Prop} {A : Option Addr} {c : Nat} {ds : List Dk} (h : RSet w X A c ds) : ∀ k, X k → k < w.heap.size := h.1
/-- The set's value: its devices' slice, its power; left is what is left where it is armed. -/
def rsV (A : Option Addr) (c : Nat) (ds : List Dk) (p : Pw) (left : Int) : Value := .agg #[.slice A ds.length c, .int .i64 (p.steps : Int), .int .i64 left, .bool p.ia, .bool p.gone]
def LeftOk (p : Pw) (left : Int) : Prop := p.ia = true → left = (p.armed : Int)
/-- The cells of a device. -/
theorem RSet.cells {w : World} {X : Nat → Prop} {A : Option Addr} {c : Nat} {ds : List Dk} (h : RSet w X A c ds) (hn : 0 < ds.length) :
    ∃ b off, A = some ⟨b, off, none⟩ ∧ ∀ j (hj : j < ds.length), ∃ A1 c1 A2 c2, w.cell? ⟨b, off + j * 2, none⟩ = some (.slice A1 ds[j].size c1) ∧ w.cell? ⟨b, off + j * 2 + 1, none⟩ = some (.slice A2 ds[j].waits.length c2) ∧ RDok w X ⟨A1, c1, ds[j], A2, c2⟩ := by
  obtain ⟨_, L, h1, h2, h3, _, h4⟩ := h
  obtain ⟨b, off, e, hc⟩ := h2.cells RDx.vlen hn
  have hl : L.length = ds.length := h2.len
  refine ⟨b, off, e, fun j hj => ?_⟩
  have hjL : j < L.length := by omega
  have hd : L[j].d = ds[j] := by subst h1; rw [List.getElem_map]
  refine ⟨L[j].A, L[j].c, L[j].A2, L[j].c2, ?_, ?_, ?_⟩
  · have := hc j hjL 0 _ (by omega) rfl
    rw [Nat.add_zero, hd] at this
    exact this
  · have := hc j hjL 1 _ (by omega) rfl
    rw [hd] at this
    exact this
  · have := h4 _ (List.getElem_mem hjL)
    rw [← hd]
    exact this
theorem hasB_nat (ds : List Dk) (j : Nat) (hj : j < ds.length) (i : Int) : hasB ds (j : Int) i = (decide (0 ≤ i) && decide (i < (ds[j].size : Int))) := by
  unfold hasB
  rw [decide_eq_true (show (0 : Int) ≤ (j : Int) by omega), decide_eq_true (show (j : Int) < (ds.length : Int) by omega)]
  simp [List.getElem?_eq_getElem hj]
set_option maxHeartbeats 1000000 in
theorem refhas_any {w : World} {X : Nat → Prop} {A : Option Addr} {c : Nat} {ds : List Dk} (h : RSet w X A c ds) (p : Pw) (left d i : Int) (hl : ds.length ≤ 1000) :
    Calls Try.prog 42 #[rsV A c ds p left, .int .i64 d, .int .i64 i] w fun e w' => e = .returned (.bool (hasB ds d i)) ∧ Below w.heap.size w w' := by
  have HB := Lib.hid (show ∀ o, Below w.heap.size w (w.alloc o) from fun o => (Below.refl _ _).alloc (Nat.le_refl _) o)
  unfold rsV
  by_cases h0 : 0 ≤ d
  · obtain ⟨j, rfl⟩ : ∃ j : Nat, d = (j : Int) := ⟨d.toNat, by omega⟩
    by_cases hj : j < ds.length
    · obtain ⟨b, off, rfl, hc⟩ := h.cells (by omega)
      obtain ⟨A1, c1, A2, c2, k1, k2, k3⟩ := hc j hj
      have hlt := World.block_lt_of_cell? _ _ k1
      rw [hasB_nat ds j hj]
      obtain ⟨z, hz⟩ : ∃ z, z = ds[j].size := ⟨_, rfl⟩
      rw [← hz] at k1 ⊢
      obtain ⟨N, hN⟩ : ∃ N, N = ds.length := ⟨_, rfl⟩
      rw [← hN] at hj hl ⊢
      clear hc h hz hN k2 k3
      by_cases h2 : 0 ≤ i
      · have HE := Lib.hid (show (decide (0 ≤ i) && decide (i < (z : Int))) = decide (i < (z : Int)) by rw [decide_eq_true h2, Bool.true_and])
        go_enter Try.func42, Try.ntmps42
        go_wp2_with fail
        go_ret
        exact ⟨by first | rfl | (rw [HE.out]; rfl), HB.out _⟩
      · have HE := Lib.hid (show (decide (0 ≤ i) && decide (i < (z : Int))) = false by rw [decide_eq_false h2, Bool.false_and])
        go_enter Try.func42, Try.ntmps42
        go_wp2_with fail
        go_ret
        exact ⟨by first | rfl | (rw [HE.out]; rfl), HB.out _⟩
    · have HE := Lib.hid (hasB_no (L := ds) (d := (j : Int)) (i := i) (.inr (by omega)))
      obtain ⟨N, hN⟩ : ∃ N, N = ds.length := ⟨_, rfl⟩
      rw [← hN] at hj hl ⊢
      clear h hN
      go_enter Try.func42, Try.ntmps42
      go_wp2_with fail
      go_ret
      exact ⟨by first | rfl | (rw [HE.out]; rfl), HB.out _⟩
  · have HE := Lib.hid (hasB_no (L := ds) (d := d) (i := i) (.inl (by omega)))
    clear h
    go_enter Try.func42, Try.ntmps42
    go_wp2_with fail
    go_ret
    exact ⟨by first | rfl | (rw [HE.out]; rfl), HB.out _⟩
/-- What is left behind a step. -/
def leftS (p : Pw) (left : Int) : Int := if p.gone = false ∧ p.ia = true ∧ p.armed ≠ 0 then left - 1 else left
theorem LeftOk.step {p : Pw} {left : Int} (h : LeftOk p left) : LeftOk (stepP p).2 (leftS p left) := by
  obtain ⟨st, ar, ia, gn⟩ := p
  unfold LeftOk at h ⊢
  unfold stepP leftS
  simp only at h ⊢
  cases gn <;> cases ia
  · simp
  · by_cases h0 : ar = 0
    · subst h0
      simpa using h
    · have := h rfl
      simp [h0]
      omega
  · simp
  · simpa using h
set_option maxHeartbeats 1000000 in
theorem refstep_any (A : Option Addr) (c : Nat) (ds : List Dk) (p : Pw) (left : Int) (w : World) (hk : LeftOk p left) (hs : p.steps ≤ 1000000000) (ha : p.armed ≤ 9223372036854775807) :
    Calls Try.prog 43 #[rsV A c ds p left] w fun e w' => e = .returned (.tuple #[rsV A c ds (stepP p).2 (leftS p left), .bool (stepP p).1]) ∧ Below w.heap.size w w' := by
  obtain ⟨st, ar, ia, gn⟩ := p
  have HB := Lib.hid (show ∀ o o2, Below w.heap.size w ((w.alloc o).alloc o2) from fun o o2 => ((Below.refl _ _).alloc (Nat.le_refl _) o).alloc (by simp) o2)
  unfold rsV stepP leftS
  obtain ⟨N, hN⟩ : ∃ N, N = ds.length := ⟨_, rfl⟩
  rw [← hN]
  clear hN
  simp only at hk hs ha ⊢
  cases gn with
  | true =>
    go_enter Try.func43, Try.ntmps43
    go_wp2_with fail
    exact bodyPost_ret (v := .tuple #[.agg #[.slice A N c, .int .i64 (st : Int), .int .i64 left, .bool ia, .bool true], .bool false]) (by simp [results, Try.results43, go_sem]) rfl ⟨by simp, HB.out _ _⟩
  | false =>
    cases ia with
    | false =>
      go_enter Try.func43, Try.ntmps43
      go_wp2_with fail
      exact bodyPost_ret (v := .tuple #[.agg #[.slice A N c, .int .i64 ((st : Int) + 1), .int .i64 left, .bool false, .bool false], .bool true]) (by simp [results, Try.results43, go_sem]) rfl ⟨by simp, HB.out _ _⟩
    | true =>
      have hk1 : left = (ar : Int) := hk rfl
      by_cases h0 : ar = 0
      · subst h0
        have h1 : left = 0 := hk1
        subst h1
        clear hk1 hk
        go_enter Try.func43, Try.ntmps43
        go_wp2_with fail
        exact bodyPost_ret (v := .tuple #[.agg #[.slice A N c, .int .i64 (st : Int), .int .i64 0, .bool true, .bool true], .bool false]) (by simp [results, Try.results43, go_sem]) rfl ⟨by simp, HB.out _ _⟩
      · have h1 : (left == 0) = false := by simp; omega
        have h2 : 0 < left ∧ left ≤ 9223372036854775807 := by omega
        obtain ⟨h3, h4⟩ := h2
        have H0 := Lib.hid h0
        clear hk1 hk h0
        go_enter Try.func43, Try.ntmps43
        go_wp2_with fail
        exact bodyPost_ret (v := .tuple #[.agg #[.slice A N c, .int .i64 ((st : Int) + 1), .int .i64 (left - 1), .bool true, .bool false], .bool true]) (by simp [results, Try.results43, go_sem]) rfl ⟨by simp [H0.out], HB.out _ _⟩
end Go.Proofs.Ythmebgpleegonaa
