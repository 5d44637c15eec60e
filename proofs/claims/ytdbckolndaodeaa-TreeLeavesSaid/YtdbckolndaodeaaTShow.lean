/- What a walk shows is collected. -/
import Derived.Test.YtdbckolndaodeaaTWalkR
import Derived.Test.YtdbckolndaodeaaTWalkS
namespace Go.Proofs.Ytdbckolndaodeaa
set_option maxRecDepth 100000
open Go.RowKit

def BagR (B : Nat) (w : World) (cb : Nat) (l : List Ix) : Prop := B ≤ cb ∧ ∃ v, w.heap[cb]? = some (.cells #[v] 52 (0, 0)) ∧ w.ownsRow B 63 4 v l.length (rowV Ix.vals l)
theorem BagR.later {B cb : Nat} {w w' : World} {l : List Ix} (h : BagR B w cb l) (hb : Below w.heap.size w w') : BagR B w' cb l := by
  obtain ⟨h0, v, h1, h2⟩ := h
  refine ⟨h0, v, (hb.block _ (Array.getElem?_eq_some_iff.1 h1).1).trans h1, own_same h2 fun q hq => ?_⟩
  obtain ⟨_, e⟩ := own_at h2 hq
  exact hb.block q (Array.getElem?_eq_some_iff.1 e).1
/-- The row grew, then its slice was stored. -/
theorem BagR.put {B cb n : Nat} {w w1 : World} {v v' : Value} {l : List Ix} (h0 : B ≤ cb) (h1 : w.heap[cb]? = some (.cells #[v] 52 (0, 0))) (h2 : w.ownsRow B 63 4 v n (rowV Ix.vals l)) {x : Ix} (hn : l.length = n) (ho : w1.ownsRow B 63 4 v' (n + 1) (rowV Ix.vals l ++ x.vals)) (hg : w.grownBy w1 v.ownBlock) (hq : ∀ q, v'.ownBlock = some q → v.ownBlock = some q ∨ w.heap.size ≤ q) (_ : B ≤ w.heap.size) :
    (BagR B (w1.setCell ⟨cb, 0, none⟩ v') cb (l ++ [x]) ∧ Below B w (w1.setCell ⟨cb, 0, none⟩ v')) ∧ w1.cell? ⟨cb, 0, none⟩ = some v ∧ w1.frozen? ⟨cb, 0, none⟩ = false := by
  have hcb := (Array.getElem?_eq_some_iff.1 h1).1
  have hne : v.ownBlock ≠ some cb := fun e => by
    obtain ⟨_, e2⟩ := own_at h2 e
    rw [h1] at e2
    injection e2 with e2
    injection e2 with _ e3
    exact absurd e3 (by decide)
  have h3 : w1.heap[cb]? = some (.cells #[v] 52 (0, 0)) := (hg.block _ hcb (fun e => hne e.symm)).trans h1
  have hne2 : ∀ q, v'.ownBlock = some q → q ≠ cb := fun q e e2 => by
    subst e2
    rcases hq _ e with e | e
    · exact hne e
    · omega
  refine ⟨⟨⟨h0, v', (heap_set w1 cb 0 v' h3).trans rfl, ?_⟩, ?_⟩, cell_of_row _ _ 0 _ _ _ h3, frozen_of h3 0⟩
  · rw [List.length_append, hn, rowV_append]
    exact own_same (by simpa [rowV] using ho) fun q e => heap_ne _ _ _ _ (hne2 q e)
  · refine ⟨hg.os, hg.tape, hg.output, by rw [World.size_setCell]; exact hg.size, fun k hk => ?_⟩
    rw [heap_ne _ _ _ _ (by omega)]
    exact hg.block k (by omega) fun e => by have := own_ge h2 e.symm; omega
set_option maxHeartbeats 4000000 in
theorem showR_any {B cb : Nat} {w : World} {l : List Ix} (h : BagR B w cb l) (hB : B ≤ w.heap.size) (x : Ix) (hl : l.length < 100000) :
    Calls Try.prog 39 #[.agg #[.int .i64 x.c.v, .int .i64 x.c.s, .bool x.c.dead, .int .i64 x.k], .pointer (some ⟨cb, 0, none⟩)] w fun e w' => e = .returned (.tuple #[]) ∧ BagR B w' cb (l ++ [x]) ∧ Below B w w' := by
  obtain ⟨h0, v, h1, h2⟩ := h
  obtain ⟨A, c, rfl⟩ := own_form h2
  have hcw := (Array.getElem?_eq_some_iff.1 h1).1
  obtain ⟨Wa, hWa⟩ : ∃ Wa, Wa = w.alloc (.cells #[.int .i64 x.c.v, .int .i64 x.c.s, .bool x.c.dead, .int .i64 x.k] 63) := ⟨_, rfl⟩
  have hba : Below w.heap.size w Wa := by rw [hWa]; exact (Below.refl _ _).alloc (Nat.le_refl _) _
  have hsa : Wa.heap.size = w.heap.size + 1 := by rw [hWa]; simp
  have h3 := (hba.block _ hcw).trans h1
  have h5 : Wa.heap[w.heap.size]? = some (.cells #[.int .i64 x.c.v, .int .i64 x.c.s, .bool x.c.dead, .int .i64 x.k] 63 (0, 0)) := by rw [hWa]; exact heap_alloc_new w _
  have h4 : Wa.ownsRow B 63 4 (.slice A l.length c) l.length (rowV Ix.vals l) := own_same h2 fun q hq => by
    obtain ⟨_, e⟩ := own_at h2 hq
    exact hba.block q (Array.getElem?_eq_some_iff.1 e).1
  obtain ⟨s, hs⟩ : ∃ s, s = w.heap.size := ⟨_, rfl⟩
  rw [← hs] at h5
  have c0 : Wa.cell? ⟨cb, 0, none⟩ = some (.slice A l.length c) := by rw [cell_of_row _ _ 0 _ _ _ h3]; rfl
  have x0 : Wa.cell? ⟨s, 0, none⟩ = some (.int .i64 x.c.v) := by rw [cell_of_row _ _ 0 _ _ _ h5]; rfl
  have x1 : Wa.cell? ⟨s, 1, none⟩ = some (.int .i64 x.c.s) := by rw [cell_of_row _ _ 1 _ _ _ h5]; rfl
  have x2 : Wa.cell? ⟨s, 2, none⟩ = some (.bool x.c.dead) := by rw [cell_of_row _ _ 2 _ _ _ h5]; rfl
  have x3 : Wa.cell? ⟨s, 3, none⟩ = some (.int .i64 x.k) := by rw [cell_of_row _ _ 3 _ _ _ h5]; rfl
  have hw2 : ∀ o, Below Wa.heap.size Wa (Wa.alloc o) := fun o => (Below.refl _ _).alloc (Nat.le_refl _) o
  have HO := Lib.hid (fun (o : Obj) => (own_same h4 (fun q hq => by
    obtain ⟨_, e⟩ := own_at h4 hq
    exact (hw2 o).block q (Array.getElem?_eq_some_iff.1 e).1) : (Wa.alloc o).ownsRow B 63 4 (.slice A l.length c) l.length (rowV Ix.vals l)))
  have H3 := Lib.hid (fun (o : Obj) => ((hw2 o).block _ (Array.getElem?_eq_some_iff.1 h3).1).trans h3)
  have HX := Lib.hid (And.intro hl (And.intro hB (And.intro h0 (And.intro hba hsa))))
  have HBS := Lib.hid (fun (o : Obj) => Nat.le_trans hB (Nat.le_trans hba.size (hw2 o).size))
  have HW2 := Lib.hid hw2
  have HW := Lib.hid hWa
  have HS := Lib.hid hs
  obtain ⟨n, hn⟩ : ∃ n, n = l.length := ⟨_, rfl⟩
  rw [← hn] at c0 HO H3 HX
  have HN := Lib.hid hn
  clear h0 h1 h2 h3 h4 h5 hl hB hcw hWa hba hsa hw2 hs hn
  go_enter Try.func39, Try.ntmps39
  go_upto_region 1 with fail
  rw [← HW.out, ← HS.out]
  go_wp2_with (refine wpList_append_rowg elemIx rfl (.tmp 3) (.tmp 5) rfl B (.slice A n c) n (rowV Ix.vals l) rfl (HO.out _) (some ⟨Wa.heap.size, 0, none⟩) 1 1 x.vals rfl (rdv_freshI Wa x 63) (ix1 x) (fun h => by cases h) (by have := HX.out.1; unfold maxLen; omega) (by have := HX.out.1; omega) (HBS.out _) ?_; intro v' w' ho hg hq; obtain ⟨A9, c9, rfl⟩ := own_form ho; have hp := BagR.put HX.out.2.2.1 (H3.out _) (HO.out _) HN.out.symm ho hg hq (HBS.out _); have HP := Lib.hid hp.1; obtain ⟨k8, k9⟩ := hp.2; clear hp ho hg hq)
  exact bodyPost_end (v := .tuple #[]) (by simp [results, Try.results39, go_sem]) rfl ⟨rfl, HP.out.1, (HX.out.2.2.2.1.mono HX.out.2.1).trans (((HW2.out _).mono (Nat.le_trans HX.out.2.1 HX.out.2.2.2.1.size)).trans HP.out.2)⟩
def KV (x : Ix) : List Value := [.int .i64 x.k]
theorem KV.len (x : Ix) : (KV x).length = 1 := rfl
theorem elemIn : ElemT Try.prog 48 3 1 8 :=
  ⟨Try.underlying48, by kernel_rfl, by
    obtain ⟨i, hi, hz, h1, _⟩ := info_parts (show (Try.prog.info? 3).map (fun i => (i.zero, i.size, i.bytes)) = some (some (.int .i64 0), 1, 8) by kernel_rfl)
    exact ⟨i, _, hi, hz, rfl⟩, by decide⟩
theorem kv1 (x : Ix) : ∀ u ∈ KV x, u.oneCell' = true := by
  intro u hu
  unfold KV at hu
  simp at hu
  rcases hu with rfl
  rfl
theorem rdv_freshK (w : World) (x : Ix) (T : TypeId) : Rdv (w.alloc (.cells #[.int .i64 x.k] T)) (some ⟨w.heap.size, 0, none⟩) 1 1 (KV x) :=
  ⟨rfl, fun _ => ⟨w.heap.size, 0, rfl, fun j u hj => by
    rw [Nat.zero_add, cell_of_row _ w.heap.size j _ T (0, 0) (heap_alloc_new w _)]
    unfold KV at hj
    simpa using hj⟩⟩
def BagS (B : Nat) (w : World) (cb : Nat) (l : List Ix) : Prop := B ≤ cb ∧ ∃ v, w.heap[cb]? = some (.cells #[v] 48 (0, 0)) ∧ w.ownsRow B 3 1 v l.length (rowV KV l)
theorem BagS.later {B cb : Nat} {w w' : World} {l : List Ix} (h : BagS B w cb l) (hb : Below w.heap.size w w') : BagS B w' cb l := by
  obtain ⟨h0, v, h1, h2⟩ := h
  refine ⟨h0, v, (hb.block _ (Array.getElem?_eq_some_iff.1 h1).1).trans h1, own_same h2 fun q hq => ?_⟩
  obtain ⟨_, e⟩ := own_at h2 hq
  exact hb.block q (Array.getElem?_eq_some_iff.1 e).1
/-- The row grew, then its slice was stored. -/
theorem BagS.put {B cb n : Nat} {w w1 : World} {v v' : Value} {l : List Ix} (h0 : B ≤ cb) (h1 : w.heap[cb]? = some (.cells #[v] 48 (0, 0))) (h2 : w.ownsRow B 3 1 v n (rowV KV l)) {x : Ix} (hn : l.length = n) (ho : w1.ownsRow B 3 1 v' (n + 1) (rowV KV l ++ KV x)) (hg : w.grownBy w1 v.ownBlock) (hq : ∀ q, v'.ownBlock = some q → v.ownBlock = some q ∨ w.heap.size ≤ q) (_ : B ≤ w.heap.size) :
    (BagS B (w1.setCell ⟨cb, 0, none⟩ v') cb (l ++ [x]) ∧ Below B w (w1.setCell ⟨cb, 0, none⟩ v')) ∧ w1.cell? ⟨cb, 0, none⟩ = some v ∧ w1.frozen? ⟨cb, 0, none⟩ = false := by
  have hcb := (Array.getElem?_eq_some_iff.1 h1).1
  have hne : v.ownBlock ≠ some cb := fun e => by
    obtain ⟨_, e2⟩ := own_at h2 e
    rw [h1] at e2
    injection e2 with e2
    injection e2 with _ e3
    exact absurd e3 (by decide)
  have h3 : w1.heap[cb]? = some (.cells #[v] 48 (0, 0)) := (hg.block _ hcb (fun e => hne e.symm)).trans h1
  have hne2 : ∀ q, v'.ownBlock = some q → q ≠ cb := fun q e e2 => by
    subst e2
    rcases hq _ e with e | e
    · exact hne e
    · omega
  refine ⟨⟨⟨h0, v', (heap_set w1 cb 0 v' h3).trans rfl, ?_⟩, ?_⟩, cell_of_row _ _ 0 _ _ _ h3, frozen_of h3 0⟩
  · rw [List.length_append, hn, rowV_append]
    exact own_same (by simpa [rowV] using ho) fun q e => heap_ne _ _ _ _ (hne2 q e)
  · refine ⟨hg.os, hg.tape, hg.output, by rw [World.size_setCell]; exact hg.size, fun k hk => ?_⟩
    rw [heap_ne _ _ _ _ (by omega)]
    exact hg.block k (by omega) fun e => by have := own_ge h2 e.symm; omega
set_option maxHeartbeats 4000000 in
theorem showS_any {B cb : Nat} {w : World} {l : List Ix} (h : BagS B w cb l) (hB : B ≤ w.heap.size) (x : Ix) (hl : l.length < 100000) :
    Calls Try.prog 34 #[.agg #[.int .i64 x.c.v, .int .i64 x.c.s, .bool x.c.dead, .int .i64 x.k], .pointer (some ⟨cb, 0, none⟩)] w fun e w' => e = .returned (.tuple #[]) ∧ BagS B w' cb (l ++ [x]) ∧ Below B w w' := by
  obtain ⟨h0, v, h1, h2⟩ := h
  obtain ⟨A, c, rfl⟩ := own_form h2
  have hcw := (Array.getElem?_eq_some_iff.1 h1).1
  obtain ⟨Wa, hWa⟩ : ∃ Wa, Wa = w.alloc (.cells #[.int .i64 x.c.v, .int .i64 x.c.s, .bool x.c.dead, .int .i64 x.k] 63) := ⟨_, rfl⟩
  have hba : Below w.heap.size w Wa := by rw [hWa]; exact (Below.refl _ _).alloc (Nat.le_refl _) _
  have hsa : Wa.heap.size = w.heap.size + 1 := by rw [hWa]; simp
  have h3 := (hba.block _ hcw).trans h1
  have h5 : Wa.heap[w.heap.size]? = some (.cells #[.int .i64 x.c.v, .int .i64 x.c.s, .bool x.c.dead, .int .i64 x.k] 63 (0, 0)) := by rw [hWa]; exact heap_alloc_new w _
  have h4 : Wa.ownsRow B 3 1 (.slice A l.length c) l.length (rowV KV l) := own_same h2 fun q hq => by
    obtain ⟨_, e⟩ := own_at h2 hq
    exact hba.block q (Array.getElem?_eq_some_iff.1 e).1
  obtain ⟨s, hs⟩ : ∃ s, s = w.heap.size := ⟨_, rfl⟩
  rw [← hs] at h5
  have c0 : Wa.cell? ⟨cb, 0, none⟩ = some (.slice A l.length c) := by rw [cell_of_row _ _ 0 _ _ _ h3]; rfl
  have x0 : Wa.cell? ⟨s, 0, none⟩ = some (.int .i64 x.c.v) := by rw [cell_of_row _ _ 0 _ _ _ h5]; rfl
  have x1 : Wa.cell? ⟨s, 1, none⟩ = some (.int .i64 x.c.s) := by rw [cell_of_row _ _ 1 _ _ _ h5]; rfl
  have x2 : Wa.cell? ⟨s, 2, none⟩ = some (.bool x.c.dead) := by rw [cell_of_row _ _ 2 _ _ _ h5]; rfl
  have x3 : Wa.cell? ⟨s, 3, none⟩ = some (.int .i64 x.k) := by rw [cell_of_row _ _ 3 _ _ _ h5]; rfl
  have hw2 : ∀ o, Below Wa.heap.size Wa (Wa.alloc o) := fun o => (Below.refl _ _).alloc (Nat.le_refl _) o
  have HO := Lib.hid (fun (o : Obj) => (own_same h4 (fun q hq => by
    obtain ⟨_, e⟩ := own_at h4 hq
    exact (hw2 o).block q (Array.getElem?_eq_some_iff.1 e).1) : (Wa.alloc o).ownsRow B 3 1 (.slice A l.length c) l.length (rowV KV l)))
  have H3 := Lib.hid (fun (o : Obj) => ((hw2 o).block _ (Array.getElem?_eq_some_iff.1 h3).1).trans h3)
  have HX := Lib.hid (And.intro hl (And.intro hB (And.intro h0 (And.intro hba hsa))))
  have HBS := Lib.hid (fun (o : Obj) => Nat.le_trans hB (Nat.le_trans hba.size (hw2 o).size))
  have HW2 := Lib.hid hw2
  have HW := Lib.hid hWa
  have HS := Lib.hid hs
  obtain ⟨n, hn⟩ : ∃ n, n = l.length := ⟨_, rfl⟩
  rw [← hn] at c0 HO H3 HX
  have HN := Lib.hid hn
  clear h0 h1 h2 h3 h4 h5 hl hB hcw hWa hba hsa hw2 hs hn
  go_enter Try.func34, Try.ntmps34
  go_upto_region 1 with fail
  rw [← HW.out, ← HS.out]
  go_wp2_with (refine wpList_append_rowg elemIn rfl (.tmp 3) (.tmp 6) rfl B (.slice A n c) n (rowV KV l) rfl (HO.out _) (some ⟨Wa.heap.size, 0, none⟩) 1 1 (KV x) rfl (rdv_freshK Wa x 3) (kv1 x) (fun h => by cases h) (by have := HX.out.1; unfold maxLen; omega) (by have := HX.out.1; omega) (HBS.out _) ?_; intro v' w' ho hg hq; obtain ⟨A9, c9, rfl⟩ := own_form ho; have hp := BagS.put HX.out.2.2.1 (H3.out _) (HO.out _) HN.out.symm ho hg hq (HBS.out _); have HP := Lib.hid hp.1; obtain ⟨k8, k9⟩ := hp.2; clear hp ho hg hq)
  exact bodyPost_end (v := .tuple #[]) (by simp [results, Try.results34, go_sem]) rfl ⟨rfl, HP.out.1, (HX.out.2.2.2.1.mono HX.out.2.1).trans (((HW2.out _).mono (Nat.le_trans HX.out.2.1 HX.out.2.2.2.1.size)).trans HP.out.2)⟩
end Go.Proofs.Ytdbckolndaodeaa
