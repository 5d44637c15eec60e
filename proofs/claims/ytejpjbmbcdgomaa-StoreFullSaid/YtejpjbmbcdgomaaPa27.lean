/- TShowR, TTrR: put together. -/
import Derived.Test.YtejpjbmbcdgomaaPa26
import Derived.Test.YtejpjbmbcdgomaaPa24
import Derived.Test.YtejpjbmbcdgomaaPa25
/- What a walk shows is collected (of Range alone). -/
namespace Go.Proofs.Ytejpjbmbcdgomaa
set_option maxRecDepth 100000
open Go.RowKit

def BagR (B : Nat) (w : World) (cb : Nat) (l : List Ix) : Prop := B ≤ cb ∧ ∃ v, w.heap[cb]? = some (.cells #[v] 152 (0, 0)) ∧ w.ownsRow B 166 4 v l.length (rowV Ix.vals l)
theorem BagR.later {B cb : Nat} {w w' : World} {l : List Ix} (h : BagR B w cb l) (hb : Below w.heap.size w w') : BagR B w' cb l := by
  obtain ⟨h0, v, h1, h2⟩ := h
  refine ⟨h0, v, (hb.block _ (Array.getElem?_eq_some_iff.1 h1).1).trans h1, own_same h2 fun q hq => ?_⟩
  obtain ⟨_, e⟩ := own_at h2 hq
  exact hb.block q (Array.getElem?_eq_some_iff.1 e).1
/-- The row grew, then its slice was stored. -/
theorem BagR.put {B cb n : Nat} {w w1 : World} {v v' : Value} {l : List Ix} (h0 : B ≤ cb) (h1 : w.heap[cb]? = some (.cells #[v] 152 (0, 0))) (h2 : w.ownsRow B 166 4 v n (rowV Ix.vals l)) {x : Ix} (hn : l.length = n) (ho : w1.ownsRow B 166 4 v' (n + 1) (rowV Ix.vals l ++ x.vals)) (hg : w.grownBy w1 v.ownBlock) (hq : ∀ q, v'.ownBlock = some q → v.ownBlock = some q ∨ w.heap.size ≤ q) (_ : B ≤ w.heap.size) :
    (BagR B (w1.setCell ⟨cb, 0, none⟩ v') cb (l ++ [x]) ∧ Below B w (w1.setCell ⟨cb, 0, none⟩ v')) ∧ w1.cell? ⟨cb, 0, none⟩ = some v ∧ w1.frozen? ⟨cb, 0, none⟩ = false := by
  have hcb := (Array.getElem?_eq_some_iff.1 h1).1
  have hne : v.ownBlock ≠ some cb := fun e => by
    obtain ⟨_, e2⟩ := own_at h2 e
    rw [h1] at e2
    injection e2 with e2
    injection e2 with _ e3
    exact absurd e3 (by decide)
  have h3 : w1.heap[cb]? = some (.cells #[v] 152 (0, 0)) := (hg.block _ hcb (fun e => hne e.symm)).trans h1
  have hne2 : ∀ q, v'.ownBlock = some q → q ≠ cb := fun q e e2 => by
    subst e2
    rcases hq _ e with e | e
    · exact hne e
    · omega
  refine ⟨⟨⟨h0, v', (heap_set w1 cb 0 v' h3).trans rfl, ?_⟩, ?_⟩, cell_of_row _ _ 0 _ _ _ h3, frozen_of h3 0⟩
  · rw [List.length_append, hn, rowV_append]
    exact own_same (by simpa [rowV] using ho) fun q e => heap_ne _ _ _ _ (hne2 q e)
  · refine ⟨hg.os, hg.tape, hg.output, by rw [World.size_setCell]; exact hg.size, fun k hk => ?_⟩
    rw [heap_ne _ _ _ _ (by omega)]
    exact hg.block k (by omega) fun e => by have := own_ge h2 e.symm; omega
set_option maxHeartbeats 4000000 in
theorem showR_any {B cb : Nat} {w : World} {l : List Ix} (h : BagR B w cb l) (hB : B ≤ w.heap.size) (x : Ix) (hl : l.length < 100000) :
    Calls Try.prog 87 #[.agg #[.int .i64 x.c.v, .int .i64 x.c.s, .bool x.c.dead, .int .i64 x.k], .pointer (some ⟨cb, 0, none⟩)] w fun e w' => e = .returned (.tuple #[]) ∧ BagR B w' cb (l ++ [x]) ∧ Below B w w' := by
  obtain ⟨h0, v, h1, h2⟩ := h
  obtain ⟨A, c, rfl⟩ := own_form h2
  have hcw := (Array.getElem?_eq_some_iff.1 h1).1
  obtain ⟨Wa, hWa⟩ : ∃ Wa, Wa = w.alloc (.cells #[.int .i64 x.c.v, .int .i64 x.c.s, .bool x.c.dead, .int .i64 x.k] 166) := ⟨_, rfl⟩
  have hba : Below w.heap.size w Wa := by rw [hWa]; exact (Below.refl _ _).alloc (Nat.le_refl _) _
  have hsa : Wa.heap.size = w.heap.size + 1 := by rw [hWa]; simp
  have h3 := (hba.block _ hcw).trans h1
  have h5 : Wa.heap[w.heap.size]? = some (.cells #[.int .i64 x.c.v, .int .i64 x.c.s, .bool x.c.dead, .int .i64 x.k] 166 (0, 0)) := by rw [hWa]; exact heap_alloc_new w _
  have h4 : Wa.ownsRow B 166 4 (.slice A l.length c) l.length (rowV Ix.vals l) := own_same h2 fun q hq => by
    obtain ⟨_, e⟩ := own_at h2 hq
    exact hba.block q (Array.getElem?_eq_some_iff.1 e).1
  obtain ⟨s, hs⟩ : ∃ s, s = w.heap.size := ⟨_, rfl⟩
  rw [← hs] at h5
  have c0 : Wa.cell? ⟨cb, 0, none⟩ = some (.slice A l.length c) := by rw [cell_of_row _ _ 0 _ _ _ h3]; rfl
  have x0 : Wa.cell? ⟨s, 0, none⟩ = some (.int .i64 x.c.v) := by rw [cell_of_row _ _ 0 _ _ _ h5]; rfl
  have x1 : Wa.cell? ⟨s, 1, none⟩ = some (.int .i64 x.c.s) := by rw [cell_of_row _ _ 1 _ _ _ h5]; rfl
  have x2 : Wa.cell? ⟨s, 2, none⟩ = some (.bool x.c.dead) := by rw [cell_of_row _ _ 2 _ _ _ h5]; rfl
  have x3 : Wa.cell? ⟨s, 3, none⟩ = some (.int .i64 x.k) := by rw [cell_of_row _ _ 3 _ _ _ h5]; rfl
  have hw2 : ∀ o, Below Wa.heap.size Wa (Wa.alloc o) := fun o => (Below.refl _ _).alloc (Nat.le_refl _) o
  have HO := Lib.hid (fun (o : Obj) => (own_same h4 (fun q hq => by
    obtain ⟨_, e⟩ := own_at h4 hq
    exact (hw2 o).block q (Array.getElem?_eq_some_iff.1 e).1) : (Wa.alloc o).ownsRow B 166 4 (.slice A l.length c) l.length (rowV Ix.vals l)))
  have H3 := Lib.hid (fun (o : Obj) => ((hw2 o).block _ (Array.getElem?_eq_some_iff.1 h3).1).trans h3)
  have HX := Lib.hid (And.intro hl (And.intro hB (And.intro h0 (And.intro hba hsa))))
  have HBS := Lib.hid (fun (o : Obj) => Nat.le_trans hB (Nat.le_trans hba.size (hw2 o).size))
  have HW2 := Lib.hid hw2
  have HW := Lib.hid hWa
  have HS := Lib.hid hs
  obtain ⟨n, hn⟩ : ∃ n, n = l.length := ⟨_, rfl⟩
  rw [← hn] at c0 HO H3 HX
  have HN := Lib.hid hn
  clear h0 h1 h2 h3 h4 h5 hl hB hcw hWa hba hsa hw2 hs hn
  go_enter Try.func87, Try.ntmps87
  go_upto_region 1 with fail
  rw [← HW.out, ← HS.out]
  go_wp2_with (refine wpList_append_rowg elemIx rfl (.tmp 3) (.tmp 5) rfl B (.slice A n c) n (rowV Ix.vals l) rfl (HO.out _) (some ⟨Wa.heap.size, 0, none⟩) 1 1 x.vals rfl (rdv_freshI Wa x 166) (ix1 x) (fun h => by cases h) (by have := HX.out.1; unfold maxLen; omega) (by have := HX.out.1; omega) (HBS.out _) ?_; intro v' w' ho hg hq; obtain ⟨A9, c9, rfl⟩ := own_form ho; have hp := BagR.put HX.out.2.2.1 (H3.out _) (HO.out _) HN.out.symm ho hg hq (HBS.out _); have HP := Lib.hid hp.1; obtain ⟨k8, k9⟩ := hp.2; clear hp ho hg hq)
  exact bodyPost_end (v := .tuple #[]) (by simp [results, Try.results87, go_sem]) rfl ⟨rfl, HP.out.1, (HX.out.2.2.2.1.mono HX.out.2.1).trans (((HW2.out _).mono (Nat.le_trans HX.out.2.1 HX.out.2.2.2.1.size)).trans HP.out.2)⟩
end Go.Proofs.Ytejpjbmbcdgomaa

/- Tree.Copy, Tree.Range. -/
namespace Go.Proofs.Ytejpjbmbcdgomaa
set_option maxRecDepth 100000
open Go.RowKit

set_option maxHeartbeats 4000000 in
theorem tcopy_any {w : World} {F : Nat → Prop} {tb d : Nat} {l : List Ix} (h : TL w F tb l d) : Calls Try.prog 76 #[.pointer (some ⟨tb, 0, none⟩)] w fun e w' => ∃ F' tb', e = .returned (.pointer (some ⟨tb', 0, none⟩)) ∧ TL w' F' tb' l d ∧ (∀ k, F' k → w.heap.size ≤ k) ∧ Below w.heap.size w w' := by
  obtain ⟨T, m, rfl, rfl, hT⟩ := h
  have HC := Lib.hid (copy_any T.d m w.drew (hT.tu.below (below_drewI (Below.refl _ _))))
  have c0 : w.cell? ⟨tb, 0, none⟩ = some (.pointer (some ⟨(root T.d m).p, 0, none⟩)) := by rw [cell_of_row _ _ 0 _ _ _ hT.block]; rfl
  have c1 : w.cell? ⟨tb, 1, none⟩ = some (.int .i64 (T.items.length : Int)) := by rw [cell_of_row _ _ 1 _ _ _ hT.block]; rfl
  have H := Lib.hid hT
  obtain ⟨many, hmany⟩ : ∃ many, many = (T.items.length : Int) := ⟨_, rfl⟩
  rw [← hmany] at c1
  have HM := Lib.hid hmany
  clear hT hmany
  go_enter Try.func76, Try.ntmps76
  go_upto_region 3 with fail
  go_region_law (go_simp; go_at_call 100; refine Calls.mono HC.out ?_; rintro e8 w8 ⟨m', rfl, hN⟩; have HN := Lib.hid (NewT.undrew hN); have c2 := ((NewT.undrew hN).2.2.2.2.cell (p := ⟨tb, 1, none⟩) (World.block_lt_of_cell? _ _ c1)).trans c1; clear hN)
  all_goals
    go_wp2_with fail
    go_ret
    obtain ⟨h1, h2, h3, h4, h5⟩ := HN.out
    have hb : Below w8.heap.size w8 (w8.alloc (.cells #[.pointer (some ⟨(root T.d m').p, 0, none⟩), .int .i64 many] 157)) := (Below.refl _ _).alloc (Nat.le_refl _) _
    refine ⟨fun q => BL (nodes T.d m') q ∨ q = w8.heap.size, w8.heap.size, rfl, ⟨T, m', rfl, rfl, H.out.ok, h1.trans H.out.tr, h2, h3.below hb, by rw [heap_alloc_new w8, HM.out], fun e => by have := h3.lt e; omega, fun q => Iff.rfl⟩, fun q e => ?_, h5.alloc h5.size _⟩
    rcases e with e | e
    · exact h4 q e
    · rw [e]; exact h5.size
theorem shows_r (w0 : World) : Shows 87 w0.heap.size w0 (fun l w => BagR w0.heap.size w w0.heap.size l ∧ Below w0.heap.size w0 w) :=
  ⟨fun _ _ h => h.2, fun _ _ _ h hb => ⟨h.1.later hb, h.2.trans (hb.mono h.2.size)⟩, fun _ _ x h hl => Calls.mono (showR_any h.1 h.2.size x hl) fun _ _ ⟨e1, e2, e3⟩ => ⟨e1, e2, h.2.trans e3⟩⟩
theorem bag_start (w : World) : BagR w.heap.size (w.alloc (.cells #[.slice none 0 0] 152)) w.heap.size [] :=
  ⟨Nat.le_refl _, _, heap_alloc_new w _, World.ownsRow_nil _ _ _ _⟩
set_option maxHeartbeats 4000000 in
theorem trange_any {w : World} {F : Nat → Prop} {tb d : Nat} {l : List Ix} (h : TL w F tb l d) (hl : l.length ≤ 100000) (lo hi : Int) : Calls Try.prog 52 #[.pointer (some ⟨tb, 0, none⟩), .int .i64 lo, .int .i64 hi] w fun e w' => e = .returned (.func (.func 88) #[] #[.pointer (some ⟨w.heap.size, 0, none⟩)]) ∧ BagR w.heap.size w' w.heap.size (rng lo hi l) ∧ Below w.heap.size w w' := by
  have hb := (Below.refl _ w).alloc (Nat.le_refl _) (.cells #[.slice none 0 0] 152)
  obtain ⟨T, m, rfl, rfl, hT⟩ := h
  have c0 : (w.alloc (.cells #[.slice none 0 0] 152)).cell? ⟨tb, 0, none⟩ = some (.pointer (some ⟨(root T.d m).p, 0, none⟩)) := by rw [cell_of_row _ _ 0 _ _ _ ((hb.block _ (Array.getElem?_eq_some_iff.1 hT.block).1).trans hT.block)]; rfl
  have hws := walk_spec lo hi T.d (trOf T.d m) (by rw [hT.tr]; exact hT.ok.ok) (by rw [hT.tr]; exact hT.ok.up)
  have hws2 : walkT lo hi T.d (trOf T.d m) = rng lo hi T.items := by rw [hws, hT.tr]; rfl
  have hle : (rng lo hi T.items).length ≤ 100000 := Nat.le_trans (List.length_filter_le _ _) hl
  have HW := Lib.hid (walk_any_r (shows_r w) lo hi T.d m [] _ hT.tu ⟨bag_start w, hb⟩ (by rw [hws2]; simpa using hle))
  rw [hws2, List.nil_append] at HW
  have HB := Lib.hid (And.intro (bag_start w) hb)
  have HE := Lib.hid (show ¬ lo ≤ hi → rng lo hi T.items = [] from fun h => filter_none fun y _ => by simp; omega)
  obtain ⟨R, hR⟩ : ∃ R, R = rng lo hi T.items := ⟨_, rfl⟩
  rw [← hR] at HW HE ⊢
  clear hT hws hws2 hle hb hR
  by_cases hlo : lo ≤ hi
  · have d1 : decide (lo ≤ hi) = true := decide_eq_true hlo
    clear hlo HE
    go_enter Try.func52, Try.ntmps52
    go_wp2_with fail
    refine Calls.mono HW.out ?_
    rintro e w1 ⟨rfl, hq, hb1⟩
    go_wp2_with fail
    go_ret
    exact ⟨rfl, hq, hb1⟩
  · have d1 : decide (lo ≤ hi) = false := decide_eq_false hlo
    obtain rfl := HE.out hlo
    clear hlo HW HE
    go_enter Try.func52, Try.ntmps52
    go_wp2_with fail
    go_ret
    exact ⟨rfl, HB.out.1, HB.out.2⟩
end Go.Proofs.Ytejpjbmbcdgomaa
