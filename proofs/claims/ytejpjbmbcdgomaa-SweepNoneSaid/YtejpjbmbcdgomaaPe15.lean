/- TShowR, TTrR, TDropT: put together. -/
import Derived.Test.YtejpjbmbcdgomaaPe14
/- What a walk shows is collected (of Range alone). -/
namespace Go.Proofs.Ytejpjbmbcdgomaa
set_option maxRecDepth 100000
open Go.RowKit

def BagR (B : Nat) (w : World) (cb : Nat) (l : List Ix) : Prop := B ≤ cb ∧ ∃ v, w.heap[cb]? = some (.cells #[v] 152 (0, 0)) ∧ w.ownsRow B 166 4 v l.length (rowV Ix.vals l)
theorem BagR.later {B cb : Nat} {w w' : World} {l : List Ix} (h : BagR B w cb l) (hb : Below w.heap.size w w') : BagR B w' cb l := by
  obtain ⟨h0, v, h1, h2⟩ := h
  refine ⟨h0, v, (hb.block _ (Array.getElem?_eq_some_iff.1 h1).1).trans h1, own_same h2 fun q hq => ?_⟩
  obtain ⟨_, e⟩ := own_at h2 hq
  exact hb.block q (Array.getElem?_eq_some_iff.1 e).1
/-- The row grew, then its slice was stored. -/
theorem BagR.put {B cb n : Nat} {w w1 : World} {v v' : Value} {l : List Ix} (h0 : B ≤ cb) (h1 : w.heap[cb]? = some (.cells #[v] 152 (0, 0))) (h2 : w.ownsRow B 166 4 v n (rowV Ix.vals l)) {x : Ix} (hn : l.length = n) (ho : w1.ownsRow B 166 4 v' (n + 1) (rowV Ix.vals l ++ x.vals)) (hg : w.grownBy w1 v.ownBlock) (hq : ∀ q, v'.ownBlock = some q → v.ownBlock = some q ∨ w.heap.size ≤ q) (_ : B ≤ w.heap.size) :
    (BagR B (w1.setCell ⟨cb, 0, none⟩ v') cb (l ++ [x]) ∧ Below B w (w1.setCell ⟨cb, 0, none⟩ v')) ∧ w1.cell? ⟨cb, 0, none⟩ = some v ∧ w1.frozen? ⟨cb, 0, none⟩ = false := by
  have hcb := (Array.getElem?_eq_some_iff.1 h1).1
  have hne : v.ownBlock ≠ some cb := fun e => by
    obtain ⟨_, e2⟩ := own_at h2 e
    rw [h1] at e2
    injection e2 with e2
    injection e2 with _ e3
    exact absurd e3 (by decide)
  have h3 : w1.heap[cb]? = some (.cells #[v] 152 (0, 0)) := (hg.block _ hcb (fun e => hne e.symm)).trans h1
  have hne2 : ∀ q, v'.ownBlock = some q → q ≠ cb := fun q e e2 => by
    subst e2
    rcases hq _ e with e | e
    · exact hne e
    · omega
  refine ⟨⟨⟨h0, v', (heap_set w1 cb 0 v' h3).trans rfl, ?_⟩, ?_⟩, cell_of_row _ _ 0 _ _ _ h3, frozen_of h3 0⟩
  · rw [List.length_append, hn, rowV_append]
    exact own_same (by simpa [rowV] using ho) fun q e => heap_ne _ _ _ _ (hne2 q e)
  · refine ⟨hg.os, hg.tape, hg.output, by rw [World.size_setCell]; exact hg.size, fun k hk => ?_⟩
    rw [heap_ne _ _ _ _ (by omega)]
    exact hg.block k (by omega) fun e => by have := own_ge h2 e.symm; omega
set_option maxHeartbeats 4000000 in
theorem showR_any {B cb : Nat} {w : World} {l : List Ix} (h : BagR B w cb l) (hB : B ≤ w.heap.size) (x : Ix) (hl : l.length < 100000) :
    Calls Try.prog 87 #[.agg #[.int .i64 x.c.v, .int .i64 x.c.s, .bool x.c.dead, .int .i64 x.k], .pointer (some ⟨cb, 0, none⟩)] w fun e w' => e = .returned (.tuple #[]) ∧ BagR B w' cb (l ++ [x]) ∧ Below B w w' := by
  obtain ⟨h0, v, h1, h2⟩ := h
  obtain ⟨A, c, rfl⟩ := own_form h2
  have hcw := (Array.getElem?_eq_some_iff.1 h1).1
  obtain ⟨Wa, hWa⟩ : ∃ Wa, Wa = w.alloc (.cells #[.int .i64 x.c.v, .int .i64 x.c.s, .bool x.c.dead, .int .i64 x.k] 166) := ⟨_, rfl⟩
  have hba : Below w.heap.size w Wa := by rw [hWa]; exact (Below.refl _ _).alloc (Nat.le_refl _) _
  have hsa : Wa.heap.size = w.heap.size + 1 := by rw [hWa]; simp
  have h3 := (hba.block _ hcw).trans h1
  have h5 : Wa.heap[w.heap.size]? = some (.cells #[.int .i64 x.c.v, .int .i64 x.c.s, .bool x.c.dead, .int .i64 x.k] 166 (0, 0)) := by rw [hWa]; exact heap_alloc_new w _
  have h4 : Wa.ownsRow B 166 4 (.slice A l.length c) l.length (rowV Ix.vals l) := own_same h2 fun q hq => by
    obtain ⟨_, e⟩ := own_at h2 hq
    exact hba.block q (Array.getElem?_eq_some_iff.1 e).1
  obtain ⟨s, hs⟩ : ∃ s, s = w.heap.size := ⟨_, rfl⟩
  rw [← hs] at h5
  have c0 : Wa.cell? ⟨cb, 0, none⟩ = some (.slice A l.length c) := by rw [cell_of_row _ _ 0 _ _ _ h3]; rfl
  have x0 : Wa.cell? ⟨s, 0, none⟩ = some (.int .i64 x.c.v) := by rw [cell_of_row _ _ 0 _ _ _ h5]; rfl
  have x1 : Wa.cell? ⟨s, 1, none⟩ = some (.int .i64 x.c.s) := by rw [cell_of_row _ _ 1 _ _ _ h5]; rfl
  have x2 : Wa.cell? ⟨s, 2, none⟩ = some (.bool x.c.dead) := by rw [cell_of_row _ _ 2 _ _ _ h5]; rfl
  have x3 : Wa.cell? ⟨s, 3, none⟩ = some (.int .i64 x.k) := by rw [cell_of_row _ _ 3 _ _ _ h5]; rfl
  have hw2 : ∀ o, Below Wa.heap.size Wa (Wa.alloc o) := fun o => (Below.refl _ _).alloc (Nat.le_refl _) o
  have HO := Lib.hid (fun (o : Obj) => (own_same h4 (fun q hq => by
    obtain ⟨_, e⟩ := own_at h4 hq
    exact (hw2 o).block q (Array.getElem?_eq_some_iff.1 e).1) : (Wa.alloc o).ownsRow B 166 4 (.slice A l.length c) l.length (rowV Ix.vals l)))
  have H3 := Lib.hid (fun (o : Obj) => ((hw2 o).block _ (Array.getElem?_eq_some_iff.1 h3).1).trans h3)
  have HX := Lib.hid (And.intro hl (And.intro hB (And.intro h0 (And.intro hba hsa))))
  have HBS := Lib.hid (fun (o : Obj) => Nat.le_trans hB (Nat.le_trans hba.size (hw2 o).size))
  have HW2 := Lib.hid hw2
  have HW := Lib.hid hWa
  have HS := Lib.hid hs
  obtain ⟨n, hn⟩ : ∃ n, n = l.length := ⟨_, rfl⟩
  rw [← hn] at c0 HO H3 HX
  have HN := Lib.hid hn
  clear h0 h1 h2 h3 h4 h5 hl hB hcw hWa hba hsa hw2 hs hn
  go_enter Try.func87, Try.ntmps87
  go_upto_region 1 with fail
  rw [← HW.out, ← HS.out]
  go_wp2_with (refine wpList_append_rowg elemIx rfl (.tmp 3) (.tmp 5) rfl B (.slice A n c) n (rowV Ix.vals l) rfl (HO.out _) (some ⟨Wa.heap.size, 0, none⟩) 1 1 x.vals rfl (rdv_freshI Wa x 166) (ix1 x) (fun h => by cases h) (by have := HX.out.1; unfold maxLen; omega) (by have := HX.out.1; omega) (HBS.out _) ?_; intro v' w' ho hg hq; obtain ⟨A9, c9, rfl⟩ := own_form ho; have hp := BagR.put HX.out.2.2.1 (H3.out _) (HO.out _) HN.out.symm ho hg hq (HBS.out _); have HP := Lib.hid hp.1; obtain ⟨k8, k9⟩ := hp.2; clear hp ho hg hq)
  exact bodyPost_end (v := .tuple #[]) (by simp [results, Try.results87, go_sem]) rfl ⟨rfl, HP.out.1, (HX.out.2.2.2.1.mono HX.out.2.1).trans (((HW2.out _).mono (Nat.le_trans HX.out.2.1 HX.out.2.2.2.1.size)).trans HP.out.2)⟩
end Go.Proofs.Ytejpjbmbcdgomaa

/- Tree.Copy, Tree.Range. -/
namespace Go.Proofs.Ytejpjbmbcdgomaa
set_option maxRecDepth 100000
open Go.RowKit

set_option maxHeartbeats 4000000 in
theorem tcopy_any {w : World} {F : Nat → Prop} {tb d : Nat} {l : List Ix} (h : TL w F tb l d) : Calls Try.prog 76 #[.pointer (some ⟨tb, 0, none⟩)] w fun e w' => ∃ F' tb', e = .returned (.pointer (some ⟨tb', 0, none⟩)) ∧ TL w' F' tb' l d ∧ (∀ k, F' k → w.heap.size ≤ k) ∧ Below w.heap.size w w' := by
  obtain ⟨T, m, rfl, rfl, hT⟩ := h
  have HC := Lib.hid (copy_any T.d m w.drew (hT.tu.below (below_drewI (Below.refl _ _))))
  have c0 : w.cell? ⟨tb, 0, none⟩ = some (.pointer (some ⟨(root T.d m).p, 0, none⟩)) := by rw [cell_of_row _ _ 0 _ _ _ hT.block]; rfl
  have c1 : w.cell? ⟨tb, 1, none⟩ = some (.int .i64 (T.items.length : Int)) := by rw [cell_of_row _ _ 1 _ _ _ hT.block]; rfl
  have H := Lib.hid hT
  obtain ⟨many, hmany⟩ : ∃ many, many = (T.items.length : Int) := ⟨_, rfl⟩
  rw [← hmany] at c1
  have HM := Lib.hid hmany
  clear hT hmany
  go_enter Try.func76, Try.ntmps76
  go_upto_region 3 with fail
  go_region_law (go_simp; go_at_call 100; refine Calls.mono HC.out ?_; rintro e8 w8 ⟨m', rfl, hN⟩; have HN := Lib.hid (NewT.undrew hN); have c2 := ((NewT.undrew hN).2.2.2.2.cell (p := ⟨tb, 1, none⟩) (World.block_lt_of_cell? _ _ c1)).trans c1; clear hN)
  all_goals
    go_wp2_with fail
    go_ret
    obtain ⟨h1, h2, h3, h4, h5⟩ := HN.out
    have hb : Below w8.heap.size w8 (w8.alloc (.cells #[.pointer (some ⟨(root T.d m').p, 0, none⟩), .int .i64 many] 157)) := (Below.refl _ _).alloc (Nat.le_refl _) _
    refine ⟨fun q => BL (nodes T.d m') q ∨ q = w8.heap.size, w8.heap.size, rfl, ⟨T, m', rfl, rfl, H.out.ok, h1.trans H.out.tr, h2, h3.below hb, by rw [heap_alloc_new w8, HM.out], fun e => by have := h3.lt e; omega, fun q => Iff.rfl⟩, fun q e => ?_, h5.alloc h5.size _⟩
    rcases e with e | e
    · exact h4 q e
    · rw [e]; exact h5.size
theorem shows_r (w0 : World) : Shows 87 w0.heap.size w0 (fun l w => BagR w0.heap.size w w0.heap.size l ∧ Below w0.heap.size w0 w) :=
  ⟨fun _ _ h => h.2, fun _ _ _ h hb => ⟨h.1.later hb, h.2.trans (hb.mono h.2.size)⟩, fun _ _ x h hl => Calls.mono (showR_any h.1 h.2.size x hl) fun _ _ ⟨e1, e2, e3⟩ => ⟨e1, e2, h.2.trans e3⟩⟩
theorem bag_start (w : World) : BagR w.heap.size (w.alloc (.cells #[.slice none 0 0] 152)) w.heap.size [] :=
  ⟨Nat.le_refl _, _, heap_alloc_new w _, World.ownsRow_nil _ _ _ _⟩
set_option maxHeartbeats 4000000 in
theorem trange_any {w : World} {F : Nat → Prop} {tb d : Nat} {l : List Ix} (h : TL w F tb l d) (hl : l.length ≤ 100000) (lo hi : Int) : Calls Try.prog 52 #[.pointer (some ⟨tb, 0, none⟩), .int .i64 lo, .int .i64 hi] w fun e w' => e = .returned (.func (.func 88) #[] #[.pointer (some ⟨w.heap.size, 0, none⟩)]) ∧ BagR w.heap.size w' w.heap.size (rng lo hi l) ∧ Below w.heap.size w w' := by
  have hb := (Below.refl _ w).alloc (Nat.le_refl _) (.cells #[.slice none 0 0] 152)
  obtain ⟨T, m, rfl, rfl, hT⟩ := h
  have c0 : (w.alloc (.cells #[.slice none 0 0] 152)).cell? ⟨tb, 0, none⟩ = some (.pointer (some ⟨(root T.d m).p, 0, none⟩)) := by rw [cell_of_row _ _ 0 _ _ _ ((hb.block _ (Array.getElem?_eq_some_iff.1 hT.block).1).trans hT.block)]; rfl
  have hws := walk_spec lo hi T.d (trOf T.d m) (by rw [hT.tr]; exact hT.ok.ok) (by rw [hT.tr]; exact hT.ok.up)
  have hws2 : walkT lo hi T.d (trOf T.d m) = rng lo hi T.items := by rw [hws, hT.tr]; rfl
  have hle : (rng lo hi T.items).length ≤ 100000 := Nat.le_trans (List.length_filter_le _ _) hl
  have HW := Lib.hid (walk_any_r (shows_r w) lo hi T.d m [] _ hT.tu ⟨bag_start w, hb⟩ (by rw [hws2]; simpa using hle))
  rw [hws2, List.nil_append] at HW
  have HB := Lib.hid (And.intro (bag_start w) hb)
  have HE := Lib.hid (show ¬ lo ≤ hi → rng lo hi T.items = [] from fun h => filter_none fun y _ => by simp; omega)
  obtain ⟨R, hR⟩ : ∃ R, R = rng lo hi T.items := ⟨_, rfl⟩
  rw [← hR] at HW HE ⊢
  clear hT hws hws2 hle hb hR
  by_cases hlo : lo ≤ hi
  · have d1 : decide (lo ≤ hi) = true := decide_eq_true hlo
    clear hlo HE
    go_enter Try.func52, Try.ntmps52
    go_wp2_with fail
    refine Calls.mono HW.out ?_
    rintro e w1 ⟨rfl, hq, hb1⟩
    go_wp2_with fail
    go_ret
    exact ⟨rfl, hq, hb1⟩
  · have d1 : decide (lo ≤ hi) = false := decide_eq_false hlo
    obtain rfl := HE.out hlo
    clear hlo HW HE
    go_enter Try.func52, Try.ntmps52
    go_wp2_with fail
    go_ret
    exact ⟨rfl, HB.out.1, HB.out.2⟩
end Go.Proofs.Ytejpjbmbcdgomaa

/- Tree.Drop. -/
namespace Go.Proofs.Ytejpjbmbcdgomaa
set_option maxRecDepth 100000
open Go.RowKit

theorem cut_stay : ∀ (d : Nat) (m : MT d), Lk d m → Ok d (trOf d m) → ((root d m).is.length ≠ 0 ∨ (root d m).ps.length = 0) → ∃ m2 : MT (cutTop d (trOf d m)).d, trOf _ m2 = (cutTop d (trOf d m)).t ∧ Lk _ m2 ∧ (root _ m2).p = (root d m).p ∧ nodes _ m2 = nodes d m
  | 0, m, hl, _, _ => ⟨m, rfl, hl, rfl, rfl⟩
  | d + 1, m, hl, hok, h => by
    have hne : ¬ m.1.is.length = 0 := by
      rcases h with h | h
      · exact h
      · have h1 : m.1.ps.length = 0 := h
        have h2 : m.1.ps.length = m.2.length := by rw [hl.1, List.length_map]
        have h3 : (m.2.map (trOf d)).length = m.1.is.length + 1 := hok.1
        rw [List.length_map] at h3
        omega
    have e : cutTop (d + 1) (trOf (d + 1) m) = ⟨d + 1, trOf (d + 1) m⟩ := if_neg hne
    rw [e]
    exact ⟨m, rfl, hl, rfl, rfl⟩
theorem cut_kid : ∀ (d : Nat) (m : MT d) {q0 : Nat}, Lk d m → (root d m).is.length = 0 → (root d m).ps[0]? = some q0 → ∃ m2 : MT (cutTop d (trOf d m)).d, trOf _ m2 = (cutTop d (trOf d m)).t ∧ Lk _ m2 ∧ (root _ m2).p = q0 ∧ (nodes _ m2).Sublist (nodes d m)
  | 0, m, q0, hl, _, hq => by
    have hl : (root 0 m).ps = [] := hl
    rw [hl] at hq
    cases hq
  | d + 1, m, q0, hl, hz, hq => by
    have e : cutTop (d + 1) (trOf (d + 1) m) = ⟨d, (trOf (d + 1) m).2.headD (emptyT d)⟩ := if_pos hz
    rw [e]
    have hq : m.1.ps[0]? = some q0 := hq
    rw [hl.1, List.getElem?_map] at hq
    cases hc : m.2 with
    | nil => rw [hc] at hq; cases hq
    | cons c b =>
      rw [hc] at hq
      have hq : some (pOf d c) = some q0 := hq
      injection hq with hq
      refine ⟨c, ?_, hl.2 c (by rw [hc]; simp), hq, ?_⟩
      · show _ = (m.2.map (trOf d)).headD (emptyT d)
        rw [hc]
        rfl
      · show (nodes d c).Sublist (m.1 :: m.2.flatMap (nodes d))
        rw [hc, List.flatMap_cons]
        exact .cons _ (List.sublist_append_left _ _)
set_option maxHeartbeats 8000000 in
theorem tdrop_any {w : World} {F : Nat → Prop} {tb d : Nat} {l : List Ix} (h : TL w F tb l d) (k : Int) (hl : l.length ≤ 100000) : Calls Try.prog 85 #[.pointer (some ⟨tb, 0, none⟩), .int .i64 k] w fun e w' => e = .returned (.tuple #[.agg #[.int .i64 (cv (getC k l)).v, .int .i64 (cv (getC k l)).s, .bool (cv (getC k l)).dead], .bool (getC k l).isSome]) ∧ ∃ F' d', TL w' F' tb (del k l) d' ∧ Cg w w' F F' := by
  obtain ⟨T, m, _, rfl, hT⟩ := h
  obtain ⟨x0, _⟩ : ∃ x0 : Ix, x0 = ⟨0, ⟨0, 0, false⟩⟩ := ⟨_, rfl⟩
  have hts := top_drop T hT.ok x0 k
  have hlen := del_len hT.ok.up k
  have hss := drop_spec x0 T.d T.t k hT.ok.ok hT.ok.up hT.ok.few hT.ok.some
  have hu := hT.tu
  have hsome : T.d = 0 ∨ 0 < (its T.d (trOf T.d m)).length := by rw [hT.tr]; exact hT.ok.some
  have HSA := Lib.hid (fun (w1 : World) (h1 : All w1 (nodes T.d m)) => drop_any x0 T.d m w1 k hu.lk h1 hu.ok hu.up (by rw [its_tr]; exact hu.few) hsome)
  rw [hT.tr] at HSA
  have hgc : (dropT x0 T.d T.t k).2 = getC k T.items := hss.2.1
  rw [hgc] at HSA
  obtain ⟨y, hy⟩ : ∃ y, y = cv (getC k T.items) := ⟨_, rfl⟩
  obtain ⟨bo, hbo⟩ : ∃ bo, bo = (getC k T.items).isSome := ⟨_, rfl⟩
  rw [← hy, ← hbo] at HSA ⊢
  rw [← hbo] at hlen
  have H := Lib.hid hT
  have HT := Lib.hid (And.intro hts (And.intro hlen (And.intro hss hl)))
  have BB := Lib.hid (Rx.start w)
  have HCA := Lib.hid (hT.all.below BB.out.below)
  have k0 : (w.alloc (.cells #[.int .i64 0, .int .i64 0, .bool false] 44)).cell? ⟨tb, 0, none⟩ = some (.pointer (some ⟨(root T.d m).p, 0, none⟩)) := by
    rw [cell_of_row _ _ 0 _ _ _ ((BB.out.below.block _ (Array.getElem?_eq_some_iff.1 hT.block).1).trans hT.block)]; rfl
  obtain ⟨s, hs⟩ : ∃ s, s = w.heap.size := ⟨_, rfl⟩
  have HS := Lib.hid hs
  clear hT hts hlen hss hu hgc hy hbo hl hsome
  go_enter Try.func85, Try.ntmps85
  go_upto_region 3 with fail
  rw [← hs]
  clear hs
  go_cut [6, 7] from 11 to 19 (fun r q wx => ∃ (kx : Nat) (m' : MT T.d), r = .pointer (some ⟨kx, 0, none⟩) ∧ q = .bool bo ∧ (pOf T.d m' = pOf T.d m ∧ trOf T.d m' = (dropT x0 T.d T.t k).1 ∧ Lk T.d m') ∧ Mt w wx (nodes T.d m) (nodes T.d m') tb kx s (root T.d m).p (T.items.length : Int) y)
  case first =>
    have HMT := Lib.hid (fun (k : Nat) (W : World) (m' : MT T.d) (hk : w.heap.size ≤ k) (M : Md w W (nodes T.d m) (nodes T.d m') k w.heap.size y) => M.mt H.out.all H.out.own H.out.block hk (Nat.le_refl _))
    go_wp2_with fail
    refine Calls.mono (HSA.out _ HCA.out) ?_
    rintro e8 w8 ⟨m', rfl, p1, p2, p3, M8⟩
    have HP := Lib.hid (And.intro p1 (And.intro p2 p3))
    have HM := Lib.hid (HMT.out _ _ m' (Nat.le_trans BB.out.below.size M8.ch.size) (Md.fresh H.out.all BB.out M8 y))
    clear p1 p2 p3 M8
    go_wp2_with fail
    go_meet
    exact ⟨_, m', rfl, rfl, HP.out, by rw [HS.out]; exact HM.out⟩
  case rest =>
    clear k0 HSA HCA
    obtain ⟨kk, m', rfl, rfl, ⟨p1, p2, p3⟩, hM⟩ := hcut
    rename World => wq
    have hp : (root T.d m').p = (root T.d m).p := p1
    rw [← hp] at hM
    obtain ⟨pt, hpt⟩ : ∃ pt, pt = (root T.d m').p := ⟨_, rfl⟩
    rw [← hpt] at hM
    have HM := Lib.hid hM
    have HP := Lib.hid (And.intro p2 (And.intro p3 hpt))
    obtain ⟨many, hmany⟩ : ∃ many, many = T.items.length := ⟨_, rfl⟩
    rw [← hmany] at hM HM
    have hml : many ≤ 100000 := by rw [hmany]; exact HT.out.2.2.2
    have t1 : wq.cell? ⟨tb, 1, none⟩ = some (.int .i64 (many : Int)) := by rw [cell_of_row _ _ 1 _ _ _ hM.tree]; rfl
    have tf := frozen_of hM.tree
    obtain ⟨many2, hm2⟩ : ∃ many2, many2 = (del k T.items).length := ⟨_, rfl⟩
    have hm3 : many2 + (if bo then 1 else 0) = many := by rw [hm2, hmany]; exact HT.out.2.1
    have HM2 := Lib.hid (And.intro hm2 hm3)
    clear hp hpt p1 p2 p3 hM hmany hm2 hm3
    go_upto_if 20 with fail
    go_cut [] from 21 to 27 (fun wx => Mt w wx (nodes T.d m) (nodes T.d m') tb kk s pt (many2 : Int) y)
    case first =>
      cases bo with
      | false =>
        have e2 : many2 = many := HM2.out.2
        go_wp2_with fail
        go_meet
        rw [e2]
        exact HM.out
      | true =>
        have e2 : (many2 : Int) = (many : Int) - 1 := by have := HM2.out.2; simp at this; omega
        have HE2 := Lib.hid e2
        clear e2
        go_wp2_with fail
        go_meet
        exact HM.out.store (At.set _ _ _ _) (by rw [HE2.out]; exact heap_set _ _ 1 _ HM.out.tree)
    case rest =>
      clear t1 tf HM
      rename World => wp
      have HM := Lib.hid hcut
      have t0 : wp.cell? ⟨tb, 0, none⟩ = some (.pointer (some ⟨pt, 0, none⟩)) := by rw [cell_of_row _ _ 0 _ _ _ hcut.tree]; rfl
      have tf := frozen_of hcut.tree
      have hroot := hcut.all.m (root T.d m') (by rw [nodes_eq]; exact List.mem_cons_self ..)
      obtain ⟨A, cc, ev, _⟩ := hroot.items
      have r0 := hroot.c0
      rw [ev, ← HP.out.2.2] at r0
      obtain ⟨Au, cu, eu, _, _, _⟩ := rdv_own hroot.kids
      have r1 := hroot.c1
      rw [eu, ← HP.out.2.2] at r1
      have hok' : Ok T.d (trOf T.d m') := by rw [HP.out.1]; exact HT.out.2.2.1.2.2.1
      have HOK := Lib.hid hok'
      have HRT := Lib.hid hroot
      have HEU := Lib.hid eu
      obtain ⟨ni, hni⟩ : ∃ ni, ni = (root T.d m').is.length := ⟨_, rfl⟩
      obtain ⟨np, hnp⟩ : ∃ np, np = (root T.d m').ps.length := ⟨_, rfl⟩
      rw [← hni] at r0
      rw [← hnp] at r1
      have HNN := Lib.hid (And.intro hni hnp)
      clear hcut hroot ev eu hok' hni hnp
      have HTD : Hid ((T.drop x0 k).1 = cutTop T.d (trOf T.d m')) := Lib.hid (by rw [HP.out.1]; rfl)
      by_cases hz : ni = 0
      · by_cases hnp : 0 < np
        · obtain ⟨q0, hq0⟩ : ∃ q0, (root T.d m').ps[0]? = some q0 := ⟨_, List.getElem?_eq_getElem (by rw [← HNN.out.2]; exact hnp)⟩
          have HCUT := Lib.hid (cut_kid T.d m' HP.out.2.1 (by rw [← HNN.out.1]; exact hz) hq0)
          obtain ⟨gu, cu2, eu2, l1, _, _, u2⟩ := HRT.out.kd hq0
          have e9 := HEU.out
          rw [eu2] at e9
          injection e9 with e9 _ e10
          subst e9 e10
          subst hz
          have d1 : decide ((0 : Int) < (np : Int)) = true := decide_eq_true (by omega)
          have d2 : decide (0 < np) = true := decide_eq_true hnp
          have l2 : (0 : Int) < (np : Int) := by omega
          clear eu2 l1 hq0
          go_upto_if 47 with fail
          go_upto_region 8 with fail
          have HM8 := Lib.hid (HM.out.store (At.set wp tb 0 (.pointer (some ⟨q0, 0, none⟩))) (heap_set _ tb 0 _ HM.out.tree))
          clear t0 tf r0 r1 u2 d1 d2 l2 hnp
          obtain ⟨m2, g1, g2, g3, g4⟩ := HCUT.out
          have hk2 := HM8.out.was
          have hr2 := HM8.out.res
          have z0 : (wp.setCell ⟨tb, 0, none⟩ (.pointer (some ⟨q0, 0, none⟩))).cell? ⟨kk, 0, none⟩ = some (.int .i64 y.v) := by rw [cell_of_row _ _ 0 _ _ _ hk2]; rfl
          have z1 : (wp.setCell ⟨tb, 0, none⟩ (.pointer (some ⟨q0, 0, none⟩))).cell? ⟨kk, 1, none⟩ = some (.int .i64 y.s) := by rw [cell_of_row _ _ 1 _ _ _ hk2]; rfl
          have z2 : (wp.setCell ⟨tb, 0, none⟩ (.pointer (some ⟨q0, 0, none⟩))).cell? ⟨kk, 2, none⟩ = some (.bool y.dead) := by rw [cell_of_row _ _ 2 _ _ _ hk2]; rfl
          have w0 : (wp.setCell ⟨tb, 0, none⟩ (.pointer (some ⟨q0, 0, none⟩))).cell? ⟨s, 0, none⟩ = some (.int .i64 0) := by rw [cell_of_row _ _ 0 _ _ _ hr2]; rfl
          have w1 : (wp.setCell ⟨tb, 0, none⟩ (.pointer (some ⟨q0, 0, none⟩))).cell? ⟨s, 1, none⟩ = some (.int .i64 0) := by rw [cell_of_row _ _ 1 _ _ _ hr2]; rfl
          have w2 : (wp.setCell ⟨tb, 0, none⟩ (.pointer (some ⟨q0, 0, none⟩))).cell? ⟨s, 2, none⟩ = some (.bool false) := by rw [cell_of_row _ _ 2 _ _ _ hr2]; rfl
          have rf := frozen_of hr2
          have HR := Lib.hid (res3 hr2 (.int .i64 y.v) (.int .i64 y.s) (.bool y.dead))
          have HG := Lib.hid (And.intro g1 (And.intro g2 (And.intro g3 g4)))
          clear hk2 hr2 g1 g2 g3 g4
          go_wp2_with fail
          refine bodyPost_ret (v := .tuple #[.agg #[.int .i64 y.v, .int .i64 y.s, .bool y.dead], .bool bo]) (by simp [results, Try.results85, go_sem, HR.out.1, HR.out.2.1, HR.out.2.2]) rfl ⟨rfl, ?_⟩
          have hit : (cutTop T.d (trOf T.d m')).items = del k T.items := by rw [← HTD.out]; exact HT.out.1.1
          have hd := (HM8.out.sub HG.out.2.2.2).done (T := cutTop T.d (trOf T.d m')) (m := m2) (((At.set _ _ 0 (.int .i64 y.v)).more 1 (.int .i64 y.s)).more 2 (.bool y.dead)) (by rw [← HTD.out]; exact HT.out.1.2.2) HG.out.1 HG.out.2.1 rfl HG.out.2.2.1 (by rw [hit, ← HM2.out.1]) H.out.F
          obtain ⟨F', j1, j2⟩ := hd
          rw [hit] at j1
          first | exact ⟨F', _, j1, j2⟩ | exact ⟨F', ⟨_, j1⟩, j2⟩
        · have HCUT := Lib.hid (cut_stay T.d m' HP.out.2.1 HOK.out (.inr (by rw [← HNN.out.2]; omega)))
          obtain rfl : np = 0 := by omega
          subst hz
          clear hnp
          go_upto_if 47 with fail
          go_upto_region 8 with fail
          clear t0 tf r0 r1
          obtain ⟨m2, g1, g2, g3, g4⟩ := HCUT.out
          have hk2 := HM.out.was
          have hr2 := HM.out.res
          have z0 : wp.cell? ⟨kk, 0, none⟩ = some (.int .i64 y.v) := by rw [cell_of_row _ _ 0 _ _ _ hk2]; rfl
          have z1 : wp.cell? ⟨kk, 1, none⟩ = some (.int .i64 y.s) := by rw [cell_of_row _ _ 1 _ _ _ hk2]; rfl
          have z2 : wp.cell? ⟨kk, 2, none⟩ = some (.bool y.dead) := by rw [cell_of_row _ _ 2 _ _ _ hk2]; rfl
          have w0 : wp.cell? ⟨s, 0, none⟩ = some (.int .i64 0) := by rw [cell_of_row _ _ 0 _ _ _ hr2]; rfl
          have w1 : wp.cell? ⟨s, 1, none⟩ = some (.int .i64 0) := by rw [cell_of_row _ _ 1 _ _ _ hr2]; rfl
          have w2 : wp.cell? ⟨s, 2, none⟩ = some (.bool false) := by rw [cell_of_row _ _ 2 _ _ _ hr2]; rfl
          have rf := frozen_of hr2
          have HR := Lib.hid (res3 hr2 (.int .i64 y.v) (.int .i64 y.s) (.bool y.dead))
          have HG := Lib.hid (And.intro g1 (And.intro g2 (And.intro g3 g4)))
          clear hk2 hr2 g1 g2 g3 g4
          go_wp2_with fail
          refine bodyPost_ret (v := .tuple #[.agg #[.int .i64 y.v, .int .i64 y.s, .bool y.dead], .bool bo]) (by simp [results, Try.results85, go_sem, HR.out.1, HR.out.2.1, HR.out.2.2]) rfl ⟨rfl, ?_⟩
          have hit : (cutTop T.d (trOf T.d m')).items = del k T.items := by rw [← HTD.out]; exact HT.out.1.1
          have hd := (HM.out.sub (by rw [HG.out.2.2.2]; exact List.Sublist.refl _)).done (T := cutTop T.d (trOf T.d m')) (m := m2) (((At.set _ _ 0 (.int .i64 y.v)).more 1 (.int .i64 y.s)).more 2 (.bool y.dead)) (by rw [← HTD.out]; exact HT.out.1.2.2) HG.out.1 HG.out.2.1 rfl (HG.out.2.2.1.trans HP.out.2.2.symm) (by rw [hit, ← HM2.out.1]) H.out.F
          obtain ⟨F', j1, j2⟩ := hd
          rw [hit] at j1
          first | exact ⟨F', _, j1, j2⟩ | exact ⟨F', ⟨_, j1⟩, j2⟩
      · have HCUT := Lib.hid (cut_stay T.d m' HP.out.2.1 HOK.out (.inl (by rw [← HNN.out.1]; exact hz)))
        have d1 : ((ni : Int) == 0) = false := by rw [beq_eq_false_iff_ne]; omega
        clear hz
        go_upto_if 47 with fail
        go_upto_region 8 with fail
        clear t0 tf r0 r1 d1
        obtain ⟨m2, g1, g2, g3, g4⟩ := HCUT.out
        have hk2 := HM.out.was
        have hr2 := HM.out.res
        have z0 : wp.cell? ⟨kk, 0, none⟩ = some (.int .i64 y.v) := by rw [cell_of_row _ _ 0 _ _ _ hk2]; rfl
        have z1 : wp.cell? ⟨kk, 1, none⟩ = some (.int .i64 y.s) := by rw [cell_of_row _ _ 1 _ _ _ hk2]; rfl
        have z2 : wp.cell? ⟨kk, 2, none⟩ = some (.bool y.dead) := by rw [cell_of_row _ _ 2 _ _ _ hk2]; rfl
        have w0 : wp.cell? ⟨s, 0, none⟩ = some (.int .i64 0) := by rw [cell_of_row _ _ 0 _ _ _ hr2]; rfl
        have w1 : wp.cell? ⟨s, 1, none⟩ = some (.int .i64 0) := by rw [cell_of_row _ _ 1 _ _ _ hr2]; rfl
        have w2 : wp.cell? ⟨s, 2, none⟩ = some (.bool false) := by rw [cell_of_row _ _ 2 _ _ _ hr2]; rfl
        have rf := frozen_of hr2
        have HR := Lib.hid (res3 hr2 (.int .i64 y.v) (.int .i64 y.s) (.bool y.dead))
        have HG := Lib.hid (And.intro g1 (And.intro g2 (And.intro g3 g4)))
        clear hk2 hr2 g1 g2 g3 g4
        go_wp2_with fail
        refine bodyPost_ret (v := .tuple #[.agg #[.int .i64 y.v, .int .i64 y.s, .bool y.dead], .bool bo]) (by simp [results, Try.results85, go_sem, HR.out.1, HR.out.2.1, HR.out.2.2]) rfl ⟨rfl, ?_⟩
        have hit : (cutTop T.d (trOf T.d m')).items = del k T.items := by rw [← HTD.out]; exact HT.out.1.1
        have hd := (HM.out.sub (by rw [HG.out.2.2.2]; exact List.Sublist.refl _)).done (T := cutTop T.d (trOf T.d m')) (m := m2) (((At.set _ _ 0 (.int .i64 y.v)).more 1 (.int .i64 y.s)).more 2 (.bool y.dead)) (by rw [← HTD.out]; exact HT.out.1.2.2) HG.out.1 HG.out.2.1 rfl (HG.out.2.2.1.trans HP.out.2.2.symm) (by rw [hit, ← HM2.out.1]) H.out.F
        obtain ⟨F', j1, j2⟩ := hd
        rw [hit] at j1
        first | exact ⟨F', _, j1, j2⟩ | exact ⟨F', ⟨_, j1⟩, j2⟩
end Go.Proofs.Ytejpjbmbcdgomaa
