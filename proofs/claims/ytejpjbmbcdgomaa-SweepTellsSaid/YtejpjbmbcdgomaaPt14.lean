/- TSetT, TNilS: put together. -/
import Derived.Test.YtejpjbmbcdgomaaPt12
import Derived.Test.YtejpjbmbcdgomaaPt13
/- Tree.Set. -/
namespace Go.Proofs.Ytejpjbmbcdgomaa
set_option maxRecDepth 100000
open Go.RowKit

/-- The world behind the first step: the cell boxed, the result's cell. -/
def WB (w : World) (c : Cl) : World := (w.alloc (.cells #[.int .i64 c.v, .int .i64 c.s, .bool c.dead] 44)).alloc (.cells #[.int .i64 0, .int .i64 0, .bool false] 44)
structure Bc (w0 w : World) (c : Cl) : Prop where
  b : Below (w0.heap.size + 2) (WB w0 c) w
  h : w0.heap.size + 2 ≤ w.heap.size
section
variable {w0 w w' w8 : World} {c : Cl} {l l' : List Nd}
theorem Bc.start (w : World) (c : Cl) : Bc w (WB w c) c := ⟨Below.refl _ _, by simp [WB]⟩
theorem Bc.box (B : Bc w0 w c) : w.heap[w0.heap.size]? = some (.cells #[.int .i64 c.v, .int .i64 c.s, .bool c.dead] 44 (0, 0)) := by
  refine (B.b.block _ (by omega)).trans ?_
  rw [WB, ((Below.refl _ (w0.alloc _)).alloc (Nat.le_refl _) _).block _ (by simp)]
  exact heap_alloc_new w0 _
theorem Bc.res (B : Bc w0 w c) : w.heap[w0.heap.size + 1]? = some (.cells #[.int .i64 0, .int .i64 0, .bool false] 44 (0, 0)) := by
  refine (B.b.block _ (by omega)).trans ?_
  have := heap_alloc_new (w0.alloc (.cells #[.int .i64 c.v, .int .i64 c.s, .bool c.dead] 44)) (.cells #[.int .i64 0, .int .i64 0, .bool false] 44)
  have e : (w0.alloc (.cells #[.int .i64 c.v, .int .i64 c.s, .bool c.dead] 44)).heap.size = w0.heap.size + 1 := by simp
  rw [e] at this
  exact this
theorem Bc.below (B : Bc w0 w c) : Below w0.heap.size w0 w := (((Below.refl _ w0).alloc (Nat.le_refl _) _).alloc (by simp) _).trans (B.b.mono (by omega))
theorem Bc.later (B : Bc w0 w c) (h : Below w.heap.size w w') : Bc w0 w' c := ⟨B.b.trans (h.mono B.h), Nat.le_trans B.h h.size⟩
theorem Bc.fresh (hA : All w0 l) (B : Bc w0 w c) (M : Mv w w8 l l') (y : Cl) : Md w0 (w8.alloc (.cells #[.int .i64 y.v, .int .i64 y.s, .bool y.dead] 44)) l l' w8.heap.size (w0.heap.size + 1) y := by
  have hb := (Below.refl _ w8).alloc (Nat.le_refl _) (.cells #[.int .i64 y.v, .int .i64 y.s, .bool y.dead] 44)
  have h1 : Mv w0 w8 l l' := (Mv.below hA B.below).trans M
  have hh := B.h
  have hr : w8.heap[w0.heap.size + 1]? = some (.cells #[.int .i64 0, .int .i64 0, .bool false] 44 (0, 0)) := (M.ch.block _ (by omega) (fun e => by have := hA.lt e; omega)).trans B.res
  refine ⟨h1.trans (Mv.below h1.all hb), heap_alloc_new w8 _, (hb.block _ (Array.getElem?_eq_some_iff.1 hr).1).trans hr, fun e => ?_, fun e => ?_⟩
  · have := h1.all.lt e; omega
  · rcases M.fr _ e with e | e
    · have := hA.lt e; omega
    · omega
theorem Bc.was (hA : All w0 l) (B : Bc w0 w c) (M : Mv (w.alloc (.cells #[.int .i64 0, .int .i64 0, .bool false] 44)) w8 l l') : w8.heap[w.heap.size]? = some (.cells #[.int .i64 0, .int .i64 0, .bool false] 44 (0, 0)) :=
  (M.ch.block _ (by simp) (fun e => by have := hA.lt e; have := B.h; omega)).trans (heap_alloc_new w _)
theorem Bc.stored (hA : All w0 l) (B : Bc w0 w c) (M : Mv (w.alloc (.cells #[.int .i64 0, .int .i64 0, .bool false] 44)) w8 l l') (y : Cl) : Md w0 (((w8.setCell ⟨w.heap.size, 0, none⟩ (.int .i64 y.v)).setCell ⟨w.heap.size, 1, none⟩ (.int .i64 y.s)).setCell ⟨w.heap.size, 2, none⟩ (.bool y.dead)) l l' w.heap.size (w0.heap.size + 1) y := by
  have hw := B.was hA M
  have hba : Below w.heap.size w (w.alloc (.cells #[.int .i64 0, .int .i64 0, .bool false] 44)) := (Below.refl _ w).alloc (Nat.le_refl _) _
  have h1 : Mv w0 w8 l l' := (Mv.below hA (B.later hba).below).trans M
  have hh := B.h
  have hr : w8.heap[w0.heap.size + 1]? = some (.cells #[.int .i64 0, .int .i64 0, .bool false] 44 (0, 0)) := (M.ch.block _ (by simp; omega) (fun e => by have := hA.lt e; omega)).trans (B.later hba).res
  have A : At w8 (((w8.setCell ⟨w.heap.size, 0, none⟩ (.int .i64 y.v)).setCell ⟨w.heap.size, 1, none⟩ (.int .i64 y.s)).setCell ⟨w.heap.size, 2, none⟩ (.bool y.dead)) w.heap.size := ((At.set _ _ _ _).more _ _).more _ _
  have hn1 : ¬ BL l' w.heap.size := fun e => by
    rcases M.fr _ e with e | e
    · have := hA.lt e; omega
    · simp at e; omega
  refine ⟨Mv.res2 h1 A (by omega) hn1, heap_set _ _ 2 _ (heap_set _ _ 1 _ (heap_set _ _ 0 _ hw)), (A.block _ (by omega)).trans hr, hn1, fun e => ?_⟩
  rcases M.fr _ e with e | e
  · have := hA.lt e; omega
  · simp at e; omega
end
/-- A new node beside. -/
theorem Mt.add {w0 wp w1 : World} {l l1 : List Nd} {tb k r p p' : Nat} {many many' : Int} {y : Cl} {n : Nd} (M0 : Mt w0 wp l l1 tb k r p many y) (M : Mt w0 w1 l l1 tb k r p' many' y) (hn : NdM w1 n) (hnew : ∀ q, n.B q → wp.heap.size ≤ q) : Mt w0 w1 l (n :: l1) tb k r p' many' y := by
  have hk := (Array.getElem?_eq_some_iff.1 M0.was).1
  have hr := (Array.getElem?_eq_some_iff.1 M0.res).1
  have ht := (Array.getElem?_eq_some_iff.1 M0.tree).1
  have hs := M0.ch.size
  have key : ∀ q, q < wp.heap.size → ¬ BL l1 q → ¬ BL (n :: l1) q := fun q hq h1 ⟨m, hm, e⟩ => by
    rcases List.mem_cons.1 hm with e2 | e2
    · subst e2; have := hnew q e; omega
    · exact h1 ⟨m, e2, e⟩
  refine ⟨⟨fun m hm => ?_, List.pairwise_cons.2 ⟨fun m hm q e1 e2 => ?_, M.all.ap⟩⟩, M.ch, fun q e => ?_, M.tree, M.was, M.res, key _ ht M.a0, key _ hk M.a1, key _ hr M.a2, M.k0, M.r0, M.t0⟩
  · rcases List.mem_cons.1 hm with e | e
    · subst e; exact hn
    · exact M.all.m m e
  · have := hnew q e1
    have := M0.all.lt ⟨m, hm, e2⟩
    omega
  · obtain ⟨m, hm, e⟩ := e
    rcases List.mem_cons.1 hm with e2 | e2
    · subst e2; exact .inr (Nat.le_trans hs (hnew q e))
    · exact M.fr q ⟨m, e2, e⟩
/-- The world with a new top. -/
def WT (w : World) (tb p : Nat) : World := ((w.alloc (.cells #[.pointer (some ⟨p, 0, none⟩)] 151)).alloc (.cells #[.slice none 0 0, .slice (some ⟨w.heap.size, 0, none⟩) 1 1] 155)).setCell ⟨tb, 0, none⟩ (.pointer (some ⟨w.heap.size + 1, 0, none⟩))
theorem wt_spec {w0 w : World} {l l1 : List Nd} {tb k r p : Nat} {many : Int} {y : Cl} (M : Mt w0 w l l1 tb k r p many y) :
    Mt w0 (WT w tb p) l (⟨w.heap.size + 1, .slice none 0 0, .slice (some ⟨w.heap.size, 0, none⟩) 1 1, [], [p]⟩ :: l1) tb k r (w.heap.size + 1) many y := by
  have ht := (Array.getElem?_eq_some_iff.1 M.tree).1
  have hb : Below w.heap.size w ((w.alloc (.cells #[.pointer (some ⟨p, 0, none⟩)] 151)).alloc (.cells #[.slice none 0 0, .slice (some ⟨w.heap.size, 0, none⟩) 1 1] 155)) := ((Below.refl _ w).alloc (Nat.le_refl _) _).alloc (by simp) _
  have M2 := M.below hb
  have h1 : ((w.alloc (.cells #[.pointer (some ⟨p, 0, none⟩)] 151)).alloc (.cells #[.slice none 0 0, .slice (some ⟨w.heap.size, 0, none⟩) 1 1] 155)).heap[w.heap.size]? = some (.cells #[.pointer (some ⟨p, 0, none⟩)] 151 (0, 0)) := by
    rw [((Below.refl _ (w.alloc _)).alloc (Nat.le_refl _) _).block _ (by simp)]
    exact heap_alloc_new w _
  have h2 : ((w.alloc (.cells #[.pointer (some ⟨p, 0, none⟩)] 151)).alloc (.cells #[.slice none 0 0, .slice (some ⟨w.heap.size, 0, none⟩) 1 1] 155)).heap[w.heap.size + 1]? = some (.cells #[.slice none 0 0, .slice (some ⟨w.heap.size, 0, none⟩) 1 1] 155 (0, 0)) := by
    have := heap_alloc_new (w.alloc (.cells #[.pointer (some ⟨p, 0, none⟩)] 151)) (.cells #[.slice none 0 0, .slice (some ⟨w.heap.size, 0, none⟩) 1 1] 155)
    have e : (w.alloc (.cells #[.pointer (some ⟨p, 0, none⟩)] 151)).heap.size = w.heap.size + 1 := by simp
    rw [e] at this
    exact this
  have M3 := M2.store (At.set _ tb 0 (.pointer (some ⟨w.heap.size + 1, 0, none⟩))) (heap_set _ tb 0 _ M2.tree)
  refine M.add M3 ⟨?_, World.ownsRow_nil _ _ _ _, ?_⟩ (fun q hq => ?_)
  · exact (heap_ne _ tb 0 _ (show w.heap.size + 1 ≠ tb by omega)).trans h2
  · refine own_same (w := ((w.alloc (.cells #[.pointer (some ⟨p, 0, none⟩)] 151)).alloc (.cells #[.slice none 0 0, .slice (some ⟨w.heap.size, 0, none⟩) 1 1] 155))) ⟨rfl, .inr ⟨w.heap.size, 1, _, rfl, Nat.zero_le _, h1, Nat.le_refl _, by decide, rfl, rfl⟩⟩ fun q hq => ?_
    have e : w.heap.size = q := by simpa [Value.ownBlock] using hq
    exact heap_ne _ _ _ _ (by omega)
  · rcases hq with e | e | e
    · rw [show q = w.heap.size + 1 from e]; exact Nat.le_succ _
    · cases e
    · have e : w.heap.size = q := by simpa [Value.ownBlock] using e
      omega
set_option maxHeartbeats 8000000 in
theorem tset_any {w : World} {F : Nat → Prop} {tb d : Nat} {l : List Ix} (h : TL w F tb l d) (x : Ix) (hl : l.length ≤ 100000) : Calls Try.prog 93 #[.pointer (some ⟨tb, 0, none⟩), .int .i64 x.k, .agg #[.int .i64 x.c.v, .int .i64 x.c.s, .bool x.c.dead]] w fun e w' => e = .returned (.tuple #[.agg #[.int .i64 (cv (getC x.k l)).v, .int .i64 (cv (getC x.k l)).s, .bool (cv (getC x.k l)).dead], .bool (getC x.k l).isSome]) ∧ ∃ F' d', TL w' F' tb (ins x l) d' ∧ Cg w w' F F' := by
  obtain ⟨T, m, _, rfl, hT⟩ := h
  have hts := top_set T hT.ok x
  have hlen := ins_len hT.ok.up x
  have hss := set_spec x T.d T.t hT.ok.ok hT.ok.up hT.ok.few
  have hu := hT.tu
  have HSA := Lib.hid (fun (w1 : World) (h1 : All w1 (nodes T.d m)) => set_any x T.d m w1 hu.lk h1 hu.ok hu.up (by rw [its_tr]; exact hu.few))
  rw [hT.tr] at HSA
  have hgc : (setT T.d T.t x).2 = getC x.k T.items := hss.2.1
  rw [hgc] at HSA
  obtain ⟨y, hy⟩ : ∃ y, y = cv (getC x.k T.items) := ⟨_, rfl⟩
  obtain ⟨bo, hbo⟩ : ∃ bo, bo = (getC x.k T.items).isSome := ⟨_, rfl⟩
  rw [← hy, ← hbo] at HSA ⊢
  rw [← hbo] at hlen
  have c0' : ∀ W, Below w.heap.size w W → W.cell? ⟨tb, 0, none⟩ = some (.pointer (some ⟨(root T.d m).p, 0, none⟩)) := fun W hb => by
    rw [cell_of_row _ _ 0 _ _ _ ((hb.block _ (Array.getElem?_eq_some_iff.1 hT.block).1).trans hT.block)]; rfl
  have HC0 := Lib.hid c0'
  have H := Lib.hid hT
  have HT := Lib.hid (And.intro hts (And.intro hlen (And.intro hss hl)))
  have BB := Lib.hid (Bc.start w x.c)
  obtain ⟨s, hs⟩ : ∃ s, s = w.heap.size := ⟨_, rfl⟩
  have HS := Lib.hid hs
  obtain ⟨w1, hw1⟩ : ∃ w1, w1 = WB w x.c := ⟨_, rfl⟩
  have HW1 := Lib.hid hw1
  rw [← hw1] at BB
  have k0 := c0' w1 BB.out.below
  have y0 : w1.cell? ⟨s, 0, none⟩ = some (.int .i64 x.c.v) := by rw [hs, cell_of_row _ _ 0 _ _ _ BB.out.box]; rfl
  have y1 : w1.cell? ⟨s, 1, none⟩ = some (.int .i64 x.c.s) := by rw [hs, cell_of_row _ _ 1 _ _ _ BB.out.box]; rfl
  have y2 : w1.cell? ⟨s, 2, none⟩ = some (.bool x.c.dead) := by rw [hs, cell_of_row _ _ 2 _ _ _ BB.out.box]; rfl
  have HW := Lib.hid (show (w.alloc (.cells #[.int .i64 x.c.v, .int .i64 x.c.s, .bool x.c.dead] 44)).alloc (.cells #[.int .i64 0, .int .i64 0, .bool false] 44) = w1 from hw1.symm)
  clear hT hts hlen hss hu hgc hy hbo c0' hl hw1
  go_enter Try.func93, Try.ntmps93
  go_upto_region 3 with fail
  rw [HW.out, ← hs]
  clear hs
  go_cut [8, 9] from 14 to 24 (fun r q wx => ∃ (k : Nat) (m' : MT T.d), r = .pointer (some ⟨k, 0, none⟩) ∧ q = .bool bo ∧ (pOf T.d m' = pOf T.d m ∧ trOf T.d m' = (setT T.d T.t x).1 ∧ Lk T.d m') ∧ Mt w wx (nodes T.d m) (nodes T.d m') tb k (s + 1) (root T.d m).p (T.items.length : Int) y)
  case first =>
    have BD := Lib.hid (BB.out.later (below_drewI (Below.refl _ _)))
    have HCA := Lib.hid (H.out.all.below BD.out.below)
    have HCB := Lib.hid (HCA.out.below ((Below.refl _ _).alloc (Nat.le_refl _) (.cells #[.int .i64 0, .int .i64 0, .bool false] 44)))
    have HMT := Lib.hid (fun (k : Nat) (W : World) (m' : MT T.d) (hk : w.heap.size ≤ k) (M : Md w W (nodes T.d m) (nodes T.d m') k (w.heap.size + 1) y) => M.mt H.out.all H.out.own H.out.block hk (by omega))
    have ga : ∀ (o : Obj) (p : Addr) (v : Value), w1.cell? p = some v → (w1.alloc o).cell? p = some v := fun o p v e => (((Below.refl _ w1).alloc (Nat.le_refl _) o).cell (World.block_lt_of_cell? _ _ e)).trans e
    have g1 := fun o => ga o _ _ y0
    have g2 := fun o => ga o _ _ y1
    have g3 := fun o => ga o _ _ y2
    have g4 := fun o => ga o _ _ k0
    clear ga
    go_region_law (first | (go_simp; go_at_call 110; refine Calls.mono (HSA.out _ HCA.out) ?_; rintro e8 w8 ⟨m', rfl, p1, p2, p3, M8⟩; have HP := Lib.hid (And.intro p1 (And.intro p2 p3)); have HM := Lib.hid (HMT.out _ _ m' (Nat.le_trans BD.out.below.size M8.ch.size) (Bc.fresh H.out.all BD.out M8 y)); clear p1 p2 p3 M8) | (go_simp; go_at_call 110; refine Calls.mono (HSA.out _ HCB.out) ?_; rintro e8 w8 ⟨m', rfl, p1, p2, p3, M8⟩; have HP := Lib.hid (And.intro p1 (And.intro p2 p3)); have HM := Lib.hid (HMT.out _ _ m' BB.out.below.size (Bc.stored H.out.all BD.out M8 y)); have hw := Bc.was H.out.all BD.out M8; have q0 : w8.cell? ⟨w1.heap.size, 0, none⟩ = some (.int .i64 0) := (cell_of_row _ _ 0 _ _ _ hw).trans rfl; have q1 : w8.cell? ⟨w1.heap.size, 1, none⟩ = some (.int .i64 0) := (cell_of_row _ _ 1 _ _ _ hw).trans rfl; have q2 : w8.cell? ⟨w1.heap.size, 2, none⟩ = some (.bool false) := (cell_of_row _ _ 2 _ _ _ hw).trans rfl; have qf : ∀ j, w8.frozen? ⟨w1.heap.size, j, none⟩ = false := frozen_of hw; clear hw p1 p2 p3 M8))
    all_goals (go_wp2_with fail; go_meet; exact ⟨_, m', rfl, rfl, HP.out, by rw [HS.out]; exact HM.out⟩)
  case rest =>
    clear y0 y1 y2 k0 HSA HC0
    obtain ⟨kk, m', rfl, rfl, ⟨p1, p2, p3⟩, hM⟩ := hcut
    rename World => wq
    have hp : (root T.d m').p = (root T.d m).p := p1
    rw [← hp] at hM
    obtain ⟨pt, hpt⟩ : ∃ pt, pt = (root T.d m').p := ⟨_, rfl⟩
    rw [← hpt] at hM
    have HM := Lib.hid hM
    have HP := Lib.hid (And.intro p2 (And.intro p3 hpt))
    -- the count
    obtain ⟨many, hmany⟩ : ∃ many, many = T.items.length := ⟨_, rfl⟩
    rw [← hmany] at hM HM
    have hml : many ≤ 100000 := by rw [hmany]; exact HT.out.2.2.2
    have HMN := Lib.hid hmany
    have t1 : wq.cell? ⟨tb, 1, none⟩ = some (.int .i64 (many : Int)) := by rw [cell_of_row _ _ 1 _ _ _ hM.tree]; rfl
    have tf := frozen_of hM.tree
    have f6 : IntKind.i64.wrap ((many : Int) + 1) = (many : Int) + 1 := by rw [IntKind.wrap_i64]; omega
    obtain ⟨many2, hm2⟩ : ∃ many2, many2 = (ins x T.items).length := ⟨_, rfl⟩
    have hm3 : many2 = many + (if bo then 0 else 1) := by rw [hm2, hmany]; exact HT.out.2.1
    have HM2 := Lib.hid (And.intro hm2 hm3)
    clear hp hpt p1 p2 p3 hM hmany hm2 hm3
    go_upto_if 26 with fail
    go_cut [] from 27 to 33 (fun wx => Mt w wx (nodes T.d m) (nodes T.d m') tb kk (s + 1) pt (many2 : Int) y)
    case first =>
      cases bo with
      | true =>
        have e2 : many2 = many := by rw [HM2.out.2]; rfl
        go_wp2_with fail
        go_meet
        rw [e2]
        exact HM.out
      | false =>
        have e2 : (many2 : Int) = (many : Int) + 1 := by rw [HM2.out.2]; rfl
        have HE2 := Lib.hid e2
        clear e2
        go_wp2_with fail
        go_meet
        exact HM.out.store (At.set _ _ _ _) (by rw [HE2.out]; exact heap_set _ _ 1 _ HM.out.tree)
    case rest =>
      clear t1 tf f6 HM
      rename World => wp
      have HM := Lib.hid hcut
      have t0 : wp.cell? ⟨tb, 0, none⟩ = some (.pointer (some ⟨pt, 0, none⟩)) := by rw [cell_of_row _ _ 0 _ _ _ hcut.tree]; rfl
      have tf := frozen_of hcut.tree
      have hroot := hcut.all.m (root T.d m') (by rw [nodes_eq]; exact List.mem_cons_self ..)
      obtain ⟨A, cc, ev, _⟩ := hroot.items
      have r0 := hroot.c0
      rw [ev, ← HP.out.2.2] at r0
      obtain ⟨m6, hm6⟩ : ∃ m6, m6 = (root T.d m').is.length := ⟨_, rfl⟩
      rw [← hm6] at r0
      have hm8 : m6 = (its T.d (setT T.d T.t x).1).length := by rw [hm6, ← HP.out.1, its_tr]
      have HM6 := Lib.hid (And.intro hm6 hm8)
      clear hcut hroot ev hm6 hm8
      obtain ⟨bt, hbt⟩ : ∃ bt, decide ((5 : Int) < (m6 : Int)) = bt := ⟨_, rfl⟩
      go_upto_if 42 with fail
      have HBT := Lib.hid hbt
      clear hbt
      go_cut [10] from 43 to 58 (fun _ wx => ∃ (m2 : MT (T.set x).1.d), (trOf (T.set x).1.d m2 = (T.set x).1.t ∧ Lk (T.set x).1.d m2) ∧ Mt w wx (nodes T.d m) (nodes (T.set x).1.d m2) tb kk (s + 1) (root (T.set x).1.d m2).p (many2 : Int) y)
      case first =>
        by_cases h5 : 5 < m6
        · obtain rfl : true = bt := by rw [← HBT.out]; exact (decide_eq_true (by omega)).symm
          have MW := wt_spec HM.out
          have hok' : Ok T.d (trOf T.d m') := by rw [HP.out.1]; exact HT.out.2.2.1.2.2.1
          have h6 : (root T.d m').is.length = 6 := by
            have e1 := HT.out.2.2.1.2.2.2.2
            have e2 := H.out.ok.few
            have e3 := HM6.out
            omega
          obtain ⟨mid, hmid⟩ : ∃ mid, (root T.d m').is[3]? = some mid := ⟨_, List.getElem?_eq_getElem (by omega)⟩
          have hleaf : (root T.d m').ps = [] ∨ (root T.d m').ps.length = 7 := by
            rcases kids_len T.d m' HP.out.2.1 hok' with e | e
            · exact .inl e
            · exact .inr (by omega)
          have hL : NdM (WT wp tb pt) (root T.d m') := MW.all.m _ (List.mem_cons_of_mem _ (by rw [nodes_eq]; exact List.mem_cons_self ..))
          have hN := MW.all.m _ (List.mem_cons_self ..)
          have hap : Ap _ (root T.d m') := (List.pairwise_cons.1 MW.all.ap).1 (root T.d m') (by rw [nodes_eq]; exact List.mem_cons_self ..)
          have HSP : Hid (Calls Try.prog 111 #[.pointer (some ⟨wp.heap.size + 1, 0, none⟩), .int .i64 0] (WT wp tb pt) _) := Lib.hid (split_any hN hL hap 0 1 rfl (Nat.le_refl _) (show [pt][0]? = some (root T.d m').p from by rw [HP.out.2.2]; rfl) h6 hmid hleaf (Nat.zero_le _) (by show 1 ≤ 100; omega))
          have H6 := Lib.hid (And.intro h6 (And.intro hmid (And.intro hN hL)))
          have HMW := Lib.hid MW
          have hbt : ∀ o1 o2, ((wp.alloc o1).alloc o2).heap[tb]? = some (.cells #[.pointer (some ⟨pt, 0, none⟩), .int .i64 (many2 : Int)] 157 (0, 0)) := fun o1 o2 => ((((Below.refl _ wp).alloc (Nat.le_refl _) o1).alloc (by simp) o2).block _ (Array.getElem?_eq_some_iff.1 HM.out.tree).1).trans HM.out.tree
          have g1 : ∀ o1 o2, ((wp.alloc o1).alloc o2).cell? ⟨tb, 0, none⟩ = some (.pointer (some ⟨pt, 0, none⟩)) := fun o1 o2 => (cell_of_row _ _ 0 _ _ _ (hbt o1 o2)).trans rfl
          have g2 : ∀ o1 o2, ((wp.alloc o1).alloc o2).frozen? ⟨tb, 0, none⟩ = false := fun o1 o2 => frozen_of (hbt o1 o2) 0
          have HG3 := Lib.hid (fun o1 o2 => ((cell_of_row _ _ 0 _ _ _ (heap_set _ tb 0 (.pointer (some ⟨wp.heap.size + 1, 0, none⟩)) (hbt o1 o2))).trans rfl : (((wp.alloc o1).alloc o2).setCell ⟨tb, 0, none⟩ (.pointer (some ⟨wp.heap.size + 1, 0, none⟩))).cell? ⟨tb, 0, none⟩ = some (.pointer (some ⟨wp.heap.size + 1, 0, none⟩))))
          clear hbt
          unfold WT at HSP
          clear MW hok' h6 hmid hleaf hL hN hap
          go_wp2_with fail
          refine Calls.mono HSP.out ?_
          rintro e9 w9 ⟨n', L', R', rfl, q1, q2, q3, q4, q5, q6, w5, R1, hb5, hn5, T5⟩
          have Q := Lib.hid (And.intro q1 (And.intro q2 (And.intro q3 (And.intro q4 (And.intro q5 (And.intro q6 (And.intro hb5 (And.intro hn5 T5))))))))
          clear q1 q2 q3 q4 q5 q6 hb5 hn5 T5 HSP
          go_wp2_with fail
          go_meet
          obtain ⟨q1, q2, q3, q4, q5, q6, hb5, hn5, T5⟩ := Q.out
          have hst := split_tr x mid T.d m' L' R' H6.out.1 H6.out.2.1 q3 q5
          rw [HP.out.1] at hst
          have hpk := ps_kid HP.out.2.1
          have hkl : T.d = 0 → (kid T.d m').take 4 = [] := fun e => by rw [kid_zero T.d m' e]; rfl
          have hkr : T.d = 0 → (kid T.d m').drop 4 = [] := fun e => by rw [kid_zero T.d m' e]; rfl
          have e : (T.set x).1 = ⟨T.d + 1, ([mid], [trOf T.d (mkT T.d L' ((kid T.d m').take 4)), trOf T.d (mkT T.d R' ((kid T.d m').drop 4))])⟩ := by
            unfold Top.set
            rw [if_pos (by rw [← HM6.out.2]; exact h5), hst]
          have hmv := split_mv (a := []) (b := []) (c := m') (by simpa using HMW.out.all) (Mv.of_split H6.out.2.2.1 H6.out.2.2.2 hb5 hn5 T5) (List.take_append_drop 4 _) hkl hkr
          rw [e]
          refine ⟨((n', [mkT T.d L' ((kid T.d m').take 4), mkT T.d R' ((kid T.d m').drop 4)]) : MT (T.d + 1)), ⟨?_, ?_, ?_⟩, ?_⟩
          · show (n'.is, _) = _
            rw [q1]
            rfl
          · show n'.ps = [pOf T.d (mkT T.d L' ((kid T.d m').take 4)), pOf T.d (mkT T.d R' ((kid T.d m').drop 4))]
            have e2 : pOf T.d (mkT T.d L' ((kid T.d m').take 4)) = pt := (p_same T5.fL.p).trans HP.out.2.2.symm
            have e3 : pOf T.d (mkT T.d R' ((kid T.d m').drop 4)) = R'.p := by unfold pOf; rw [root_mk]
            rw [q2, e2, e3]
            rfl
          · intro z hz
            rcases List.mem_cons.1 hz with e | e
            · subst e; exact lk_sub HP.out.2.1 (fun c hc => List.mem_of_mem_take hc) hkl (by rw [q4, hpk, List.map_take])
            · rw [List.mem_singleton.1 e]; exact lk_sub HP.out.2.1 (fun c hc => List.mem_of_mem_drop hc) hkr (by rw [q6, hpk, List.map_drop])
          · have hM := HMW.out.step (l2 := n' :: [mkT T.d L' ((kid T.d m').take 4), mkT T.d R' ((kid T.d m').drop 4)].flatMap (nodes T.d)) (by simpa using hmv)
            have ep : (root (T.d + 1) ((n', [mkT T.d L' ((kid T.d m').take 4), mkT T.d R' ((kid T.d m').drop 4)]) : MT (T.d + 1))).p = wp.heap.size + 1 := T5.fn.p
            rw [ep]
            exact hM
        · obtain rfl : false = bt := by rw [← HBT.out]; exact (decide_eq_false (by omega)).symm
          go_wp2_with fail
          go_meet
          have e : (T.set x).1 = ⟨T.d, (setT T.d T.t x).1⟩ := by
            unfold Top.set
            rw [if_neg (by rw [← HM6.out.2]; exact h5)]
          rw [e]
          exact ⟨m', ⟨HP.out.1, HP.out.2.1⟩, by rw [← HP.out.2.2]; exact HM.out⟩
      case rest =>
        clear t0 tf r0
        obtain ⟨m2, ⟨q1, q2⟩, hM⟩ := hcut
        have HQ := Lib.hid (And.intro q1 (And.intro q2 hM))
        have hk2 := hM.was
        have hr2 := hM.res
        clear q1 q2 hM
        have z0 : wc.cell? ⟨kk, 0, none⟩ = some (.int .i64 y.v) := by rw [cell_of_row _ _ 0 _ _ _ hk2]; rfl
        have z1 : wc.cell? ⟨kk, 1, none⟩ = some (.int .i64 y.s) := by rw [cell_of_row _ _ 1 _ _ _ hk2]; rfl
        have z2 : wc.cell? ⟨kk, 2, none⟩ = some (.bool y.dead) := by rw [cell_of_row _ _ 2 _ _ _ hk2]; rfl
        have r0 : wc.cell? ⟨s + 1, 0, none⟩ = some (.int .i64 0) := by rw [cell_of_row _ _ 0 _ _ _ hr2]; rfl
        have r1 : wc.cell? ⟨s + 1, 1, none⟩ = some (.int .i64 0) := by rw [cell_of_row _ _ 1 _ _ _ hr2]; rfl
        have r2 : wc.cell? ⟨s + 1, 2, none⟩ = some (.bool false) := by rw [cell_of_row _ _ 2 _ _ _ hr2]; rfl
        have rf := frozen_of hr2
        have HR := Lib.hid (res3 hr2 (.int .i64 y.v) (.int .i64 y.s) (.bool y.dead))
        clear hk2 hr2
        go_wp2_with fail
        have hd := HQ.out.2.2.done (((At.set _ _ 0 (.int .i64 y.v)).more 1 (.int .i64 y.s)).more 2 (.bool y.dead)) HT.out.1.2.2 HQ.out.1 HQ.out.2.1 rfl rfl (by rw [HT.out.1.1, ← HM2.out.1]) H.out.F
        rw [HT.out.1.1] at hd
        obtain ⟨F', g1, g2⟩ := hd
        exact bodyPost_ret (v := .tuple #[.agg #[.int .i64 y.v, .int .i64 y.s, .bool y.dead], .bool bo]) (by simp [results, Try.results93, go_sem, HR.out.1, HR.out.2.1, HR.out.2.2]) rfl ⟨rfl, F', _, g1, g2⟩
end Go.Proofs.Ytejpjbmbcdgomaa

/- What a nil tree answers: Drop, Get, Range. -/
namespace Go.Proofs.Ytejpjbmbcdgomaa
set_option maxRecDepth 100000
open Go.RowKit

set_option maxHeartbeats 2000000 in
theorem nil_get (w : World) (k : Int) : Calls Try.prog 96 #[.pointer none, .int .i64 k] w fun e w' => e = .returned (.tuple #[.agg #[.int .i64 0, .int .i64 0, .bool false], .bool false]) ∧ Below w.heap.size w w' := by
  obtain ⟨W, hW⟩ : ∃ W, W = w.alloc (.cells #[.int .i64 0, .int .i64 0, .bool false] 44) := ⟨_, rfl⟩
  have hr : W.heap[w.heap.size]? = some (.cells #[.int .i64 0, .int .i64 0, .bool false] 44 (0, 0)) := by rw [hW]; exact heap_alloc_new w _
  have hb : Below w.heap.size w W := by rw [hW]; exact (Below.refl _ _).alloc (Nat.le_refl _) _
  obtain ⟨s, hs⟩ : ∃ s, s = w.heap.size := ⟨_, rfl⟩
  rw [← hs] at hr
  have r0 : W.cell? ⟨s, 0, none⟩ = some (.int .i64 0) := by rw [cell_of_row _ _ 0 _ _ _ hr]; rfl
  have r1 : W.cell? ⟨s, 1, none⟩ = some (.int .i64 0) := by rw [cell_of_row _ _ 1 _ _ _ hr]; rfl
  have r2 : W.cell? ⟨s, 2, none⟩ = some (.bool false) := by rw [cell_of_row _ _ 2 _ _ _ hr]; rfl
  have rf := frozen_of hr
  have HRR := Lib.hid (fun x y z => res3 hr x y z)
  have HSB := Lib.hid (⟨by rw [hs]; omega, hb⟩ : Sb w W s)
  have HW := Lib.hid hW
  have HS := Lib.hid hs
  clear hW hb hr hs
  go_enter Try.func96, Try.ntmps96
  go_upto_region 1 with fail
  rw [← HW.out, ← HS.out]
  go_wp2_with fail
  refine bodyPost_ret (v := .tuple #[.agg #[.int .i64 0, .int .i64 0, .bool false], .bool false]) (by simp [results, Try.results96, go_sem, (HRR.out (.int .i64 0) (.int .i64 0) (.bool false)).1, (HRR.out (.int .i64 0) (.int .i64 0) (.bool false)).2.1, (HRR.out (.int .i64 0) (.int .i64 0) (.bool false)).2.2]) rfl ⟨rfl, (((HSB.out.s1 0 _).s1 1 _).s1 2 _).b⟩
end Go.Proofs.Ytejpjbmbcdgomaa
