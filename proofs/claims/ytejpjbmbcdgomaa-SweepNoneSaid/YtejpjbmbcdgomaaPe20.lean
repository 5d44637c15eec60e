/- SSet, SForce, SApply: put together. -/
import Derived.Test.YtejpjbmbcdgomaaPe17
import Derived.Test.YtejpjbmbcdgomaaPe19
/- set: a cell is set, and counted. -/
namespace Go.Proofs.Ytejpjbmbcdgomaa
set_option maxRecDepth 100000
open Go.RowKit

/-- Behind a set: the store, and the two boxes. -/
structure SSt (w wx : World) (G : Nat → Prop) (sb : Nat) (ts : Tb) (live last : Int) (s kk : Nat) (y c : Cl) : Prop where
  st : ∃ G', SM wx G' sb ts live last ∧ Cg w wx G G' ∧ ¬ G' kk ∧ ¬ G' (s + 1)
  was : wx.heap[kk]? = some (.cells #[.int .i64 y.v, .int .i64 y.s, .bool y.dead] 44 (0, 0))
  new : wx.heap[s + 1]? = some (.cells #[.int .i64 c.v, .int .i64 c.s, .bool c.dead] 44 (0, 0))
  low : w.heap.size ≤ kk ∧ w.heap.size ≤ s + 1
section
variable {w wx : World} {G : Nat → Prop} {sb : Nat} {ts : Tb} {live last : Int} {s kk : Nat} {y c : Cl}
theorem SSt.put (h : SSt w wx G sb ts live last s kk y c) (n : Int) : SSt w (wx.setCell ⟨sb, 4, none⟩ (.int .i64 n)) G sb ts n last s kk y c := by
  obtain ⟨G', h1, h2, h3, h4⟩ := h.st
  have hs := h1.sb_in
  obtain ⟨k1, k2⟩ := h1.put4 n
  exact ⟨⟨G', k1, h2.trans k2, h3, h4⟩, (heap_ne _ _ _ _ (fun e => h3 (by rw [e]; exact hs))).trans h.was, (heap_ne _ _ _ _ (fun e => h4 (by rw [e]; exact hs))).trans h.new, h.low⟩
theorem SSt.c4 (h : SSt w wx G sb ts live last s kk y c) : wx.cell? ⟨sb, 4, none⟩ = some (.int .i64 live) := by
  obtain ⟨G', h1, _⟩ := h.st
  exact h1.live4
theorem SSt.f4 (h : SSt w wx G sb ts live last s kk y c) (j : Nat) : wx.frozen? ⟨sb, j, none⟩ = false := by
  obtain ⟨G', h1, _⟩ := h.st
  exact h1.frozen j
theorem SSt.d2 (h : SSt w wx G sb ts live last s kk y c) : wx.cell? ⟨kk, 2, none⟩ = some (.bool y.dead) := by rw [cell_of_row _ _ 2 _ _ _ h.was]; rfl
theorem SSt.n2 (h : SSt w wx G sb ts live last s kk y c) : wx.cell? ⟨s + 1, 2, none⟩ = some (.bool c.dead) := by rw [cell_of_row _ _ 2 _ _ _ h.new]; rfl
/-- The box laid behind the call. -/
theorem SSt.fresh {w1 : World} {G' : Nat → Prop} (h1 : SM w1 G' sb ts live last) (h2 : Cg w w1 G G') (h4 : ¬ G' (s + 1)) (hn : w1.heap[s + 1]? = some (.cells #[.int .i64 c.v, .int .i64 c.s, .bool c.dead] 44 (0, 0))) (hs : w.heap.size ≤ s + 1) (y : Cl) :
    SSt w (w1.alloc (.cells #[.int .i64 y.v, .int .i64 y.s, .bool y.dead] 44)) G sb ts live last s w1.heap.size y c := by
  have hb : Below w1.heap.size w1 (w1.alloc (.cells #[.int .i64 y.v, .int .i64 y.s, .bool y.dead] 44)) := (Below.refl _ _).alloc (Nat.le_refl _) _
  exact ⟨⟨G', h1.below hb, h2.trans (Cg.of_below hb _), fun e => by have := h1.lt e; omega, h4⟩, heap_alloc_new w1 _, (hb.block _ (Array.getElem?_eq_some_iff.1 hn).1).trans hn, h2.ch.size, hs⟩
/-- The box laid ahead of the call. -/
theorem SSt.stored {w1 : World} {G' : Nat → Prop} (h1 : SM w1 G' sb ts live last) (h2 : Cg w w1 G G') (h3 : ¬ G' kk) (h4 : ¬ G' (s + 1)) (hn : w1.heap[s + 1]? = some (.cells #[.int .i64 c.v, .int .i64 c.s, .bool c.dead] 44 (0, 0))) (hs : w.heap.size ≤ s + 1)
    (hk : w1.heap[kk]? = some (.cells #[.int .i64 0, .int .i64 0, .bool false] 44 (0, 0))) (hkl : w.heap.size ≤ kk) (hne : s + 1 ≠ kk) (y : Cl) :
    SSt w (((w1.setCell ⟨kk, 0, none⟩ (.int .i64 y.v)).setCell ⟨kk, 1, none⟩ (.int .i64 y.s)).setCell ⟨kk, 2, none⟩ (.bool y.dead)) G sb ts live last s kk y c := by
  have hq : ∀ q, q ≠ kk → (((w1.setCell ⟨kk, 0, none⟩ (.int .i64 y.v)).setCell ⟨kk, 1, none⟩ (.int .i64 y.s)).setCell ⟨kk, 2, none⟩ (.bool y.dead)).heap[q]? = w1.heap[q]? := fun q e => by
    rw [heap_ne _ _ _ _ e, heap_ne _ _ _ _ e, heap_ne _ _ _ _ e]
  have hc : Ch w1 (((w1.setCell ⟨kk, 0, none⟩ (.int .i64 y.v)).setCell ⟨kk, 1, none⟩ (.int .i64 y.s)).setCell ⟨kk, 2, none⟩ (.bool y.dead)) (fun q => q = kk) :=
    ⟨rfl, rfl, rfl, by rw [World.size_setCell, World.size_setCell, World.size_setCell]; exact Nat.le_refl _, fun q _ e => hq q e⟩
  refine ⟨⟨G', h1.keep fun q e => hq q (fun e2 => h3 (e2 ▸ e)), ⟨h2.ch.trans hc (fun q e => .inr (by rw [e]; exact hkl)), h2.fr⟩, h3, h4⟩, ?_, (hq _ hne).trans hn, hkl, hs⟩
  exact (heap_set _ kk 2 _ (heap_set _ kk 1 _ (heap_set w1 kk 0 _ hk))).trans rfl
end
set_option maxHeartbeats 8000000 in
theorem sset_any {w : World} {G : Nat → Prop} {sb : Nat} {ts : Tb} {last : Int} {t k : Int} (hM : SM w G sb ts (liveT ts : Int) last) (c : Cl) (ht : InT t) (hl : ∀ i, i < 4 → (ts i).length ≤ 99999) :
    Calls Try.prog 61 #[.pointer (some ⟨sb, 0, none⟩), .agg #[.int .i64 t, .int .i64 k], .agg #[.int .i64 c.v, .int .i64 c.s, .bool c.dead]] w fun e w' => e = .returned (.tuple #[]) ∧
      ∃ G', SM w' G' sb (ts.upd t.toNat (ins ⟨k, c⟩ (ts t.toNat))) (liveT (ts.upd t.toNat (ins ⟨k, c⟩ (ts t.toNat))) : Int) last ∧ Cg w w' G G' := by
  obtain ⟨i, rfl⟩ : ∃ i : Nat, t = (i : Int) := ⟨t.toNat, by unfold InT at ht; omega⟩
  have hi : i < 4 := by unfold InT at ht; omega
  have eti : ((i : Int)).toNat = i := by omega
  have hlv := Part.live (ts' := ts) (k := k) hM.up ht c
  rw [cellAt_in ht] at hlv
  rw [eti] at hlv ⊢
  have hlb : liveT ts ≤ 400000 := by
    have h0 := liveL_le (ts 0)
    have h1 := liveL_le (ts 1)
    have h2 := liveL_le (ts 2)
    have h3 := liveL_le (ts 3)
    have g0 := hl 0 (by omega)
    have g1 := hl 1 (by omega)
    have g2 := hl 2 (by omega)
    have g3 := hl 3 (by omega)
    unfold liveT
    omega
  obtain ⟨ts', hts'⟩ : ∃ ts', ts' = ts.upd i (ins ⟨k, c⟩ (ts i)) := ⟨_, rfl⟩
  rw [← hts'] at hlv ⊢
  obtain ⟨lv, hlvn⟩ : ∃ lv, lv = liveT ts := ⟨_, rfl⟩
  rw [← hlvn] at hM hlv hlb
  obtain ⟨lv', hlvn'⟩ : ∃ lv', lv' = liveT ts' := ⟨_, rfl⟩
  rw [← hlvn'] at hlv ⊢
  obtain ⟨b, F, d, hc, hTL, hFG, hback⟩ := hM.table hi
  obtain ⟨W, hW⟩ : ∃ W, W = (w.alloc (.cells #[.int .i64 (i : Int), .int .i64 k] 42)).alloc (.cells #[.int .i64 c.v, .int .i64 c.s, .bool c.dead] 44) := ⟨_, rfl⟩
  obtain ⟨s, hs⟩ : ∃ s, s = w.heap.size := ⟨_, rfl⟩
  have hb0 : Below w.heap.size w (w.alloc (.cells #[.int .i64 (i : Int), .int .i64 k] 42)) := (Below.refl _ _).alloc (Nat.le_refl _) _
  have hb : Below w.heap.size w W := by rw [hW]; exact hb0.alloc hb0.size _
  have e1 : W.heap[s]? = some (.cells #[.int .i64 (i : Int), .int .i64 k] 42 (0, 0)) := by
    rw [hW, hs, ((Below.refl _ (w.alloc (.cells #[.int .i64 (i : Int), .int .i64 k] 42))).alloc (Nat.le_refl _) _).block _ (by simp)]
    exact heap_alloc_new w _
  have e2 : W.heap[s + 1]? = some (.cells #[.int .i64 c.v, .int .i64 c.s, .bool c.dead] 44 (0, 0)) := by
    have := heap_alloc_new (w.alloc (.cells #[.int .i64 (i : Int), .int .i64 k] 42)) (.cells #[.int .i64 c.v, .int .i64 c.s, .bool c.dead] 44)
    have e : (w.alloc (.cells #[.int .i64 (i : Int), .int .i64 k] 42)).heap.size = s + 1 := by rw [hs]; simp
    rw [e, ← hW] at this
    exact this
  have hsW : W.heap.size = s + 2 := by rw [hW, hs]; simp
  obtain ⟨y, hy⟩ : ∃ y, y = cv (getC k (ts i)) := ⟨_, rfl⟩
  obtain ⟨bo, hbo⟩ : ∃ bo, bo = (getC k (ts i)).isSome := ⟨_, rfl⟩
  have HTB := Lib.hid (fun (w1 : World) (hw : Below W.heap.size W w1) => table_at hi (((hb.trans (hw.mono hb.size)).cell (p := ⟨sb, i, none⟩) (World.block_lt_of_cell? _ _ hc)).trans hc))
  have HST : Hid (∀ (w1 : World), Below W.heap.size W w1 → Calls Try.prog 93 #[.pointer (some ⟨b, 0, none⟩), .int .i64 k, .agg #[.int .i64 c.v, .int .i64 c.s, .bool c.dead]] w1 fun e w' => e = .returned (.tuple #[.agg #[.int .i64 y.v, .int .i64 y.s, .bool y.dead], .bool bo]) ∧
      ∃ G', SM w' G' sb ts' (lv : Int) last ∧ Cg w w' G G' ∧ (∀ q, w.heap.size ≤ q → q < w1.heap.size → w'.heap[q]? = w1.heap[q]? ∧ ¬ G' q) ∧ w1.heap.size ≤ w'.heap.size) := Lib.hid (fun w1 hw => by
    have hbw := hb.trans (hw.mono hb.size)
    have hT1 := hTL.below hbw
    refine Calls.mono (tset_any hT1 ⟨k, c⟩ (by have := hl i hi; omega)) ?_
    rintro e w' ⟨rfl, F', d', hT', hC⟩
    obtain ⟨G', g1, g2⟩ := hback w1 hbw w' F' _ d' hT' hC
    refine ⟨by rw [hy, hbo], G', by rw [hts']; exact g1, (Cg.of_below hbw G).trans g2, fun q h1 h2 => ⟨hC.ch.block q h2 (fun e => by have := hTL.lt e; omega), fun e => ?_⟩, hC.ch.size⟩
    rcases g2.fr q e with e | e
    · have := hM.lt e; omega
    · omega)
  have c0 : W.cell? ⟨s, 0, none⟩ = some (.int .i64 (i : Int)) := by rw [cell_of_row _ _ 0 _ _ _ e1]; rfl
  have c1 : W.cell? ⟨s, 1, none⟩ = some (.int .i64 k) := by rw [cell_of_row _ _ 1 _ _ _ e1]; rfl
  have k0 : W.cell? ⟨s + 1, 0, none⟩ = some (.int .i64 c.v) := by rw [cell_of_row _ _ 0 _ _ _ e2]; rfl
  have k1 : W.cell? ⟨s + 1, 1, none⟩ = some (.int .i64 c.s) := by rw [cell_of_row _ _ 1 _ _ _ e2]; rfl
  have k2 : W.cell? ⟨s + 1, 2, none⟩ = some (.bool c.dead) := by rw [cell_of_row _ _ 2 _ _ _ e2]; rfl
  have HW := Lib.hid hW
  have HS := Lib.hid hs
  have HE2 := Lib.hid (fun (w1 : World) (hw : Below W.heap.size W w1) => (hw.block _ (Array.getElem?_eq_some_iff.1 e2).1).trans e2)
  have HSW := Lib.hid hsW
  have HLV := Lib.hid hlv
  have HLB := Lib.hid hlb
  have HYB := Lib.hid (And.intro hy hbo)
  have HDW : Hid (Below W.heap.size W W.drew) := Lib.hid (below_drewI (Below.refl _ _))
  have HDA : Hid (Below W.heap.size W (W.alloc (.cells #[.int .i64 0, .int .i64 0, .bool false] 44)).drew) := Lib.hid (below_drewI ((Below.refl _ _).alloc (Nat.le_refl _) _))
  have HDZ : Hid ((W.alloc (.cells #[.int .i64 0, .int .i64 0, .bool false] 44)).drew.heap[W.heap.size]? = some (.cells #[.int .i64 0, .int .i64 0, .bool false] 44 (0, 0)) ∧ (W.alloc (.cells #[.int .i64 0, .int .i64 0, .bool false] 44)).drew.heap.size = W.heap.size + 1) := Lib.hid ⟨heap_alloc_new W _, by show (W.alloc _).heap.size = _; simp⟩
  clear hlv hts' hlvn' hlvn hTL hFG hback hb0 hb e1 e2 hsW hy hbo hM hl hc hW hs hlb
  go_enter Try.func61, Try.ntmps61
  go_upto_region 1 with fail
  rw [← HS.out, ← HW.out]
  go_cut [6, 7] from 9 to 18 (fun r q wx => ∃ kk : Nat, r = .pointer (some ⟨kk, 0, none⟩) ∧ q = .bool bo ∧ SSt w wx G sb ts' (lv : Int) last s kk y c)
  case first =>
    have ga : ∀ (o : Obj) (p : Addr) (v : Value), W.cell? p = some v → (W.alloc o).cell? p = some v := fun o p v e => (((Below.refl _ W).alloc (Nat.le_refl _) o).cell (World.block_lt_of_cell? _ _ e)).trans e
    have g1 := fun o => ga o _ _ c0
    have g2 := fun o => ga o _ _ c1
    have g3 := fun o => ga o _ _ k0
    have g4 := fun o => ga o _ _ k1
    have g5 := fun o => ga o _ _ k2
    clear ga
    go_region_law (first | (go_simp; go_at_call 51; refine Calls.mono (HTB.out _ HDW.out) ?_; rintro e1 w1 ⟨rfl, rfl⟩) | (go_simp; go_at_call 51; refine Calls.mono (HTB.out _ HDA.out) ?_; rintro e1 w1 ⟨rfl, rfl⟩) | (go_simp; go_at_call 93; refine Calls.mono (HST.out _ HDW.out) ?_; rintro e8 w8 ⟨rfl, G', h1, h2, h3, h4⟩; obtain ⟨q1, q2⟩ := h3 (s + 1) (by { rw [HS.out]; omega }) (by { show s + 1 < W.heap.size; rw [HSW.out]; omega }); have HQ := Lib.hid (SSt.fresh h1 h2 q2 (q1.trans (HE2.out _ HDW.out)) (by { rw [HS.out]; omega }) y); clear h1 h2 h3 h4 q1 q2) | (go_simp; go_at_call 93; refine Calls.mono (HST.out _ HDA.out) ?_; rintro e8 w8 ⟨rfl, G', h1, h2, h3, h4⟩; obtain ⟨q1, q2⟩ := h3 (s + 1) (by { rw [HS.out]; omega }) (by { rw [HDZ.out.2, HSW.out]; omega }); obtain ⟨q3, q4⟩ := h3 W.heap.size (by { rw [HSW.out, HS.out]; omega }) (by { rw [HDZ.out.2]; omega }); have hz := q3.trans HDZ.out.1; have r0 : w8.cell? ⟨W.heap.size, 0, none⟩ = some (.int .i64 0) := by { rw [cell_of_row _ _ 0 _ _ _ hz]; rfl }; have r1 : w8.cell? ⟨W.heap.size, 1, none⟩ = some (.int .i64 0) := by { rw [cell_of_row _ _ 1 _ _ _ hz]; rfl }; have r2 : w8.cell? ⟨W.heap.size, 2, none⟩ = some (.bool false) := by { rw [cell_of_row _ _ 2 _ _ _ hz]; rfl }; have rf := frozen_of hz; have HQ := Lib.hid (SSt.stored h1 h2 q4 q2 (q1.trans (HE2.out _ HDA.out)) (by { rw [HS.out]; omega }) hz (by { rw [HSW.out, HS.out]; omega }) (by { rw [HSW.out]; omega }) y); clear h1 h2 h3 h4 q1 q2 q3 q4 hz))
    all_goals (go_wp2_with fail; go_meet; exact ⟨_, rfl, rfl, HQ.out⟩)
  case rest =>
    obtain ⟨kk, rfl, rfl, hq⟩ := hcut
    rename World => wq
    clear c0 c1 k0 k1 k2 HTB HST HE2
    have HQ := Lib.hid hq
    have d2 := hq.d2
    have c4 := hq.c4
    have f4 := hq.f4
    obtain ⟨dy, hdy⟩ : ∃ dy, dy = y.dead := ⟨_, rfl⟩
    rw [← hdy] at d2
    have HO : Hid ((one (getC k (ts i)) : Int) = if bo && !dy then 1 else 0) := Lib.hid (by
      rw [HYB.out.2, hdy, HYB.out.1]
      cases getC k (ts i) with
      | none => rfl
      | some c1 => show ((if c1.dead then 0 else 1 : Nat) : Int) = if true && !c1.dead then 1 else 0; cases c1.dead <;> rfl)
    obtain ⟨l1, hl1⟩ : ∃ l1 : Int, l1 = (lv : Int) - (one (getC k (ts i)) : Int) := ⟨_, rfl⟩
    have HL1 := Lib.hid hl1
    have f6 : IntKind.i64.wrap ((lv : Int) - 1) = (lv : Int) - 1 := by have := HLB.out; rw [IntKind.wrap_i64]; omega
    clear hq hdy hl1
    go_upto_region 2 with fail
    go_cut [24] from 19 to 23 (fun r wx => r = .bool (bo && !dy) ∧ wx = wq)
    case first =>
      cases bo with
      | true => cases dy <;> (go_wp2_with fail; go_meet; exact ⟨rfl, rfl⟩)
      | false => go_wp2_with fail; go_meet; exact ⟨rfl, rfl⟩
    case rest =>
    obtain ⟨rfl, rfl⟩ := hcut
    obtain ⟨bd, hbd⟩ : ∃ bd, bd = (bo && !dy) := ⟨_, rfl⟩
    rw [← hbd] at HO ⊢
    clear hbd d2
    go_upto_if 24 with fail
    go_cut [] from 25 to 31 (fun wx => SSt w wx G sb ts' l1 last s kk y c)
    case first =>
      cases bd with
      | true =>
        have HE : Hid (l1 = (lv : Int) - 1) := Lib.hid (by rw [HL1.out, HO.out]; simp)
        go_wp2_with fail
        go_meet
        rw [HE.out]
        exact HQ.out.put _
      | false =>
        have HE : Hid (l1 = (lv : Int)) := Lib.hid (by rw [HL1.out, HO.out]; simp)
        go_wp2_with fail
        go_meet
        rw [HE.out]
        exact HQ.out
    case rest =>
      clear c4 f4 f6 HQ
      rename World => wp
      have HQ := Lib.hid hcut
      have n2 := hcut.n2
      have c4 := hcut.c4
      have f4 := hcut.f4
      obtain ⟨dc, hdc⟩ : ∃ dc, dc = c.dead := ⟨_, rfl⟩
      rw [← hdc] at n2
      have HC : Hid ((lv' : Int) = l1 + if dc then 0 else 1) := Lib.hid (by
        have e : (one (some c) : Int) = if c.dead then 0 else 1 := by
          show ((if c.dead then 0 else 1 : Nat) : Int) = _
          cases c.dead <;> rfl
        rw [HLV.out, HL1.out, hdc, e])
      have f6 : IntKind.i64.wrap (l1 + 1) = l1 + 1 := by
        have := HLB.out
        have h1 := HL1.out
        have h2 := HO.out
        rw [IntKind.wrap_i64]
        split at h2 <;> omega
      clear hcut hdc
      cases dc with
      | true =>
        have HE : Hid ((lv' : Int) = l1) := Lib.hid (by rw [HC.out]; simp)
        go_wp2_with fail
        obtain ⟨G', h1, h2, _⟩ := HQ.out.st
        exact bodyPost_end (v := .tuple #[]) (by simp [results, Try.results61, go_sem]) rfl ⟨rfl, G', by rw [HE.out]; exact h1, h2⟩
      | false =>
        have HE : Hid ((lv' : Int) = l1 + 1) := Lib.hid (by rw [HC.out]; simp)
        go_wp2_with fail
        obtain ⟨G', h1, h2, _⟩ := (HQ.out.put (l1 + 1)).st
        exact bodyPost_end (v := .tuple #[]) (by simp [results, Try.results61, go_sem]) rfl ⟨rfl, G', by rw [HE.out]; exact h1, h2⟩
end Go.Proofs.Ytejpjbmbcdgomaa

/- Force: a transaction's writes are put. -/
namespace Go.Proofs.Ytejpjbmbcdgomaa
set_option maxRecDepth 100000
open Go.RowKit

theorem tl_cells {w : World} {F : Nat → Prop} {tb d : Nat} {l : List Ix} (h : TL w F tb l d) {q : Nat} (hq : F q) : ∃ cs t, w.heap[q]? = some (.cells cs t (0, 0)) := by
  obtain ⟨T, m, _, rfl, hT⟩ := h
  rcases (hT.F q).1 hq with ⟨n, hn, e⟩ | e
  · have hm := hT.all.m n hn
    rcases e with e | e | e
    · rw [e]; exact ⟨_, _, hm.block⟩
    · obtain ⟨cs, e2⟩ := own_at hm.own e
      exact ⟨cs, _, e2⟩
    · obtain ⟨cs, e2⟩ := own_at hm.kids e
      exact ⟨cs, _, e2⟩
  · rw [e]; exact ⟨_, _, hT.block⟩
theorem SM.cells {w : World} {G : Nat → Prop} {sb : Nat} {ts : Tb} {live last : Int} (h : SM w G sb ts live last) {q : Nat} (hq : G q) : ∃ cs t, w.heap[q]? = some (.cells cs t (0, 0)) := by
  obtain ⟨tb, F, d, h⟩ := h
  rcases (h.set q).1 hq with rfl | ⟨i, hi, hf⟩
  · exact ⟨_, _, h.block⟩
  · exact tl_cells (h.tree i hi) hf
/-- What holds no cells is none of a store's blocks. -/
theorem KR.out {α : Type} {enc : α → Value} {w : World} {b r n : Nat} {g : Int → Int → Option α} {left : Int → Int → Bool} {cnt : Nat} (h : KR enc w b r n g left cnt) {G : Nat → Prop} {sb : Nat} {ts : Tb} {live last : Int} (hM : SM w G sb ts live last) : ¬ G b ∧ ¬ G r := by
  obtain ⟨⟨es, c, e1⟩, a, s, c2, d, e2⟩ := h.types
  constructor
  · intro e
    obtain ⟨cs, t, e3⟩ := hM.cells e
    rw [e1] at e3
    cases e3
  · intro e
    obtain ⟨cs, t, e3⟩ := hM.cells e
    rw [e2] at e3
    cases e3
/-- The same, the store turned as it goes. -/
structure FO (w wr : World) (G : Nat → Prop) (sb : Nat) (last : Int) (B r n : Nat) (q : Int) (ts : Tb) (ws : List Wr) (left : Int → Int → Bool) (cnt : Nat) (ts' : Tb) (N : Nat) : Prop where
  rg : KR Wr.val wr B r n (gat q ts ws) left cnt
  part : Part q ts ws left ts'
  len : ∀ i, i < 4 → (ts' i).length + cnt ≤ N
  st : ∃ G', SM wr G' sb ts' (liveT ts' : Int) last ∧ Cg w wr G G'
  low : w.heap.size ≤ B ∧ w.heap.size ≤ r
theorem FO.next {w w4 W7 w8 : World} {G G1 G2 : Nat → Prop} {sb : Nat} {last : Int} {B r n : Nat} {q : Int} {ts : Tb} {ws : List Wr} {left : Int → Int → Bool} {cnt : Nat} {ts' ts2 : Tb} {N : Nat} (hK : KR Wr.val w4 B r n (gat q ts ws) left cnt) (hM : SM w4 G1 sb ts' (liveT ts' : Int) last) (hC : Cg w w4 G G1)
    (hb : Below w4.heap.size w4 W7) (h1 : SM w8 G2 sb ts2 (liveT ts2 : Int) last) (h2 : Cg W7 w8 G1 G2) (hP : Part q ts ws left ts2) (hl : ∀ i, i < 4 → (ts2 i).length + cnt ≤ N) (low : w.heap.size ≤ B ∧ w.heap.size ≤ r) : FO w w8 G sb last B r n q ts ws left cnt ts2 N := by
  obtain ⟨n1, n2⟩ := hK.out hM
  have hlt := hK.lt
  exact ⟨hK.kept ((h2.ch.block _ (Nat.lt_of_lt_of_le hlt.1 hb.size) n1).trans (hb.block _ hlt.1)) ((h2.ch.block _ (Nat.lt_of_lt_of_le hlt.2 hb.size) n2).trans (hb.block _ hlt.2)), hP, hl, ⟨G2, h1, (hC.trans (Cg.of_below hb G1)).trans h2⟩, low⟩
def errRange : Value := .iface 64 (.int .i64 1)
def errFull : Value := .iface 64 (.int .i64 4)
set_option maxHeartbeats 4000000 in
theorem force_bad {w : World} {sb : Nat} {A : Option Addr} {c : Nat} {ws : List Wr} (q : Int) (h : Wrs w A ws) (hl : ws.length ≤ 50000) (hb : takB q ws = false) :
    Calls Try.prog 33 #[.pointer (some ⟨sb, 0, none⟩), .int .i64 q, .slice A ws.length c] w fun e w' => e = .returned errRange ∧ Below w.heap.size w w' := by
  have HT := Lib.hid (takes_any (sb := sb) (c := c) q h (by omega))
  rw [hb] at HT
  obtain ⟨n, hn⟩ : ∃ n, n = ws.length := ⟨_, rfl⟩
  rw [← hn] at HT ⊢
  clear h hl hb hn
  unfold errRange
  go_enter Try.func33, Try.ntmps33
  go_wp2_with fail
  refine Calls.mono HT.out ?_
  rintro e w1 ⟨rfl, hb1⟩
  have HB1 := Lib.hid hb1
  clear hb1
  go_wp2_with fail
  go_ret
  exact ⟨rfl, HB1.out⟩
set_option maxHeartbeats 8000000 in
theorem force_any {w : World} {G : Nat → Prop} {sb : Nat} {ts : Tb} {last : Int} {A : Option Addr} {c : Nat} {ws : List Wr} (q : Int) (hM : SM w G sb ts (liveT ts : Int) last) (h : Wrs w A ws) (hK : NumW ws) (hl : ws.length ≤ 50000) (hN : ∀ i, i < 4 → (ts i).length ≤ 50000) (hb : takB q ws = true) :
    Calls Try.prog 33 #[.pointer (some ⟨sb, 0, none⟩), .int .i64 q, .slice A ws.length c] w fun e w' => e = .returned .nilIface ∧ ∃ G', SM w' G' sb (forceT q ts ws) (liveT (forceT q ts ws) : Int) (max last q) ∧ Cg w w' G G' := by
  have HT := Lib.hid (takes_any (sb := sb) (c := c) q h (by omega))
  rw [hb] at HT
  have HIN := Lib.hid (takB_in hb).2
  have HM := Lib.hid hM
  have HK := Lib.hid hK
  have HN := Lib.hid hN
  have HL := Lib.hid hl
  have HU := Lib.hid hM.up
  obtain ⟨n, hn⟩ : ∃ n, n = ws.length := ⟨_, rfl⟩
  have HLN := Lib.hid hn
  have HG := Lib.hid (fun (w1 : World) (hb : Below w.heap.size w w1) => gather_any (c := c) q (hM.below hb) (RowAt.below h hb) HIN.out hK (by omega))
  rw [← hn] at HT HG ⊢
  obtain ⟨lm, hlm⟩ : ∃ lm, lm = max last q := ⟨_, rfl⟩
  rw [← hlm]
  have HLM := Lib.hid hlm
  clear hM h hK hl hN hn hb hlm
  go_enter Try.func33, Try.ntmps33
  go_wp2_with fail
  refine Calls.mono HT.out ?_
  rintro e w1 ⟨rfl, hb1⟩
  have HB1 := Lib.hid hb1
  clear hb1
  go_wp2_with fail
  refine Calls.mono (HG.out _ HB1.out) ?_
  rintro e w2 ⟨rfl, ⟨m, hm, hKM⟩, hb2⟩
  obtain ⟨w3, left, cnt, hrun, hKR, hcnt, hleft, hg3, hs3⟩ := hKM.range (mt := 138) Try.underlying138
  have hbw2 := HB1.out.trans (hb2.mono HB1.out.size)
  have hbw3 : Below w.heap.size w w3 := hbw2.grown hg3 hbw2.size (fun j e => by cases e)
  have HF0 : Hid (FO w w3 G sb last w1.heap.size w2.heap.size m q ts ws left cnt ts 100000) := Lib.hid ⟨hKR, Part.start HU.out (fun t k x hx => by
      have hm2 := gat_mem hx
      rw [hleft t k (by rw [← hm2.2.1]; exact inT_wf (HIN.out x hm2.1)) (by rw [← hm2.2.2.1]; exact wfK (HK.out x hm2.1)), hx]; rfl), fun i hi => by have := HN.out i hi; have := HL.out; have := HLN.out; omega,
    ⟨G, HM.out.below hbw3, Cg.of_below hbw3 G⟩, ⟨HB1.out.size, hbw2.size⟩⟩
  clear hKR hcnt hleft hg3 hs3 hKM hb2 hm hbw2 hbw3
  obtain ⟨B, hB⟩ : ∃ B, B = w1.heap.size := ⟨_, rfl⟩
  obtain ⟨r, hr⟩ : ∃ r, r = w2.heap.size := ⟨_, rfl⟩
  rw [← hB, ← hr] at HF0
  go_wp2_with fail
  rw [← hr]
  clear hrun hB hr
  go_loopw [7, 8, 9, 21, 22, 23, 24, 25, 26, 27, 28, 29, 30, 31, 32, 33, 34, 35, 36, 37, 38] (fun _ _ _ _ _ _ _ _ _ _ _ _ _ _ _ _ _ _ _ _ _ wr => ∃ left cnt ts', FO w wr G sb last B r m q ts ws left cnt ts' 100000) (fun _ _ _ _ _ _ _ _ _ _ _ _ _ _ _ _ _ _ _ _ _ wr => wr.rangeLeft B r)
  case atStart => exact ⟨left, cnt, ts, HF0.out⟩
  case round =>
    clear HF0
    obtain ⟨left, cnt, ts', hF⟩ := hrel
    have HF := Lib.hid hF
    rcases hF.rg.next Wr.val_inj 0 with ⟨_, hl0, hnx⟩ | ⟨t, k, x, w4, cnt4, ht, hk, hlk, hgx, hnx, hKR4, hlt4, hg4, hs4, hen⟩
    · obtain ⟨G', hM', hC'⟩ := hF.st
      have hts := hF.part.done HU.out HIN.out hl0
      have HMF : Hid (SM wr G' sb (forceT q ts ws) (liveT (forceT q ts ws) : Int) last) := Lib.hid (by rw [← liveT_congr hts]; exact hM'.congr fun i hi => (hts i hi).symm)
      have HCF := Lib.hid hC'
      have c5 := hM'.last5
      have f5 := hM'.frozen
      clear hF hM' hC' hts
      go_wp2_with fail
      go_ret
      exact ⟨rfl, G', by rw [HLM.out]; exact (HMF.out.put5 _).1, HCF.out.trans (HMF.out.put5 _).2⟩
    · have hm2 := gat_mem hgx
      obtain ⟨hxw, rfl, rfl, hst⟩ := hm2
      have htin : InT x.t := HIN.out x hxw
      obtain ⟨hP, hsame⟩ := HF.out.part.step (left' := fun u j => left u j && !(decide (u = x.t ∧ j = x.k))) hgx htin hlk (fun _ _ => rfl)
      obtain ⟨ts2, hts2⟩ : ∃ ts2, ts2 = ts'.upd x.t.toNat (ins ⟨x.k, x.cl q⟩ (ts' x.t.toNat)) := ⟨_, rfl⟩
      rw [← hts2] at hP
      have hlen2 : ∀ i, i < 4 → (ts2 i).length + cnt4 ≤ 100000 := fun i hi => by
        have h1 := HF.out.len i hi
        have h2 : (ts2 i).length ≤ (ts' i).length + 1 := by
          rw [hts2]
          unfold Tb.upd
          split
          · rename_i e; rw [e]; exact ins_le _ _
          · omega
        omega
      have hlen1 : ∀ i, i < 4 → (ts' i).length ≤ 99999 := fun i hi => by have := HF.out.len i hi; omega
      obtain ⟨G1, hM1, hC1⟩ := HF.out.st
      obtain ⟨no1, no2⟩ := HF.out.rg.out hM1
      have hM4 : SM w4 G1 sb ts' (liveT ts' : Int) last := hM1.keep fun q hq => hg4.block q (hM1.lt hq) (fun e => by cases e; exact no2 hq)
      have hC4 : Cg w w4 G G1 := ⟨hC1.ch.trans (⟨hg4.os, hg4.tape, hg4.output, hg4.size, fun q hq hn => hg4.block q hq (fun e => hn (Option.some.inj e))⟩ : Ch wr w4 (fun q => q = r)) (fun q e => .inr (by rw [e]; exact HF.out.low.2)), hC1.fr⟩
      obtain ⟨W5, hW5⟩ : ∃ W5, W5 = (w4.alloc (.cells #[.int .i64 x.t, .int .i64 x.k] 42)).alloc (.cells #[.int .i64 x.t, .int .i64 x.k, .int .i64 x.v, .bool x.dead] 51) := ⟨_, rfl⟩
      have hb45 : Below w4.heap.size w4 W5 := by rw [hW5]; exact ((Below.refl _ _).alloc (Nat.le_refl _) _).alloc (by simp) _
      have hs5 : W5.heap.size = w4.heap.size + 2 := by rw [hW5]; simp
      have hk5 : W5.heap[w4.heap.size]? = some (.cells #[.int .i64 x.t, .int .i64 x.k] 42 (0, 0)) := by
        rw [hW5, ((Below.refl _ (w4.alloc (.cells #[.int .i64 x.t, .int .i64 x.k] 42))).alloc (Nat.le_refl _) _).block _ (by simp)]
        exact heap_alloc_new w4 _
      have hw5 : W5.heap[w4.heap.size + 1]? = some (.cells #[.int .i64 x.t, .int .i64 x.k, .int .i64 x.v, .bool x.dead] 51 (0, 0)) := by
        have := heap_alloc_new (w4.alloc (.cells #[.int .i64 x.t, .int .i64 x.k] 42)) (.cells #[.int .i64 x.t, .int .i64 x.k, .int .i64 x.v, .bool x.dead] 51)
        have e : (w4.alloc (.cells #[.int .i64 x.t, .int .i64 x.k] 42)).heap.size = w4.heap.size + 1 := by simp
        rw [e, ← hW5] at this
        exact this
      obtain ⟨s4, hs4'⟩ : ∃ s4, s4 = w4.heap.size := ⟨_, rfl⟩
      rw [← hs4'] at hk5 hw5 hs5
      have y0 : W5.cell? ⟨s4, 0, none⟩ = some (.int .i64 x.t) := by rw [cell_of_row _ _ 0 _ _ _ hk5]; rfl
      have y1 : W5.cell? ⟨s4, 1, none⟩ = some (.int .i64 x.k) := by rw [cell_of_row _ _ 1 _ _ _ hk5]; rfl
      have z2 : W5.cell? ⟨s4 + 1, 2, none⟩ = some (.int .i64 x.v) := by rw [cell_of_row _ _ 2 _ _ _ hw5]; rfl
      have z3 : W5.cell? ⟨s4 + 1, 3, none⟩ = some (.bool x.dead) := by rw [cell_of_row _ _ 3 _ _ _ hw5]; rfl
      have HX := Lib.hid (And.intro hP (And.intro hlen2 (And.intro hlen1 (And.intro hM4 (And.intro hC4 (And.intro hb45 (And.intro hKR4 (And.intro htin hts2))))))))
      have HKC := Lib.hid (And.intro hk5 hs5)
      have HLT := Lib.hid (And.intro hlt4 (hF.rg.left_eq))
      have HW5 := Lib.hid hW5
      have HS4 := Lib.hid hs4'
      simp only [keyV, Wr.val] at hnx hen
      clear hF hxw hst htin hP hsame hts2 hlen2 hlen1 hM1 hC1 no1 no2 hM4 hC4 hW5 hb45 hk5 hw5 hs4' hs5 hKR4 hlt4 hg4 hs4 hgx hlk ht hk
      go_upto_region 6 with fail
      rw [← HS4.out, ← HW5.out]
      obtain ⟨W6, hW6⟩ : ∃ W6, W6 = W5.alloc (.cells #[.int .i64 x.v, .int .i64 q, .bool x.dead] 44) := ⟨_, rfl⟩
      have hb56 : Below W5.heap.size W5 W6 := by rw [hW6]; exact (Below.refl _ _).alloc (Nat.le_refl _) _
      have hc6 : W6.heap[W5.heap.size]? = some (.cells #[.int .i64 x.v, .int .i64 q, .bool x.dead] 44 (0, 0)) := by rw [hW6]; exact heap_alloc_new W5 _
      have hb46 : Below w4.heap.size w4 W6 := HX.out.2.2.2.2.2.1.trans (hb56.mono HX.out.2.2.2.2.2.1.size)
      obtain ⟨s9, hs9⟩ : ∃ s9, s9 = W5.heap.size := ⟨_, rfl⟩
      rw [← hs9] at hc6
      have hk6 := (hb56.block _ (Array.getElem?_eq_some_iff.1 HKC.out.1).1).trans HKC.out.1
      have u0 : W6.cell? ⟨s4, 0, none⟩ = some (.int .i64 x.t) := by rw [cell_of_row _ _ 0 _ _ _ hk6]; rfl
      have u1 : W6.cell? ⟨s4, 1, none⟩ = some (.int .i64 x.k) := by rw [cell_of_row _ _ 1 _ _ _ hk6]; rfl
      have v0 : W6.cell? ⟨s9, 0, none⟩ = some (.int .i64 x.v) := by rw [cell_of_row _ _ 0 _ _ _ hc6]; rfl
      have v1 : W6.cell? ⟨s9, 1, none⟩ = some (.int .i64 q) := by rw [cell_of_row _ _ 1 _ _ _ hc6]; rfl
      have v2 : W6.cell? ⟨s9, 2, none⟩ = some (.bool x.dead) := by rw [cell_of_row _ _ 2 _ _ _ hc6]; rfl
      have vf := frozen_of hc6
      have hne9 : s4 ≠ s9 := by rw [hs9, HKC.out.2]; omega
      have HW6 := Lib.hid hW6
      have HS9 := Lib.hid hs9
      have HB46 := Lib.hid hb46
      have HS94 : Hid (w4.heap.size ≤ s9) := Lib.hid (by rw [hs9, HKC.out.2, HS4.out]; omega)
      clear hW6 hb56 hc6 hb46 hs9 hk6 hnx hen y0 y1
      go_upto_region 7 with fail
      rw [← HS9.out, ← HW6.out]
      obtain ⟨hP, hlen2, hlen1, hM4, hC4, hb45, hKR4, htin, hts2⟩ := HX.out
      cases hdx : x.dead with
      | false =>
        have hcl : x.cl q = ⟨x.v, q, false⟩ := by unfold Wr.cl; rw [hdx]; rfl
        have HSET := Lib.hid (sset_any (k := x.k) (hM4.below HB46.out) (x.cl q) htin hlen1)
        rw [← hts2, hcl] at HSET
        have HFN := Lib.hid (fun (w8 : World) (G2 : Nat → Prop) (h1 : SM w8 G2 sb ts2 (liveT ts2 : Int) last) (h2 : Cg W6 w8 G1 G2) => FO.next hKR4 hM4 hC4 HB46.out h1 h2 hP hlen2 HF.out.low)
        rw [hdx] at v2
        clear hP hlen2 hlen1 hM4 hC4 hb45 hKR4 htin hts2 hdx hcl
        go_wp2_with fail
        refine Calls.mono HSET.out ?_
        rintro e w8 ⟨rfl, G2, h1, h2⟩
        have HFF := Lib.hid (HFN.out w8 G2 h1 h2)
        clear h1 h2
        go_wp2_with fail
        go_roundw
        case rel => exact ⟨_, _, ts2, HFF.out⟩
        case measure => rw [HFF.out.rg.left_eq, HLT.out.2]; exact HLT.out.1
      | true =>
        have hcl : x.cl q = ⟨0, q, true⟩ := by unfold Wr.cl; rw [hdx]; rfl
        have HB47 : Hid (Below w4.heap.size w4 (W6.setCell ⟨s9, 0, none⟩ (.int .i64 0))) := Lib.hid (HB46.out.setCell (p := ⟨s9, 0, none⟩) HS94.out _)
        have HSET := Lib.hid (sset_any (k := x.k) (hM4.below HB47.out) (x.cl q) htin hlen1)
        rw [← hts2, hcl] at HSET
        have HFN := Lib.hid (fun (w8 : World) (G2 : Nat → Prop) (h1 : SM w8 G2 sb ts2 (liveT ts2 : Int) last) (h2 : Cg (W6.setCell ⟨s9, 0, none⟩ (.int .i64 0)) w8 G1 G2) => FO.next hKR4 hM4 hC4 HB47.out h1 h2 hP hlen2 HF.out.low)
        rw [hdx] at v2
        clear hP hlen2 hlen1 hM4 hC4 hb45 hKR4 htin hts2 hdx hcl
        go_wp2_with fail
        refine Calls.mono HSET.out ?_
        rintro e w8 ⟨rfl, G2, h1, h2⟩
        have HFF := Lib.hid (HFN.out w8 G2 h1 h2)
        clear h1 h2
        go_wp2_with fail
        go_roundw
        case rel => exact ⟨_, _, ts2, HFF.out⟩
        case measure => rw [HFF.out.rg.left_eq, HLT.out.2]; exact HLT.out.1
end Go.Proofs.Ytejpjbmbcdgomaa

/- Apply: a transaction's writes are put, or refused; Live, Last. -/
namespace Go.Proofs.Ytejpjbmbcdgomaa
set_option maxRecDepth 100000
open Go.RowKit

/-- What Apply answers: 0: nil, 1: ErrRange, 4: ErrFull. -/
def apN (q : Int) (ts : Tb) (ws : List Wr) : Nat := if takB q ws then (if liveT (forceT q ts ws) ≤ 4096 then 0 else 4) else 1
structure ApOut (q : Int) (ts : Tb) (ws : List Wr) (r : Nat) (last : Int) (ts' : Tb) (last' : Int) : Prop where
  out : (r = 0 ∧ ts' = forceT q ts ws ∧ last' = max last q) ∨ (r ≠ 0 ∧ ts' = ts ∧ last' = last)
def errV (n : Nat) : Value := if n = 0 then .nilIface else .iface 64 (.int .i64 (n : Int))
set_option maxHeartbeats 4000000 in
theorem apply_any {w : World} {G : Nat → Prop} {sb : Nat} {ts : Tb} {last : Int} {A : Option Addr} {c : Nat} {ws : List Wr} (q : Int) (hM : SM w G sb ts (liveT ts : Int) last) (h : Wrs w A ws) (hK : NumW ws) (hl : ws.length ≤ 50000) (hN : ∀ i, i < 4 → (ts i).length ≤ 50000) :
    Calls Try.prog 16 #[.pointer (some ⟨sb, 0, none⟩), .int .i64 q, .slice A ws.length c] w fun e w' => e = .returned (errV (apN q ts ws)) ∧ ∃ G' ts' last', SM w' G' sb ts' (liveT ts' : Int) last' ∧ Cg w w' G G' ∧
      ApOut q ts ws (apN q ts ws) last ts' last' := by
  have HT := Lib.hid (takes_any (sb := sb) (c := c) q h (by omega))
  have HM := Lib.hid hM
  obtain ⟨n, hn⟩ : ∃ n, n = ws.length := ⟨_, rfl⟩
  have HFT := Lib.hid (fun (w1 : World) (hb : Below w.heap.size w w1) => fits_any (c := c) q (hM.below hb) (RowAt.below h hb) hK hl hN)
  have HFO := Lib.hid (fun (w1 : World) (hb : Below w.heap.size w w1) (ht : takB q ws = true) => force_any (c := c) q (hM.below hb) (RowAt.below h hb) hK hl hN ht)
  obtain ⟨r, hr⟩ : ∃ r, r = apN q ts ws := ⟨_, rfl⟩
  have HR := Lib.hid hr
  rw [← hr]
  rw [← hn] at HT HFT HFO ⊢
  obtain ⟨tk, htk⟩ : ∃ tk, tk = takB q ws := ⟨_, rfl⟩
  obtain ⟨fi, hfi⟩ : ∃ fi, fi = decide (liveT (forceT q ts ws) ≤ 4096) := ⟨_, rfl⟩
  have HTK := Lib.hid htk
  have HFI := Lib.hid hfi
  rw [← htk] at HT
  rw [← htk, ← hfi] at HFT
  clear hM h hK hl hN hn hr htk hfi
  obtain ⟨rv, hrv⟩ : ∃ rv, rv = errV r := ⟨_, rfl⟩
  have HRV := Lib.hid hrv
  rw [← hrv]
  clear hrv
  go_enter Try.func16, Try.ntmps16
  go_wp2_with fail
  refine Calls.mono HT.out ?_
  rintro e w1 ⟨rfl, hb1⟩
  have HB1 := Lib.hid hb1
  clear hb1
  cases tk with
  | false =>
    obtain rfl : r = 1 := by rw [HR.out]; unfold apN; rw [← HTK.out]; rfl
    obtain rfl : rv = .iface 64 (.int .i64 1) := HRV.out
    go_wp2_with fail
    go_ret
    exact ⟨rfl, G, ts, last, HM.out.below HB1.out, Cg.of_below HB1.out G, ⟨.inr ⟨by decide, rfl, rfl⟩⟩⟩
  | true =>
    go_wp2_with fail
    refine Calls.mono (HFT.out _ HB1.out) ?_
    rintro e w2 ⟨rfl, hb2⟩
    have HB2 := Lib.hid (HB1.out.trans (hb2.mono HB1.out.size))
    clear hb2
    cases fi with
    | false =>
      obtain rfl : r = 4 := by
        rw [HR.out]; unfold apN; rw [← HTK.out]
        have := of_decide_eq_false HFI.out.symm
        simp [this]
      obtain rfl : rv = .iface 64 (.int .i64 4) := HRV.out
      go_wp2_with fail
      go_ret
      exact ⟨rfl, G, ts, last, HM.out.below HB2.out, Cg.of_below HB2.out G, ⟨.inr ⟨by decide, rfl, rfl⟩⟩⟩
    | true =>
      obtain rfl : r = 0 := by
        rw [HR.out]; unfold apN; rw [← HTK.out]
        have := of_decide_eq_true HFI.out.symm
        simp [this]
      obtain rfl : rv = .nilIface := HRV.out
      go_wp2_with fail
      refine Calls.mono (HFO.out _ HB2.out HTK.out.symm) ?_
      rintro e w3 ⟨rfl, G', h1, h2⟩
      have HE := Lib.hid (And.intro h1 h2)
      clear h1 h2
      go_wp2_with fail
      go_ret
      exact ⟨rfl, G', _, _, HE.out.1, (Cg.of_below HB2.out G).trans HE.out.2, ⟨.inl ⟨rfl, rfl, rfl⟩⟩⟩
theorem slive_any {w : World} {G : Nat → Prop} {sb : Nat} {ts : Tb} {live last : Int} (hM : SM w G sb ts live last) : Calls Try.prog 29 #[.pointer (some ⟨sb, 0, none⟩)] w fun e w' => e = .returned (.int .i64 live) ∧ w = w' := by
  have c4 := hM.live4
  clear hM
  go_enter Try.func29, Try.ntmps29
  go_wp2_with fail
  go_ret
  exact ⟨rfl, rfl⟩
theorem slast_any {w : World} {G : Nat → Prop} {sb : Nat} {ts : Tb} {live last : Int} (hM : SM w G sb ts live last) : Calls Try.prog 30 #[.pointer (some ⟨sb, 0, none⟩)] w fun e w' => e = .returned (.int .i64 last) ∧ w = w' := by
  have c5 := hM.last5
  clear hM
  go_enter Try.func30, Try.ntmps30
  go_wp2_with fail
  go_ret
  exact ⟨rfl, rfl⟩
end Go.Proofs.Ytejpjbmbcdgomaa
