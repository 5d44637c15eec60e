/- SSet: put together. -/
import Derived.Test.YtejpjbmbcdgomaaPt15
/- set: a cell is set, and counted. -/
namespace Go.Proofs.Ytejpjbmbcdgomaa
set_option maxRecDepth 100000
open Go.RowKit

/-- Behind a set: the store, and the two boxes. -/
structure SSt (w wx : World) (G : Nat → Prop) (sb : Nat) (ts : Tb) (live last : Int) (s kk : Nat) (y c : Cl) : Prop where
  st : ∃ G', SM wx G' sb ts live last ∧ Cg w wx G G' ∧ ¬ G' kk ∧ ¬ G' (s + 1)
  was : wx.heap[kk]? = some (.cells #[.int .i64 y.v, .int .i64 y.s, .bool y.dead] 44 (0, 0))
  new : wx.heap[s + 1]? = some (.cells #[.int .i64 c.v, .int .i64 c.s, .bool c.dead] 44 (0, 0))
  low : w.heap.size ≤ kk ∧ w.heap.size ≤ s + 1
section
variable {w wx : World} {G : Nat → Prop} {sb : Nat} {ts : Tb} {live last : Int} {s kk : Nat} {y c : Cl}
theorem SSt.put (h : SSt w wx G sb ts live last s kk y c) (n : Int) : SSt w (wx.setCell ⟨sb, 4, none⟩ (.int .i64 n)) G sb ts n last s kk y c := by
  obtain ⟨G', h1, h2, h3, h4⟩ := h.st
  have hs := h1.sb_in
  obtain ⟨k1, k2⟩ := h1.put4 n
  exact ⟨⟨G', k1, h2.trans k2, h3, h4⟩, (heap_ne _ _ _ _ (fun e => h3 (by rw [e]; exact hs))).trans h.was, (heap_ne _ _ _ _ (fun e => h4 (by rw [e]; exact hs))).trans h.new, h.low⟩
theorem SSt.c4 (h : SSt w wx G sb ts live last s kk y c) : wx.cell? ⟨sb, 4, none⟩ = some (.int .i64 live) := by
  obtain ⟨G', h1, _⟩ := h.st
  exact h1.live4
theorem SSt.f4 (h : SSt w wx G sb ts live last s kk y c) (j : Nat) : wx.frozen? ⟨sb, j, none⟩ = false := by
  obtain ⟨G', h1, _⟩ := h.st
  exact h1.frozen j
theorem SSt.d2 (h : SSt w wx G sb ts live last s kk y c) : wx.cell? ⟨kk, 2, none⟩ = some (.bool y.dead) := by rw [cell_of_row _ _ 2 _ _ _ h.was]; rfl
theorem SSt.n2 (h : SSt w wx G sb ts live last s kk y c) : wx.cell? ⟨s + 1, 2, none⟩ = some (.bool c.dead) := by rw [cell_of_row _ _ 2 _ _ _ h.new]; rfl
/-- The box laid behind the call. -/
theorem SSt.fresh {w1 : World} {G' : Nat → Prop} (h1 : SM w1 G' sb ts live last) (h2 : Cg w w1 G G') (h4 : ¬ G' (s + 1)) (hn : w1.heap[s + 1]? = some (.cells #[.int .i64 c.v, .int .i64 c.s, .bool c.dead] 44 (0, 0))) (hs : w.heap.size ≤ s + 1) (y : Cl) :
    SSt w (w1.alloc (.cells #[.int .i64 y.v, .int .i64 y.s, .bool y.dead] 44)) G sb ts live last s w1.heap.size y c := by
  have hb : Below w1.heap.size w1 (w1.alloc (.cells #[.int .i64 y.v, .int .i64 y.s, .bool y.dead] 44)) := (Below.refl _ _).alloc (Nat.le_refl _) _
  exact ⟨⟨G', h1.below hb, h2.trans (Cg.of_below hb _), fun e => by have := h1.lt e; omega, h4⟩, heap_alloc_new w1 _, (hb.block _ (Array.getElem?_eq_some_iff.1 hn).1).trans hn, h2.ch.size, hs⟩
/-- The box laid ahead of the call. -/
theorem SSt.stored {w1 : World} {G' : Nat → Prop} (h1 : SM w1 G' sb ts live last) (h2 : Cg w w1 G G') (h3 : ¬ G' kk) (h4 : ¬ G' (s + 1)) (hn : w1.heap[s + 1]? = some (.cells #[.int .i64 c.v, .int .i64 c.s, .bool c.dead] 44 (0, 0))) (hs : w.heap.size ≤ s + 1)
    (hk : w1.heap[kk]? = some (.cells #[.int .i64 0, .int .i64 0, .bool false] 44 (0, 0))) (hkl : w.heap.size ≤ kk) (hne : s + 1 ≠ kk) (y : Cl) :
    SSt w (((w1.setCell ⟨kk, 0, none⟩ (.int .i64 y.v)).setCell ⟨kk, 1, none⟩ (.int .i64 y.s)).setCell ⟨kk, 2, none⟩ (.bool y.dead)) G sb ts live last s kk y c := by
  have hq : ∀ q, q ≠ kk → (((w1.setCell ⟨kk, 0, none⟩ (.int .i64 y.v)).setCell ⟨kk, 1, none⟩ (.int .i64 y.s)).setCell ⟨kk, 2, none⟩ (.bool y.dead)).heap[q]? = w1.heap[q]? := fun q e => by
    rw [heap_ne _ _ _ _ e, heap_ne _ _ _ _ e, heap_ne _ _ _ _ e]
  have hc : Ch w1 (((w1.setCell ⟨kk, 0, none⟩ (.int .i64 y.v)).setCell ⟨kk, 1, none⟩ (.int .i64 y.s)).setCell ⟨kk, 2, none⟩ (.bool y.dead)) (fun q => q = kk) :=
    ⟨rfl, rfl, rfl, by rw [World.size_setCell, World.size_setCell, World.size_setCell]; exact Nat.le_refl _, fun q _ e => hq q e⟩
  refine ⟨⟨G', h1.keep fun q e => hq q (fun e2 => h3 (e2 ▸ e)), ⟨h2.ch.trans hc (fun q e => .inr (by rw [e]; exact hkl)), h2.fr⟩, h3, h4⟩, ?_, (hq _ hne).trans hn, hkl, hs⟩
  exact (heap_set _ kk 2 _ (heap_set _ kk 1 _ (heap_set w1 kk 0 _ hk))).trans rfl
end
set_option maxHeartbeats 8000000 in
theorem sset_any {w : World} {G : Nat → Prop} {sb : Nat} {ts : Tb} {last : Int} {t k : Int} (hM : SM w G sb ts (liveT ts : Int) last) (c : Cl) (ht : InT t) (hl : ∀ i, i < 4 → (ts i).length ≤ 99999) :
    Calls Try.prog 61 #[.pointer (some ⟨sb, 0, none⟩), .agg #[.int .i64 t, .int .i64 k], .agg #[.int .i64 c.v, .int .i64 c.s, .bool c.dead]] w fun e w' => e = .returned (.tuple #[]) ∧
      ∃ G', SM w' G' sb (ts.upd t.toNat (ins ⟨k, c⟩ (ts t.toNat))) (liveT (ts.upd t.toNat (ins ⟨k, c⟩ (ts t.toNat))) : Int) last ∧ Cg w w' G G' := by
  obtain ⟨i, rfl⟩ : ∃ i : Nat, t = (i : Int) := ⟨t.toNat, by unfold InT at ht; omega⟩
  have hi : i < 4 := by unfold InT at ht; omega
  have eti : ((i : Int)).toNat = i := by omega
  have hlv := Part.live (ts' := ts) (k := k) hM.up ht c
  rw [cellAt_in ht] at hlv
  rw [eti] at hlv ⊢
  have hlb : liveT ts ≤ 400000 := by
    have h0 := liveL_le (ts 0)
    have h1 := liveL_le (ts 1)
    have h2 := liveL_le (ts 2)
    have h3 := liveL_le (ts 3)
    have g0 := hl 0 (by omega)
    have g1 := hl 1 (by omega)
    have g2 := hl 2 (by omega)
    have g3 := hl 3 (by omega)
    unfold liveT
    omega
  obtain ⟨ts', hts'⟩ : ∃ ts', ts' = ts.upd i (ins ⟨k, c⟩ (ts i)) := ⟨_, rfl⟩
  rw [← hts'] at hlv ⊢
  obtain ⟨lv, hlvn⟩ : ∃ lv, lv = liveT ts := ⟨_, rfl⟩
  rw [← hlvn] at hM hlv hlb
  obtain ⟨lv', hlvn'⟩ : ∃ lv', lv' = liveT ts' := ⟨_, rfl⟩
  rw [← hlvn'] at hlv ⊢
  obtain ⟨b, F, d, hc, hTL, hFG, hback⟩ := hM.table hi
  obtain ⟨W, hW⟩ : ∃ W, W = (w.alloc (.cells #[.int .i64 (i : Int), .int .i64 k] 42)).alloc (.cells #[.int .i64 c.v, .int .i64 c.s, .bool c.dead] 44) := ⟨_, rfl⟩
  obtain ⟨s, hs⟩ : ∃ s, s = w.heap.size := ⟨_, rfl⟩
  have hb0 : Below w.heap.size w (w.alloc (.cells #[.int .i64 (i : Int), .int .i64 k] 42)) := (Below.refl _ _).alloc (Nat.le_refl _) _
  have hb : Below w.heap.size w W := by rw [hW]; exact hb0.alloc hb0.size _
  have e1 : W.heap[s]? = some (.cells #[.int .i64 (i : Int), .int .i64 k] 42 (0, 0)) := by
    rw [hW, hs, ((Below.refl _ (w.alloc (.cells #[.int .i64 (i : Int), .int .i64 k] 42))).alloc (Nat.le_refl _) _).block _ (by simp)]
    exact heap_alloc_new w _
  have e2 : W.heap[s + 1]? = some (.cells #[.int .i64 c.v, .int .i64 c.s, .bool c.dead] 44 (0, 0)) := by
    have := heap_alloc_new (w.alloc (.cells #[.int .i64 (i : Int), .int .i64 k] 42)) (.cells #[.int .i64 c.v, .int .i64 c.s, .bool c.dead] 44)
    have e : (w.alloc (.cells #[.int .i64 (i : Int), .int .i64 k] 42)).heap.size = s + 1 := by rw [hs]; simp
    rw [e, ← hW] at this
    exact this
  have hsW : W.heap.size = s + 2 := by rw [hW, hs]; simp
  obtain ⟨y, hy⟩ : ∃ y, y = cv (getC k (ts i)) := ⟨_, rfl⟩
  obtain ⟨bo, hbo⟩ : ∃ bo, bo = (getC k (ts i)).isSome := ⟨_, rfl⟩
  have HTB := Lib.hid (fun (w1 : World) (hw : Below W.heap.size W w1) => table_at hi (((hb.trans (hw.mono hb.size)).cell (p := ⟨sb, i, none⟩) (World.block_lt_of_cell? _ _ hc)).trans hc))
  have HST : Hid (∀ (w1 : World), Below W.heap.size W w1 → Calls Try.prog 93 #[.pointer (some ⟨b, 0, none⟩), .int .i64 k, .agg #[.int .i64 c.v, .int .i64 c.s, .bool c.dead]] w1 fun e w' => e = .returned (.tuple #[.agg #[.int .i64 y.v, .int .i64 y.s, .bool y.dead], .bool bo]) ∧
      ∃ G', SM w' G' sb ts' (lv : Int) last ∧ Cg w w' G G' ∧ (∀ q, w.heap.size ≤ q → q < w1.heap.size → w'.heap[q]? = w1.heap[q]? ∧ ¬ G' q) ∧ w1.heap.size ≤ w'.heap.size) := Lib.hid (fun w1 hw => by
    have hbw := hb.trans (hw.mono hb.size)
    have hT1 := hTL.below hbw
    refine Calls.mono (tset_any hT1 ⟨k, c⟩ (by have := hl i hi; omega)) ?_
    rintro e w' ⟨rfl, F', d', hT', hC⟩
    obtain ⟨G', g1, g2⟩ := hback w1 hbw w' F' _ d' hT' hC
    refine ⟨by rw [hy, hbo], G', by rw [hts']; exact g1, (Cg.of_below hbw G).trans g2, fun q h1 h2 => ⟨hC.ch.block q h2 (fun e => by have := hTL.lt e; omega), fun e => ?_⟩, hC.ch.size⟩
    rcases g2.fr q e with e | e
    · have := hM.lt e; omega
    · omega)
  have c0 : W.cell? ⟨s, 0, none⟩ = some (.int .i64 (i : Int)) := by rw [cell_of_row _ _ 0 _ _ _ e1]; rfl
  have c1 : W.cell? ⟨s, 1, none⟩ = some (.int .i64 k) := by rw [cell_of_row _ _ 1 _ _ _ e1]; rfl
  have k0 : W.cell? ⟨s + 1, 0, none⟩ = some (.int .i64 c.v) := by rw [cell_of_row _ _ 0 _ _ _ e2]; rfl
  have k1 : W.cell? ⟨s + 1, 1, none⟩ = some (.int .i64 c.s) := by rw [cell_of_row _ _ 1 _ _ _ e2]; rfl
  have k2 : W.cell? ⟨s + 1, 2, none⟩ = some (.bool c.dead) := by rw [cell_of_row _ _ 2 _ _ _ e2]; rfl
  have HW := Lib.hid hW
  have HS := Lib.hid hs
  have HE2 := Lib.hid (fun (w1 : World) (hw : Below W.heap.size W w1) => (hw.block _ (Array.getElem?_eq_some_iff.1 e2).1).trans e2)
  have HSW := Lib.hid hsW
  have HLV := Lib.hid hlv
  have HLB := Lib.hid hlb
  have HYB := Lib.hid (And.intro hy hbo)
  have HDW : Hid (Below W.heap.size W W.drew) := Lib.hid (below_drewI (Below.refl _ _))
  have HDA : Hid (Below W.heap.size W (W.alloc (.cells #[.int .i64 0, .int .i64 0, .bool false] 44)).drew) := Lib.hid (below_drewI ((Below.refl _ _).alloc (Nat.le_refl _) _))
  have HDZ : Hid ((W.alloc (.cells #[.int .i64 0, .int .i64 0, .bool false] 44)).drew.heap[W.heap.size]? = some (.cells #[.int .i64 0, .int .i64 0, .bool false] 44 (0, 0)) ∧ (W.alloc (.cells #[.int .i64 0, .int .i64 0, .bool false] 44)).drew.heap.size = W.heap.size + 1) := Lib.hid ⟨heap_alloc_new W _, by show (W.alloc _).heap.size = _; simp⟩
  clear hlv hts' hlvn' hlvn hTL hFG hback hb0 hb e1 e2 hsW hy hbo hM hl hc hW hs hlb
  go_enter Try.func61, Try.ntmps61
  go_upto_region 1 with fail
  rw [← HS.out, ← HW.out]
  go_cut [6, 7] from 9 to 18 (fun r q wx => ∃ kk : Nat, r = .pointer (some ⟨kk, 0, none⟩) ∧ q = .bool bo ∧ SSt w wx G sb ts' (lv : Int) last s kk y c)
  case first =>
    have ga : ∀ (o : Obj) (p : Addr) (v : Value), W.cell? p = some v → (W.alloc o).cell? p = some v := fun o p v e => (((Below.refl _ W).alloc (Nat.le_refl _) o).cell (World.block_lt_of_cell? _ _ e)).trans e
    have g1 := fun o => ga o _ _ c0
    have g2 := fun o => ga o _ _ c1
    have g3 := fun o => ga o _ _ k0
    have g4 := fun o => ga o _ _ k1
    have g5 := fun o => ga o _ _ k2
    clear ga
    go_region_law (first | (go_simp; go_at_call 51; refine Calls.mono (HTB.out _ HDW.out) ?_; rintro e1 w1 ⟨rfl, rfl⟩) | (go_simp; go_at_call 51; refine Calls.mono (HTB.out _ HDA.out) ?_; rintro e1 w1 ⟨rfl, rfl⟩) | (go_simp; go_at_call 93; refine Calls.mono (HST.out _ HDW.out) ?_; rintro e8 w8 ⟨rfl, G', h1, h2, h3, h4⟩; obtain ⟨q1, q2⟩ := h3 (s + 1) (by { rw [HS.out]; omega }) (by { show s + 1 < W.heap.size; rw [HSW.out]; omega }); have HQ := Lib.hid (SSt.fresh h1 h2 q2 (q1.trans (HE2.out _ HDW.out)) (by { rw [HS.out]; omega }) y); clear h1 h2 h3 h4 q1 q2) | (go_simp; go_at_call 93; refine Calls.mono (HST.out _ HDA.out) ?_; rintro e8 w8 ⟨rfl, G', h1, h2, h3, h4⟩; obtain ⟨q1, q2⟩ := h3 (s + 1) (by { rw [HS.out]; omega }) (by { rw [HDZ.out.2, HSW.out]; omega }); obtain ⟨q3, q4⟩ := h3 W.heap.size (by { rw [HSW.out, HS.out]; omega }) (by { rw [HDZ.out.2]; omega }); have hz := q3.trans HDZ.out.1; have r0 : w8.cell? ⟨W.heap.size, 0, none⟩ = some (.int .i64 0) := by { rw [cell_of_row _ _ 0 _ _ _ hz]; rfl }; have r1 : w8.cell? ⟨W.heap.size, 1, none⟩ = some (.int .i64 0) := by { rw [cell_of_row _ _ 1 _ _ _ hz]; rfl }; have r2 : w8.cell? ⟨W.heap.size, 2, none⟩ = some (.bool false) := by { rw [cell_of_row _ _ 2 _ _ _ hz]; rfl }; have rf := frozen_of hz; have HQ := Lib.hid (SSt.stored h1 h2 q4 q2 (q1.trans (HE2.out _ HDA.out)) (by { rw [HS.out]; omega }) hz (by { rw [HSW.out, HS.out]; omega }) (by { rw [HSW.out]; omega }) y); clear h1 h2 h3 h4 q1 q2 q3 q4 hz))
    all_goals (go_wp2_with fail; go_meet; exact ⟨_, rfl, rfl, HQ.out⟩)
  case rest =>
    obtain ⟨kk, rfl, rfl, hq⟩ := hcut
    rename World => wq
    clear c0 c1 k0 k1 k2 HTB HST HE2
    have HQ := Lib.hid hq
    have d2 := hq.d2
    have c4 := hq.c4
    have f4 := hq.f4
    obtain ⟨dy, hdy⟩ : ∃ dy, dy = y.dead := ⟨_, rfl⟩
    rw [← hdy] at d2
    have HO : Hid ((one (getC k (ts i)) : Int) = if bo && !dy then 1 else 0) := Lib.hid (by
      rw [HYB.out.2, hdy, HYB.out.1]
      cases getC k (ts i) with
      | none => rfl
      | some c1 => show ((if c1.dead then 0 else 1 : Nat) : Int) = if true && !c1.dead then 1 else 0; cases c1.dead <;> rfl)
    obtain ⟨l1, hl1⟩ : ∃ l1 : Int, l1 = (lv : Int) - (one (getC k (ts i)) : Int) := ⟨_, rfl⟩
    have HL1 := Lib.hid hl1
    have f6 : IntKind.i64.wrap ((lv : Int) - 1) = (lv : Int) - 1 := by have := HLB.out; rw [IntKind.wrap_i64]; omega
    clear hq hdy hl1
    go_upto_region 2 with fail
    go_cut [24] from 19 to 23 (fun r wx => r = .bool (bo && !dy) ∧ wx = wq)
    case first =>
      cases bo with
      | true => cases dy <;> (go_wp2_with fail; go_meet; exact ⟨rfl, rfl⟩)
      | false => go_wp2_with fail; go_meet; exact ⟨rfl, rfl⟩
    case rest =>
    obtain ⟨rfl, rfl⟩ := hcut
    obtain ⟨bd, hbd⟩ : ∃ bd, bd = (bo && !dy) := ⟨_, rfl⟩
    rw [← hbd] at HO ⊢
    clear hbd d2
    go_upto_if 24 with fail
    go_cut [] from 25 to 31 (fun wx => SSt w wx G sb ts' l1 last s kk y c)
    case first =>
      cases bd with
      | true =>
        have HE : Hid (l1 = (lv : Int) - 1) := Lib.hid (by rw [HL1.out, HO.out]; simp)
        go_wp2_with fail
        go_meet
        rw [HE.out]
        exact HQ.out.put _
      | false =>
        have HE : Hid (l1 = (lv : Int)) := Lib.hid (by rw [HL1.out, HO.out]; simp)
        go_wp2_with fail
        go_meet
        rw [HE.out]
        exact HQ.out
    case rest =>
      clear c4 f4 f6 HQ
      rename World => wp
      have HQ := Lib.hid hcut
      have n2 := hcut.n2
      have c4 := hcut.c4
      have f4 := hcut.f4
      obtain ⟨dc, hdc⟩ : ∃ dc, dc = c.dead := ⟨_, rfl⟩
      rw [← hdc] at n2
      have HC : Hid ((lv' : Int) = l1 + if dc then 0 else 1) := Lib.hid (by
        have e : (one (some c) : Int) = if c.dead then 0 else 1 := by
          show ((if c.dead then 0 else 1 : Nat) : Int) = _
          cases c.dead <;> rfl
        rw [HLV.out, HL1.out, hdc, e])
      have f6 : IntKind.i64.wrap (l1 + 1) = l1 + 1 := by
        have := HLB.out
        have h1 := HL1.out
        have h2 := HO.out
        rw [IntKind.wrap_i64]
        split at h2 <;> omega
      clear hcut hdc
      cases dc with
      | true =>
        have HE : Hid ((lv' : Int) = l1) := Lib.hid (by rw [HC.out]; simp)
        go_wp2_with fail
        obtain ⟨G', h1, h2, _⟩ := HQ.out.st
        exact bodyPost_end (v := .tuple #[]) (by simp [results, Try.results61, go_sem]) rfl ⟨rfl, G', by rw [HE.out]; exact h1, h2⟩
      | false =>
        have HE : Hid ((lv' : Int) = l1 + 1) := Lib.hid (by rw [HC.out]; simp)
        go_wp2_with fail
        obtain ⟨G', h1, h2, _⟩ := (HQ.out.put (l1 + 1)).st
        exact bodyPost_end (v := .tuple #[]) (by simp [results, Try.results61, go_sem]) rfl ⟨rfl, G', by rw [HE.out]; exact h1, h2⟩
end Go.Proofs.Ytejpjbmbcdgomaa
