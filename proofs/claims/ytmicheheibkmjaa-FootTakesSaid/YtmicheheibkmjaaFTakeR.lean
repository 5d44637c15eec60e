/- The document's reading of keys. -/
import Derived.Test.YtmicheheibkmjaaFTakeM
import Derived.Test.YtmicheheibkmjaaZW2
namespace Go.Proofs.Ytmicheheibkmjaa
set_option maxRecDepth 100000
open Go.RowKit

set_option maxHeartbeats 1000000 in
theorem small_any (B g : Nat) (bs : List Nat) (bad : Bool) (w : World) (h : Rfx w B g bs bad) :
    Calls Try.prog 62 #[.pointer (some ⟨g, 0, none⟩)] w fun e w' => e = .returned (.int .i64 (smallV (rcount bs).1)) ∧ Rfx w' B g (rcount bs).2.1 (rcount bs).2.2 ∧ OnlyG w w' g := by
  have HC := Lib.hid (mcount_any B g bs bad w h)
  have hlt := rcount_lt bs h.small
  obtain ⟨n, hn⟩ : ∃ n, n = (rcount bs).1 := ⟨_, rfl⟩
  rw [← hn] at HC hlt ⊢
  clear h hn
  by_cases h1 : n > 100000
  · rw [show smallV n = -1 from if_pos h1]
    go_enter Try.func62, Try.ntmps62
    go_wp2_with fail
    refine Calls.mono HC.out ?_
    rintro e w1 ⟨rfl, h2, h3⟩
    have H2 := Lib.hid h2
    have H3 := Lib.hid h3
    clear h2 h3
    go_wp2_with fail
    go_ret
    exact ⟨rfl, H2.out, H3.out⟩
  · rw [show smallV n = (n : Int) from if_neg h1]
    go_enter Try.func62, Try.ntmps62
    go_wp2_with fail
    refine Calls.mono HC.out ?_
    rintro e w1 ⟨rfl, h2, h3⟩
    have H2 := Lib.hid h2
    have H3 := Lib.hid h3
    clear h2 h3
    go_wp2_with fail
    go_ret
    exact ⟨rfl, H2.out, H3.out⟩
/-- Keys that the document reads: its reader, and a row of its own. -/
structure RKI (w W : World) (B g : Nat) (v : Value) (pre : List K) (bs : List Nat) (bad : Bool) : Prop where
  rfx : Rfx W B g bs bad
  only : OnlyG w W g
  own : W.ownsRow w.heap.size 24 2 v pre.length (rowV K.vals pre)
section
variable {w W W' : World} {B g : Nat} {v v' : Value} {pre : List K} {bs bs' : List Nat} {bad bad' : Bool}
theorem RKI.step (h : RKI w W B g v pre bs bad) (hg : g < w.heap.size) (hr : Rfx W' B g bs' bad') (ho : OnlyG W W' g) : RKI w W' B g v pre bs' bad' :=
  ⟨hr, h.only.trans ho, own_only h.own ho fun k e => by injection e with e; injection e with e; injection e with e; omega⟩
theorem RKI.later (h : RKI w W B g v pre bs bad) (hg : g < w.heap.size) (hB : B ≤ w.heap.size) (hb : Below W.heap.size W W') : RKI w W' B g v pre bs bad := by
  have hs := h.only.size
  exact ⟨h.rfx.stays (hb.block g (by omega)) (fun k hk => hb.block k (by omega)), h.only.trans (Only.of_below hb), ownv_below h.own hb⟩
/-- A box of one's own set. -/
theorem RKI.set (h : RKI w W B g v pre bs bad) (hg : g < w.heap.size) (hB : B ≤ w.heap.size) {b j : Nat} {u : Value} (hb : w.heap.size ≤ b) (hv : v.ownBlock ≠ some b) : RKI w (W.setCell ⟨b, j, none⟩ u) B g v pre bs bad := by
  have keep : ∀ k, k ≠ b → (W.setCell ⟨b, j, none⟩ u).heap[k]? = W.heap[k]? := fun k hk => Deep.blk_setCell_other W ⟨b, j, none⟩ u k hk
  refine ⟨h.rfx.stays (keep g (by omega)) (fun k hk => keep k (by omega)), ⟨h.only.os, h.only.tape, h.only.output, by rw [World.size_setCell]; exact h.only.size, fun k hk hV => (keep k (by omega)).trans (h.only.block k hk hV)⟩, kept_of h.own (grown_setCell W b j u) fun k hk e => ?_⟩
  injection e with e
  subst e
  exact hv hk
theorem RKI.push (h : RKI w W B g v pre bs bad) (hg : g < w.heap.size) (hB : B ≤ w.heap.size) (y : K) {o : Obj} (ho : W'.ownsRow w.heap.size 24 2 v' (pre.length + 1) (rowV K.vals pre ++ y.vals)) (hgr : (W.alloc o).grownBy W' v.ownBlock) : RKI w W' B g v' (pre ++ [y]) bs bad := by
  have hs := h.only.size
  have hs2 := hgr.size
  rw [World.size_alloc] at hs2
  have keep : ∀ k, k < w.heap.size → W'.heap[k]? = W.heap[k]? := fun k hk => (hgr.block k (by rw [World.size_alloc]; omega) (fun e => by have := (h.own.lt k e.symm).1; omega)).trans (heap_alloc_old W o (by omega))
  refine ⟨h.rfx.stays (keep g hg) (fun k hk => keep k (by omega)), ⟨hgr.os.trans h.only.os, hgr.tape.trans h.only.tape, hgr.output.trans h.only.output, by omega, fun k hk hV => (keep k hk).trans (h.only.block k hk hV)⟩, ?_⟩
  rw [List.length_append, rowV_append]
  have e : rowV K.vals [y] = y.vals := by simp [rowV]
  rw [e]
  exact ho
end
set_option maxHeartbeats 8000000 in
theorem reftake_any (B g : Nat) (bs : List Nat) (bad : Bool) (w : World) (h : Rfx w B g bs bad) (hg : g < w.heap.size) (hB : B ≤ w.heap.size) :
    Calls Try.prog 61 #[.pointer (some ⟨g, 0, none⟩)] w fun e w' => ∃ v, e = .returned v ∧ RKI w w' B g v (listM kM bs).1 (listM kM bs).2.1 (listM kM bs).2.2 := by
  have HSM := Lib.hid (small_any B g bs bad w h)
  have hdef : listM kM bs = loopM kM (smallV (rcount bs).1).toNat (rcount bs).2.1 (rcount bs).2.2 := rfl
  have hle := smallV_le (rcount bs).1
  obtain ⟨L, hL⟩ : ∃ L, L = listM kM bs := ⟨_, rfl⟩
  rw [← hL] at hdef ⊢
  have hNl : (-1 : Int) ≤ smallV (rcount bs).1 := by unfold smallV; split <;> omega
  obtain ⟨N, hN⟩ : ∃ N, N = smallV (rcount bs).1 := ⟨_, rfl⟩
  obtain ⟨r, hr⟩ : ∃ r, r = (rcount bs).2.1 := ⟨_, rfl⟩
  obtain ⟨d, hd⟩ : ∃ d, d = (rcount bs).2.2 := ⟨_, rfl⟩
  rw [← hN, ← hr, ← hd] at hdef HSM
  rw [← hN] at hle hNl
  obtain ⟨m, hm⟩ : ∃ m, m = N.toNat := ⟨_, rfl⟩
  rw [← hm] at hdef hle
  have hNm : N ≤ m := by omega
  have hNm2 : 0 < m → (m : Int) ≤ N := fun h => by omega
  have HNM := Lib.hid hNm2
  have HD := Lib.hid hdef
  clear h hN hr hd hdef hL hm hNm2
  go_enter Try.func61, Try.ntmps61
  go_wp2_with fail
  refine Calls.mono HSM.out ?_
  rintro e w1 ⟨rfl, h1, h2⟩
  have H1 := Lib.hid (show RKI w w1 B g (.slice none 0 0) [] r d from ⟨h1, h2, World.ownsRow_nil _ _ _ _⟩)
  clear h1 h2
  go_wp2_with fail
  go_loopw [3, 5] (fun v i wr => ∃ (q : Nat) (v' : Value) (pre : List K) (bs' : List Nat) (bad' : Bool), v = v' ∧ i = .int .i64 (q : Int) ∧ q ≤ m ∧ pre.length = q ∧ Hid ((pre ++ (loopM kM (m - q) bs' bad').1, (loopM kM (m - q) bs' bad').2) = L) ∧ RKI w wr B g v' pre bs' bad') (fun _ i _ => m - (intOf i).toNat)
  case atStart => exact ⟨0, _, [], r, d, rfl, rfl, by omega, rfl, by rw [HD.out]; exact Lib.hid rfl, H1.out⟩
  case round =>
    obtain ⟨q, v', pre, bs', bad', rfl, rfl, hq, hpl, hpre, hti⟩ := hrel
    have HTI := Lib.hid hti
    have HPL := Lib.hid hpl
    obtain ⟨Ar, nr, cr, hrf⟩ := hti.rfx
    have c1 := hrf.c1
    clear hrf
    by_cases hlt : q < m
    · have hqN : (q : Int) < N := by have := HNM.out (by omega); omega
      cases bad' with
      | true =>
        have HP := Lib.hid (show (pre, bs', true) = L by rw [← hpre.out, loopM_bad])
        clear hti hpl
        go_wp2_with fail
        go_ret
        refine ⟨_, rfl, ?_⟩
        rw [← HP.out]
        exact HTI.out
      | false =>
        have HN := Lib.hid (loopM_next (R := kM) (m - q) bs' pre L (by omega) hpre.out)
        have hk : kM bs' = (⟨smallV (rcount bs').1, unfoldN (rcount (rcount bs').2.1).1⟩, (rcount (rcount bs').2.1).2) := rfl
        rw [hk] at HN
        have HS := Lib.hid (small_any B g bs' false wr hti.rfx)
        obtain ⟨T, hT⟩ : ∃ T, T = smallV (rcount bs').1 := ⟨_, rfl⟩
        rw [← hT] at HS HN
        clear hti hT hk hpl
        go_wp2_with fail
        refine Calls.mono HS.out ?_
        rintro e w2 ⟨rfl, h3, h4⟩
        have H3 := Lib.hid (HTI.out.step hg h3 h4)
        have hb3 := (Below.refl w2.heap.size w2).alloc (Nat.le_refl _) (.cells #[.int .i64 T, .int .i64 0] 24)
        have H4 := Lib.hid (H3.out.later hg hB hb3)
        have HBX := Lib.hid (heap_alloc_new w2 (.cells #[.int .i64 T, .int .i64 0] 24))
        have hs2 : w.heap.size ≤ w2.heap.size := H3.out.only.size
        have hv2 := Lib.hid (show _ ≠ some w2.heap.size from fun e => by have := (H3.out.own.lt _ e).2; omega)
        have HSZ := Lib.hid (show w2.heap.size < (w2.alloc (.cells #[.int .i64 T, .int .i64 0] 24)).heap.size by rw [World.size_alloc]; omega)
        have HNU := Lib.hid (mnum_any B g _ _ _ H4.out.rfx)
        obtain ⟨z, hz⟩ : ∃ z, z = unfoldN (rcount (rcount bs').2.1).1 := ⟨_, rfl⟩
        rw [← hz] at HNU HN
        clear h3 h4 hz hb3 c1
        go_wp2_with fail
        refine Calls.mono HNU.out ?_
        rintro e w3 ⟨rfl, h5, h6⟩
        have H5 := Lib.hid (H4.out.step hg h5 h6)
        have hbx := (h6.at HSZ.out (by omega)).trans HBX.out
        have k1 : w3.cell? ⟨w2.heap.size, 1, none⟩ = some (.int .i64 0) := (cell_of_row w3 _ 1 _ 24 (0, 0) hbx).trans rfl
        have f1 : w3.frozen? ⟨w2.heap.size, 1, none⟩ = false := frozen_box hbx 1
        have hbx2 := box_set hbx 1 (.int .i64 z)
        have H6 := Lib.hid (H5.out.set hg hB (j := 1) (u := .int .i64 z) hs2 hv2.out)
        have j0 : (w3.setCell ⟨w2.heap.size, 1, none⟩ (.int .i64 z)).cell? ⟨w2.heap.size, 0, none⟩ = some (.int .i64 T) := (cell_of_row _ _ 0 _ 24 (0, 0) hbx2).trans rfl
        have j1 : (w3.setCell ⟨w2.heap.size, 1, none⟩ (.int .i64 z)).cell? ⟨w2.heap.size, 1, none⟩ = some (.int .i64 z) := (cell_of_row _ _ 1 _ 24 (0, 0) hbx2).trans rfl
        clear h5 h6 hbx hbx2
        go_upto_region 8 with fail
        clear k1 f1
        revert H6 j0 j1
        generalize World.setCell w3 _ _ = w4
        intro H6 j0 j1
        go_wp2_with (at_builtin; refine wpList_append_rowv elem27 rfl (.tmp 27) (.tmp 29) rfl w.heap.size _ _ _ rfl (H6.out.own.alloc (.cells #[.int .i64 T, .int .i64 z] 24)) (some ⟨w4.heap.size, 0, none⟩) 1 1 [.int .i64 T, .int .i64 z] rfl (rdv_two w4 _ _ 24) (vals_one ⟨_, _⟩) (fun h => by cases h) (by unfold maxLen; have := HPL.out; omega) (by have := HPL.out; omega) (by have := H6.out.only.size; rw [World.size_alloc]; omega) ?_; intro v4 w5 hown hgr _; have H7 := Lib.hid (H6.out.push hg hB ⟨T, z⟩ hown hgr); clear hown hgr)
        go_roundw
        case rel => exact ⟨q + 1, v4, pre ++ [⟨T, z⟩], _, _, rfl, by go_num, by omega, by rw [List.length_append, HPL.out]; rfl, by have := HN.out; rw [show m - q - 1 = m - (q + 1) by omega] at this; exact Lib.hid this, H7.out⟩
        case measure => simp [intOf]; omega
    · obtain rfl : q = m := by omega
      have hqN : ¬ (q : Int) < N := by omega
      have hp := hpre.out
      rw [Nat.sub_self] at hp
      have HP := Lib.hid (show (pre, bs', bad') = L by rw [← hp]; simp [loopM])
      clear hp hti hpl
      go_wp2_with fail
      go_ret
      refine ⟨_, rfl, ?_⟩
      rw [← HP.out]
      exact HTI.out
end Go.Proofs.Ytmicheheibkmjaa
