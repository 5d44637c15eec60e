/- foot.Put, and the document's. -/
import Derived.Test.YtmicheheibkmjaaFPutK
import Derived.Test.YtmicheheibkmjaaFJoinW
import Derived.Test.YtmicheheibkmjaaFGood2
namespace Go.Proofs.Ytmicheheibkmjaa
set_option maxRecDepth 100000
open Go.RowKit Go.Shelf

theorem ksB_def (l : List K) : ksB l = cntN l.length ++ l.flatMap kB := rfl
theorem ssB_def (l : List Sp) : ssB l = cntN l.length ++ l.flatMap sB := rfl
set_option maxHeartbeats 1000000 in
theorem put_no (x : FV) (f : Ft) (w : World) (hx : FtG w x f) (hg : goodB f = false) :
    Calls Try.prog 24 #[x.val] w fun e w' => e = .returned (.slice none 0 0) ∧ Below w.heap.size w w' := by
  have hbx := (Below.refl w.heap.size w).alloc (Nat.le_refl _) (.cells x.cs 30)
  have HB := Lib.hid hbx
  have HF := Lib.hid (show FBox (w.alloc (.cells x.cs 30)) w.heap.size x from heap_alloc_new w _)
  have HG := Lib.hid (good_any x f _ (hx.below hbx).at_ hx.fit)
  rw [hg] at HG
  clear hbx hx hg
  unfold FV.val at HG ⊢
  go_enter Try.func24, Try.ntmps24
  go_upto_region 1 with fail
  revert HB HF HG
  generalize World.alloc w _ = W
  intro HB HF HG
  have y0 := HF.out.c0
  have y1 := HF.out.c1
  have y2 := HF.out.c2
  unfold FV.cs at HG
  go_wp2_with fail
  refine Calls.mono HG.out ?_
  rintro e w1 ⟨rfl, hb1⟩
  have HB1 := Lib.hid (HB.out.trans (hb1.mono HB.out.size))
  clear hb1 y0 y1 y2
  go_wp2_with fail
  go_ret
  exact ⟨rfl, HB1.out⟩
theorem wtr_new (W w1 : World) (h : W.heap.size ≤ w1.heap.size) : Wtr (w1.alloc (.cells #[.slice none 0 0] 69)) W.heap.size w1.heap.size (.slice none 0 0) [] :=
  ⟨h, heap_alloc_new w1 _, World.ownsRow_nil _ _ _ _⟩
set_option maxHeartbeats 4000000 in
theorem put_yes (x : FV) (f : Ft) (w : World) (hx : FtG w x f) (hg : goodB f = true) (hfit : FitF f) (h1 : x.n ≤ 100000) (h2 : x.n2 ≤ 100000) (h3 : x.n3 ≤ 100000) :
    Calls Try.prog 24 #[x.val] w fun e w' => ∃ v, e = .returned v ∧ ∃ A' c', v = .slice A' (putB f).length c' ∧ Rdv w' A' (putB f).length 1 (valsB (putB f)) ∧ (A' = none → c' = 0 ∧ (putB f).length = 0) ∧ Below w.heap.size w w' := by
  obtain ⟨A, n, c, A2, n2, c2, A3, n3, c3⟩ := x
  dsimp only at h1 h2 h3
  have hx1 : f.rs.length = n := hx.at_.rs.len
  have hx2 : f.sp.length = n2 := hx.at_.sp.len
  have hx3 : f.ws.length = n3 := hx.at_.ws.len
  have HL1 := Lib.hid hx1
  have HL2 := Lib.hid hx2
  have HL3 := Lib.hid hx3
  clear hx1 hx2 hx3
  have hbx := (Below.refl w.heap.size w).alloc (Nat.le_refl _) (.cells #[.slice A n c, .slice A2 n2 c2, .slice A3 n3 c3] 30)
  have HB := Lib.hid hbx
  have HF := Lib.hid (show FBox (w.alloc (.cells #[.slice A n c, .slice A2 n2 c2, .slice A3 n3 c3] 30)) w.heap.size ⟨A, n, c, A2, n2, c2, A3, n3, c3⟩ from heap_alloc_new w _)
  have HX := Lib.hid (hx.below hbx).at_
  have HG := Lib.hid (good_any _ f _ (hx.below hbx).at_ hx.fit)
  have HFT := Lib.hid hfit
  have HSZ := Lib.hid (show w.heap.size < (w.alloc (.cells #[.slice A n c, .slice A2 n2 c2, .slice A3 n3 c3] 30)).heap.size by rw [World.size_alloc]; omega)
  rw [hg] at HG
  clear hbx hx hg hfit
  unfold FV.val FV.cs at HG ⊢
  dsimp only at HG ⊢
  go_enter Try.func24, Try.ntmps24
  go_upto_region 1 with fail
  revert HB HF HG HX HSZ
  generalize World.alloc w _ = W
  intro HB HF HX HG HSZ
  have HBX := Lib.hid (show ∀ W2, Below W.heap.size W W2 → W2.cell? ⟨w.heap.size, 0, none⟩ = some (.slice A n c) ∧ W2.cell? ⟨w.heap.size, 1, none⟩ = some (.slice A2 n2 c2) ∧ W2.cell? ⟨w.heap.size, 2, none⟩ = some (.slice A3 n3 c3) from fun W2 h => ⟨(HF.out.below h).c0, (HF.out.below h).c1, (HF.out.below h).c2⟩)
  have y0 : W.cell? ⟨w.heap.size, 0, none⟩ = some (.slice A n c) := HF.out.c0
  have y1 : W.cell? ⟨w.heap.size, 1, none⟩ = some (.slice A2 n2 c2) := HF.out.c1
  have y2 : W.cell? ⟨w.heap.size, 2, none⟩ = some (.slice A3 n3 c3) := HF.out.c2
  go_wp2_with fail
  refine Calls.mono HG.out ?_
  rintro e w1 ⟨rfl, hb1⟩
  have hw2 := wtr_new W w1 hb1.size
  have hb2 : Below W.heap.size W (w1.alloc (.cells #[.slice none 0 0] 69)) := hb1.alloc hb1.size _
  have HP := Lib.hid (putKeys_any w1.heap.size _ [] A n c f.rs W _ hb2 HX.out.rs HFT.out.rs hw2 h1 (by simp))
  have z0 := (HBX.out _ hb2).1
  have HW2 := Lib.hid hw2
  have HB2 := Lib.hid hb2
  obtain ⟨g, hgq⟩ : ∃ g, g = w1.heap.size := ⟨_, rfl⟩
  rw [← hgq] at HP HW2
  have HGQ := Lib.hid hgq
  clear hb1 y0 y1 y2 hw2 hb2 hgq
  go_wp2_with fail
  rw [← HGQ.out]
  clear z0
  revert HP HW2 HB2
  generalize World.alloc w1 _ = w2
  intro HB2 HW2 HP
  refine Calls.mono HP.out ?_
  rintro e w3 ⟨rfl, v3, p3⟩
  rw [List.nil_append] at p3
  have HBW := Lib.hid (show ∀ w' v' zs, Wrote w2 w' W.heap.size g (.slice none 0 0) v' zs → Below W.heap.size W w' from fun w' v' zs h => HB2.out.trans (h.below (row_low HW2.out.own) HB2.out.size))
  have z1 := (HBX.out _ (HBW.out _ _ _ p3)).2.1
  have e2 := u64_nat n2 (by omega)
  have HLR := Lib.hid (ksB_len HFT.out.rs HFT.out.few.1)
  have hlr : (ksB f.rs).length ≤ 10 + 20 * n := by have := HLR.out; have := HL1.out; omega
  have HLR := Lib.hid hlr
  have HC := Lib.hid (count_any W.heap.size g v3 (ksB f.rs) n2 (by omega) w3 p3.wtr (by omega))
  have hcn := cntN_ten n2 (by omega)
  have H3 := Lib.hid p3
  clear p3 hlr
  go_wp2_with fail
  refine Calls.mono HC.out ?_
  rintro e w4 ⟨rfl, v4, p4⟩
  have h4 := H3.out.trans p4
  have z1' := (HBX.out _ (HBW.out _ _ _ h4)).2.1
  have HSL := Lib.hid HL2.out
  have HLL := Lib.hid (fun q (hq : q ≤ n2) => take_len (E := sB) (c := 30) f.sp q n2 hq fun s hs => sB_len (HFT.out.sp s hs))
  have H4 := Lib.hid h4
  clear p4 h4 z1 e2
  go_wp2_with fail
  clear z1'
  go_loopw [20] (fun i wr => ∃ (q : Nat) (v' : Value), i = .int .i64 (q : Int) ∧ q ≤ n2 ∧ Wrote w2 wr W.heap.size g (.slice none 0 0) v' ((ksB f.rs ++ cntN n2) ++ (f.sp.take q).flatMap sB)) (fun i _ => n2 - (intOf i).toNat)
  case atStart => exact ⟨0, v4, rfl, by omega, by simpa using H4.out⟩
  case round =>
    obtain ⟨q, v', rfl, hq, hwr⟩ := hrel
    have HWR := Lib.hid hwr
    have hlen := HLL.out q hq
    have hl1 : ((ksB f.rs ++ cntN n2) ++ (f.sp.take q).flatMap sB).length ≤ 20 + 20 * n + 30 * n2 := by have := HLR.out; rw [List.length_append, List.length_append]; omega
    have HLN := Lib.hid hl1
    by_cases hlt : q < n2
    · have hql : q < f.sp.length := by rw [HSL.out]; exact hlt
      have hbw := HBW.out _ _ _ hwr
      obtain ⟨b, off, rfl, hc⟩ := Spans.cells (HX.out.sp.below hbw) (show 0 < n2 by omega)
      obtain ⟨c0, c1, c2⟩ := hc q hql
      have hts := take_next (E := sB) f.sp q hql
      have hfx := HFT.out.sp f.sp[q] (List.getElem_mem _)
      obtain ⟨s, hs⟩ : ∃ s, s = f.sp[q] := ⟨_, rfl⟩
      rw [← hs] at c0 c1 c2 hts hfx
      have HTS := Lib.hid hts
      have e2 := u64_tab hfx.1
      have hN4 : s.t.toNat < 4 := by have := hfx.1; unfold tabP at this; omega
      have HKB := Lib.hid (show sB s = cntN s.t.toNat ++ (cntN (foldN s.lo) ++ cntN (foldN s.hi)) from rfl)
      obtain ⟨N, hN⟩ : ∃ N, N = s.t.toNat := ⟨_, rfl⟩
      rw [← hN] at e2 hN4 HKB
      have hw1 := hwr.wtr.alloc (.cells #[.int .i64 s.t, .int .i64 s.lo, .int .i64 s.hi] 54)
      have HC1 := Lib.hid (count_any W.heap.size g v' _ N (by omega) _ hw1 (by omega))
      have hgl := Wtr.lt hwr.wtr
      have hrl : v'.ownBlock ≠ some wr.heap.size := fun he => by have := (hwr.wtr.own.lt _ he).2; omega
      have HRL := Lib.hid hrl
      have HFX := Lib.hid hfx
      clear hwr hc hts hs hw1 hN hl1 hbw hrl hfx hlen
      go_wp2_with fail
      refine Calls.mono HC1.out ?_
      rintro e w5 ⟨rfl, v5, p5⟩
      have HK := Lib.hid (show ∀ w' v'' zs, Wrote (wr.alloc (.cells #[.int .i64 s.t, .int .i64 s.lo, .int .i64 s.hi] 54)) w' W.heap.size g v' v'' zs → w'.cell? ⟨wr.heap.size, 1, none⟩ = some (.int .i64 s.lo) ∧ w'.cell? ⟨wr.heap.size, 2, none⟩ = some (.int .i64 s.hi) from fun w' v'' zs h => by
        have k : ∀ o, w'.cell? ⟨wr.heap.size, o, none⟩ = (wr.alloc (.cells #[.int .i64 s.t, .int .i64 s.lo, .int .i64 s.hi] 54)).cell? ⟨wr.heap.size, o, none⟩ := fun o => h.cell (p := ⟨wr.heap.size, o, none⟩) (by rw [World.size_alloc]; exact Nat.lt_succ_self _) (Nat.ne_of_gt hgl) HRL.out
        rw [k, k]
        exact ⟨(cell_of_row _ _ 1 _ 54 (0, 0) (heap_alloc_new wr _)).trans rfl, (cell_of_row _ _ 2 _ 54 (0, 0) (heap_alloc_new wr _)).trans rfl⟩)
      have k1 := (HK.out _ _ _ p5).1
      have hcN := cntN_ten N (by omega)
      have HN1 := Lib.hid (num_any W.heap.size g v5 _ s.lo HFX.out.2.1 w5 p5.wtr (by have := HLN.out; rw [List.length_append]; omega))
      have hcl := cntN_ten (foldN s.lo) (foldN_lt HFX.out.2.1)
      have H5 := Lib.hid p5
      clear p5 e2 c0 c1 c2
      go_wp2_with fail
      refine Calls.mono HN1.out ?_
      rintro e w6 ⟨rfl, v6, p6⟩
      have h6 := H5.out.trans p6
      have k2 := (HK.out _ _ _ h6).2
      have HN2 := Lib.hid (num_any W.heap.size g v6 _ s.hi HFX.out.2.2 w6 p6.wtr (by have := HLN.out; rw [List.length_append, List.length_append]; omega))
      have H6 := Lib.hid (HWR.out.trans (Wrote.after_alloc h6))
      clear p6 h6 k1
      go_wp2_with fail
      refine Calls.mono HN2.out ?_
      rintro e w7 ⟨rfl, v7, p7⟩
      have H7 := Lib.hid (H6.out.trans p7)
      clear p7 k2
      go_wp2_with fail
      go_roundw
      case rel => exact ⟨q + 1, v7, by go_num, by omega, by rw [HTS.out, HKB.out, ← List.append_assoc, ← List.append_assoc, ← List.append_assoc]; exact H7.out⟩
      case measure => simp [intOf]; omega
    · obtain rfl : n2 = q := by omega
      have ht : f.sp.take n2 = f.sp := List.take_of_length_le (by rw [HSL.out]; omega)
      rw [ht, List.append_assoc] at hwr hl1
      have hss : cntN n2 ++ f.sp.flatMap sB = ssB f.sp := by rw [ssB_def, HSL.out]
      rw [hss] at hwr hl1
      have HP3 := Lib.hid (putKeys_any g v' (ksB f.rs ++ ssB f.sp) A3 n3 c3 f.ws W wr (HBW.out _ _ _ hwr) HX.out.ws HFT.out.ws hwr.wtr h3 (by omega))
      have z2 := (HBX.out _ (HBW.out _ _ _ hwr)).2.2
      have HL9 := Lib.hid hl1
      have H9 := Lib.hid hwr
      clear hwr ht hlen hss hl1
      go_wp2_with fail
      refine Calls.mono HP3.out ?_
      rintro e w8 ⟨rfl, v8, p8⟩
      have h8 := H9.out.trans p8
      rw [List.append_assoc] at h8
      have hpl : (putB f).length ≤ 140737488355328 := by
        have h1 := HL9.out
        have h2 := ksB_len HFT.out.ws HFT.out.few.2.2
        have h4 := HL3.out
        rw [List.length_append] at h1
        unfold putB
        rw [List.length_append, List.length_append]
        omega
      have hout := out_any W.heap.size g v8 (putB f) w8 h8.wtr hpl
      have HO := Lib.hid hout
      have HB8 := Lib.hid (HB.out.trans ((HBW.out _ _ _ h8).mono HB.out.size))
      clear p8 h8 z2 hpl hout
      go_wp2_with fail
      refine Calls.mono HO.out ?_
      rintro e w9 ⟨_, rfl, A', c', rfl, q1, q2, q3⟩
      have Q1 := Lib.hid q1
      have Q2 := Lib.hid (show A' = none → c' = 0 ∧ (putB f).length = 0 from fun e => by
        rcases q2 with ⟨_, a, b⟩ | ⟨b, e2, _⟩
        · exact ⟨b, a⟩
        · rw [e] at e2; cases e2)
      have Q3 := Lib.hid (HB8.out.trans (q3.mono HB8.out.size))
      clear q1 q2 q3
      go_wp2_with fail
      go_ret
      exact ⟨_, rfl, A', c', rfl, Q1.out, Q2.out, Q3.out⟩
end Go.Proofs.Ytmicheheibkmjaa
