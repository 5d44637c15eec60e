/- The document's Put. -/
import Derived.Test.YtmicheheibkmjaaFPutW
namespace Go.Proofs.Ytmicheheibkmjaa
set_option maxRecDepth 100000
open Go.RowKit Go.Shelf

/-- A row of bytes under way, beside a span in a box. -/
structure PSI (w W : World) (B : Nat) (v : Value) (pre : List Nat) (b : Nat) (s : Sp) : Prop where
  p : PBI w W B v pre
  box : W.heap[b]? = some (.cells #[.int .i64 s.t, .int .i64 s.lo, .int .i64 s.hi] 54 (0, 0))
  ne : v.ownBlock ≠ some b
section
variable {w W W' : World} {B b : Nat} {v v' : Value} {pre ys : List Nat} {s : Sp}
theorem PSI.start (h : PBI w W B v pre) (s : Sp) : PSI w (W.alloc (.cells #[.int .i64 s.t, .int .i64 s.lo, .int .i64 s.hi] 54)) B v pre W.heap.size s :=
  ⟨h.later ((Below.refl _ W).alloc (Nat.le_refl _) _), heap_alloc_new W _, fun e => by have := (h.own.lt _ e).2; omega⟩
theorem PSI.later (h : PSI w W B v pre b s) (hb : Below W.heap.size W W') : PSI w W' B v pre b s :=
  ⟨h.p.later hb, (hb.block b (Array.getElem?_eq_some_iff.1 h.box).1).trans h.box, h.ne⟩
theorem PSI.put (h : PSI w W B v pre b s) (ho : OwnB W' B v' ys) (hb : Below B W W') (ht : Touch W W' W'.heap.size v.ownBlock) (hv : v'.ownBlock = v.ownBlock ∨ v'.ownBlock = some W.heap.size) : PSI w W' B v' ys b s := by
  have hlt := (Array.getElem?_eq_some_iff.1 h.box).1
  refine ⟨h.p.put ho hb, (ht.block b hlt (by have := ht.size; omega) h.ne).trans h.box, fun e => ?_⟩
  rcases hv with h1 | h1
  · exact h.ne (h1.symm.trans e)
  · rw [h1] at e
    injection e with e
    omega
theorem PSI.c (h : PSI w W B v pre b s) : W.cell? ⟨b, 0, none⟩ = some (.int .i64 s.t) ∧ W.cell? ⟨b, 1, none⟩ = some (.int .i64 s.lo) ∧ W.cell? ⟨b, 2, none⟩ = some (.int .i64 s.hi) :=
  ⟨(cell_of_row W b 0 _ 54 (0, 0) h.box).trans rfl, (cell_of_row W b 1 _ 54 (0, 0) h.box).trans rfl, (cell_of_row W b 2 _ 54 (0, 0) h.box).trans rfl⟩
end
set_option maxHeartbeats 4000000 in
theorem refPut_any (x : FV) (f : Ft) (w : World) (hx : FtG w x f) (hfit : FitF f) (h1 : x.n ≤ 100000) (h2 : x.n2 ≤ 100000) (h3 : x.n3 ≤ 100000) :
    Calls Try.prog 27 #[x.val] w fun e w' => ∃ v, e = .returned v ∧ OwnB w' (w.heap.size + 1) v (putB f) ∧ Below w.heap.size w w' := by
  obtain ⟨A, n, c, A2, n2, c2, A3, n3, c3⟩ := x
  dsimp only at h1 h2 h3
  have hx1 : f.rs.length = n := hx.at_.rs.len
  have hx2 : f.sp.length = n2 := hx.at_.sp.len
  have hx3 : f.ws.length = n3 := hx.at_.ws.len
  have HL1 := Lib.hid hx1
  have HL2 := Lib.hid hx2
  have HL3 := Lib.hid hx3
  have HSS := Lib.hid (show cntN n2 ++ f.sp.flatMap sB = ssB f.sp by rw [ssB_def, hx2])
  clear hx1 hx2 hx3
  have hbx := (Below.refl w.heap.size w).alloc (Nat.le_refl _) (.cells #[.slice A n c, .slice A2 n2 c2, .slice A3 n3 c3] 30)
  have HB := Lib.hid hbx
  have HF := Lib.hid (show FBox (w.alloc (.cells #[.slice A n c, .slice A2 n2 c2, .slice A3 n3 c3] 30)) w.heap.size ⟨A, n, c, A2, n2, c2, A3, n3, c3⟩ from heap_alloc_new w _)
  have HX := Lib.hid (hx.below hbx).at_
  have HFT := Lib.hid hfit
  have HSZ := Lib.hid (show (w.alloc (.cells #[.slice A n c, .slice A2 n2 c2, .slice A3 n3 c3] 30)).heap.size = w.heap.size + 1 by rw [World.size_alloc])
  clear hbx hx hfit
  unfold FV.val FV.cs
  dsimp only
  go_enter Try.func27, Try.ntmps27
  go_upto_region 1 with fail
  revert HB HF HX HSZ
  generalize World.alloc w _ = W
  intro HB HF HX HSZ
  have HBX := Lib.hid (show ∀ W2, Below W.heap.size W W2 → W2.cell? ⟨w.heap.size, 0, none⟩ = some (.slice A n c) ∧ W2.cell? ⟨w.heap.size, 1, none⟩ = some (.slice A2 n2 c2) ∧ W2.cell? ⟨w.heap.size, 2, none⟩ = some (.slice A3 n3 c3) from fun W2 h => ⟨(HF.out.below h).c0, (HF.out.below h).c1, (HF.out.below h).c2⟩)
  have y0 := (HBX.out W (Below.refl _ _)).1
  have HK1 := Lib.hid (refKeys_any A n c f.rs W HX.out.rs HFT.out.rs h1)
  go_wp2_with fail
  refine Calls.mono HK1.out ?_
  rintro e w1 ⟨v1, rfl, p1, b1⟩
  have HP1 := Lib.hid (show PBI W w1 W.heap.size v1 (ksB f.rs) from ⟨b1, Nat.le_refl _, p1⟩)
  have y1 := (HBX.out w1 b1).2.1
  have e2 := u64_nat n2 (by omega)
  have HC := Lib.hid (refCount_any n2 (by omega) w1)
  have hlr : (ksB f.rs).length ≤ 10 + 20 * n := by have := ksB_len HFT.out.rs HFT.out.few.1; have := HL1.out; omega
  have hcn := cntN_ten n2 (by omega)
  have HLR := Lib.hid hlr
  clear p1 b1 y0 hlr
  go_wp2_with fail
  refine Calls.mono HC.out ?_
  rintro e w2 ⟨v2, rfl, p2, b2⟩
  obtain ⟨A5, k5, rfl, q3, q4, q5⟩ := p2.rdv
  have HP2 := Lib.hid (HP1.out.later b2)
  have Q3 := Lib.hid q3
  clear p2 b2 y1 e2 q3
  go_wp2_with (at_builtin; refine wpList_appB rfl (.tmp 9) (.tmp 14) rfl W.heap.size _ _ rfl HP2.out.own A5 _ k5 (cntN n2) rfl Q3.out q4 (by have := HLR.out; omega) HP2.out.low ?_; intro v3 w3 hown3 hb3 _ _; have HP3 := Lib.hid (HP2.out.put hown3 hb3); clear hown3 hb3)
  have HLL := Lib.hid (fun q (hq : q ≤ n2) => take_len (E := sB) (c := 30) f.sp q n2 hq fun s hs => sB_len (HFT.out.sp s hs))
  go_loopw [3, 4] (fun v i wr => ∃ (q : Nat) (v' : Value), v = v' ∧ i = .int .i64 (q : Int) ∧ q ≤ n2 ∧ PBI W wr W.heap.size v' ((ksB f.rs ++ cntN n2) ++ (f.sp.take q).flatMap sB)) (fun _ i _ => n2 - (intOf i).toNat)
  case atStart => exact ⟨0, v3, rfl, rfl, by omega, by simpa using HP3.out⟩
  case round =>
    obtain ⟨q, v', rfl, rfl, hq, hwr⟩ := hrel
    have HWR := Lib.hid hwr
    have hlen := HLL.out q hq
    have hl1 : ((ksB f.rs ++ cntN n2) ++ (f.sp.take q).flatMap sB).length ≤ 20 + 20 * n + 30 * n2 := by have := HLR.out; rw [List.length_append, List.length_append]; omega
    have HLN := Lib.hid hl1
    have z1 := (HBX.out wr hwr.below).2.1
    by_cases hlt : q < n2
    · have hql : q < f.sp.length := by rw [HL2.out]; exact hlt
      obtain ⟨b, off, rfl, hc⟩ := Spans.cells (HX.out.sp.below hwr.below) (show 0 < n2 by omega)
      obtain ⟨c0, c1, c2⟩ := hc q hql
      have hts := take_next (E := sB) f.sp q hql
      have hfx := HFT.out.sp f.sp[q] (List.getElem_mem _)
      obtain ⟨s, hs⟩ : ∃ s, s = f.sp[q] := ⟨_, rfl⟩
      rw [← hs] at c0 c1 c2 hts hfx
      have HTS := Lib.hid hts
      have e2 := u64_tab hfx.1
      have hN4 : s.t.toNat < 4 := by have := hfx.1; unfold tabP at this; omega
      have HKB := Lib.hid (show sB s = cntN s.t.toNat ++ (cntN (foldN s.lo) ++ cntN (foldN s.hi)) from rfl)
      obtain ⟨N, hN⟩ : ∃ N, N = s.t.toNat := ⟨_, rfl⟩
      rw [← hN] at e2 hN4 HKB
      have HS0 := Lib.hid (PSI.start hwr s)
      have HC1 := Lib.hid (fun W => refCount_any N (by omega) W)
      have HN1 := Lib.hid (fun W => refNum_any s.lo hfx.2.1 W)
      have HN2 := Lib.hid (fun W => refNum_any s.hi hfx.2.2 W)
      have hc1 := cntN_ten N (by omega)
      have hc2 := cntN_ten (foldN s.lo) (foldN_lt hfx.2.1)
      have hc3 := cntN_ten (foldN s.hi) (foldN_lt hfx.2.2)
      clear hwr hc hts hs hN hl1 hfx hlen
      go_wp2_with fail
      refine Calls.mono (HC1.out _) ?_
      rintro e w5 ⟨v5, rfl, p5, b5⟩
      obtain ⟨A6, k6, rfl, q6, q7, q8⟩ := p5.rdv
      have HS1 := Lib.hid (HS0.out.later b5)
      have Q6 := Lib.hid q6
      clear p5 b5 e2 c0 c1 c2 z1 q6
      go_wp2_with (at_builtin; refine wpList_appB rfl (.tmp 28) (.tmp 32) rfl W.heap.size _ _ rfl HS1.out.p.own A6 _ k6 (cntN N) rfl Q6.out q7 (by have := HLN.out; omega) HS1.out.p.low ?_; intro v6 w6 hown6 hb6 ht6 hv6; have HS2 := Lib.hid (HS1.out.put hown6 hb6 ht6 hv6); have d1 := HS2.out.c.2.1; clear hown6 hb6 ht6 hv6)
      refine Calls.mono (HN1.out _) ?_
      rintro e w7 ⟨v7, rfl, p7, b7⟩
      obtain ⟨A8, k8, rfl, r6, r7, r8⟩ := p7.rdv
      have HS3 := Lib.hid (HS2.out.later b7)
      have R6 := Lib.hid r6
      clear p7 b7 d1 r6
      go_wp2_with (at_builtin; refine wpList_appB rfl (.tmp 34) (.tmp 37) rfl W.heap.size _ _ rfl HS3.out.p.own A8 _ k8 (cntN (foldN s.lo)) rfl R6.out r7 (by have := HLN.out; rw [List.length_append]; omega) HS3.out.p.low ?_; intro v8 w8 hown8 hb8 ht8 hv8; have HS4 := Lib.hid (HS3.out.put hown8 hb8 ht8 hv8); have d2 := HS4.out.c.2.2; clear hown8 hb8 ht8 hv8)
      refine Calls.mono (HN2.out _) ?_
      rintro e w9 ⟨v9, rfl, p9, b9⟩
      obtain ⟨A10, k10, rfl, t6, t7, t8⟩ := p9.rdv
      have HS5 := Lib.hid (HS4.out.later b9)
      have T6 := Lib.hid t6
      clear p9 b9 d2 t6
      go_wp2_with (at_builtin; refine wpList_appB rfl (.tmp 39) (.tmp 42) rfl W.heap.size _ _ rfl HS5.out.p.own A10 _ k10 (cntN (foldN s.hi)) rfl T6.out t7 (by have := HLN.out; rw [List.length_append, List.length_append]; omega) HS5.out.p.low ?_; intro v10 w10 hown10 hb10 ht10 hv10; have HS6 := Lib.hid (HS5.out.put hown10 hb10 ht10 hv10); clear hown10 hb10 ht10 hv10)
      go_roundw
      case rel => exact ⟨q + 1, v10, rfl, by go_num, by omega, by rw [HTS.out, HKB.out, ← List.append_assoc, ← List.append_assoc, ← List.append_assoc]; exact HS6.out.p⟩
      case measure => simp [intOf]; omega
    · obtain rfl : n2 = q := by omega
      have ht : f.sp.take n2 = f.sp := List.take_of_length_le (by rw [HL2.out]; omega)
      rw [ht, List.append_assoc, HSS.out] at hwr hl1
      have HP3 := Lib.hid (refKeys_any A3 n3 c3 f.ws wr (HX.out.ws.below hwr.below) HFT.out.ws h3)
      have z2 := (HBX.out wr hwr.below).2.2
      have HL9 := Lib.hid hl1
      have H9 := Lib.hid hwr
      have hl3 : (ksB f.ws).length ≤ 10 + 20 * n3 := by have := ksB_len HFT.out.ws HFT.out.few.2.2; have := HL3.out; omega
      have HL10 := Lib.hid hl3
      clear hwr ht hlen hl1 hl3
      go_wp2_with fail
      refine Calls.mono HP3.out ?_
      rintro e w5 ⟨v5, rfl, p5, b5⟩
      obtain ⟨A6, k6, rfl, q6, q7, q8⟩ := p5.rdv
      have HS1 := Lib.hid (H9.out.later b5)
      have Q6 := Lib.hid q6
      clear p5 b5 z1 z2 q6
      go_wp2_with (at_builtin; refine wpList_appB rfl (.tmp 44) (.tmp 47) rfl W.heap.size _ _ rfl HS1.out.own A6 _ k6 (ksB f.ws) rfl Q6.out q7 (by have := HL9.out; have := HL10.out; omega) HS1.out.low ?_; intro v6 w6 hown6 hb6 _ _; have HS2 := Lib.hid (HS1.out.put hown6 hb6); clear hown6 hb6)
      go_ret
      refine ⟨_, rfl, ?_, HB.out.trans (HS2.out.below.mono HB.out.size)⟩
      have h9 := HS2.out.own
      rw [List.append_assoc, HSZ.out] at h9
      exact h9
end Go.Proofs.Ytmicheheibkmjaa
