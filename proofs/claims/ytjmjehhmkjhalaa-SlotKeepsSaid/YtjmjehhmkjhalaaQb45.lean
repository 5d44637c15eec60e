/- SlAlive, SlOpens: put together. -/
import Derived.Test.YtjmjehhmkjhalaaQb44
import Derived.Test.YtjmjehhmkjhalaaQb21
import Derived.Test.YtjmjehhmkjhalaaQb38
import Derived.Test.YtjmjehhmkjhalaaQb28
/- The chapter's example. -/
namespace Go.Proofs.Ytjmjehhmkjhalaa
set_option maxRecDepth 100000
open Go.RowKit

theorem sz_one (w : World) (a : Nat) : Sz (w.alloc (.cells #[.int .i64 (a : Int)] 3)) (some ⟨w.heap.size, 0, none⟩) [a] :=
  ⟨rfl, rfl, fun _ => ⟨_, _, rfl, fun j u hj => by
    rw [Nat.zero_add, cell_of_row _ _ j #[.int .i64 (a : Int)] _ (0, 0) (heap_alloc_new w _)]
    have e : rowV numV [a] = [.int .i64 (a : Int)] := rfl
    rw [e] at hj
    simpa using hj⟩⟩
theorem good4 : GoodM (natM 4 1 0 0 0 [4]) := ⟨by decide, by decide, by decide, by decide, by decide, by decide, by decide, by decide, by decide, by decide, by decide, by decide, by decide⟩
theorem good5 : GoodM (natM 5 1 0 0 0 [5]) := ⟨by decide, by decide, by decide, by decide, by decide, by decide, by decide, by decide, by decide, by decide, by decide, by decide, by decide⟩
theorem zs_one (w : World) (a : Int) : Zs (w.alloc (.cells #[.int .i64 a] 3)) (some ⟨w.heap.size, 0, none⟩) [a] := ⟨rfl, by rw [rowZ]; exact rdv_fresh1 w a _⟩
theorem alive_load (x y : Sx) (hx : x = secX _ good4) (hy : y = secX _ good5) : loadV ⟨4, 0, false, false⟩ [⟨2, upd (upd (fun _ => Sx.zero) 0 x) 1 y, []⟩] = (natM 5 1 0 0 0 [5], .nilIface) := by
  have r0 : (readV ⟨4, 0, false, false⟩ [⟨2, upd (upd (fun _ => Sx.zero) 0 x) 1 y, []⟩] 0 ((0 : Nat) : Int)).1 = x := rfl
  have r1 : (readV ⟨4, 0, false, false⟩ [⟨2, upd (upd (fun _ => Sx.zero) 0 x) 1 y, []⟩] 0 ((1 : Nat) : Int)).1 = y := rfl
  have o4 : openM cI x.l = some (natM 4 1 0 0 0 [4]) := by rw [hx]; exact openM_sec conv_cI good4
  have o5 : openM cI y.l = some (natM 5 1 0 0 0 [5]) := by rw [hy]; exact openM_sec conv_cI good5
  have b1 : bestN ⟨4, 0, false, false⟩ [⟨2, upd (upd (fun _ => Sx.zero) 0 x) 1 y, []⟩] 1 = natM 4 1 0 0 0 [4] := by
    show pickM mf0 ((0 : Nat) : Int) _ = _
    rw [r0]
    unfold pickM
    rw [o4]
    exact if_pos ⟨by decide, by decide⟩
  have b2 : bestN ⟨4, 0, false, false⟩ [⟨2, upd (upd (fun _ => Sx.zero) 0 x) 1 y, []⟩] 2 = natM 5 1 0 0 0 [5] := by
    show pickM (bestN _ _ 1) ((1 : Nat) : Int) _ = _
    rw [b1, r1]
    unfold pickM
    rw [o5]
    exact if_pos ⟨by decide, by decide⟩
  unfold loadV
  rw [if_neg (show ¬ sizeV [⟨2, upd (upd (fun _ => Sx.zero) 0 x) 1 y, []⟩] 0 < 2 from by show ¬ (2 < 2); decide), if_neg (by decide), b2, if_neg (by decide)]
set_option maxHeartbeats 4000000 in
theorem slalive_any (w : World) : Calls Try.prog 47 #[] w fun e w' => e = .returned (.bool true) ∧ Below w.heap.size w w' := by
  have hba : Below w.heap.size w (w.alloc (.cells #[.int .i64 2] 3)) := (Below.refl _ _).alloc (Nat.le_refl _) _
  have HB1 := Lib.hid hba
  have HN := Lib.hid (st_new _ 1 [2] _ (sz_one w 2) (by decide) (by decide))
  clear hba
  go_enter Try.func47, Try.ntmps47
  go_wp2_with fail
  refine Calls.mono HN.out ?_
  rintro e w1 ⟨F1, g, rfl, s1, c1⟩
  have S1 := Lib.hid s1
  have C1 := Lib.hid ((Chg.of_below HB1.out (fun _ => False)).trans c1)
  clear s1 c1 HN HB1
  obtain ⟨x4, hx4⟩ : ∃ x, x = secX _ good4 := ⟨_, rfl⟩
  have HX4 := Lib.hid hx4
  obtain ⟨x5, hx5⟩ : ∃ x, x = secX _ good5 := ⟨_, rfl⟩
  have HX5 := Lib.hid hx5
  have b4 : Below w1.heap.size w1 (w1.alloc (.cells #[.int .i64 4] 3)) := (Below.refl _ _).alloc (Nat.le_refl _) _
  have hs4 := slsave_nat (S1.out.below b4) 4 1 0 0 0 [4] _ 1 (zs_one w1 4) good4 (by decide) (by decide) (by decide) (by decide)
  rw [← hx4] at hs4
  have HS4 := Lib.hid (show Calls Try.prog 58 #[.pointer (some ⟨g, 0, none⟩), .agg #[.int .i64 4, .int .i64 1, .int .i64 0, .int .i64 0, .int .i64 0, .slice (some ⟨w1.heap.size, 0, none⟩) 1 1]] (w1.alloc (.cells #[.int .i64 4] 3)) fun e w' => e = .returned .nilIface ∧ ∃ F', St w' F' g ⟨2, 0, false, false⟩ [⟨2, upd (fun _ => Sx.zero) 0 x4, []⟩] 1 ∧ Chg (w1.alloc (.cells #[.int .i64 4] 3)) w' F1 F' from hs4)
  have C4 := Lib.hid (C1.out.trans (Chg.of_below b4 F1))
  clear hs4 hx4 b4
  go_wp2_with fail
  refine wp_loop_rounds 3 ?_
  rw [rounds_succ]
  go_wp2_with fail
  refine Calls.mono HS4.out ?_
  rintro e w2 ⟨rfl, F2, s2, c2⟩
  have S2 := Lib.hid s2
  have C2 := Lib.hid (C4.out.trans c2)
  have b5 : Below w2.heap.size w2 (w2.alloc (.cells #[.int .i64 5] 3)) := (Below.refl _ _).alloc (Nat.le_refl _) _
  have hs5 := slsave_nat (S2.out.below b5) 5 1 0 0 0 [5] _ 1 (zs_one w2 5) good5 (by simp) (by decide) (by simp) (by simp)
  rw [← hx5] at hs5
  have HS5 := Lib.hid (show Calls Try.prog 58 #[.pointer (some ⟨g, 0, none⟩), .agg #[.int .i64 5, .int .i64 1, .int .i64 0, .int .i64 0, .int .i64 0, .slice (some ⟨w2.heap.size, 0, none⟩) 1 1]] (w2.alloc (.cells #[.int .i64 5] 3)) fun e w' => e = .returned .nilIface ∧ ∃ F', St w' F' g ⟨4, 0, false, false⟩ [⟨2, upd (upd (fun _ => Sx.zero) 0 x4) 1 x5, []⟩] 2 ∧ Chg (w2.alloc (.cells #[.int .i64 5] 3)) w' F2 F' from hs5)
  have C5 := Lib.hid (C2.out.trans (Chg.of_below b5 F2))
  clear s2 c2 hs5 hx5 b5 HS4 C4 S2 C2
  go_wp2_with fail
  rw [rounds_succ]
  go_wp2_with fail
  refine Calls.mono HS5.out ?_
  rintro e w3 ⟨rfl, F3, s3, c3⟩
  have S3 := Lib.hid s3
  have C3 := Lib.hid (C5.out.trans c3)
  have hld := slload_any s3 (by simp) (by omega)
  rw [alive_load x4 x5 HX4.out HX5.out] at hld
  have HLD := Lib.hid (show Calls Try.prog 62 #[.pointer (some ⟨g, 0, none⟩)] w3 fun e w' => (∃ A c, e = .returned (.tuple #[.agg #[.int .i64 5, .int .i64 1, .int .i64 0, .int .i64 0, .int .i64 0, .slice A 1 c], .nilIface]) ∧ Zs w' A [5]) ∧ Below w3.heap.size w3 w' from hld)
  clear s3 c3 hld HS5 C5
  go_wp2_with fail
  rw [rounds_succ]
  go_wp2_with fail
  refine Calls.mono HLD.out ?_
  rintro e w4 ⟨⟨A, c, rfl, hz⟩, hb4⟩
  have hb5 : Below w4.heap.size w4 (w4.alloc (.cells #[.int .i64 5, .int .i64 1, .int .i64 0, .int .i64 0, .int .i64 0, .slice A 1 c] 93)) := (Below.refl _ _).alloc (Nat.le_refl _) _
  obtain ⟨b, off, rfl, hc⟩ := zs_cells (RowAt.below hz hb5) (by decide)
  have h0 : (w4.alloc (.cells #[.int .i64 5, .int .i64 1, .int .i64 0, .int .i64 0, .int .i64 0, .slice (some ⟨b, off, none⟩) 1 c] 93)).cell? ⟨b, off, none⟩ = some (.int .i64 5) := hc 0 (by decide)
  have C6 := Lib.hid (C3.out.trans ((Chg.of_below (hb4.trans (hb5.mono hb4.size)) F3)))
  have HST := Lib.hid (st_steps ((S3.out.below hb4).below hb5))
  clear hz hb4 hb5 hc
  go_wp2_with fail
  refine Calls.mono HST.out ?_
  rintro e w7 ⟨rfl, rfl⟩
  go_wp2_with fail
  go_ret
  exact ⟨rfl, C6.out.below (Nat.le_refl _) fun k e => e.elim⟩
end Go.Proofs.Ytjmjehhmkjhalaa

/- SlotOpens: the law. -/
namespace Go.Proofs.Ytjmjehhmkjhalaa
set_option maxRecDepth 100000
open Go.RowKit

set_option maxHeartbeats 4000000 in
theorem slopens_law (l : List Nat) (hl : l.length = 64) (hs : ∀ x ∈ l, x < 256) (w : World) :
    Calls Try.prog 8 #[.agg (secV l)] w fun e w' => e = .returned (.bool true) ∧ Below w.heap.size w w' := by
  have HL := Lib.hid hl
  have HO := Lib.hid (fun W => slopen_any l hl hs W)
  have HD := Lib.hid (fun W => drefopen_any l hl hs W)
  have HCC := Lib.hid (cI_c50 l)
  clear hl hs
  have hb0 : Below w.heap.size w (w.alloc (.cells (secV l) 75)) := (Below.refl _ _).alloc (Nat.le_refl _) _
  have HB0 := Lib.hid hb0
  have HS0 := Lib.hid (show Sec (w.alloc (.cells (secV l) 75)) w.heap.size l from heap_alloc_new w _)
  clear hb0
  go_enter Try.func8, Try.ntmps8
  go_upto_region 1 with (fail)
  obtain ⟨w0, hw0⟩ : ∃ w0, w0 = w.alloc (.cells (secV l) 75) := ⟨_, rfl⟩
  obtain ⟨g, hg⟩ : ∃ g, g = w.heap.size := ⟨_, rfl⟩
  rw [← hw0] at HB0 HS0 ⊢
  rw [← hg] at HS0 ⊢
  clear hw0 hg
  go_wp2_with fail
  refine Calls.mono (slalive_any w0) ?_
  rintro e w1 ⟨rfl, hb1⟩
  have HB1 := Lib.hid (HB0.out.trans (hb1.mono HB0.out.size))
  have HS1 := Lib.hid (HS0.out.old hb1)
  clear hb1
  go_wp2_with (first | refine wpList_load_sec (by rfl) (.tmp 1) rfl g rfl l HL.out HS1.out ?_)
  refine Calls.mono (HO.out w1) ?_
  rintro e w2 ⟨ho, hb2⟩
  have HB2 := Lib.hid (HB1.out.trans (hb2.mono HB1.out.size))
  have HS2 := Lib.hid (HS1.out.old hb2)
  clear hb2
  rcases ho with ⟨hn, rfl⟩ | ⟨m, A, c, hn, rfl, hown⟩
  · have HN := Lib.hid hn
    clear hn
    unfold eCor zeroC
    go_upto_region 4 with (fail)
    have hb3 : Below w2.heap.size w2 (w2.alloc (.cells #[.int .i64 0, .int .i64 0, .int .i64 0, .int .i64 0, .int .i64 0, .slice none 0 0] 93)) := (Below.refl _ _).alloc (Nat.le_refl _) _
    have h3 := heap_alloc_new w2 (.cells #[.int .i64 0, .int .i64 0, .int .i64 0, .int .i64 0, .int .i64 0, .slice none 0 0] 93)
    obtain ⟨w3, hw3⟩ : ∃ w3, w3 = w2.alloc (.cells #[.int .i64 0, .int .i64 0, .int .i64 0, .int .i64 0, .int .i64 0, .slice none 0 0] 93) := ⟨_, rfl⟩
    obtain ⟨p, hp⟩ : ∃ p, p = w2.heap.size := ⟨_, rfl⟩
    rw [← hw3] at hb3 h3 ⊢
    rw [← hp] at h3 ⊢
    have HB3 := Lib.hid (HB2.out.trans (hb3.mono HB2.out.size))
    have HS3 := Lib.hid (HS2.out.old hb3)
    have HP3 := Lib.hid h3
    clear hw3 hp hb3 h3
    go_wp2_with (first | refine wpList_load_sec (by rfl) (.tmp 1) rfl g rfl l HL.out HS3.out ?_)
    refine Calls.mono (HD.out w3) ?_
    rintro e w4 ⟨ho, hb4⟩
    have HB4 := Lib.hid (HB3.out.trans (hb4.mono HB3.out.size))
    have HP4 := Lib.hid ((hb4.block p (Array.getElem?_eq_some_iff.1 HP3.out).1).trans HP3.out)
    clear hb4
    rcases ho with ⟨_, rfl⟩ | ⟨m, A, c, hn2, _, _⟩
    · unfold zeroC
      go_upto_region 5 with (fail)
      have hb5 : Below w4.heap.size w4 (w4.alloc (.cells #[.int .i64 0, .int .i64 0, .int .i64 0, .int .i64 0, .int .i64 0, .slice none 0 0] 91)) := (Below.refl _ _).alloc (Nat.le_refl _) _
      have h5 := heap_alloc_new w4 (.cells #[.int .i64 0, .int .i64 0, .int .i64 0, .int .i64 0, .int .i64 0, .slice none 0 0] 91)
      obtain ⟨w5, hw5⟩ : ∃ w5, w5 = w4.alloc (.cells #[.int .i64 0, .int .i64 0, .int .i64 0, .int .i64 0, .int .i64 0, .slice none 0 0] 91) := ⟨_, rfl⟩
      obtain ⟨r, hr⟩ : ∃ r, r = w4.heap.size := ⟨_, rfl⟩
      rw [← hw5] at hb5 h5 ⊢
      rw [← hr] at h5 ⊢
      have HB5 := Lib.hid (HB4.out.trans (hb5.mono HB4.out.size))
      have h6 := (hb5.block p (Array.getElem?_eq_some_iff.1 HP4.out).1).trans HP4.out
      have a0 := (cell_of_row _ _ 0 _ _ (0, 0) h6).trans rfl
      have a1 := (cell_of_row _ _ 1 _ _ (0, 0) h6).trans rfl
      have a2 := (cell_of_row _ _ 2 _ _ (0, 0) h6).trans rfl
      have a3 := (cell_of_row _ _ 3 _ _ (0, 0) h6).trans rfl
      have a4 := (cell_of_row _ _ 4 _ _ (0, 0) h6).trans rfl
      have a5 := (cell_of_row _ _ 5 _ _ (0, 0) h6).trans rfl
      have c0 := (cell_of_row _ _ 0 _ _ (0, 0) h5).trans rfl
      have c1 := (cell_of_row _ _ 1 _ _ (0, 0) h5).trans rfl
      have c2 := (cell_of_row _ _ 2 _ _ (0, 0) h5).trans rfl
      have c3 := (cell_of_row _ _ 3 _ _ (0, 0) h5).trans rfl
      have c4 := (cell_of_row _ _ 4 _ _ (0, 0) h5).trans rfl
      have c5 := (cell_of_row _ _ 5 _ _ (0, 0) h5).trans rfl
      have HSM := Lib.hid (same15_any mf0 none none 0 0 w5 (zs_nil _ _) (zs_nil _ _) (by decide))
      rw [mf0C] at HSM
      unfold zeroC at HSM
      clear hw5 hr hb5 h5 h6
      go_wp2_with fail
      refine Calls.mono (is_errno 9 (by decide) w5) ?_
      rintro e w6 ⟨rfl, rfl⟩
      go_wp2_with fail
      refine Calls.mono HSM.out ?_
      rintro e w7 ⟨rfl, hb7⟩
      have HB7 := Lib.hid (HB5.out.trans (hb7.mono HB5.out.size))
      clear hb7
      go_wp2_with fail
      go_ret
      exact ⟨rfl, HB7.out⟩
    · rw [← HCC.out, HN.out] at hn2; cases hn2
  · have HN := Lib.hid hn
    have hgm := openM_good hn
    have HGM := Lib.hid hgm
    have HOW := Lib.hid hown
    clear hn hown hgm
    unfold mfC
    go_upto_region 4 with (fail)
    have hb3 : Below w2.heap.size w2 (w2.alloc (.cells (mfC m A c) 93)) := (Below.refl _ _).alloc (Nat.le_refl _) _
    have h3 := heap_alloc_new w2 (.cells (mfC m A c) 93)
    unfold mfC at hb3 h3
    obtain ⟨w3, hw3⟩ : ∃ w3, w3 = w2.alloc (.cells #[.int .i64 m.gen, .int .i64 m.epoch, .int .i64 m.base, .int .i64 m.area, .int .i64 m.len, .slice A m.heads.length c] 93) := ⟨_, rfl⟩
    obtain ⟨p, hp⟩ : ∃ p, p = w2.heap.size := ⟨_, rfl⟩
    rw [← hw3] at hb3 h3 ⊢
    rw [← hp] at h3 ⊢
    have HB3 := Lib.hid (HB2.out.trans (hb3.mono HB2.out.size))
    have HS3 := Lib.hid (HS2.out.old hb3)
    have HP3 := Lib.hid h3
    have HZ3 := Lib.hid (RowAt.below (zs_own (c := c) HOW.out rfl) hb3)
    clear hw3 hp hb3 h3
    go_wp2_with (first | refine wpList_load_sec (by rfl) (.tmp 1) rfl g rfl l HL.out HS3.out ?_)
    refine Calls.mono (HD.out w3) ?_
    rintro e w4 ⟨ho, hb4⟩
    have HB4 := Lib.hid (HB3.out.trans (hb4.mono HB3.out.size))
    have HP4 := Lib.hid ((hb4.block p (Array.getElem?_eq_some_iff.1 HP3.out).1).trans HP3.out)
    have HZ4 := Lib.hid (RowAt.below HZ3.out hb4)
    clear hb4
    rcases ho with ⟨hn2, _⟩ | ⟨m2, A2, c2, hn2, rfl, hown2⟩
    · rw [← HCC.out, HN.out] at hn2; cases hn2
    · have hmm : m2 = m := by rw [← HCC.out, HN.out] at hn2; injection hn2 with hn2; exact hn2.symm
      subst hmm
      have HOW2 := Lib.hid hown2
      clear hn2 hown2
      unfold mfC
      go_upto_region 5 with (fail)
      have hb5 : Below w4.heap.size w4 (w4.alloc (.cells (mfC m2 A2 c2) 91)) := (Below.refl _ _).alloc (Nat.le_refl _) _
      have h5 := heap_alloc_new w4 (.cells (mfC m2 A2 c2) 91)
      unfold mfC at hb5 h5
      obtain ⟨w5, hw5⟩ : ∃ w5, w5 = w4.alloc (.cells #[.int .i64 m2.gen, .int .i64 m2.epoch, .int .i64 m2.base, .int .i64 m2.area, .int .i64 m2.len, .slice A2 m2.heads.length c2] 91) := ⟨_, rfl⟩
      obtain ⟨r, hr⟩ : ∃ r, r = w4.heap.size := ⟨_, rfl⟩
      rw [← hw5] at hb5 h5 ⊢
      rw [← hr] at h5 ⊢
      have HB5 := Lib.hid (HB4.out.trans (hb5.mono HB4.out.size))
      have h6 := (hb5.block p (Array.getElem?_eq_some_iff.1 HP4.out).1).trans HP4.out
      have a0 := (cell_of_row _ _ 0 _ _ (0, 0) h6).trans rfl
      have a1 := (cell_of_row _ _ 1 _ _ (0, 0) h6).trans rfl
      have a2 := (cell_of_row _ _ 2 _ _ (0, 0) h6).trans rfl
      have a3 := (cell_of_row _ _ 3 _ _ (0, 0) h6).trans rfl
      have a4 := (cell_of_row _ _ 4 _ _ (0, 0) h6).trans rfl
      have a5 := (cell_of_row _ _ 5 _ _ (0, 0) h6).trans rfl
      have c0 := (cell_of_row _ _ 0 _ _ (0, 0) h5).trans rfl
      have c1 := (cell_of_row _ _ 1 _ _ (0, 0) h5).trans rfl
      have c2' := (cell_of_row _ _ 2 _ _ (0, 0) h5).trans rfl
      have c3 := (cell_of_row _ _ 3 _ _ (0, 0) h5).trans rfl
      have c4 := (cell_of_row _ _ 4 _ _ (0, 0) h5).trans rfl
      have c5 := (cell_of_row _ _ 5 _ _ (0, 0) h5).trans rfl
      have HSM := Lib.hid (same15_any m2 A A2 c c2 w5 (RowAt.below HZ4.out hb5) (RowAt.below (zs_own (c := c2) HOW2.out rfl) hb5) (by have := HGM.out.h2; omega))
      unfold mfC at HSM
      clear hw5 hr hb5 h5 h6
      go_wp2_with fail
      refine Calls.mono HSM.out ?_
      rintro e w7 ⟨rfl, hb7⟩
      have HB7 := Lib.hid (HB5.out.trans (hb7.mono HB5.out.size))
      clear hb7
      go_wp2_with fail
      go_ret
      exact ⟨rfl, HB7.out⟩
end Go.Proofs.Ytjmjehhmkjhalaa
