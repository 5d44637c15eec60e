/- ProgDecodes answers true of whatever bytes: the walk. -/
import Derived.Test.YtkeckjgihjpfbaaDoorRDecode
import Derived.Test.YtkeckjgihjpfbaaDoorCopy
import Derived.Deep.RegionHeld3
import Derived.Deep.RegionLaw
import Derived.Deep.Cut
namespace Go.Proofs.YtkeckjgihjpfbaaDoor
set_option maxRecDepth 100000
open Go.RowKit
attribute [local go_sem ↓] Go.wp_at_zero Go.wp_at_succ

theorem codes_nil0 (w : World) : Codes w none 0 [] := ⟨rfl, rfl, fun h => absurd h (by omega)⟩
theorem ref_ok {xs : List Nat} (hok : decOk xs = true) {W : World} {e : Ending} (h : RefDecE xs W e) : ∃ A c, e = .returned (.tuple #[.agg #[.int .i64 (readP xs).1, .slice A (readP xs).2.1.length c], .bool true]) ∧ Codes W A (readP xs).2.1.length (readP xs).2.1 := by
  rcases h with ⟨_, h⟩ | ⟨h, _⟩
  · exact h
  · rw [hok] at h; cases h
theorem ref_no {xs : List Nat} (hok : decOk xs = false) {W : World} {e : Ending} (h : RefDecE xs W e) : e = .returned (.tuple #[.agg #[.int .i64 0, .slice none 0 0], .bool false]) := by
  rcases h with ⟨h, _⟩ | ⟨_, h⟩
  · rw [hok] at h; cases h
  · exact h
set_option maxHeartbeats 16000000 in
theorem decodes_law (A : Option Addr) (n c : Nat) (xs : List Nat) (w : World) (hT : Tab w) (hr : Rdv w A n 1 (valsB xs)) (hnil : A = none → c = 0) (hs : ∀ x ∈ xs, x < 256) :
    Calls Tryd.prog 4 #[.slice A n c] w fun e w' => e = .returned (.bool true) ∧ Below w.heap.size w w' := by
  have HAL := Lib.hid (alive_any w hT)
  have HT := Lib.hid hT
  have HR := Lib.hid hr
  have HS := Lib.hid hs
  clear hT hr hs
  go_enter Tryd.func4, Tryd.ntmps4
  go_wp2_with fail
  refine Calls.mono HAL.out ?_
  rintro e w1 ⟨rfl, hb1⟩
  have HB1 := Lib.hid hb1
  clear hb1
  by_cases hl : 3000 < n
  · have d1 : decide ((3000 : Int) < (n : Int)) = true := decide_eq_true (by omega)
    clear hl
    go_wp2_with fail
    go_ret
    exact ⟨rfl, HB1.out⟩
  have d1 : decide ((3000 : Int) < (n : Int)) = false := decide_eq_false (by omega)
  have HCP := Lib.hid (copy_any A n c xs w1 (HR.out.ext (stays_b HB1.out)) hnil (by omega))
  have hn3 : n ≤ 3000 := by omega
  clear hl
  go_wp2_with fail
  refine Calls.mono HCP.out ?_
  rintro e w2 ⟨g, cap, rfl, hmk, hg, hb2⟩
  have HB2 := Lib.hid (HB1.out.trans (hb2.mono HB1.out.size))
  have HMK := Lib.hid hmk
  have HD := Lib.hid (decode_any (some ⟨g, 0, none⟩) n cap xs w2 (HT.out.ext HB2.out) hmk.row (fun h => by cases h) (by omega) HS.out)
  clear hmk hb2 hg
  go_wp2_with fail
  refine Calls.mono HD.out ?_
  rintro e w3 ⟨he3, hb3⟩
  have HB3 := Lib.hid (HB2.out.trans (hb3.mono HB2.out.size))
  have HMK3 := Lib.hid (HMK.out.at (hb3.block g HMK.out.lt))
  have HFT := Lib.hid (readP_fits xs HS.out)
  have hyes := dec_yes HS.out
  clear hb3
  rcases he3 with ⟨hok, A3, c3, rfl, hc3, _⟩ | ⟨hok, rfl⟩
  · have HEQ := Lib.hid (hyes hok)
    have HC3 := Lib.hid hc3
    have HRR := Lib.hid (fun (W : World) (e : Ending) (h : RefDecE xs W e) => ref_ok hok h)
    obtain ⟨F, hF⟩ : ∃ F, F = (readP xs).1 := ⟨_, rfl⟩
    obtain ⟨L, hL⟩ : ∃ L, L = (readP xs).2.1 := ⟨_, rfl⟩
    rw [← hF, ← hL] at HEQ HRR
    rw [← hL] at HC3 HFT ⊢
    rw [← hF]
    have HLN := Lib.hid (show L.length ≤ 9223372036854775807 by have := chk_good HEQ.out.2; omega)
    clear hF hL hok hyes hc3
    have HREF := Lib.hid (refdec_any A n c xs (w3.alloc (.cells #[.int .i64 F, .slice A3 L.length c3] 24)) (HR.out.ext (stays_b (HB3.out.alloc HB3.out.size _))) hnil hn3 HS.out)
    go_wp2_with fail
    refine Calls.mono HREF.out ?_
    rintro e w4 ⟨he4, hb4⟩
    obtain ⟨A4, c4, rfl, hc4⟩ := HRR.out _ _ he4
    have hx4 := (hb4.block w3.heap.size (by rw [World.size_alloc]; omega)).trans (heap_alloc_new w3 _)
    have hbx := (Below.refl w4.heap.size w4).alloc (Nat.le_refl _) (.cells #[.int .i64 F, .slice A4 L.length c4] 24)
    have HB4 := Lib.hid ((HB3.out.alloc HB3.out.size _).trans (hb4.mono (HB3.out.alloc HB3.out.size _).size))
    have HB5 := Lib.hid (HB4.out.trans (hbx.mono HB4.out.size))
    have HX5 := Lib.hid (box_later hx4 hbx)
    have HY5 := Lib.hid (heap_alloc_new w4 (.cells #[.int .i64 F, .slice A4 L.length c4] 24))
    have HMK5 := Lib.hid ((HMK3.out.at (((hb4.block g (by have := HMK3.out.lt; rw [World.size_alloc]; omega)).trans (heap_alloc_old w3 _ HMK3.out.lt)))).at (hbx.block g (by have := HMK3.out.lt; have := hb4.size; rw [World.size_alloc] at this; omega)))
    have HC5 := Lib.hid ((HC3.out.ext (stays_b (((Below.refl _ w3).alloc (Nat.le_refl _) _).trans (hb4.mono (by rw [World.size_alloc]; omega))))).ext (stays_b hbx))
    have HD5 := Lib.hid (hc4.ext (stays_b hbx))
    clear he4 hx4 hb4 hbx hc4 HREF HRR
    go_upto_region 8 with fail
    obtain ⟨W5, hW5⟩ : ∃ W5, W5 = w4.alloc (.cells #[.int .i64 F, .slice A4 L.length c4] 24) := ⟨_, rfl⟩
    rw [← hW5] at HB5 HX5 HY5 HMK5 HC5 HD5 ⊢
    clear hW5
    have HXX := Lib.hid (show ∀ w' : World, Below W5.heap.size W5 w' → w'.cell? ⟨w3.heap.size, 0, none⟩ = some (.int .i64 F) ∧ w'.cell? ⟨w3.heap.size, 1, none⟩ = some (.slice A3 L.length c3) ∧ w'.cell? ⟨w4.heap.size, 0, none⟩ = some (.int .i64 F) ∧ w'.cell? ⟨w4.heap.size, 1, none⟩ = some (.slice A4 L.length c4) ∧ Below W5.heap.size W5 w' from fun w' hb =>
        ⟨cell_of_row w' _ 0 _ 24 (0, 0) (box_later HX5.out hb), cell_of_row w' _ 1 _ 24 (0, 0) (box_later HX5.out hb), cell_of_row w' _ 0 _ 24 (0, 0) (box_later HY5.out hb), cell_of_row w' _ 1 _ 24 (0, 0) (box_later HY5.out hb), hb⟩)
    have HK9 := Lib.hid (fun (W : World) (hb : Below W5.heap.size W5 W) => ((kept_any g n cap xs A c W (HMK5.out.at (hb.block g HMK5.out.lt)) (HR.out.ext (stays_b (HB5.out.trans (hb.mono HB5.out.size)))) (by omega)).mono fun e w' h => (⟨h.1, by rw [← h.2]; exact Below.refl _ _⟩ : e = .returned (.bool true) ∧ Below W.heap.size W w')))
    have HP9 := Lib.hid (fun (W : World) (hb : Below W5.heap.size W5 W) => (by have h := programs_any F F A3 A4 L.length L.length c3 c4 L L W (HC5.out.ext (stays_b hb)) (HD5.out.ext (stays_b hb)) HLN.out HLN.out; rw [sameP_self'] at h; exact h : Calls Tryd.prog 15 #[.agg #[.int .i64 F, .slice A3 L.length c3], .agg #[.int .i64 F, .slice A4 L.length c4]] W fun e w' => e = .returned (.bool true) ∧ Below W.heap.size W w'))
    go_wp2_with fail
    refine Calls.mono (HK9.out _ (Below.refl _ W5)) ?_
    rintro e w6 ⟨rfl, hb6⟩
    obtain ⟨p0, p1, q0, q1, _⟩ := HXX.out w6 hb6
    have HP6 := Lib.hid (HP9.out _ hb6)
    have HB6 := Lib.hid hb6
    clear hb6
    go_wp2_with fail
    refine Calls.mono HP6.out ?_
    rintro e w7 ⟨rfl, hb7⟩
    have hHeld := HB6.out.trans (hb7.mono HB6.out.size)
    clear p0 p1 q0 q1 hb7
    have HB7 := Lib.hid (HB5.out.trans (hHeld.mono HB5.out.size))
    have HX7 := Lib.hid (box_later HX5.out hHeld)
    have HC7 := Lib.hid (HC5.out.ext (stays_b hHeld))
    clear hHeld
    have x0 : w7.cell? ⟨w3.heap.size, 0, none⟩ = some (.int .i64 F) := cell_of_row w7 _ 0 _ 24 (0, 0) HX7.out
    have x1 : w7.cell? ⟨w3.heap.size, 1, none⟩ = some (.slice A3 L.length c3) := cell_of_row w7 _ 1 _ 24 (0, 0) HX7.out
    have HEN := Lib.hid (encode_any F A3 L.length c3 L w7 (HT.out.ext HB7.out) HC7.out HLN.out HFT.out)
    go_wp2_with fail
    refine Calls.mono HEN.out ?_
    rintro e w8 ⟨he8, hb8⟩
    have HB8 := Lib.hid (HB7.out.trans (hb8.mono HB7.out.size))
    clear hb8 x0 x1
    rcases he8 with ⟨_, A8, c8, rfl, hr8, _⟩ | ⟨hne, _⟩
    · have HSM := Lib.hid ((same_any A8 A (encP F.toNat L).length c8 n c (encP F.toNat L) xs w8 hr8 (HR.out.ext (stays_b HB8.out)) (by rw [← HEQ.out.1]; exact HS.out) HS.out).mono fun e w' h => (⟨by rw [h.1]; exact ret_bool' (decide_eq_true HEQ.out.1.symm), h.2⟩ : e = .returned (.bool true) ∧ w8 = w'))
      obtain ⟨E, hE⟩ : ∃ E, E = (encP F.toNat L).length := ⟨_, rfl⟩
      rw [← hE] at HSM ⊢
      clear hr8 hE
      go_wp2_with fail
      refine Calls.mono HSM.out ?_
      rintro e w9 ⟨rfl, rfl⟩
      go_wp2_with fail
      go_ret
      exact ⟨rfl, HB8.out⟩
    · exact absurd HEQ.out.2 hne
  · have HNO := Lib.hid (fun (W : World) (e : Ending) (h : RefDecE xs W e) => ref_no hok h)
    have HREF := Lib.hid (refdec_any A n c xs (w3.alloc (.cells #[.int .i64 0, .slice none 0 0] 24)) (HR.out.ext (stays_b (HB3.out.alloc HB3.out.size _))) hnil hn3 HS.out)
    clear hok hyes
    go_wp2_with fail
    refine Calls.mono HREF.out ?_
    rintro e w4 ⟨he4, hb4⟩
    obtain rfl := HNO.out _ _ he4
    have hx4 := (hb4.block w3.heap.size (by rw [World.size_alloc]; omega)).trans (heap_alloc_new w3 _)
    have hbx := (Below.refl w4.heap.size w4).alloc (Nat.le_refl _) (.cells #[.int .i64 0, .slice none 0 0] 24)
    have HB4 := Lib.hid ((HB3.out.alloc HB3.out.size _).trans (hb4.mono (HB3.out.alloc HB3.out.size _).size))
    have HB5 := Lib.hid (HB4.out.trans (hbx.mono HB4.out.size))
    have HX5 := Lib.hid (box_later hx4 hbx)
    have HY5 := Lib.hid (heap_alloc_new w4 (.cells #[.int .i64 0, .slice none 0 0] 24))
    have HMK5 := Lib.hid ((HMK3.out.at (((hb4.block g (by have := HMK3.out.lt; rw [World.size_alloc]; omega)).trans (heap_alloc_old w3 _ HMK3.out.lt)))).at (hbx.block g (by have := HMK3.out.lt; have := hb4.size; rw [World.size_alloc] at this; omega)))
    clear he4 hx4 hb4 hbx HREF HNO
    go_upto_region 8 with fail
    obtain ⟨W5, hW5⟩ : ∃ W5, W5 = w4.alloc (.cells #[.int .i64 0, .slice none 0 0] 24) := ⟨_, rfl⟩
    rw [← hW5] at HB5 HX5 HY5 HMK5 ⊢
    clear hW5
    have HK9 := Lib.hid (kept_any g n cap xs A c W5 HMK5.out (HR.out.ext (stays_b HB5.out)) (by omega))
    have HI9 := Lib.hid (is_errno 2 (by decide) W5)
    have HP9 := Lib.hid (programs_any 0 0 none none 0 0 0 0 [] [] W5 (codes_nil0 W5) (codes_nil0 W5) (by omega) (by omega))
    have hsp := sameP_self' 0 []
    have p0 : W5.cell? ⟨w3.heap.size, 0, none⟩ = some (.int .i64 0) := cell_of_row W5 _ 0 _ 24 (0, 0) HX5.out
    have p1 : W5.cell? ⟨w3.heap.size, 1, none⟩ = some (.slice none 0 0) := cell_of_row W5 _ 1 _ 24 (0, 0) HX5.out
    have q0 : W5.cell? ⟨w4.heap.size, 0, none⟩ = some (.int .i64 0) := cell_of_row W5 _ 0 _ 24 (0, 0) HY5.out
    have q1 : W5.cell? ⟨w4.heap.size, 1, none⟩ = some (.slice none 0 0) := cell_of_row W5 _ 1 _ 24 (0, 0) HY5.out
    go_wp2_with fail
    refine Calls.mono HK9.out ?_
    rintro e w6 ⟨rfl, rfl⟩
    go_wp2_with fail
    refine Calls.mono HI9.out ?_
    rintro e w6 ⟨rfl, rfl⟩
    go_wp2_with fail
    refine Calls.mono HP9.out ?_
    rintro e w7 ⟨rfl, hb7⟩
    have HB7 := Lib.hid (HB5.out.trans (hb7.mono HB5.out.size))
    clear hb7 p0 p1 q0 q1
    go_wp2_with fail
    go_ret
    exact ⟨rfl, HB7.out⟩
end Go.Proofs.YtkeckjgihjpfbaaDoor
