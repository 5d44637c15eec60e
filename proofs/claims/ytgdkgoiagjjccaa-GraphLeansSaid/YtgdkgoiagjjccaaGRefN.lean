/- The document's Leans. -/
import Derived.Test.YtgdkgoiagjjccaaGRefM
import Derived.Test.YtgdkgoiagjjccaaGLeans
import Derived.Deep.CutRange
import Derived.Deep.CutBlock
namespace Go.Proofs.Ytgdkgoiagjjccaa
set_option maxRecDepth 100000
open Go.RowKit Go.Shelf

set_option maxHeartbeats 4000000 in
theorem refleans_any (A : Option Addr) (n c : Nat) (fs : List Ft) (w : World) (h : Fts w A n fs) (hn : n ≤ 10000) :
    Calls Try.prog 30 #[.slice A n c] w fun e w' => ∃ v, e = .returned v ∧ ∃ ra rc A' c', v = .slice A' n c' ∧ CL w (leansL fs) ra rc A' c' n w' := by
  have HH := Lib.hid h
  have HL := Lib.hid h.1
  clear h
  go_enter Try.func30, Try.ntmps30
  go_wp2_with fail
  go_loopw [3, 4, 5, 6] (fun v x _ _ wr => ∃ (k : Nat) (ra : Nat → Option Addr) (rc : Nat → Nat) (A5 : Option Addr) (c5 : Nat), x = .int .i64 (k : Int) ∧ k ≤ n ∧ v = .slice A5 k c5 ∧ CL w (leansL fs) ra rc A5 c5 k wr) (fun _ x _ _ _ => n - (intOf x).toNat)
  case atStart => exact ⟨0, _, _, _, _, rfl, by omega, rfl, cl_nil w _⟩
  case round =>
    obtain ⟨k, ra, rc, A5, c5, rfl, hk, rfl, C⟩ := hrel
    by_cases hlt : k < n
    · have HC := Lib.hid C
      have HB := Lib.hid C.below
      have hzr : w.heap.size ≤ wr.heap.size := C.below.size
      clear C
      obtain ⟨b, off, rfl, hrow⟩ := (HH.out.below HB.out).2.2 (by omega)
      have HR := Lib.hid hrow
      clear hrow
      rename World => wo
      go_wp2_with fail
      go_loopw [5, 6] (fun v x wx => ∃ q : Nat, x = .int .i64 (q : Int) ∧ q ≤ k ∧ wx.ownsRow wo.heap.size 3 1 v (selTo (leanP fs k) q).length (valsZ (selTo (leanP fs k) q)) ∧ Below wo.heap.size wo wx) (fun _ x _ => k - (intOf x).toNat)
      case atStart => exact ⟨0, rfl, by omega, World.ownsRow_nil _ _ _ _, Below.refl _ _⟩
      case round =>
        obtain ⟨q, rfl, hq, hown, hbx⟩ := hrel
        rename World => wx
        obtain ⟨A1, c1, hv1, _, _, _⟩ := nums_own hown (selTo_fits (leanP fs k) q (by omega))
        subst hv1
        by_cases hqk : q < k
        · obtain ⟨x, hx0, x0, x1, x2⟩ := HR.out k hlt
          obtain ⟨y, hy0, y0, y1, y2⟩ := HR.out q (by omega)
          replace x0 := (stays_w hbx _ (World.block_lt_of_cell? _ _ x0)).trans x0
          replace x1 := (stays_w hbx _ (World.block_lt_of_cell? _ _ x1)).trans x1
          replace x2 := (stays_w hbx _ (World.block_lt_of_cell? _ _ x2)).trans x2
          replace y0 := (stays_w hbx _ (World.block_lt_of_cell? _ _ y0)).trans y0
          replace y1 := (stays_w hbx _ (World.block_lt_of_cell? _ _ y1)).trans y1
          replace y2 := (stays_w hbx _ (World.block_lt_of_cell? _ _ y2)).trans y2
          have hs := selTo_succ (leanP fs k) q
          have hl := selTo_len (leanP fs k) q
          have HC1 := Lib.hid (show ∀ w', Below wx.heap.size wx w' → Calls Try.prog 61 #[x.val, y.val] w' fun e w'' => e = .returned (.bool (leanP fs k q)) ∧ Below w'.heap.size w' w'' from fun w' hb => refmeet_any x y _ _ w' ((hx0.below hbx).below hb) ((hy0.below hbx).below hb))
          have HO := Lib.hid hown
          have HBX := Lib.hid hbx
          have HS := Lib.hid hs
          clear hx0 hy0 hown hbx hs
          go_wp2_with fail
          have hqn : q < n := by omega
          have HX0 := Lib.hid (show ∀ W2, Below wx.drew.heap.size wx.drew W2 → W2.cell? ⟨b, off + k * 3, none⟩ = some (.slice x.A x.n x.c) ∧ W2.cell? ⟨b, off + k * 3 + 1, none⟩ = some (.slice x.A2 x.n2 x.c2) ∧ W2.cell? ⟨b, off + k * 3 + 2, none⟩ = some (.slice x.A3 x.n3 x.c3) from fun W2 hw =>
            ⟨(stays_w hw _ (World.block_lt_of_cell? _ _ x0)).trans x0, (stays_w hw _ (World.block_lt_of_cell? _ _ x1)).trans x1, (stays_w hw _ (World.block_lt_of_cell? _ _ x2)).trans x2⟩)
          have HY0 := Lib.hid (show ∀ W2, Below wx.drew.heap.size wx.drew W2 → W2.cell? ⟨b, off + q * 3, none⟩ = some (.slice y.A y.n y.c) ∧ W2.cell? ⟨b, off + q * 3 + 1, none⟩ = some (.slice y.A2 y.n2 y.c2) ∧ W2.cell? ⟨b, off + q * 3 + 2, none⟩ = some (.slice y.A3 y.n3 y.c3) from fun W2 hw =>
            ⟨(stays_w hw _ (World.block_lt_of_cell? _ _ y0)).trans y0, (stays_w hw _ (World.block_lt_of_cell? _ _ y1)).trans y1, (stays_w hw _ (World.block_lt_of_cell? _ _ y2)).trans y2⟩)
          clear x0 x1 x2 y0 y1 y2
          unfold FV.val FV.cs at HC1
          refine wp_region_noPanic ?_
          refine wp_region_abs 8 36 [
            .is (.slice (some ⟨b, off, none⟩) n c),
            .is (.int .i64 (k : Int)),
            .is (.pointer (some ⟨b, off + k * 3, none⟩)),
            .is (.agg #[.slice x.A x.n x.c, .slice x.A2 x.n2 x.c2, .slice x.A3 x.n3 x.c3]),
            .is (.slice (some ⟨b, off, none⟩) n c),
            .is (.int .i64 (q : Int)),
            .is (.pointer (some ⟨b, off + q * 3, none⟩)),
            .is (.agg #[.slice y.A y.n y.c, .slice y.A2 y.n2 y.c2, .slice y.A3 y.n3 y.c3])]
            [18, 19, 20, 21, 22, 23, 24, 25]
            [[], [], [0, 1], [2], [], [], [4, 5], [6]] (by kernel_rfl) (by rfl) rfl rfl (by kernel_rfl) (fun _ _ _ _ h => h.elim) ?_ ?_
          · refine ⟨?_, ?_, ?_, ?_, ?_, ?_, ?_, ?_, trivial⟩
            · intro W2 hw K hK
              go_simp
              exact hK _ _ rfl (Below.refl _ _)
            · intro W2 hw K hK
              go_simp
              exact hK _ _ rfl (Below.refl _ _)
            · intro W2 hw K hK
              go_simp
              exact hK _ _ rfl (Below.refl _ _)
            · intro W2 hw K hK
              obtain ⟨c0, c1, c2⟩ := HX0.out W2 hw
              go_simp
              exact hK _ _ rfl (Below.refl _ _)
            · intro W2 hw K hK
              go_simp
              exact hK _ _ rfl (Below.refl _ _)
            · intro W2 hw K hK
              go_simp
              exact hK _ _ rfl (Below.refl _ _)
            · intro W2 hw K hK
              go_simp
              exact hK _ _ rfl (Below.refl _ _)
            · intro W2 hw K hK
              obtain ⟨c0, c1, c2⟩ := HY0.out W2 hw
              go_simp
              exact hK _ _ rfl (Below.refl _ _)
          · intro W2 hw2
            simp only [Behind]
            have HWX := Lib.hid (show Below wx.heap.size wx W2 from (Below.refl _ wx).drew.trans hw2)
            have HC2 := Lib.hid (HC1.out W2 HWX.out)
            clear hw2
            simp only [List.drop, Act.put, List.setIfInBounds_toArray, List.set_cons_zero, List.set_cons_succ]
            cases hr : leanP fs k q with
            | true =>
              rw [hr] at HC2
              rw [hr, if_pos rfl] at HS
              clear hr HC1
              go_wp2_with fail
              refine Calls.mono HC2.out ?_
              rintro e w5 ⟨rfl, hb5⟩
              have HB5 := Lib.hid (HWX.out.trans (hb5.mono HWX.out.size))
              have HO3 := Lib.hid ((ownsRow_ext HO.out HB5.out).alloc (.cells #[.int .i64 (q : Int)] 3))
              have HR3 := Lib.hid (rdv_one1 w5 (.int .i64 (q : Int)) 3)
              have HB6 := Lib.hid ((HBX.out.trans (HB5.out.mono HBX.out.size)).alloc (Nat.le_trans HBX.out.size HB5.out.size) (.cells #[.int .i64 (q : Int)] 3))
              have hsz : wo.heap.size ≤ w5.heap.size := Nat.le_trans HBX.out.size HB5.out.size
              clear hb5
              go_wp2_with fail
              refine NoPanic.normal ?_
              go_wp2_with (at_builtin; refine wpList_append_rowv elem38 rfl (.tmp 27) (.tmp 29) rfl wo.heap.size _ (selTo (leanP fs k) q).length _ rfl HO3.out (some ⟨w5.heap.size, 0, none⟩) 1 1 [.int .i64 (q : Int)] rfl HR3.out (one_int1 _) (fun h => by cases h) (by unfold maxLen; omega) (by omega) (by rw [World.size_alloc]; omega) ?_; intro v3 w3 hown3 hb3)
              go_roundw
              case rel =>
                refine ⟨q + 1, by go_num, by omega, ?_, HB6.out.trans hb3⟩
                rw [HS.out, List.length_append, valsZ_snoc]
                exact hown3
              case measure => simp [intOf]; omega
            | false =>
              rw [hr] at HC2
              rw [hr, if_neg (by decide), List.append_nil] at HS
              clear hr HC1
              go_wp2_with fail
              refine Calls.mono HC2.out ?_
              rintro e w5 ⟨rfl, hb5⟩
              have HB5 := Lib.hid (HWX.out.trans (hb5.mono HWX.out.size))
              clear hb5
              go_wp2_with fail
              refine NoPanic.normal ?_
              go_wp2_with fail
              go_roundw
              case rel => exact ⟨q + 1, by go_num, by omega, by rw [HS.out]; exact ownsRow_ext HO.out HB5.out, HBX.out.trans (HB5.out.mono HBX.out.size)⟩
              case measure => simp [intOf]; omega
        · obtain rfl : k = q := by omega
          obtain ⟨L, hL⟩ : ∃ L, L = (selTo (leanP fs k) k).length := ⟨_, rfl⟩
          have hLk : L ≤ k := by rw [hL]; exact selTo_len _ _
          have HO := Lib.hid (ownsRow_low hown hzr)
          rw [← hL] at HO ⊢
          have HLL := Lib.hid (show (leansL fs).getD k [] = selTo (leanP fs k) k from leansL_at fs (by rw [HL.out]; exact hlt))
          have HLE := Lib.hid hL
          have HBX := Lib.hid hbx
          have HCX := Lib.hid ((HC.out.ext hbx).outer.alloc (.cells #[.slice A1 L c1] 38))
          have hzx : w.heap.size ≤ wx.heap.size := Nat.le_trans hzr hbx.size
          clear hown hbx hL hq hqk
          go_wp2_with (at_builtin; refine wpList_append_rowk elem56 rfl (.tmp 31) (.tmp 33) rfl w.heap.size (.slice A5 k c5) k (rowsV ra rc (leansL fs) k) rfl HCX.out ⟨wx.heap.size, 0, none⟩ 1 1 [.slice A1 L c1] rfl (rdv_one1 _ _ _) (by decide) (one_slice1 _ _ _) (by unfold maxLen; omega) (by omega) (by rw [World.size_alloc]; omega) ?_; intro v7 w7 hown7 hb7 hk7; obtain ⟨A8, c8, hv8, hq1, hq2, hq3⟩ := rdv_own hown7; subst hv8; have HO7 := Lib.hid hown7; have HB7 := Lib.hid hb7; have HK7 := Lib.hid hk7; clear hown7 hb7 hk7 hq1 hq2 hq3)
          go_roundw
          case rel =>
            refine ⟨k + 1, upd ra k A1, upd rc k c1, A8, c8, by go_num, by omega, rfl, ?_⟩
            have ho := HO.out
            have ho7 := HO7.out
            rw [HLE.out] at ho ho7
            rw [← HLL.out] at ho ho7
            exact HC.out.push HBX.out ho ((Below.refl _ wx).alloc (Nat.le_refl _) _) ho7 HB7.out HK7.out
          case measure => simp [intOf]; omega
    · obtain rfl : k = n := by omega
      have HC := Lib.hid C
      clear C
      go_wp2_with fail
      go_ret
      exact ⟨_, rfl, ra, rc, A5, c5, rfl, HC.out⟩
end Go.Proofs.Ytgdkgoiagjjccaa
