/- The document's 'all': its walk. -/
import Derived.Test.YtgdkgoiagjjccaaGRefA
namespace Go.Proofs.Ytgdkgoiagjjccaa
set_option maxRecDepth 100000
open Go.RowKit

set_option maxHeartbeats 4000000 in
theorem refall_any (A : Option Addr) (n c : Nat) (ls : List (List Int)) (w : World) (h : Rws w A n ls) (hg : GoodL ls) (hn : n ≤ 10000) :
    Calls Try.prog 68 #[.slice A n c] w fun e w' => ∃ v, e = .returned v ∧ ∃ A' c', v = .slice A' n c' ∧ BR w' A' n ls n ∧ Below w.heap.size w w' := by
  have HH := Lib.hid h
  have HG := Lib.hid hg
  clear h hg
  go_enter Try.func68, Try.ntmps68
  go_wp2_with fail
  go_loopw [3, 4, 5, 6, 7, 8] (fun v x _ _ _ _ wr => ∃ (k : Nat) (ga : Nat → Nat) (A5 : Option Addr) (c5 : Nat), x = .int .i64 (k : Int) ∧ k ≤ n ∧ v = .slice A5 k c5 ∧ AL w ls ga A5 c5 k n wr) (fun _ x _ _ _ _ _ => n - (intOf x).toNat)
  case atStart => exact ⟨0, _, _, _, rfl, by omega, rfl, al_nil w ls n⟩
  case round =>
    obtain ⟨k, ga, A5, c5, rfl, hk, rfl, C⟩ := hrel
    by_cases hlt : k < n
    · have HN0 := Lib.hid (show ∀ wx, Below w.heap.size w wx → ∃ b2 off2, A = some ⟨b2, off2, none⟩ ∧ ∃ A' c', wx.cell? ⟨b2, off2 + k, none⟩ = some (.slice A' (ls.getD k []).length c') ∧ (ls.getD k []).length ≤ 9223372036854775807 ∧ ∀ wy, Below w.heap.size w wy → wy.cell? ⟨b2, off2 + k, none⟩ = some (.slice A' (ls.getD k []).length c') ∧ Nums wy A' (ls.getD k []).length (ls.getD k []) from fun wx hx => by
        obtain ⟨b2, off2, e', hrow'⟩ := HH.out.2.2 (by omega)
        obtain ⟨A', c', q1, q2, q3⟩ := hrow' k hlt
        exact ⟨b2, off2, e', A', c', (stays_w hx _ (World.block_lt_of_cell? _ _ q1)).trans q1, q3, fun wy hy => ⟨(stays_w hy _ (World.block_lt_of_cell? _ _ q1)).trans q1, q2.ext (stays_w hy)⟩⟩)
      obtain ⟨l, hl⟩ : ∃ l, l = ls.getD k [] := ⟨_, rfl⟩
      rw [← hl] at HN0
      obtain ⟨b2, off2, rfl, A', c', hc1, hm', HN⟩ := HN0.out wr C.below
      have HN := Lib.hid HN
      have HEQ := Lib.hid hl
      have HC := Lib.hid C
      have hzr : w.heap.size ≤ wr.heap.size := C.below.size
      have mb := make_bools n (by omega)
      have HM := Lib.hid (RB.made wr n l ls)
      clear C hl HN0 hc1
      rename World => wo
      go_wp2_with fail
      clear mb
      go_loopw [6, 7, 8] (fun x _ _ wx => ∃ q : Nat, x = .int .i64 (q : Int) ∧ q ≤ l.length ∧ RB wo wo.heap.size n (allF ls l q) wx) (fun x _ _ _ => l.length - (intOf x).toNat)
      case atStart => exact ⟨0, rfl, by omega, HM.out⟩
      case round =>
        obtain ⟨q, rfl, hq, hX⟩ := hrel
        rename World => wx
        clear HM
        have hbw : Below w.heap.size w wx := HC.out.below.trans (hX.below.mono hzr)
        obtain ⟨hc1, hnx⟩ := HN.out wx hbw
        by_cases hql : q < l.length
        · obtain ⟨b3, off3, rfl, hc2⟩ := hnx.2.2 (by omega)
          have c2 := hc2 q hql
          have hjm := HG.out.mem (i := k) (x := l.getD q 0) (by rw [← HEQ.out]; exact getD_mem hql)
          obtain ⟨m, hm⟩ : ∃ m : Nat, (m : Int) = l.getD q 0 := ⟨(l.getD q 0).toNat, by omega⟩
          rw [← hm] at c2 hjm
          have hmk : m < k := by omega
          have cm := hX.cells m (by omega)
          have fm := hX.fr m
          have HM0 := Lib.hid (show RB wo wo.heap.size n (midF ls l q m 0) (wx.setCell ⟨wo.heap.size, m, none⟩ (.bool true)) by rw [← midF_zero]; exact hX.set m true)
          obtain ⟨b4, off4, rfl, hbr⟩ := HC.out.read (by omega)
          obtain ⟨gm, hg1, hg2⟩ := hbr m hmk
          have HBR := Lib.hid (show ∀ wy, Below wo.heap.size wo wy → wy.cell? ⟨b4, off4 + m, none⟩ = some (.slice (some ⟨gm, 0, none⟩) n n) ∧ ∀ x, x < n → wy.cell? ⟨gm, x, none⟩ = some (.bool (rB ls m (x : Int))) from fun wy hy => ⟨(stays_w hy _ (World.block_lt_of_cell? _ _ hg1)).trans hg1, fun x hx => (stays_w hy _ (World.block_lt_of_cell? _ _ (hg2 x hx))).trans (hg2 x hx)⟩)
          have HME := Lib.hid hm
          clear hX hbw hnx hc2 hm hjm hbr hg1 hg2
          have hmn : m < n := by omega
          go_wp2_with fail
          clear cm fm c2 hc1
          go_loopw [8] (fun x wy => ∃ j : Nat, x = .int .i64 (j : Int) ∧ j ≤ n ∧ RB wo wo.heap.size n (midF ls l q m j) wy) (fun x _ => n - (intOf x).toNat)
          case atStart => exact ⟨0, rfl, by omega, HM0.out⟩
          case round =>
            obtain ⟨j, rfl, hj, hY⟩ := hrel
            rename World => wy
            clear HM0
            by_cases hjn : j < n
            · have cj := hY.cells j hjn
              have fj := hY.fr j
              obtain ⟨h1, h2⟩ := HBR.out wy hY.below
              have h3 := h2 j hjn
              have hnx := midF_next ls l q m j
              obtain ⟨b0, hb0⟩ : ∃ b0, b0 = midF ls l q m j j := ⟨_, rfl⟩
              obtain ⟨b1, hb1⟩ : ∃ b1, b1 = rB ls m (j : Int) := ⟨_, rfl⟩
              rw [← hb0] at cj
              rw [← hb0, ← hb1] at hnx
              rw [← hb1] at h3
              have HY := Lib.hid hY
              have HNX := Lib.hid hnx
              clear hY h2 hnx hb0 hb1
              cases b0 with
              | true =>
                go_wp2_with fail
                go_roundw
                case rel => exact ⟨j + 1, by go_num, by omega, by rw [← HNX.out]; exact HY.out.set j true⟩
                case measure => simp [intOf]; omega
              | false =>
                go_wp2_with fail
                go_roundw
                case rel => exact ⟨j + 1, by go_num, by omega, by rw [← HNX.out]; exact HY.out.set j b1⟩
                case measure => simp [intOf]; omega
            · obtain rfl : j = n := by omega
              have HY := Lib.hid hY
              clear hY
              go_wp2_with fail
              go_roundw
              case rel => exact ⟨q + 1, by go_num, by omega, HY.out.same fun x hx => midF_end hql HME.out.symm hx⟩
              case measure => simp [intOf]; omega
        · obtain rfl : q = l.length := by omega
          have HX := Lib.hid hX
          have hzx : wo.heap.size ≤ wx.heap.size := hX.below.size
          have HOX := Lib.hid (ownsRow_ext (ownsRow_ext HC.out.outer hX.below) ((Below.refl wx.heap.size wx).alloc (Nat.le_refl _) (.cells #[.slice (some ⟨wo.heap.size, 0, none⟩) n n] 67)))
          have hn0 : k ≤ 10000 := by omega
          clear hX hnx hbw
          go_wp2_with (at_builtin; refine wpList_append_rowk elem120 rfl (.tmp 59) (.tmp 61) rfl w.heap.size (.slice A5 k c5) k (rowsB ga n k) rfl HOX.out ⟨wx.heap.size, 0, none⟩ 1 1 [.slice (some ⟨wo.heap.size, 0, none⟩) n n] rfl (rdv_one1 _ _ _) (by decide) (one_slice1 _ _ _) (by unfold maxLen; omega) (by omega) (by rw [World.size_alloc]; omega) ?_; intro v7 w7 hown7 hb7 hk7; obtain ⟨A8, c8, hv8, hq1, hq2, hq3⟩ := rdv_own hown7; subst hv8; have HO7 := Lib.hid hown7; have HB7 := Lib.hid hb7; have HK7 := Lib.hid hk7; clear hown7 hb7 hk7 hq1 hq2 hq3)
          go_roundw
          case rel =>
            refine ⟨k + 1, _, A8, c8, by go_num, by omega, rfl, HC.out.push HX.out.below HX.out.blk (fun x hx => ?_) ((Below.refl _ wx).alloc (Nat.le_refl _) _) HO7.out HB7.out HK7.out⟩
            rw [HX.out.cells x hx, HEQ.out, allF_end HG.out]
          case measure => simp [intOf]; omega
    · obtain rfl : k = n := by omega
      have HC := Lib.hid C
      clear C
      go_wp2_with fail
      go_ret
      exact ⟨_, rfl, A5, c5, rfl, HC.out.read, HC.out.below⟩
end Go.Proofs.Ytgdkgoiagjjccaa
