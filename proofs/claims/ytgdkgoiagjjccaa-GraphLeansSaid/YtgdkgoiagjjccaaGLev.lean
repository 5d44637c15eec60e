/- graph.Levels. -/
import Derived.Test.YtgdkgoiagjjccaaGLevM
import Derived.Deep.CutRange
import Derived.Deep.CutBlock
namespace Go.Proofs.Ytgdkgoiagjjccaa
set_option maxRecDepth 100000
open Go.RowKit

theorem levels_form (A : Option Addr) (n c : Nat) (ls : List (List Int)) (w : World) (h : Rws w A n ls) (hbad : ¬ GoodL ls) :
    Calls Try.prog 34 #[.slice A n c] w fun e w' => e = .returned (.tuple #[.slice none 0 0, errV 2]) ∧ w = w' := by
  have C := goodg_any A n c ls w h
  unfold errV
  rw [decide_eq_false hbad] at C
  have HC := Lib.hid C
  clear C hbad h
  go_enter Try.func34, Try.ntmps34
  go_wp2_with fail
  refine Calls.mono HC.out ?_
  rintro e w' ⟨rfl, rfl⟩
  go_wp2_with fail
  go_ret2
  exact ⟨rfl, rfl⟩
set_option maxHeartbeats 2000000 in
theorem levels_ok (A : Option Addr) (n c : Nat) (ls : List (List Int)) (w : World) (h : Rws w A n ls) (hg : GoodL ls) (hn : n ≤ 10000) :
    Calls Try.prog 34 #[.slice A n c] w fun e w' => e = .returned (.tuple #[.slice (some ⟨w.heap.size, 0, none⟩) n n, .nilIface]) ∧ LV w.heap.size w w.heap.size n (fun x => (lvTo ls n).getD x 0) w' := by
  have C := goodg_any A n c ls w h
  rw [decide_eq_true hg] at C
  have HC := Lib.hid C
  have HH := Lib.hid h
  have HG := Lib.hid hg
  have HL0 := Lib.hid (show LV w.heap.size w w.heap.size n (fun x => (lvTo ls 0).getD x 0) (w.alloc (.cells (madeCells zI n) 3)) from LV.made w n)
  have mi := make_ints n (by omega)
  clear C h hg
  go_enter Try.func34, Try.ntmps34
  go_wp2_with fail
  refine Calls.mono HC.out ?_
  rintro e w' ⟨rfl, rfl⟩
  clear HC
  go_wp2_with fail
  clear mi
  go_loopw [5, 6, 8, 18] (fun _ _ _ i wr => ∃ k : Nat, i = .int .i64 (k : Int) ∧ k ≤ n ∧ LV w.heap.size w w.heap.size n (fun x => (lvTo ls k).getD x 0) wr) (fun _ _ _ i _ => n - (intOf i).toNat)
  case atStart => exact ⟨0, rfl, by omega, HL0.out⟩
  case round =>
    obtain ⟨k, rfl, hk, hL⟩ := hrel
    clear HL0
    by_cases hlt : k < n
    · obtain ⟨b, off, rfl, hrow⟩ := (HH.out.below hL.below).2.2 (by omega)
      obtain ⟨A', c', hc1, hnums, hm'⟩ := hrow k hlt
      have HN := Lib.hid (show ∀ wx, Below w.heap.size w wx → Nums wx A' (ls.getD k []).length (ls.getD k []) from fun wx hx => by
        obtain ⟨_, _, e', hrow'⟩ := HH.out.2.2 (by omega)
        injection e' with e1
        injection e1 with e1 e2
        subst e1 e2
        obtain ⟨_, _, q1, q2, _⟩ := hrow' k hlt
        have := (stays_w hL.below _ (World.block_lt_of_cell? _ _ q1)).trans q1
        rw [hc1] at this
        injection this with this
        injection this with p1 p2 p3
        subst p1
        exact Nums.ext q2 (stays_w hx))
      have HL := Lib.hid (show LV w.heap.size w w.heap.size n (lvF ls k 0) wr by rw [lvF_zero]; exact hL)
      clear hrow hnums hL
      obtain ⟨l, hl⟩ : ∃ l, l = ls.getD k [] := ⟨_, rfl⟩
      rw [← hl] at hc1 hm' HN
      have HEQ := Lib.hid hl
      clear hl
      go_wp2_with fail
      clear hc1
      go_loopw [8, 25] (fun _ i wx => ∃ q : Nat, i = .int .i64 (q : Int) ∧ q ≤ l.length ∧ LV w.heap.size w w.heap.size n (lvF ls k q) wx) (fun _ i _ => l.length - (intOf i).toNat)
      case atStart => exact ⟨0, rfl, by omega, HL.out⟩
      case round =>
        obtain ⟨q, rfl, hq, hX⟩ := hrel
        rename World => wx
        by_cases hql : q < l.length
        · have hnx := HN.out wx hX.below
          obtain ⟨b2, off2, rfl, hc2⟩ := hnx.2.2 (by omega)
          have c2 := hc2 q hql
          have hjm := HG.out.mem (i := k) (x := l.getD q 0) (by rw [← HEQ.out]; exact getD_mem hql)
          obtain ⟨x, hx⟩ : ∃ x : Nat, (x : Int) = l.getD q 0 := ⟨(l.getD q 0).toNat, by omega⟩
          rw [← hx] at c2 hjm
          have hxk : x < k := by omega
          have hcx := hX.cells x (by omega)
          have hck := hX.cells k hlt
          have e1 : lvF ls k q x = (lvTo ls k).getD x 0 := by unfold lvF; rw [upd_other _ _ (by omega)]
          have e2 : lvF ls k q k = lv1 (lvTo ls k) ((ls.getD k []).take q) := by unfold lvF; rw [upd_same]
          have b1 := lvTo_bd HG.out k x hxk
          have b3 := lv1_row HG.out k q
          have en := lvF_next ls k q (by rw [← HEQ.out]; exact hql)
          rw [← HEQ.out, ← hx, Int.toNat_natCast] at en
          rw [← HEQ.out] at e2 b3
          rw [e1] at hcx
          rw [e2] at hck
          obtain ⟨y, hy⟩ : ∃ y, y = (lvTo ls k).getD x 0 := ⟨_, rfl⟩
          obtain ⟨z, hz⟩ : ∃ z, z = lv1 (lvTo ls k) (l.take q) := ⟨_, rfl⟩
          rw [← hy] at hcx b1 en
          rw [← hz] at hck b3 en
          have frk := hX.fr k
          have HXX := Lib.hid hX
          have HEN := Lib.hid en
          clear hc2 hnx hx e1 e2 en hX hy hz hjm
          go_wp2_with fail
          go_region
          all_goals
            go_wp2_with fail
            go_roundw
            case rel => exact ⟨q + 1, by go_num, by omega, by rw [← HEN.out]; exact (HXX.out.set k _).drew⟩
            case measure => simp [intOf]; omega
        · obtain rfl : q = l.length := by omega
          have HX := Lib.hid hX
          clear hX
          go_wp2_with fail
          go_roundw
          case rel => exact ⟨k + 1, by go_num, by omega, by have := HX.out; rw [HEQ.out, lvF_end] at this; exact this⟩
          case measure => simp [intOf]; omega
    · obtain rfl : k = n := by omega
      have HL := Lib.hid hL
      clear hL
      go_wp2_with fail
      go_ret2
      exact ⟨rfl, HL.out⟩
end Go.Proofs.Ytgdkgoiagjjccaa
