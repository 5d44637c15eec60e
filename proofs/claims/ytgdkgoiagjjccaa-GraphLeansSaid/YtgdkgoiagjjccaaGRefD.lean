/- The document's Least: its walk. -/
import Derived.Test.YtgdkgoiagjjccaaGRefB
import Derived.Test.YtgdkgoiagjjccaaZA
namespace Go.Proofs.Ytgdkgoiagjjccaa
set_option maxRecDepth 100000
open Go.RowKit

/-- What is told of a place after q of them. -/
def keptTo (ls : List (List Int)) (i q : Nat) : List Int := ((ls.getD i []).take q).filter (okL ls i)
theorem keptTo_succ {ls : List (List Int)} {i q : Nat} (h : q < (ls.getD i []).length) : keptTo ls i (q + 1) = keptTo ls i q ++ if okL ls i ((ls.getD i []).getD q 0) = true then [(ls.getD i []).getD q 0] else [] := by
  unfold keptTo
  rw [List.take_succ_eq_append_getElem h, List.filter_append, getD_of h, List.filter_cons]
  rfl
theorem keptTo_end (ls : List (List Int)) (i : Nat) : keptTo ls i (ls.getD i []).length = leastRow ls i := by
  unfold keptTo
  rw [List.take_length, okL_row]
theorem keptTo_len (ls : List (List Int)) (i q : Nat) : (keptTo ls i q).length ≤ q := by
  unfold keptTo
  exact Nat.le_trans (List.length_filter_le _ _) (by rw [List.length_take]; omega)
theorem keptTo_fits {ls : List (List Int)} (h : GoodL ls) {i q : Nat} (hi : i ≤ 100000) : ∀ x ∈ keptTo ls i q, Fits x := fun x hx => by
  have := h.mem (List.mem_of_mem_take (List.mem_filter.1 hx).1)
  unfold Fits
  omega
/-- Whether it is reached by the first j of them. -/
def thrTo (ls : List (List Int)) (l : List Int) (j : Nat) (x : Int) : Bool := (l.take j).any fun y => rB ls y.toNat x
theorem thrTo_succ {ls : List (List Int)} {l : List Int} {j : Nat} {x : Int} (h : j < l.length) : thrTo ls l (j + 1) x = (thrTo ls l j x || rB ls (l.getD j 0).toNat x) := by
  unfold thrTo
  rw [List.take_succ_eq_append_getElem h, List.any_append, getD_of h]
  simp
theorem thrTo_end (ls : List (List Int)) (i : Nat) (x : Int) : okL ls i x = !thrTo ls (ls.getD i []) (ls.getD i []).length x := by
  unfold okL thrTo
  rw [List.take_length]
set_option maxHeartbeats 4000000 in
theorem refleast_any (A : Option Addr) (n c : Nat) (ls : List (List Int)) (w : World) (h : Rws w A n ls) (hg : GoodL ls) (hn : n ≤ 10000) :
    Calls Try.prog 39 #[.slice A n c] w fun e w' => ∃ v, e = .returned v ∧ ∃ ra rc A' c', v = .slice A' n c' ∧ CL w (leastL ls) ra rc A' c' n w' := by
  have HH := Lib.hid h
  have HG := Lib.hid hg
  have HA := Lib.hid (refall_any A n c ls w h hg hn)
  clear h hg
  go_enter Try.func39, Try.ntmps39
  go_wp2_with fail
  refine Calls.mono HA.out ?_
  rintro e w1 ⟨_, rfl, AR, cR, rfl, hR, hb1⟩
  have HR := Lib.hid hR
  have HB1 := Lib.hid hb1
  have hz1 := hb1.size
  clear hR hb1
  go_wp2_with fail
  go_loopw [4, 5, 6, 7, 8, 9, 10] (fun v x _ _ _ _ _ wr => ∃ (k : Nat) (ra : Nat → Option Addr) (rc : Nat → Nat) (A5 : Option Addr) (c5 : Nat), x = .int .i64 (k : Int) ∧ k ≤ n ∧ v = .slice A5 k c5 ∧ CL w1 (leastL ls) ra rc A5 c5 k wr) (fun _ x _ _ _ _ _ _ => n - (intOf x).toNat)
  case atStart => exact ⟨0, fun _ => none, fun _ => 0, none, 0, rfl, by omega, rfl, Below.refl _ _, World.ownsRow_nil _ _ _ _, fun j hj => by omega⟩
  case round =>
    obtain ⟨k, ra, rc, A5, c5, rfl, hk, rfl, C⟩ := hrel
    by_cases hlt : k < n
    · have HN0 := Lib.hid (show ∃ b2 off2, A = some ⟨b2, off2, none⟩ ∧ ∃ A' c', (ls.getD k []).length ≤ 9223372036854775807 ∧ ∀ wy, Below w.heap.size w wy → wy.cell? ⟨b2, off2 + k, none⟩ = some (.slice A' (ls.getD k []).length c') ∧ Nums wy A' (ls.getD k []).length (ls.getD k []) from by
        obtain ⟨b2, off2, e', hrow'⟩ := HH.out.2.2 (by omega)
        obtain ⟨A', c', q1, q2, q3⟩ := hrow' k hlt
        exact ⟨b2, off2, e', A', c', q3, fun wy hy => ⟨(stays_w hy _ (World.block_lt_of_cell? _ _ q1)).trans q1, q2.ext (stays_w hy)⟩⟩)
      obtain ⟨l, hl⟩ : ∃ l, l = ls.getD k [] := ⟨_, rfl⟩
      rw [← hl] at HN0
      obtain ⟨b2, off2, rfl, A', c', hm', HN⟩ := HN0.out
      have HN := Lib.hid HN
      have HEQ := Lib.hid hl
      have HC := Lib.hid C
      have hzr : w1.heap.size ≤ wr.heap.size := C.below.size
      clear C hl HN0
      rename World => wo
      go_wp2_with fail
      go_loopw [6, 7, 8, 9, 10] (fun v x _ _ _ wx => ∃ q : Nat, x = .int .i64 (q : Int) ∧ q ≤ l.length ∧ wx.ownsRow wo.heap.size 3 1 v (keptTo ls k q).length (valsZ (keptTo ls k q)) ∧ Below wo.heap.size wo wx) (fun _ x _ _ _ _ => l.length - (intOf x).toNat)
      case atStart => exact ⟨0, rfl, by omega, World.ownsRow_nil _ _ _ _, Below.refl _ _⟩
      case round =>
        obtain ⟨q, rfl, hq, hown, hbx⟩ := hrel
        rename World => wx
        obtain ⟨A1, c1, hv1, _, _, _⟩ := nums_own hown (keptTo_fits HG.out (by omega))
        subst hv1
        have hb0 : Below w1.heap.size w1 wx := HC.out.below.trans (hbx.mono hzr)
        have hbw : Below w.heap.size w wx := HB1.out.trans (hb0.mono hz1)
        obtain ⟨hc1, hnx⟩ := HN.out wx hbw
        by_cases hql : q < l.length
        · obtain ⟨b3, off3, rfl, hc2⟩ := hnx.2.2 (by omega)
          have c2 := hc2 q hql
          have hjm := HG.out.mem (i := k) (x := l.getD q 0) (by rw [← HEQ.out]; exact getD_mem hql)
          obtain ⟨m, hm⟩ : ∃ m : Nat, (m : Int) = l.getD q 0 := ⟨(l.getD q 0).toNat, by omega⟩
          rw [← hm] at c2 hjm
          have hmk : m < k := by omega
          have hmn : m < n := by omega
          have HC2 := Lib.hid (show ∀ j, j < l.length → wx.cell? ⟨b3, off3 + j, none⟩ = some (.int .i64 (l.getD j 0)) from hc2)
          have hs := keptTo_succ (ls := ls) (i := k) (q := q) (by rw [← HEQ.out]; exact hql)
          rw [← HEQ.out, ← hm] at hs
          have HS := Lib.hid hs
          have hlen := keptTo_len ls k q
          have hlk : l.length ≤ 10000 := by have := HG.out.mem (i := k) (x := l.getD (l.length - 1) 0) (by rw [← HEQ.out]; exact getD_mem (by omega)); have := row_len HG.out k; rw [HEQ.out]; omega
          obtain ⟨b4, off4, rfl, hbr⟩ := HR.out (by omega)
          have HBR := Lib.hid (show ∀ y : Nat, y < n → ∃ gm, wx.cell? ⟨b4, off4 + y, none⟩ = some (.slice (some ⟨gm, 0, none⟩) n n) ∧ wx.cell? ⟨gm, m, none⟩ = some (.bool (rB ls y (m : Int))) from fun y hy => by
            obtain ⟨gm, g1, g2⟩ := hbr y hy
            exact ⟨gm, (stays_w hb0 _ (World.block_lt_of_cell? _ _ g1)).trans g1, (stays_w hb0 _ (World.block_lt_of_cell? _ _ (g2 m hmn))).trans (g2 m hmn)⟩)
          have HME := Lib.hid hm
          have HO := Lib.hid hown
          have HBX := Lib.hid hbx
          clear hc2 hm hjm hbr hs hown hbx hb0 hbw hnx
          go_wp2_with fail
          clear c2
          go_loopw [9, 10] (fun t x wy => ∃ j : Nat, x = .int .i64 (j : Int) ∧ j ≤ l.length ∧ t = .bool (thrTo ls l j (m : Int)) ∧ wy = wx) (fun _ x _ => l.length - (intOf x).toNat)
          case atStart => exact ⟨0, rfl, by omega, rfl, rfl⟩
          case round =>
            obtain ⟨j, rfl, hj, rfl, rfl⟩ := hrel
            by_cases hjl : j < l.length
            · have cj := HC2.out j hjl
              have hjm := HG.out.mem (i := k) (x := l.getD j 0) (by rw [← HEQ.out]; exact getD_mem hjl)
              obtain ⟨y, hy⟩ : ∃ y : Nat, (y : Int) = l.getD j 0 := ⟨(l.getD j 0).toNat, by omega⟩
              rw [← hy] at cj hjm
              obtain ⟨gm, g1, g2⟩ := HBR.out y (by omega)
              have hyn : y < n := by omega
              have hts := thrTo_succ (ls := ls) (x := (m : Int)) hjl
              rw [← hy, Int.toNat_natCast] at hts
              obtain ⟨b0, hb0⟩ : ∃ b0, b0 = thrTo ls l j (m : Int) := ⟨_, rfl⟩
              obtain ⟨b1, hb1⟩ : ∃ b1, b1 = rB ls y (m : Int) := ⟨_, rfl⟩
              rw [← hb0, ← hb1] at hts
              rw [← hb0]
              rw [← hb1] at g2
              have HT := Lib.hid hts
              clear hts hb0 hb1 hy hjm
              cases b0 with
              | true =>
                go_wp2_with fail
                go_roundw
                case rel => exact ⟨j + 1, by go_num, by omega, by rw [HT.out]; rfl, by first | rfl | trivial⟩
                case measure => simp [intOf]; omega
              | false =>
                go_wp2_with fail
                go_roundw
                case rel => exact ⟨j + 1, by go_num, by omega, by rw [HT.out]; rfl, by first | rfl | trivial⟩
                case measure => simp [intOf]; omega
            · obtain rfl : j = l.length := by omega
              have hok := thrTo_end ls k (m : Int)
              rw [← HEQ.out] at hok
              obtain ⟨t, ht⟩ : ∃ t, t = thrTo ls l l.length (m : Int) := ⟨_, rfl⟩
              rw [← ht] at hok ⊢
              obtain ⟨u, hu⟩ : ∃ u, u = (keptTo ls k q).length := ⟨_, rfl⟩
              have HU := Lib.hid hu
              have hO0 := HO.out
              rw [← hu] at hO0 hlen ⊢
              have HOK := Lib.hid hok
              have hwz := HBX.out.size
              clear hok ht hu
              cases t with
              | true =>
                clear hO0
                go_wp2_with fail
                go_roundw
                case rel => exact ⟨q + 1, by go_num, by omega, by rw [HS.out, HOK.out, HU.out]; simpa using HO.out, HBX.out⟩
                case measure => simp [intOf]; omega
              | false =>
                have HO3 := Lib.hid (World.ownsRow.alloc hO0 (.cells #[.int .i64 (m : Int)] 3))
                have HR3 := Lib.hid (rdv_one1 wr (.int .i64 (m : Int)) 3)
                clear hO0
                go_wp2_with (at_builtin; refine wpList_append_rowv elem38 rfl (.tmp 62) (.tmp 64) rfl wo.heap.size _ u (valsZ (keptTo ls k q)) rfl HO3.out (some ⟨wr.heap.size, 0, none⟩) 1 1 [.int .i64 (m : Int)] rfl HR3.out (one_int1 _) (fun h => by cases h) (by unfold maxLen; omega) (by omega) (by rw [World.size_alloc]; omega) ?_; intro v3 w3 hown3 hb3)
                go_roundw
                case rel =>
                  refine ⟨q + 1, by go_num, by omega, ?_, (HBX.out.alloc hwz _).trans hb3⟩
                  rw [HS.out, HOK.out, List.length_append, ← HU.out]
                  simp only [Bool.not_false, if_true, List.length_singleton, valsZ_snoc]
                  exact hown3
                case measure => simp [intOf]; omega
        · obtain rfl : q = l.length := by omega
          have hke := keptTo_end ls k
          rw [← HEQ.out] at hke
          obtain ⟨L, hL⟩ : ∃ L, L = (keptTo ls k l.length).length := ⟨_, rfl⟩
          have HLE := Lib.hid hL
          have hbx0 := hbx
          have HO := Lib.hid (ownsRow_low hown hzr)
          rw [← hL] at HO ⊢
          have HKE := Lib.hid hke
          have HBX := Lib.hid hbx
          have HCX := Lib.hid ((HC.out.ext hbx0).outer.alloc (.cells #[.slice A1 L c1] 38))
          have hzx : w1.heap.size ≤ wx.heap.size := Nat.le_trans hzr hbx.size
          have hn0 : k ≤ 10000 := by omega
          clear hown hbx hbx0 hL hq hke hb0 hbw hnx
          go_wp2_with (at_builtin; refine wpList_append_rowk elem56 rfl (.tmp 66) (.tmp 68) rfl w1.heap.size (.slice A5 k c5) k (rowsV ra rc (leastL ls) k) rfl HCX.out ⟨wx.heap.size, 0, none⟩ 1 1 [.slice A1 L c1] rfl (rdv_one1 _ _ _) (by decide) (one_slice1 _ _ _) (by unfold maxLen; omega) (by omega) (by rw [World.size_alloc]; omega) ?_; intro v7 w7 hown7 hb7 hk7; obtain ⟨A8, c8, hv8, hq1, hq2, hq3⟩ := rdv_own hown7; subst hv8; have HO7 := Lib.hid hown7; have HB7 := Lib.hid hb7; have HK7 := Lib.hid hk7; clear hown7 hb7 hk7 hq1 hq2 hq3)
          go_roundw
          case rel =>
            refine ⟨k + 1, upd ra k A1, upd rc k c1, A8, c8, by go_num, by omega, rfl, ?_⟩
            have ho := HO.out
            have ho7 := HO7.out
            have e : keptTo ls k l.length = (leastL ls).getD k [] := by rw [leastL_at, HKE.out]
            rw [HLE.out, e] at ho ho7
            exact HC.out.push HBX.out ho ((Below.refl _ wx).alloc (Nat.le_refl _) _) ho7 HB7.out HK7.out
          case measure => simp [intOf]; omega
    · obtain rfl : k = n := by omega
      have HC := Lib.hid C
      clear C
      go_wp2_with fail
      go_ret
      refine ⟨_, rfl, ra, rc, A5, c5, rfl, ?_⟩
      have hC := HC.out
      exact ⟨HB1.out.trans (hC.below.mono hz1), ownsRow_low hC.outer hz1, fun j hj => ownsRow_low (hC.inner j hj) hz1⟩
end Go.Proofs.Ytgdkgoiagjjccaa
