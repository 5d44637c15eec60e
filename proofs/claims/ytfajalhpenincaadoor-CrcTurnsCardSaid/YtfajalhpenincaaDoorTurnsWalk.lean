/- CrcTurns answers true of whatever text, bytes and place. -/
import Derived.Test.YtfajalhpenincaaDoorTurn
import Derived.Test.YtfajalhpenincaaDoorTurnMath
import Derived.Test.YtfajalhpenincaaDoorFindsWalk
import Derived.Test.YtfajalhpenincaaDoorRef
namespace Go.Proofs.YtfajalhpenincaaDoor
open Go.RowKit

set_option maxHeartbeats 1000000 in
theorem turns_any (A : Option Addr) (n c : Nat) (xs : List Nat) (A2 : Option Addr) (n2 c2 : Nat) (ys : List Nat) (z : Int) (w : World)
    (ha : Bts w A n xs) (hnil : A = none → c = 0) (hb : Bts w A2 n2 ys) (hnil2 : A2 = none → c2 = 0) (hz : z ≤ 9223372036854775807) (hT : Tab w) (hn : n ≤ 9223372036854775807) (hn2 : n2 ≤ 9223372036854775807) :
    Calls Tryd.prog 5 #[.slice A n c, .slice A2 n2 c2, .int .i64 z] w fun e w' => e = .returned (.bool true) ∧ Below w.heap.size w w' := by
  have HA := Lib.hid (alive_any w hT)
  by_cases h1 : 3000 < n
  · go_enter Tryd.func5, Tryd.ntmps5
    go_wp2_with fail
    refine Calls.mono HA.out ?_
    rintro e w1 ⟨rfl, hb1⟩
    go_wp2_with fail
    go_ret
    exact ⟨rfl, hb1⟩
  by_cases h2 : n < n2
  · go_enter Tryd.func5, Tryd.ntmps5
    go_wp2_with fail
    refine Calls.mono HA.out ?_
    rintro e w1 ⟨rfl, hb1⟩
    go_wp2_with fail
    go_ret
    exact ⟨rfl, hb1⟩
  have hla := ha.1
  have hlb := hb.1
  have hsx := ha.2.1
  have hsy := hb.2.1
  have HLA := Lib.hid hla
  have HLB := Lib.hid hlb
  clear hla hlb
  obtain ⟨u, hu⟩ : ∃ u, u = addN 0 xs := ⟨_, rfl⟩
  have hu32 : u < 4294967296 := by rw [hu]; exact addN_lt (by decide) hsx
  by_cases h3 : z < 0
  · go_enter Tryd.func5, Tryd.ntmps5
    go_wp2_with fail
    refine Calls.mono HA.out ?_
    rintro e w1 ⟨rfl, hb1⟩
    have hbw1 := hb1.alloc hb1.size (.cells #[.slice A n c] 22)
    have C1 := sum_any _ 1 1 [xs] _ (rws_one w1 A n c xs (ha.ext (stays_below hb1)) hn) (hT.ext (stays_below hbw1)) (by decide)
    rw [show sumL 0 [xs] = u from hu.symm] at C1
    have C2 := turn_any u hu32 A2 n2 c2 ys z hz _ (hb.ext (stays_below hbw1)) hn2 (hT.ext (stays_below hbw1))
    rw [show z.toNat = 0 by omega] at C2
    obtain ⟨t, ht⟩ : ∃ t, t = turnN u ys 0 := ⟨_, rfl⟩
    rw [← ht] at C2
    have D1 := Lib.hid C1
    have D2 := Lib.hid C2
    have HU := Lib.hid hu
    have HT0 := Lib.hid ht
    clear C1 C2 hu ht
    go_wp2_with fail
    refine Calls.mono D1.out ?_
    rintro e w9 ⟨rfl, rfl⟩
    go_wp2_with fail
    refine Calls.mono D2.out ?_
    rintro e w3 ⟨rfl, hb3⟩
    have hbw3 := hbw1.trans (hb3.mono hbw1.size)
    have hbw4 := hbw3.alloc hbw3.size (.cells #[.slice A n c] 22)
    have C1 := sum_any _ 1 1 [xs] _ (rws_one w3 A n c xs (ha.ext (stays_below hbw3)) hn) (hT.ext (stays_below hbw4)) (by decide)
    rw [show sumL 0 [xs] = u from HU.out.symm] at C1
    have C2 := turn_any u hu32 A2 n2 c2 ys 0 (by decide) _ (hb.ext (stays_below hbw4)) hn2 (hT.ext (stays_below hbw4))
    rw [show (0 : Int).toNat = 0 from rfl, ← HT0.out] at C2
    have E1 := Lib.hid C1
    have E2 := Lib.hid C2
    clear C1 C2 D1 D2 hb3 hb1
    go_wp2_with fail
    refine Calls.mono E1.out ?_
    rintro e w9 ⟨rfl, rfl⟩
    go_wp2_with fail
    refine Calls.mono E2.out ?_
    rintro e w5 ⟨rfl, hb5⟩
    have hbw5 := hbw4.trans (hb5.mono hbw4.size)
    clear E1 E2 hb5
    go_wp2_with fail
    go_ret
    exact ⟨rfl, hbw5⟩
  obtain ⟨b, rfl⟩ := Int.eq_ofNat_of_zero_le (Int.not_lt.1 h3)
  by_cases h4 : n < n2 + b
  · go_enter Tryd.func5, Tryd.ntmps5
    go_wp2_with fail
    refine Calls.mono HA.out ?_
    rintro e w1 ⟨rfl, hb1⟩
    go_wp2_with fail
    go_ret
    exact ⟨rfl, hb1⟩
  obtain ⟨p, hp⟩ : ∃ p, p + n2 + b = n := ⟨n - n2 - b, by omega⟩
  go_enter Tryd.func5, Tryd.ntmps5
  go_wp2_with fail
  refine Calls.mono HA.out ?_
  rintro e w1 ⟨rfl, hb1⟩
  have hsz1 := hb1.size
  have ea : (n : Int) - n2 - b = (p : Int) := by omega
  go_wp2_with (at_builtin; refine wpList_append_bts rfl (.tmp 45) (.tmp 46) rfl w.heap.size _ [] rfl ⟨rfl, .inr ⟨_, _, _, rfl, hsz1, heap_alloc_new w1 _, Nat.le_refl _, by unfold maxLen; omega, rfl, rfl⟩⟩ A n c xs rfl (ha.ext (stays_below (hb1.alloc hsz1 _))) hnil (by show 0 + n ≤ _; omega) (Nat.le_trans hsz1 (by simp)) ?_; intro v3 w3 hown3 hb3)
  rw [List.nil_append] at hown3
  have hbw3 : Below w.heap.size w w3 := (hb1.alloc hsz1 _).trans hb3
  have hc2 := hb.2.2
  have HC2 := Lib.hid hc2
  clear hb3 ea hb1 hc2
  go_loopw [9, 10, 57] (fun _ _ i wr => ∃ j : Nat, j ≤ n2 ∧ i = .int .i64 j ∧ wr.ownsRow w.heap.size 5 1 v3 n (vals (trn xs p ys j)) ∧ Below w.heap.size w wr) (fun _ _ i _ => n2 - (intOf i).toNat)
  case atStart => exact ⟨0, by omega, rfl, row_of_own hown3 HLA.out, hbw3⟩
  case round =>
    obtain ⟨j, hj, rfl, hown, hbr⟩ := hrel
    clear hown3 hbw3
    have hlj : (trn xs p ys j).length = n := by rw [trn_length]; exact HLA.out
    by_cases hlt : j < n2
    · obtain ⟨g, cap, rfl, hg⟩ := form_of_own (own_of_row' hown hlj) hlj (by omega)
      obtain ⟨b2, off2, rfl, hcc⟩ := HC2.out (by omega)
      have hcy := (hb.ext (stays_below hbr)).2.2 (by omega)
      obtain ⟨b2', off2', hbe, hcy⟩ := hcy
      injection hbe with hbe
      injection hbe with hb1 hb2 _
      subst hb1 hb2
      have hcyj := hcy j hlt
      have hfz := hown.frozenAt (p + j)
      have hcell := hown.cellAt (p + j) (by omega)
      rw [vals_get _ _ (by rw [hlj]; omega)] at hcell
      have hst := hown.stored (p + j) (.int .u8 (((trn xs p ys j).getD (p + j) 0 ^^^ ys.getD j 0 : Nat) : Int))
      have hx8 : (trn xs p ys j).getD (p + j) 0 < 256 := getD_small (trn_small hsx hsy p j) _
      have hy8 : ys.getD j 0 < 256 := getD_small hsy _
      obtain ⟨x, hx⟩ : ∃ x, x = (trn xs p ys j).getD (p + j) 0 := ⟨_, rfl⟩
      rw [← hx] at hcell hst hx8
      obtain ⟨y, hy⟩ : ∃ y, y = ys.getD j 0 := ⟨_, rfl⟩
      rw [← hy] at hcyj hst hy8
      obtain ⟨q, hq⟩ : ∃ q, q = x ^^^ y := ⟨_, rfl⟩
      have e5 : bits BinOp.xor IntKind.u8 (x : Int) (y : Int) = (q : Int) := by
        rw [hq]
        exact u8_xor_nat x y hx8 hy8
      have hnew : vals (trn xs p ys (j + 1)) = (vals (trn xs p ys j)).set (p + j) (.int .u8 (q : Int)) := by
        rw [hq, hx, hy]; simp [vals, trn, List.map_set]
      rw [← hq, ← hnew] at hst
      have HST := Lib.hid hst.1
      have hbs : Below w.heap.size w (wr.setCell ⟨g, p + j, none⟩ (.int .u8 (q : Int))) := hbr.setCell hg _
      have HBS := Lib.hid hbs
      clear hst hx hy hnew hlj hown hbr hT ha hb HA hbs hq hcy hcc HC2 hu
      go_wp2
      go_roundw
      case rel => exact ⟨j + 1, by omega, by go_num, HST.out, HBS.out⟩
      case measure => simp [intOf]; omega
    · obtain rfl : j = n2 := by omega
      have hs4 : Small (trn xs p ys j) := trn_small hsx hsy p j
      obtain ⟨A4, c4, hv, hb4, _⟩ := (own_of_row' hown hlj).bts hs4
      rw [hlj] at hv hb4
      subst hv
      have hsr := hbr.size
      have CC := Lib.hid (copy_any A2 j c2 ys wr (hb.ext (stays_below hbr)) hnil2 (by omega))
      go_wp2_with fail
      refine Calls.mono CC.out ?_
      rintro e w5 ⟨g, cap, rfl, hmk, hb5⟩
      have hbw5 := hbr.trans (hb5.mono hsr)
      have hb45 := hb4.ext (stays_below hb5)
      clear CC
      go_wp2_with fail
      have hju : j = ys.length := HLB.out.symm
      have hval : addN 0 (trn xs p ys j) = turnN u ys b := by
        have h := turned hsx hsy p b (by rw [HLB.out, HLA.out]; exact hp) (by omega)
        rw [HLB.out, ← hu] at h
        exact h
      have C1 := rsum_any A n c xs w5 (ha.ext (stays_below hbw5)) hn
      rw [← hu] at C1
      have C2 := turn_any u hu32 (some ⟨g, 0, none⟩) j cap ys (b : Int) hz w5 hmk.bts hn2 (hT.ext (stays_below hbw5))
      rw [Int.toNat_natCast] at C2
      obtain ⟨t, ht⟩ : ∃ t, t = turnN u ys b := ⟨_, rfl⟩
      rw [← ht] at C2 hval
      have D1 := Lib.hid C1
      have D2 := Lib.hid C2
      have HV := Lib.hid hval
      have HM := Lib.hid hmk
      have HK := Lib.hid hb45
      have HBB := Lib.hid (hb.ext (stays_below hbw5))
      clear C1 C2 hval hmk hb45 ht hu hown hb4 hbr hs4 hlj HA ha hb hT hb5 hju HC2
      refine Calls.mono D1.out ?_
      rintro e w9 ⟨rfl, rfl⟩
      go_wp2_with fail
      refine Calls.mono D2.out ?_
      rintro e w6 ⟨rfl, hb6⟩
      have C3 := rsum_any A4 n c4 _ w6 (HK.out.ext (stays_below hb6)) hn
      rw [HV.out] at C3
      have C4 := kept_any g j cap ys A2 c2 w6 (HM.out.ext (stays_below hb6)) (HBB.out.ext (stays_below hb6)) (by omega)
      have D3 := Lib.hid C3
      have D4 := Lib.hid C4
      have hbw6 := hbw5.trans (hb6.mono hbw5.size)
      clear C3 C4 hb6 hbw5 D1 D2
      go_wp2_with fail
      refine Calls.mono D3.out ?_
      rintro e w9 ⟨rfl, rfl⟩
      go_wp2_with fail
      refine Calls.mono D4.out ?_
      rintro e w9 ⟨rfl, rfl⟩
      go_wp2_with fail
      go_ret
      exact ⟨rfl, hbw6⟩
end Go.Proofs.YtfajalhpenincaaDoor
