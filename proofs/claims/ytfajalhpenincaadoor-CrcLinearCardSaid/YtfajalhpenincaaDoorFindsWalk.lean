/- CrcFinds answers true of whatever text, place and change. -/
import Derived.Test.YtfajalhpenincaaDoorFindMath
import Derived.Test.YtfajalhpenincaaDoorPartsWalk
import Derived.Test.YtfajalhpenincaaDoorCopy
import Derived.Laws.OwnMore
namespace Go.Proofs.YtfajalhpenincaaDoor
open Go.RowKit

theorem place (z : Int) (n : Nat) (h : 4 ≤ n) (h2 : n ≤ 5000) : ∃ k : Nat, wrap64 ((IntKind.u64.wrap z).tmod ((n : Int) - 3)) = (k : Int) ∧ k + 4 ≤ n := by
  have hw : 0 ≤ IntKind.u64.wrap z := by rw [IntKind.wrap_u64]; exact Int.emod_nonneg _ (by decide)
  rw [Int.tmod_eq_emod_of_nonneg hw]
  have h3 : 0 ≤ IntKind.u64.wrap z % ((n : Int) - 3) := Int.emod_nonneg _ (by omega)
  have h4 : IntKind.u64.wrap z % ((n : Int) - 3) < (n : Int) - 3 := Int.emod_lt_of_pos _ (by omega)
  obtain ⟨k, hk⟩ := Int.eq_ofNat_of_zero_le h3
  rw [hk] at h4 ⊢
  refine ⟨k, ?_, by omega⟩
  exact IntWalk.wrap64_in _ (by omega)

theorem own_of_row' {w : World} {B n : Nat} {v : Value} {xs : List Nat} (h : w.ownsRow B 5 1 v n (vals xs)) (hl : xs.length = n) : Own w B v xs := by subst hl; exact h
theorem row_of_own {w : World} {B n : Nat} {v : Value} {xs : List Nat} (h : Own w B v xs) (hl : xs.length = n) : w.ownsRow B 5 1 v n (vals xs) := by subst hl; exact h
theorem form_of_own {w : World} {B n : Nat} {v : Value} {xs : List Nat} (h : Own w B v xs) (hl : xs.length = n) (hn : 0 < n) : ∃ g cap, v = .slice (some ⟨g, 0, none⟩) n cap ∧ B ≤ g := by
  rcases h.2 with ⟨rfl, h0⟩ | ⟨g, cap, cur, rfl, hB, _⟩
  · omega
  · exact ⟨g, cap, by rw [hl], hB⟩

set_option maxHeartbeats 1000000 in
theorem finds_any (A : Option Addr) (n c : Nat) (xs : List Nat) (at_ : Int) (y : Nat) (w : World)
    (ha : Bts w A n xs) (hnil : A = none → c = 0) (hy : y < 4294967296) (hT : Tab w) (hn : n ≤ 9223372036854775807) :
    Calls Tryd.prog 7 #[.slice A n c, .int .i64 at_, .int .u32 (y : Int)] w fun e w' => e = .returned (.bool true) ∧ Below w.heap.size w w' := by
  have HA := Lib.hid (alive_any w hT)
  by_cases h1 : n < 4
  · go_enter Tryd.func7, Tryd.ntmps7
    go_wp2_with fail
    refine Calls.mono HA.out ?_
    rintro e w1 ⟨rfl, hb1⟩
    go_wp2_with fail
    go_ret
    exact ⟨rfl, hb1⟩
  by_cases h2 : 5000 < n
  · go_enter Tryd.func7, Tryd.ntmps7
    go_wp2_with fail
    refine Calls.mono HA.out ?_
    rintro e w1 ⟨rfl, hb1⟩
    go_wp2_with fail
    go_ret
    exact ⟨rfl, hb1⟩
  by_cases h3 : y = 0
  · subst h3
    go_enter Tryd.func7, Tryd.ntmps7
    go_wp2_with fail
    refine Calls.mono HA.out ?_
    rintro e w1 ⟨rfl, hb1⟩
    go_wp2_with fail
    go_ret
    exact ⟨rfl, hb1⟩
  have hla := ha.1
  have HLA := Lib.hid hla
  clear hla
  obtain ⟨k, e7, hk⟩ := place at_ n (by omega) (by omega)
  have e3 : (((y : Int)) == 0) = false := by rw [beq_eq_false_iff_ne]; omega
  have H3 := Lib.hid h3
  clear h3
  go_enter Tryd.func7, Tryd.ntmps7
  go_wp2_with fail
  refine Calls.mono HA.out ?_
  rintro e w1 ⟨rfl, hb1⟩
  have hsz1 := hb1.size
  go_wp2_with (at_builtin; refine wpList_append_bts rfl (.tmp 32) (.tmp 33) rfl w.heap.size _ [] rfl ⟨rfl, .inr ⟨_, _, _, rfl, hsz1, heap_alloc_new w1 _, Nat.le_refl _, by unfold maxLen; omega, rfl, rfl⟩⟩ A n c xs rfl (ha.ext (stays_below (hb1.alloc hsz1 _))) hnil (by show 0 + n ≤ _; omega) (Nat.le_trans hsz1 (by simp)) ?_; intro v3 w3 hown3 hb3)
  rw [List.nil_append] at hown3
  obtain ⟨g, cap, rfl, hg⟩ := form_of_own hown3 HLA.out (by omega)
  have hbw3 : Below w.heap.size w w3 := (hb1.alloc hsz1 _).trans hb3
  have hsx := ha.2.1
  clear hb3 e7 e3 hb1
  go_loopw [35] (fun i wr => ∃ j : Nat, j ≤ 4 ∧ i = .int .i64 j ∧ wr.ownsRow w.heap.size 5 1 (.slice (some ⟨g, 0, none⟩) n cap) n (vals (fnd xs k y j)) ∧ Below w.heap.size w wr) (fun i _ => 4 - (intOf i).toNat)
  case atStart => exact ⟨0, by omega, rfl, row_of_own hown3 HLA.out, hbw3⟩
  case round =>
    obtain ⟨j, hj, rfl, hown, hbr⟩ := hrel
    clear hown3 hbw3
    by_cases hlt : j < 4
    · have hlj : (fnd xs k y j).length = n := by rw [fnd_length]; exact HLA.out
      have hfz := hown.frozenAt (k + j)
      have hcell := hown.cellAt (k + j) (by omega)
      rw [vals_get _ _ (by rw [hlj]; omega)] at hcell
      have hst := hown.stored (k + j) (.int .u8 (((fnd xs k y j).getD (k + j) 0 ^^^ xb y j : Nat) : Int))
      have hx8 : (fnd xs k y j).getD (k + j) 0 < 256 := getD_small (fnd_small hsx k y j) _
      obtain ⟨x, hx⟩ : ∃ x, x = (fnd xs k y j).getD (k + j) 0 := ⟨_, rfl⟩
      rw [← hx] at hcell hst hx8
      obtain ⟨b, hb⟩ : ∃ b, b = xb y j := ⟨_, rfl⟩
      have hb8 : b < 256 := by rw [hb]; exact xb_lt y j
      obtain ⟨z, hz⟩ : ∃ z, z = x ^^^ b := ⟨_, rfl⟩
      have e5 : bits BinOp.xor IntKind.u8 (x : Int) ((y : Int) / 2 ^ (8 * j) % 256) = (z : Int) := by
        have e6 : (y : Int) / 2 ^ (8 * j) % 256 = (b : Int) := by
          rw [hb, xb, show 256 ^ j = 2 ^ (8 * j) by rw [Nat.pow_mul]]
          simp
        rw [e6, hz]
        exact u8_xor_nat x b hx8 hb8
      have hnew : vals (fnd xs k y (j + 1)) = (vals (fnd xs k y j)).set (k + j) (.int .u8 (z : Int)) := by
        rw [hz, hb, hx]; simp [vals, fnd, List.map_set]
      rw [← hb, ← hz, ← hnew] at hst
      have HST := Lib.hid hst.1
      have HZ := Lib.hid hz
      have hbs : Below w.heap.size w (wr.setCell ⟨g, k + j, none⟩ (.int .u8 (z : Int))) := hbr.setCell hg _
      have HBS := Lib.hid hbs
      have HXB := Lib.hid hb
      clear hst hx hnew hlj hown hbr hT ha HA hbs hz hb
      go_wp2
      go_roundw
      case rel => exact ⟨j + 1, by omega, by go_num, HST.out, HBS.out⟩
      case measure => simp [intOf]; omega
    · obtain rfl : j = 4 := by omega
      have hlj : (fnd xs k y 4).length = n := by rw [fnd_length]; exact HLA.out
      have hs4 : Small (fnd xs k y 4) := fnd_small hsx k y 4
      obtain ⟨A4, c4, hv, hb4, _⟩ := (own_of_row' hown hlj).bts hs4
      rw [hlj] at hv hb4
      injection hv with hv1 hv2 hv3
      subst hv1 hv3
      obtain ⟨zs, hzs⟩ : ∃ zs, zs = fnd xs k y 4 := ⟨_, rfl⟩
      obtain ⟨p, hp⟩ : ∃ p, p = sumL 0 [zs] := ⟨_, rfl⟩
      obtain ⟨q, hq⟩ : ∃ q, q = sumL 0 [xs] := ⟨_, rfl⟩
      have hne : p ≠ q := by
        rw [hp, hq, hzs]
        intro h
        have h2 : inv (feedL (inv 0) (fnd xs k y 4)) = inv (feedL (inv 0) xs) := h
        have h3 := congrArg inv h2
        rw [inv_inv, inv_inv] at h3
        exact fnd_unlike hsx (by rw [HLA.out]; exact hk) hy H3.out (inv_lt (by decide)) h3
      rw [← hzs] at hb4
      have hsr := hbr.size
      have hbr1 := hbr.alloc hsr (.cells #[.slice (some ⟨g, 0, none⟩) n cap] 22)
      have hbr2 := hbr1.alloc hbr1.size (.cells #[.slice A n c] 22)
      have C1 := sum_any _ 1 1 [zs] _ (rws_one wr (some ⟨g, 0, none⟩) n cap zs hb4 hn) (hT.ext (stays_below hbr1)) (by decide)
      have C2 := sum_any _ 1 1 [xs] _ (rws_one (wr.alloc (.cells #[.slice (some ⟨g, 0, none⟩) n cap] 22)) A n c xs (ha.ext (stays_below hbr1)) hn) (hT.ext (stays_below hbr2)) (by decide)
      simp only [World.size_alloc] at C2
      rw [← hp] at C1
      rw [← hq] at C2
      have e8 : ((p : Int) != (q : Int)) = true := by rw [bne_iff_ne]; omega
      have D1 := Lib.hid C1
      have D2 := Lib.hid C2
      have HB := Lib.hid hbr2
      clear C1 C2 hp hq hzs hb4 hbr1 hbr2 hown hbr hT ha HA hs4 hlj hne
      go_wp2_with fail
      refine Calls.mono D1.out ?_
      rintro e w9 ⟨rfl, rfl⟩
      go_wp2_with fail
      refine Calls.mono D2.out ?_
      rintro e w9 ⟨rfl, rfl⟩
      go_wp2_with fail
      go_ret
      exact ⟨rfl, HB.out⟩
end Go.Proofs.YtfajalhpenincaaDoor
