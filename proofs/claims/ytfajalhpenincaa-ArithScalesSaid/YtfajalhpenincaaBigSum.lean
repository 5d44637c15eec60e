/- The contracts of the reference's sum. -/
import Derived.Test.YtfajalhpenincaaBigLess
namespace Go.Proofs.Ytfajalhpenincaa
open Go.RowKit

theorem dg_one (w : World) (q : Nat) (h : q < 10) : Dg (w.alloc (.cells #[.int .i64 (q : Int)] 3)) (some ⟨w.heap.size, 0, none⟩) 1 [q] :=
  dg_new w [q] 3 _ 1 rfl rfl (fig_one h)

set_option maxHeartbeats 1000000 in
theorem sum_any (A : Option Addr) (n c : Nat) (xs : List Nat) (A2 : Option Addr) (n2 c2 : Nat) (ys : List Nat) (w : World) (ha : Dg w A n xs) (hb : Dg w A2 n2 ys) (hn : n ≤ 1000000) (hn2 : n2 ≤ 1000000) :
    Calls Try.prog 34 #[.slice A n c, .slice A2 n2 c2] w fun e w' => ∃ v, e = .returned v ∧ ∃ ds, Own w' w.heap.size v ds ∧ Fig ds ∧ val ds = val xs + val ys ∧ ds.length ≤ n + n2 + 1 ∧ Below w.heap.size w w' := by
  have hfx := ha.2.1
  have hfy := hb.2.1
  have hlx := ha.1
  have hly := hb.1
  have HA := Lib.hid ha
  have HB := Lib.hid hb
  obtain ⟨X, hX⟩ : ∃ X, X = val xs := ⟨_, rfl⟩
  obtain ⟨Y, hY⟩ : ∃ Y, Y = val ys := ⟨_, rfl⟩
  have hdx := fun k => val_div hfx k
  have hdy := fun k => val_div hfy k
  have htx := fun k hk => val_top hfx k (by rw [hlx]; exact hk)
  have hty := fun k hk => val_top hfy k (by rw [hly]; exact hk)
  rw [← hX] at hdx htx ⊢
  rw [← hY] at hdy hty ⊢
  have HDX := Lib.hid hdx
  have HDY := Lib.hid hdy
  have HTX := Lib.hid htx
  have HTY := Lib.hid hty
  have HFX := Lib.hid hfx
  have HFY := Lib.hid hfy
  have h0 : val [] + 10 ^ 0 * (0 + X / 10 ^ 0 + Y / 10 ^ 0) = X + Y := by simp [val]
  have H0 := Lib.hid h0
  clear hdx hdy htx hty hX hY ha hb hfx hfy hlx hly h0
  go_enter Try.func34, Try.ntmps34
  go_wp2_with fail
  go_loopw [5, 6, 7, 8] (fun v cy i _ wr => ∃ (k g : Nat) (ds : List Nat), i = .int .i64 k ∧ cy = .int .i64 g ∧ g ≤ 1 ∧ k ≤ n + n2 + 1 ∧ (k = n + n2 + 1 → g = 0) ∧ Own wr w.heap.size v ds ∧ Fig ds ∧ ds.length = k ∧ val ds + 10 ^ k * (g + X / 10 ^ k + Y / 10 ^ k) = X + Y ∧ Below w.heap.size w wr) (fun _ cy i _ _ => 2 * ((n - (intOf i).toNat) + (n2 - (intOf i).toNat)) + (intOf cy).toNat)
  case atStart => exact ⟨0, 0, [], rfl, rfl, by omega, by omega, by omega, own_nil w _, fig_nil, rfl, H0.out, Below.refl _ _⟩
  case round =>
    obtain ⟨k, g, ds, rfl, rfl, hg, hk, hkg, hown, hfd, hld, hval, hbr⟩ := hrel
    have hsr := hbr.size
    have HV := Lib.hid hval
    have HF := Lib.hid hfd
    have HL := Lib.hid hld
    clear hval hfd hld H0
    by_cases hend : n ≤ k ∧ n2 ≤ k ∧ g = 0
    · obtain ⟨h1, h2, rfl⟩ := hend
      have hv : val ds = X + Y := by
        have h := HV.out
        rw [HTX.out k h1, HTY.out k h2] at h
        simpa using h
      have HVV := Lib.hid hv
      clear hv
      go_wp2_with fail
      go_ret
      exact ⟨_, rfl, ds, hown, HF.out, HVV.out, by rw [HL.out]; omega, hbr⟩
    · have C1 := at_any A n c xs k wr (HA.out.ext (stays_below hbr)) (by omega) (by omega)
      have C2 := at_any A2 n2 c2 ys k wr (HB.out.ext (stays_below hbr)) (by omega) (by omega)
      have hx := HDX.out k
      have hy := HDY.out k
      have hx10 := fig_getD HFX.out k
      have hy10 := fig_getD HFY.out k
      obtain ⟨x, hxe⟩ : ∃ x, x = xs.getD k 0 := ⟨_, rfl⟩
      obtain ⟨y, hye⟩ : ∃ y, y = ys.getD k 0 := ⟨_, rfl⟩
      have hxz : n ≤ k → x = 0 := fun h => by rw [hxe, List.getD_eq_getElem?_getD, List.getElem?_eq_none (by rw [HA.out.1]; exact h)]; rfl
      have hyz : n2 ≤ k → y = 0 := fun h => by rw [hye, List.getD_eq_getElem?_getD, List.getElem?_eq_none (by rw [HB.out.1]; exact h)]; rfl
      rw [← hxe] at hx C1 hx10
      rw [← hye] at hy C2 hy10
      have hstep := sum_step HV.out hx hy
      obtain ⟨r, hr⟩ : ∃ r, r = (x + y + g) % 10 := ⟨_, rfl⟩
      obtain ⟨q, hq⟩ : ∃ q, q = (x + y + g) / 10 := ⟨_, rfl⟩
      rw [← hr, ← hq] at hstep
      have hr10 : r < 10 := by omega
      have hv2 : val (ds ++ [r]) + 10 ^ (k + 1) * (q + X / 10 ^ (k + 1) + Y / 10 ^ (k + 1)) = X + Y := by
        rw [val_append, HL.out, Nat.pow_succ 10 k, ← hstep, Nat.pow_succ]
        simp [val]
      have er : ((x : Int) + y + g) % 10 = (r : Int) := by omega
      have eq : ((x : Int) + y + g) / 10 = (q : Int) := by omega
      have D1 := Lib.hid C1
      have D2 := Lib.hid C2
      have HV2 := Lib.hid hv2
      have hbr1 := hbr.alloc hsr (.cells #[.int .i64 (r : Int)] 3)
      have HO := Lib.hid (hown.alloc (.cells #[.int .i64 (r : Int)] 3))
      clear C1 C2 hx hy hxe hye hstep hv2 hown hr
      have hq1 : q ≤ 1 := by omega
      have hq0 : (n ≤ k ∧ n2 ≤ k) → q = 0 := fun h => by
        have h1 := hxz h.1
        have h2 := hyz h.2
        omega
      have HQ0 := Lib.hid hq0
      clear hxz hyz hq hq0 HV HTX HTY HDX HDY HFX HFY
      go_wp2_with fail
      all_goals
        refine Calls.mono D1.out ?_
        rintro e w9 ⟨rfl, rfl⟩
        go_wp2_with fail
        refine Calls.mono D2.out ?_
        rintro e w9 ⟨rfl, rfl⟩
        go_wp2_with (at_builtin; refine wpList_append_dg rfl (.tmp 34) (.tmp 37) rfl w.heap.size _ ds rfl HO.out _ 1 1 [r] rfl (dg_one wr r hr10) (fun h => by cases h) (by rw [HL.out]; omega) hbr1.size ?_; intro v3 w3 hown3 hb3)
        have hbw3 := hbr1.trans hb3
        clear hb3 HO hbr1 hbr D1 D2 HA HB
        go_roundw
        case rel => exact ⟨k + 1, q, ds ++ [r], by go_num, congrArg (fun z : Int => Value.int .i64 z) eq, hq1, by omega, fun h => HQ0.out (by omega), hown3, fig_append HF.out (fig_one hr10), by rw [List.length_append, HL.out]; rfl, HV2.out, hbw3⟩
        case measure =>
          have h5 := HQ0.out
          simp [intOf]
          omega
end Go.Proofs.Ytfajalhpenincaa
