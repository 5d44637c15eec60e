/- The contracts of the reference's rest. -/
import Derived.Test.YtfajalhpenincaaBigSum
import Derived.Deep.QuietTactic
namespace Go.Proofs.Ytfajalhpenincaa
open Go.RowKit

theorem Dg.drewN {w : World} {A : Option Addr} {n : Nat} {ds : List Nat} (h : Dg w A n ds) (q : Nat) : Dg (w.drewN q) A n ds :=
  h.ext (fun p hp => by simp)
theorem below_drewN {B : Nat} {w w' : World} (h : Below B w w') (q : Nat) : Below B w (w'.drewN q) := ⟨h.os, h.tape, h.output, h.size, h.block⟩
theorem own_drewN {w : World} {B : Nat} {v : Value} {xs : List Nat} (h : Own w B v xs) (q : Nat) : Own (w.drewN q) B v xs := h

set_option maxHeartbeats 1000000 in
theorem rest_any (A : Option Addr) (n c : Nat) (xs : List Nat) (A2 : Option Addr) (n2 c2 : Nat) (ys : List Nat) (w : World) (ha : Dg w A n xs) (hb : Dg w A2 n2 ys) (hn : n ≤ 1000000) (hn2 : n2 ≤ 1000000) (hle : val ys ≤ val xs) :
    Calls Try.prog 36 #[.slice A n c, .slice A2 n2 c2] w fun e w' => ∃ v, e = .returned v ∧ ∃ ds, Own w' w.heap.size v ds ∧ Fig ds ∧ val ds = val xs - val ys ∧ ds.length = n ∧ Below w.heap.size w w' := by
  have hfx := ha.2.1
  have hfy := hb.2.1
  have hlx := ha.1
  have hly := hb.1
  have HA := Lib.hid ha
  have HB := Lib.hid hb
  obtain ⟨X, hX⟩ : ∃ X, X = val xs := ⟨_, rfl⟩
  obtain ⟨Y, hY⟩ : ∃ Y, Y = val ys := ⟨_, rfl⟩
  have hdx := fun k => val_div hfx k
  have hdy := fun k => val_div hfy k
  have htx : X / 10 ^ n = 0 := by rw [hX]; exact val_top hfx n (by rw [hlx]; exact Nat.le_refl _)
  rw [← hX] at hdx hle ⊢
  rw [← hY] at hdy hle ⊢
  have hty : Y / 10 ^ n = 0 := by
    exact Nat.le_zero.1 (Nat.le_trans (Nat.div_le_div_right (c := 10 ^ n) hle) (Nat.le_of_eq htx))
  have HDX := Lib.hid hdx
  have HDY := Lib.hid hdy
  have HTX := Lib.hid htx
  have HTY := Lib.hid hty
  have HFX := Lib.hid hfx
  have HFY := Lib.hid hfy
  have HLE := Lib.hid hle
  have h0 : val [] + 10 ^ 0 * (X / 10 ^ 0) + Y = X + 10 ^ 0 * (Y / 10 ^ 0 + 0) := by simp [val]
  have H0 := Lib.hid h0
  clear hdx hdy htx hty hX hY ha hb hfx hfy hlx hly h0 hle
  go_enter Try.func36, Try.ntmps36
  go_wp2_with fail
  go_loopw [5, 6, 7, 8] (fun v cy i _ wr => ∃ (k g : Nat) (ds : List Nat), i = .int .i64 k ∧ cy = .int .i64 g ∧ g ≤ 1 ∧ k ≤ n ∧ Own wr w.heap.size v ds ∧ Fig ds ∧ ds.length = k ∧ val ds + 10 ^ k * (X / 10 ^ k) + Y = X + 10 ^ k * (Y / 10 ^ k + g) ∧ Below w.heap.size w wr) (fun _ _ i _ _ => n - (intOf i).toNat)
  case atStart => exact ⟨0, 0, [], rfl, rfl, by omega, by omega, own_nil w _, fig_nil, rfl, H0.out, Below.refl _ _⟩
  case round =>
    obtain ⟨k, g, ds, rfl, rfl, hg, hk, hown, hfd, hld, hval, hbr⟩ := hrel
    have HV := Lib.hid hval
    have HF := Lib.hid hfd
    have HL := Lib.hid hld
    clear hval hfd hld H0
    by_cases hlt : k < n
    · have C2 : ∀ q, Calls Try.prog 43 #[.slice A2 n2 c2, .int .i64 (k : Int)] (wr.drewN q) fun e w' => e = .returned (.int .i64 ((ys.getD k 0 : Nat) : Int)) ∧ w' = wr.drewN q :=
        fun q => (at_any A2 n2 c2 ys k (wr.drewN q) ((HB.out.ext (stays_below hbr)).drewN q) (by omega) (by omega)).mono fun e w' ⟨h1, h2⟩ => ⟨h1, h2.symm⟩
      obtain ⟨b, off, rfl, hcc⟩ := (HA.out.ext (stays_below hbr)).2.2 (by omega)
      have hcell := hcc k hlt
      have hx := HDX.out k
      have hy := HDY.out k
      have hx10 := fig_getD HFX.out k
      have hy10 := fig_getD HFY.out k
      obtain ⟨x, hxe⟩ : ∃ x, x = xs.getD k 0 := ⟨_, rfl⟩
      obtain ⟨y, hye⟩ : ∃ y, y = ys.getD k 0 := ⟨_, rfl⟩
      rw [← hxe] at hx hcell hx10
      rw [← hye] at hy C2 hy10
      have hstep := fun d c' => rest_step (d := d) (c' := c') HV.out hx hy
      have HST := Lib.hid hstep
      have D2 := Lib.hid C2
      have HR := Lib.hid hbr
      have HOW := Lib.hid hown
      clear C2 hx hy hxe hye hstep hbr hown hcc HV HDX HDY HFX HFY HTX HTY HLE
      go_wp2_with fail
      go_quiet (first | (go_at_call 43; refine Calls.quiet_of_same (D2.out _)))
      by_cases hb : x < y + g
      · obtain ⟨d, hd⟩ : ∃ d, d + y + g = x + 10 := ⟨x + 10 - y - g, by omega⟩
        have e1 : (x : Int) - y - g + 10 = (d : Int) := by omega
        have hd10 : d < 10 := by omega
        have hv2 := HST.out d 1 (by omega)
        have hv3 : val (ds ++ [d]) + 10 ^ (k + 1) * (X / 10 ^ (k + 1)) + Y = X + 10 ^ (k + 1) * (Y / 10 ^ (k + 1) + 1) := by
          rw [val_append, HL.out, Nat.pow_succ 10 k]
          rw [Nat.pow_succ 10 k] at hv2
          simpa [val] using hv2
        have HV3 := Lib.hid hv3
        have hr0 := below_drewN HR.out nq
        have hs0 := hr0.size
        have hr1 := hr0.alloc hs0 (.cells #[.int .i64 (d : Int)] 3)
        have HO := Lib.hid ((own_drewN HOW.out nq).alloc (.cells #[.int .i64 (d : Int)] 3))
        have HDO := Lib.hid (dg_one (wr.drewN nq) d hd10)
        clear hv2 hv3 HST D2 HOW HR HA HB hcell hd
        go_wp2_with (at_builtin; refine wpList_append_dg rfl (.tmp 29) (.tmp 31) rfl w.heap.size _ ds rfl HO.out _ 1 1 [d] rfl HDO.out (fun h => by cases h) (by rw [HL.out]; omega) hr1.size ?_; intro v3 w3 hown3 hb3)
        have hbw3 := hr1.trans hb3
        clear hb3 HO hr1 HDO hr0
        go_roundw
        case rel => exact ⟨k + 1, 1, ds ++ [d], by go_num, rfl, by omega, by omega, hown3, fig_append HF.out (fig_one hd10), by rw [List.length_append, HL.out]; rfl, HV3.out, hbw3⟩
        case measure => simp [intOf]; omega
      · obtain ⟨d, hd⟩ : ∃ d, d + y + g = x := ⟨x - y - g, by omega⟩
        have e1 : (x : Int) - y - g = (d : Int) := by omega
        have hd10 : d < 10 := by omega
        have hv2 := HST.out d 0 (by omega)
        have hv3 : val (ds ++ [d]) + 10 ^ (k + 1) * (X / 10 ^ (k + 1)) + Y = X + 10 ^ (k + 1) * (Y / 10 ^ (k + 1) + 0) := by
          rw [val_append, HL.out, Nat.pow_succ 10 k]
          rw [Nat.pow_succ 10 k] at hv2
          simpa [val] using hv2
        have HV3 := Lib.hid hv3
        have hr0 := below_drewN HR.out nq
        have hs0 := hr0.size
        have hr1 := hr0.alloc hs0 (.cells #[.int .i64 (d : Int)] 3)
        have HO := Lib.hid ((own_drewN HOW.out nq).alloc (.cells #[.int .i64 (d : Int)] 3))
        have HDO := Lib.hid (dg_one (wr.drewN nq) d hd10)
        clear hv2 hv3 HST D2 HOW HR HA HB hcell hd
        go_wp2_with (at_builtin; refine wpList_append_dg rfl (.tmp 29) (.tmp 31) rfl w.heap.size _ ds rfl HO.out _ 1 1 [d] rfl HDO.out (fun h => by cases h) (by rw [HL.out]; omega) hr1.size ?_; intro v3 w3 hown3 hb3)
        have hbw3 := hr1.trans hb3
        clear hb3 HO hr1 HDO hr0
        go_roundw
        case rel => exact ⟨k + 1, 0, ds ++ [d], by go_num, rfl, by omega, by omega, hown3, fig_append HF.out (fig_one hd10), by rw [List.length_append, HL.out]; rfl, HV3.out, hbw3⟩
        case measure => simp [intOf]; omega
    · obtain rfl : k = n := by omega
      have hv : val ds = X - Y := by
        have h := HV.out
        rw [HTX.out, HTY.out] at h
        exact rest_end (P := 10 ^ k) (c := g) (by simpa using h) (by rw [← HL.out]; exact val_lt HF.out) HLE.out
      have HVV := Lib.hid hv
      clear hv
      go_wp2_with fail
      go_ret
      exact ⟨_, rfl, ds, hown, HF.out, HVV.out, HL.out, hbr⟩
end Go.Proofs.Ytfajalhpenincaa
