/- CrcParts answers true of whatever parts. -/
import Derived.Test.YtfajalhpenincaaDoorApp
namespace Go.Proofs.YtfajalhpenincaaDoor
open Go.RowKit

/-- A slice of byte slices that came in: nil ones have no room. -/
def Prt (w : World) (A : Option Addr) (n : Nat) (xss : List (List Nat)) : Prop :=
  xss.length = n ∧ (0 < n → ∃ b off, A = some ⟨b, off, none⟩ ∧ ∀ j, j < n → ∃ A' n' c', w.cell? ⟨b, off + j, none⟩ = some (.slice A' n' c') ∧ Bts w A' n' (xss.getD j []) ∧ n' ≤ 9223372036854775807 ∧ (A' = none → c' = 0))
theorem Prt.rws {w : World} {A : Option Addr} {n : Nat} {xss : List (List Nat)} (h : Prt w A n xss) : Rws w A n xss :=
  ⟨h.1, fun hn => by
    obtain ⟨b, off, e, hc⟩ := h.2 hn
    refine ⟨b, off, e, fun j hj => ?_⟩
    obtain ⟨A', n', c', h1, h2, h3, _⟩ := hc j hj
    exact ⟨A', n', c', h1, h2, h3⟩⟩

theorem sumL_flat (s : Nat) (xss : List (List Nat)) : sumL s xss = addN s xss.flatten := by
  induction xss generalizing s with
  | nil => show s = inv (feedL (inv s) []); rw [show feedL (inv s) [] = inv s from rfl, inv_inv]
  | cons x xs ih => show sumL (addN s x) xs = _; rw [ih, List.flatten_cons, addN_append]

/-- What has been gathered of the first k parts. -/
def flat (xss : List (List Nat)) (k : Nat) : List Nat := (xss.take k).flatten
theorem flat_succ (xss : List (List Nat)) (k : Nat) (h : k < xss.length) : flat xss (k + 1) = flat xss k ++ xss.getD k [] := by
  unfold flat
  rw [List.take_succ_eq_append_getElem h, List.flatten_append]
  simp [List.getD_eq_getElem?_getD, h]

theorem small_flatten {xss : List (List Nat)} (h : AllSmall xss) : Small xss.flatten := by
  intro x hx
  obtain ⟨l, hl, hxl⟩ := List.mem_flatten.1 hx
  exact h l hl x hxl
/-- One slice handed on as the only part. -/
theorem rws_one (w : World) (A : Option Addr) (n c : Nat) (ys : List Nat) (hb : Bts w A n ys) (hn : n ≤ 9223372036854775807) :
    Rws (w.alloc (.cells #[.slice A n c] 22)) (some ⟨w.heap.size, 0, none⟩) 1 [ys] :=
  rws_new w _ 22 _ 1 rfl _ rfl (fun j hj => by
    obtain rfl : j = 0 := by omega
    exact ⟨_, _, _, rfl, hb, hn⟩)

set_option maxHeartbeats 400000 in
theorem parts_any (A : Option Addr) (n c : Nat) (xss : List (List Nat)) (w : World) (hb : Prt w A n xss) (hT : Tab w) (hn : n ≤ 9223372036854775807) :
    Calls Tryd.prog 4 #[.slice A n c] w fun e w' => e = .returned (.bool true) ∧ Below w.heap.size w w' := by
  have HA := Lib.hid (alive_any w hT)
  go_enter Tryd.func4, Tryd.ntmps4
  go_wp2_with fail
  refine Calls.mono HA.out ?_
  rintro e w1 ⟨rfl, hb1⟩
  have hsz := hb1.size
  go_wp2_with fail
  go_loopw [3, 4, 12] (fun v g i wr => ∃ k : Nat, k ≤ n ∧ k ≤ 51 ∧ i = .int .i64 k ∧ g = .int .u32 ((sumL 0 (xss.take k) : Nat) : Int) ∧ Own wr w.heap.size v (flat xss k) ∧ (flat xss k).length ≤ k * 1000 ∧ Below w.heap.size w wr) (fun _ _ i _ => n - (intOf i).toNat)
  case atStart => exact ⟨0, Nat.zero_le _, by omega, rfl, rfl, ⟨rfl, .inr ⟨_, _, _, rfl, hsz, heap_alloc_new w1 _, Nat.le_refl _, by unfold maxLen; omega, rfl, rfl⟩⟩, Nat.zero_le _, hb1.alloc hsz _⟩
  case round =>
    obtain ⟨k, hk, hk51, rfl, rfl, hown, hlenk, hbr⟩ := hrel
    have hsr := hbr.size
    have hrws := hb.rws
    have hsm := hrws.small
    obtain ⟨hl, hc⟩ := hb
    have HL := Lib.hid hl
    clear hl
    by_cases hlt : k < n
    · obtain ⟨b, off, rfl, hc'⟩ := hc (by omega)
      obtain ⟨A', n', c', hck, hbs, hn', hnil⟩ := hc' k hlt
      have hckr := (stays_below hbr).cell hck
      have hbsr := hbs.ext (stays_below hbr)
      clear hck hc' hc
      by_cases h50 : 50 < k
      · go_wp2
        go_ret
        exact ⟨rfl, hbr⟩
      · by_cases h1000 : 1000 < n'
        · go_wp2
          go_ret
          exact ⟨rfl, hbr⟩
        · obtain ⟨x, hxe⟩ : ∃ x, x = xss.getD k [] := ⟨_, rfl⟩
          rw [← hxe] at hbsr hbs
          obtain ⟨g, hge⟩ : ∃ g, g = sumL 0 (xss.take k) := ⟨_, rfl⟩
          rw [← hge]
          have hg : g < 4294967296 := by rw [hge]; exact sumL_lt (by decide) (fun y hy => hsm y (List.mem_of_mem_take hy))
          have en : addN g x = sumL 0 (xss.take (k + 1)) := by rw [sumL_snoc 0 xss k (by rw [HL.out]; exact hlt), ← hge, ← hxe]
          have ef : flat xss (k + 1) = flat xss k ++ x := by rw [flat_succ xss k (by rw [HL.out]; exact hlt), ← hxe]
          have HE := Lib.hid en
          have HF := Lib.hid ef
          have hxl := hbsr.1
          have HXL := Lib.hid hxl
          clear hxe hge en ef hxl hrws hsm
          go_wp2_with (at_builtin; refine wpList_append_bts rfl (.tmp 24) (.tmp 25) rfl w.heap.size _ (flat xss k) rfl hown A' n' c' x rfl hbsr hnil (by omega) hsr ?_; intro v2 w2 hown2 hb2)
          have hbw2 := hbr.trans hb2
          refine Calls.mono (add_any g hg A' n' c' x w2 (hbs.ext (stays_below hbw2)) (hT.ext (stays_below hbw2)) hn') ?_
          rintro e w3 ⟨rfl, rfl⟩
          go_wp2_with fail
          go_roundw
          case rel => exact ⟨k + 1, by omega, by omega, by go_num, by rw [HE.out], by rw [HF.out]; exact hown2, by rw [HF.out, List.length_append, HXL.out]; omega, hbw2⟩
          case measure => simp [intOf]; omega
    · obtain rfl : k = n := by omega
      have hflat : xss.take k = xss := List.take_of_length_le (by rw [HL.out]; omega)
      rw [hflat]
      obtain ⟨g, hge⟩ : ∃ g, g = sumL 0 xss := ⟨_, rfl⟩
      rw [← hge]
      have HG := Lib.hid hge
      have hflat2 : flat xss k = xss.flatten := by unfold flat; rw [hflat]
      have hys : sumL 0 [flat xss k] = g := by
        rw [hge, sumL_flat 0 xss, ← hflat2]
        rfl
      have hsy : Small (flat xss k) := by rw [hflat2]; exact small_flatten hsm
      have C := sum_any A k c xss wr (hrws.ext (stays_below hbr)) (hT.ext (stays_below hbr)) hn
      rw [← hge] at C
      have HC := Lib.hid C
      obtain ⟨ys, hy⟩ : ∃ ys, ys = flat xss k := ⟨_, rfl⟩
      rw [← hy] at hown hsy hys hlenk
      obtain ⟨A2, c2, rfl, hb2, _⟩ := hown.bts hsy
      obtain ⟨L, hL⟩ : ∃ L, L = ys.length := ⟨_, rfl⟩
      rw [← hL] at hb2 hlenk ⊢
      have HL2 := Lib.hid hL
      have HY := Lib.hid hys
      have hbr1 := hbr.alloc hsr (.cells #[.slice A2 L c2] 22)
      have hsr1 := hbr1.size
      have hbr2 := hbr1.alloc hsr1 (.cells #[.slice A2 L c2] 22)
      have C2 := sum_any _ 1 1 [ys] _ (rws_one wr A2 L c2 ys hb2 (by omega)) (hT.ext (stays_below hbr1)) (by decide)
      have C3 := sum_any _ 1 1 [ys] _ (rws_one (wr.alloc (.cells #[.slice A2 L c2] 22)) A2 L c2 ys (hb2.ext (stays_alloc _ _)) (by omega)) (hT.ext (stays_below hbr2)) (by decide)
      rw [hys] at C2 C3
      simp only [World.size_alloc] at C3
      have HC2 := Lib.hid C2
      have HC3 := Lib.hid C3
      have HB2 := Lib.hid hbr2
      clear C C2 C3 hge hflat hflat2 hys hy hL hown hsm hrws hbr1 hbr2 hb2 hsr1
      go_wp2_with fail
      refine Calls.mono HC.out ?_
      rintro e w3 ⟨rfl, rfl⟩
      go_wp2_with fail
      refine Calls.mono HC2.out ?_
      rintro e w3 ⟨rfl, rfl⟩
      go_wp2_with fail
      refine Calls.mono HC3.out ?_
      rintro e w3 ⟨rfl, rfl⟩
      go_wp2_with fail
      go_ret
      exact ⟨rfl, HB2.out⟩
end Go.Proofs.YtfajalhpenincaaDoor
