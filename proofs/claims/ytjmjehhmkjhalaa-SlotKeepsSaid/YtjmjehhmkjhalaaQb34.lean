/- SlGoodR, SlCnt: put together. -/
import Derived.Test.YtjmjehhmkjhalaaQb30
import Derived.Test.YtjmjehhmkjhalaaQb33
import Derived.Test.YtjmjehhmkjhalaaQb09
/- The document's Good of a manifest. Written by gen_slgood.py. -/
namespace Go.Proofs.Ytjmjehhmkjhalaa
set_option maxRecDepth 100000
open Go.RowKit

theorem any_first {l : List Int} (k : Nat) (hk : k < l.length) (hp : badH l[k] = true) : l.any badH = true := List.any_eq_true.2 ⟨_, List.getElem_mem hk, hp⟩
theorem any_none {l : List Int} (h : ∀ j (hj : j < l.length), badH l[j] = false) : l.any badH = false := by
  rw [List.any_eq_false]
  intro x hx
  obtain ⟨i, hi, rfl⟩ := List.getElem_of_mem hx
  rw [h i hi]; decide
set_option maxHeartbeats 8000000 in
theorem rfgood_any (m : Mf) (A : Option Addr) (c : Nat) (w : World) (h : Zs w A m.heads) (hn : m.heads.length ≤ 9223372036854775807) :
    Calls Try.prog 51 #[.agg (mfC m A c)] w fun e w' => e = .returned (.bool (goodB m)) ∧ Below w.heap.size w w' := by
  obtain ⟨g, e, b, a, l, hs⟩ := m
  dsimp only at h hn
  have HH := Lib.hid h
  obtain ⟨G, hG⟩ : ∃ G, G = goodB ⟨g, e, b, a, l, hs⟩ := ⟨_, rfl⟩
  have k0 : goodB ⟨g, e, b, a, l, hs⟩ = G := hG.symm
  unfold goodB at hG
  dsimp only at hG
  unfold mfC
  dsimp only
  obtain ⟨q, hq⟩ : ∃ q, q = hs.any badH := ⟨_, rfl⟩
  rw [← hq] at hG
  have HQ := Lib.hid hq
  obtain ⟨n, hnn⟩ : ∃ n, n = hs.length := ⟨_, rfl⟩
  rw [← hnn] at hG hn ⊢
  have HL := Lib.hid hnn
  have HM := Lib.hid ((Below.refl w.heap.size w).alloc (Nat.le_refl _) (.cells #[.int .i64 g, .int .i64 e, .int .i64 b, .int .i64 a, .int .i64 l, .slice A n c] 91))
  have HG := Lib.hid hG
  have k1 := Lib.hid k0
  clear hG hq hnn h k0
  rw [k1.out]
  clear k1
  by_cases h0 : 1 ≤ g
  case neg =>
    have d0 : decide (g < 1) = true := decide_eq_true (by omega)
    have HE : Hid (decide (1 ≤ g) = false) := Lib.hid (decide_eq_false h0)
    go_enter Try.func51, Try.ntmps51
    go_wp2_with fail
    go_ret
    exact ⟨by rw [HG.out, HE.out]; simp, HM.out⟩
  have d0 : decide (g < 1) = false := decide_eq_false (by omega)
  have E0 := Lib.hid (decide_eq_true h0)
  by_cases h1 : g ≤ 17179869183
  case neg =>
    have d1 : decide (17179869183 < g) = true := decide_eq_true (by omega)
    have HE : Hid (decide (g ≤ 17179869183) = false) := Lib.hid (decide_eq_false h1)
    go_enter Try.func51, Try.ntmps51
    go_wp2_with fail
    go_ret
    exact ⟨by rw [HG.out, HE.out]; simp, HM.out⟩
  have d1 : decide (17179869183 < g) = false := decide_eq_false (by omega)
  have E1 := Lib.hid (decide_eq_true h1)
  by_cases h2 : 1 ≤ e
  case neg =>
    have d2 : decide (e < 1) = true := decide_eq_true (by omega)
    have HE : Hid (decide (1 ≤ e) = false) := Lib.hid (decide_eq_false h2)
    go_enter Try.func51, Try.ntmps51
    go_wp2_with fail
    go_ret
    exact ⟨by rw [HG.out, HE.out]; simp, HM.out⟩
  have d2 : decide (e < 1) = false := decide_eq_false (by omega)
  have E2 := Lib.hid (decide_eq_true h2)
  by_cases h3 : e ≤ 65535
  case neg =>
    have d3 : decide (65535 < e) = true := decide_eq_true (by omega)
    have HE : Hid (decide (e ≤ 65535) = false) := Lib.hid (decide_eq_false h3)
    go_enter Try.func51, Try.ntmps51
    go_wp2_with fail
    go_ret
    exact ⟨by rw [HG.out, HE.out]; simp, HM.out⟩
  have d3 : decide (65535 < e) = false := decide_eq_false (by omega)
  have E3 := Lib.hid (decide_eq_true h3)
  by_cases h4 : 0 ≤ b
  case neg =>
    have d4 : decide (b < 0) = true := decide_eq_true (by omega)
    have HE : Hid (decide (0 ≤ b) = false) := Lib.hid (decide_eq_false h4)
    go_enter Try.func51, Try.ntmps51
    go_wp2_with fail
    go_ret
    exact ⟨by rw [HG.out, HE.out]; simp, HM.out⟩
  have d4 : decide (b < 0) = false := decide_eq_false (by omega)
  have E4 := Lib.hid (decide_eq_true h4)
  by_cases h5 : b ≤ 281474976710655
  case neg =>
    have d5 : decide (281474976710655 < b) = true := decide_eq_true (by omega)
    have HE : Hid (decide (b ≤ 281474976710655) = false) := Lib.hid (decide_eq_false h5)
    go_enter Try.func51, Try.ntmps51
    go_wp2_with fail
    go_ret
    exact ⟨by rw [HG.out, HE.out]; simp, HM.out⟩
  have d5 : decide (281474976710655 < b) = false := decide_eq_false (by omega)
  have E5 := Lib.hid (decide_eq_true h5)
  by_cases h6 : 0 ≤ a
  case neg =>
    have d6 : decide (a < 0) = true := decide_eq_true (by omega)
    have HE : Hid (decide (0 ≤ a) = false) := Lib.hid (decide_eq_false h6)
    go_enter Try.func51, Try.ntmps51
    go_wp2_with fail
    go_ret
    exact ⟨by rw [HG.out, HE.out]; simp, HM.out⟩
  have d6 : decide (a < 0) = false := decide_eq_false (by omega)
  have E6 := Lib.hid (decide_eq_true h6)
  by_cases h7 : a ≤ 1
  case neg =>
    have d7 : decide (1 < a) = true := decide_eq_true (by omega)
    have HE : Hid (decide (a ≤ 1) = false) := Lib.hid (decide_eq_false h7)
    go_enter Try.func51, Try.ntmps51
    go_wp2_with fail
    go_ret
    exact ⟨by rw [HG.out, HE.out]; simp, HM.out⟩
  have d7 : decide (1 < a) = false := decide_eq_false (by omega)
  have E7 := Lib.hid (decide_eq_true h7)
  by_cases h8 : 0 ≤ l
  case neg =>
    have d8 : decide (l < 0) = true := decide_eq_true (by omega)
    have HE : Hid (decide (0 ≤ l) = false) := Lib.hid (decide_eq_false h8)
    go_enter Try.func51, Try.ntmps51
    go_wp2_with fail
    go_ret
    exact ⟨by rw [HG.out, HE.out]; simp, HM.out⟩
  have d8 : decide (l < 0) = false := decide_eq_false (by omega)
  have E8 := Lib.hid (decide_eq_true h8)
  by_cases h9 : l ≤ 1048576
  case neg =>
    have d9 : decide (1048576 < l) = true := decide_eq_true (by omega)
    have HE : Hid (decide (l ≤ 1048576) = false) := Lib.hid (decide_eq_false h9)
    go_enter Try.func51, Try.ntmps51
    go_wp2_with fail
    go_ret
    exact ⟨by rw [HG.out, HE.out]; simp, HM.out⟩
  have d9 : decide (1048576 < l) = false := decide_eq_false (by omega)
  have E9 := Lib.hid (decide_eq_true h9)
  by_cases h10 : 1 ≤ n
  case neg =>
    have d10 : decide ((n : Int) < 1) = true := decide_eq_true (by omega)
    have HE : Hid (decide (1 ≤ n) = false) := Lib.hid (decide_eq_false h10)
    go_enter Try.func51, Try.ntmps51
    go_wp2_with fail
    go_ret
    exact ⟨by rw [HG.out, HE.out]; simp, HM.out⟩
  have d10 : decide ((n : Int) < 1) = false := decide_eq_false (by omega)
  have E10 := Lib.hid (decide_eq_true h10)
  by_cases h11 : n ≤ 4
  case neg =>
    have d11 : decide (4 < (n : Int)) = true := decide_eq_true (by omega)
    have HE : Hid (decide (n ≤ 4) = false) := Lib.hid (decide_eq_false h11)
    go_enter Try.func51, Try.ntmps51
    go_wp2_with fail
    go_ret
    exact ⟨by rw [HG.out, HE.out]; simp, HM.out⟩
  have d11 : decide (4 < (n : Int)) = false := decide_eq_false (by omega)
  have E11 := Lib.hid (decide_eq_true h11)
  have hn4 : n ≤ 4 := h11
  clear h0 h1 h2 h3 h4 h5 h6 h7 h8 h9 h10 h11
  have HGQ : Hid (G = !q) := Lib.hid (by rw [HG.out, E0.out, E1.out, E2.out, E3.out, E4.out, E5.out, E6.out, E7.out, E8.out, E9.out, E10.out, E11.out]; simp)
  go_enter Try.func51, Try.ntmps51
  go_wp2_with fail
  obtain ⟨w1, hw1⟩ : ∃ w1, w1 = w.alloc (.cells #[.int .i64 g, .int .i64 e, .int .i64 b, .int .i64 a, .int .i64 l, .slice A n c] 91) := ⟨_, rfl⟩
  obtain ⟨p, hp⟩ : ∃ p, p = w.heap.size := ⟨_, rfl⟩
  have hg1 : w1.heap[p]? = some (.cells #[.int .i64 g, .int .i64 e, .int .i64 b, .int .i64 a, .int .i64 l, .slice A n c] 91 (0, 0)) := by rw [hw1, hp]; exact heap_alloc_new w _
  have HG1 := Lib.hid hg1
  rw [← hw1, ← hp]
  rw [← hw1] at HM
  clear hw1 hp hg1 d0 d1 d2 d3 d4 d5 d6 d7 d8 d9 d10 d11
  go_loopw [3] (fun i wr => ∃ q : Nat, i = .int .i64 (q : Int) ∧ q ≤ n ∧ Hid (∀ j (hj : j < hs.length), j < q → badH hs[j] = false) ∧ Below w1.heap.size w1 wr) (fun i _ => n - (intOf i).toNat)
  case atStart => exact ⟨0, rfl, by omega, Lib.hid fun j _ h => by omega, Below.refl _ _⟩
  case round =>
    obtain ⟨k, rfl, hk, hno, hbr⟩ := hrel
    have HBR := Lib.hid hbr
    have k5 := (cell_of_row _ _ 5 _ _ (0, 0) ((hbr.block p (Array.getElem?_eq_some_iff.1 HG1.out).1).trans HG1.out)).trans rfl
    by_cases hlt : k < n
    · have hql : k < hs.length := by rw [← HL.out]; exact hlt
      obtain ⟨b9, o9, rfl, hc⟩ := zs_cells (RowAt.below HH.out (HM.out.trans (hbr.mono HM.out.size))) (by omega)
      have hcq := hc k hql
      obtain ⟨x, hx⟩ : ∃ x, x = hs[k] := ⟨_, rfl⟩
      rw [← hx] at hcq
      have HXQ := Lib.hid hx
      clear hc hx hbr
      by_cases h1 : x < 0
      · have d1 : decide (x < 0) = true := decide_eq_true h1
        have HB := Lib.hid (any_first k hql (by rw [← HXQ.out]; unfold badH; rw [d1]; rfl))
        clear h1
        go_wp2_with fail
        go_ret
        exact ⟨by rw [HGQ.out, HQ.out, HB.out]; rfl, HM.out.trans (HBR.out.mono HM.out.size)⟩
      · have d1 : decide (x < 0) = false := decide_eq_false h1
        by_cases h2 : 4294967294 < x
        · have d2 : decide (4294967294 < x) = true := decide_eq_true h2
          have HB := Lib.hid (any_first k hql (by rw [← HXQ.out]; unfold badH; rw [d1, d2]; rfl))
          clear h1 h2
          go_wp2_with fail
          go_ret
          exact ⟨by rw [HGQ.out, HQ.out, HB.out]; rfl, HM.out.trans (HBR.out.mono HM.out.size)⟩
        · have d2 : decide (4294967294 < x) = false := decide_eq_false h2
          have HB := Lib.hid (show badH x = false by unfold badH; rw [d1, d2]; rfl)
          clear h1 h2
          go_wp2_with fail
          go_roundw
          case rel =>
            refine ⟨k + 1, by go_num, by omega, Lib.hid fun j hj hjq => ?_, HBR.out⟩
            rcases Nat.lt_or_ge j k with h3 | h3
            · exact hno.out j hj h3
            · obtain rfl : j = k := by omega
              rw [← HXQ.out]; exact HB.out
          case measure => simp [intOf]; omega
    · have hkn : k = n := by omega
      have HB := Lib.hid (any_none fun j hj => hno.out j hj (by have := HL.out; omega))
      have dk : decide (k < n) = false := decide_eq_false hlt
      clear hbr hlt hkn
      go_wp2_with fail
      go_ret
      exact ⟨by rw [HGQ.out, HQ.out, HB.out]; rfl, HM.out.trans (HBR.out.mono HM.out.size)⟩
end Go.Proofs.Ytjmjehhmkjhalaa

/- The document's count; the same numbers, the same manifests. -/
namespace Go.Proofs.Ytjmjehhmkjhalaa
set_option maxRecDepth 100000
open Go.RowKit

set_option maxHeartbeats 400000 in
theorem count15_any (B g : Nat) (bs : List Nat) (bad : Bool) (w : World) (h : Rfx w B g bs bad) :
    Calls Try.prog 124 #[.pointer (some ⟨g, 0, none⟩)] w fun e w' => e = .returned (.int .i64 (c50 (rcount bs).1)) ∧ Rfx w' B g (rcount bs).2.1 (rcount bs).2.2 ∧ OnlyG w w' g := by
  have HC := Lib.hid (mcount_any B g bs bad w h)
  have hlt := rc_lt h.small
  obtain ⟨x, hx⟩ : ∃ x, x = (rcount bs).1 := ⟨_, rfl⟩
  rw [← hx] at HC hlt ⊢
  have HR := Lib.hid (show c50 x = if 1125899906842624 < x then -1 else (x : Int) from rfl)
  obtain ⟨r, hr⟩ : ∃ r, r = c50 x := ⟨_, rfl⟩
  rw [← hr] at HR ⊢
  clear hx hr h
  by_cases h1 : 1125899906842624 < x
  · have hr1 : r = -1 := by rw [HR.out, if_pos h1]
    subst hr1
    have d1 : decide (1125899906842624 < (x : Int)) = true := decide_eq_true (by omega)
    clear HR
    go_enter Try.func124, Try.ntmps124
    go_wp2_with fail
    refine Calls.mono HC.out ?_
    rintro e w1 ⟨rfl, h2, h3⟩
    have H2 := Lib.hid h2
    have H3 := Lib.hid h3
    clear h2 h3
    go_wp2_with fail
    go_ret
    exact ⟨rfl, H2.out, H3.out⟩
  · have hr1 : r = (x : Int) := by rw [HR.out, if_neg h1]
    subst hr1
    have d1 : decide (1125899906842624 < (x : Int)) = false := decide_eq_false (by omega)
    have e1 : IntKind.i64.wrap (x : Int) = (x : Int) := IntWalk.i64_in _ (by omega)
    clear HR
    go_enter Try.func124, Try.ntmps124
    go_wp2_with fail
    refine Calls.mono HC.out ?_
    rintro e w1 ⟨rfl, h2, h3⟩
    have H2 := Lib.hid h2
    have H3 := Lib.hid h3
    clear h2 h3
    go_wp2_with fail
    go_ret
    exact ⟨rfl, H2.out, H3.out⟩
set_option maxHeartbeats 1000000 in
theorem ints_same (A A2 : Option Addr) (c c2 : Nat) (l : List Int) (w : World) (h : Zs w A l) (h2 : Zs w A2 l) (hn : l.length ≤ 9223372036854775807) :
    Calls Try.prog 117 #[.slice A l.length c, .slice A2 l.length c2] w fun e w' => e = .returned (.bool true) ∧ Below w.heap.size w w' := by
  have HH := Lib.hid h
  have HI := Lib.hid h2
  obtain ⟨n, hnn⟩ : ∃ n, n = l.length := ⟨_, rfl⟩
  rw [← hnn] at hn ⊢
  have HL := Lib.hid hnn
  clear h h2 hnn
  go_enter Try.func117, Try.ntmps117
  go_wp2_with fail
  go_loopw [5, 13] (fun _ i wr => ∃ q : Nat, i = .int .i64 (q : Int) ∧ q ≤ n ∧ Below w.heap.size w wr) (fun _ i _ => n - (intOf i).toNat)
  case atStart => exact ⟨0, rfl, by omega, Below.refl _ _⟩
  case round =>
    obtain ⟨q, rfl, hq, hbr⟩ := hrel
    have HBR := Lib.hid hbr
    by_cases hlt : q < n
    · have hql : q < l.length := by rw [← HL.out]; exact hlt
      obtain ⟨b, off, rfl, hc⟩ := zs_cells (RowAt.below HH.out hbr) (by omega)
      obtain ⟨b2, off2, rfl, hc2⟩ := zs_cells (RowAt.below HI.out hbr) (by omega)
      have c0 := hc q hql
      have d0 := hc2 q hql
      obtain ⟨k, hk⟩ : ∃ k, k = l[q] := ⟨_, rfl⟩
      rw [← hk] at c0 d0
      have hne : (k != k) = false := by simp
      clear hc hc2 hk hbr
      go_wp2_with fail
      go_quiet (fail)
      go_wp2_with fail
      go_roundw
      case rel => exact ⟨q + 1, by go_num, by omega, below_drewN' HBR.out _⟩
      case measure => simp [intOf]; omega
    · obtain rfl : n = q := by omega
      clear hbr
      go_wp2_with fail
      go_ret
      exact ⟨rfl, HBR.out⟩
set_option maxHeartbeats 2000000 in
/-- The same manifests. -/
theorem same15_any (m : Mf) (A A2 : Option Addr) (c c2 : Nat) (w : World) (h : Zs w A m.heads) (h2 : Zs w A2 m.heads) (hn : m.heads.length ≤ 9223372036854775807) :
    Calls Try.prog 53 #[.agg (mfC m A c), .agg (mfC m A2 c2)] w fun e w' => e = .returned (.bool true) ∧ Below w.heap.size w w' := by
  obtain ⟨g, e, b, a, l, hs⟩ := m
  dsimp only at h h2 hn
  have HI := Lib.hid (fun W (hb : Below w.heap.size w W) => ints_same A A2 c c2 hs W (RowAt.below h hb) (RowAt.below h2 hb) hn)
  unfold mfC
  dsimp only
  obtain ⟨n, hnn⟩ : ∃ n, n = hs.length := ⟨_, rfl⟩
  rw [← hnn] at HI ⊢
  have q0 : (g == g) = true := by simp
  have q1 : (e == e) = true := by simp
  have q2 : (b == b) = true := by simp
  have q3 : (a == a) = true := by simp
  have q4 : (l == l) = true := by simp
  have HB := Lib.hid (((Below.refl w.heap.size w).alloc (Nat.le_refl _) (.cells #[.int .i64 g, .int .i64 e, .int .i64 b, .int .i64 a, .int .i64 l, .slice A n c] 93)).alloc (by simp) (.cells #[.int .i64 g, .int .i64 e, .int .i64 b, .int .i64 a, .int .i64 l, .slice A2 n c2] 91))
  clear h h2 hn hnn
  go_enter Try.func53, Try.ntmps53
  go_wp2_with fail
  refine Calls.mono (HI.out _ HB.out) ?_
  rintro e w1 ⟨rfl, hb1⟩
  have HB1 := Lib.hid (HB.out.trans (hb1.mono HB.out.size))
  clear hb1
  go_wp2_with fail
  go_ret
  exact ⟨rfl, HB1.out⟩
/-- A manifest that is none. -/
def mf0 : Mf := ⟨0, 0, 0, 0, 0, []⟩
theorem mf0C : mfC mf0 none 0 = zeroC := rfl
theorem zs_nil (w : World) (A : Option Addr) : Zs w A [] := ⟨rfl, by simp [rowV], fun h => absurd h (by decide)⟩
end Go.Proofs.Ytjmjehhmkjhalaa
