/- The document's Keeps. -/
import Derived.Test.YtgdkgoiagjjccaaGSmall
namespace Go.Proofs.Ytgdkgoiagjjccaa
set_option maxRecDepth 100000
open Go.RowKit

/-- Whether an order keeps a list. -/
noncomputable def keepsB (ls : List (List Int)) (o : List Int) : Bool := @decide ((GoodL ls ∧ o.length = ls.length) ∧ KeepR ls o ls.length) (Classical.propDecidable _)
theorem keepsB_false {ls : List (List Int)} {o : List Int} (h : ¬ ((GoodL ls ∧ o.length = ls.length) ∧ KeepR ls o ls.length)) : keepsB ls o = false := by
  unfold keepsB
  exact @decide_eq_false _ (Classical.propDecidable _) h
theorem keepsB_true {ls : List (List Int)} {o : List Int} (h : (GoodL ls ∧ o.length = ls.length) ∧ KeepR ls o ls.length) : keepsB ls o = true := by
  unfold keepsB
  exact @decide_eq_true _ (Classical.propDecidable _) h
set_option maxHeartbeats 400000 in
theorem refkeeps_form (A : Option Addr) (n c : Nat) (A2 : Option Addr) (n2 c2 : Nat) (ls : List (List Int)) (w : World) (h : Rws w A n ls) (hbad : ¬ (GoodL ls ∧ n2 = n)) :
    Calls Try.prog 36 #[.slice A n c, .slice A2 n2 c2] w fun e w' => e = .returned (.bool false) ∧ w = w' := by
  have C := refgood_any A n c ls w h
  by_cases hg : GoodL ls
  · rw [decide_eq_true hg] at C
    have HC := Lib.hid C
    have hne : ((n2 : Int) != (n : Int)) = true := by
      have : n2 ≠ n := fun e => hbad ⟨hg, e⟩
      simp; omega
    clear C hbad h hg
    go_enter Try.func36, Try.ntmps36
    go_wp2_with fail
    refine Calls.mono HC.out ?_
    rintro e w' ⟨rfl, rfl⟩
    go_wp2_with fail
    go_ret
    exact ⟨rfl, rfl⟩
  · rw [decide_eq_false hg] at C
    have HC := Lib.hid C
    clear C hbad h hg
    go_enter Try.func36, Try.ntmps36
    go_wp2_with fail
    refine Calls.mono HC.out ?_
    rintro e w' ⟨rfl, rfl⟩
    go_wp2_with fail
    go_ret
    exact ⟨rfl, rfl⟩
set_option maxHeartbeats 2000000 in
theorem refkeeps_ok (A : Option Addr) (n c : Nat) (A2 : Option Addr) (c2 : Nat) (ls : List (List Int)) (o : List Int) (w : World) (h : Rws w A n ls) (ho : Nums w A2 n o) (hg : GoodL ls) :
    Calls Try.prog 36 #[.slice A n c, .slice A2 n c2] w fun e w' => e = .returned (.bool (keepsB ls o)) ∧ w = w' := by
  have C := refgood_any A n c ls w h
  rw [decide_eq_true hg] at C
  have HC := Lib.hid C
  have HH := Lib.hid h
  have hn := h.2.1
  have hl := h.1
  have hol := ho.1
  have HAT := Lib.hid (fun i => at_any A2 n c2 o i w ho hn)
  have HB1 := Lib.hid (show ∀ k : Nat, k < n → atL o (k : Int) < 0 → keepsB ls o = false from fun k hk h0 => keepsB_false fun hc => by
    have := (hc.2 k (by omega)).1
    omega)
  have HB2 := Lib.hid (show ∀ k : Nat, k < n → ∀ q, q < (ls.getD k []).length → atL o (k : Int) < atL o ((ls.getD k []).getD q 0) → keepsB ls o = false from fun k hk q hq h0 => keepsB_false fun hc => by
    have := (hc.2 k (by omega)).2 _ (getD_mem hq)
    omega)
  have HE := Lib.hid (show KeepR ls o n → keepsB ls o = true from fun h1 => keepsB_true ⟨⟨hg, by omega⟩, by rw [hl]; exact h1⟩)
  have HNX := Lib.hid (show ∀ k : Nat, KeepR ls o k → 0 ≤ atL o (k : Int) → (∀ q, q < (ls.getD k []).length → atL o ((ls.getD k []).getD q 0) ≤ atL o (k : Int)) → KeepR ls o (k + 1) from fun k h1 h2 h3 i hi => by
    rcases Nat.lt_succ_iff_lt_or_eq.1 hi with h4 | h4
    · exact h1 i h4
    · subst h4
      refine ⟨h2, fun j hj => ?_⟩
      obtain ⟨q, hq, he⟩ := List.getElem_of_mem hj
      have := h3 q hq
      rw [getD_of hq, he] at this
      exact this)
  obtain ⟨R, hR⟩ : ∃ R, R = keepsB ls o := ⟨_, rfl⟩
  rw [← hR] at HB1 HB2 HE ⊢
  clear C h ho hg hl hol hR
  go_enter Try.func36, Try.ntmps36
  go_wp2_with fail
  refine Calls.mono HC.out ?_
  rintro e w' ⟨rfl, rfl⟩
  clear HC
  go_wp2_with fail
  go_loop [5, 6, 7] (fun x _ _ => ∃ k : Nat, x = .int .i64 (k : Int) ∧ k ≤ n ∧ Hid (KeepR ls o k)) (fun x _ _ => n - (intOf x).toNat)
  case atStart => exact ⟨0, rfl, by omega, fun i hi => by omega⟩
  case round =>
    obtain ⟨k, rfl, hk, hkp⟩ := hrel
    by_cases hlt : k < n
    · obtain ⟨b, off, rfl, hc⟩ := HH.out.2.2 (by omega)
      obtain ⟨A', c', hc1, hnums, hm'⟩ := hc k hlt
      have HX1 := Lib.hid (HB1.out k hlt)
      have HX2 := Lib.hid (HB2.out k hlt)
      have HX3 := Lib.hid (HNX.out k hkp.out)
      obtain ⟨l, hl⟩ : ∃ l, l = ls.getD k [] := ⟨_, rfl⟩
      rw [← hl] at hc1 hnums hm' HX2 HX3
      have C1 := HAT.out (k : Int)
      obtain ⟨p, hp⟩ : ∃ p, p = atL o (k : Int) := ⟨_, rfl⟩
      rw [← hp] at C1 HX1 HX2 HX3
      have HC1 := Lib.hid C1
      have HN := Lib.hid hnums
      clear hc hl hnums C1 hp HB1 HB2 HE HNX
      go_wp2_with fail
      refine Calls.mono HC1.out ?_
      rintro e w' ⟨rfl, rfl⟩
      by_cases hp0 : p < 0
      · have HE := Lib.hid (HX1.out hp0)
        go_wp2_with fail
        go_ret
        exact ⟨by rw [HE.out]; rfl, rfl⟩
      · go_wp2_with fail
        go_loop [7] (fun x => ∃ q : Nat, x = .int .i64 (q : Int) ∧ q ≤ l.length ∧ Hid (∀ j, j < q → atL o (l.getD j 0) ≤ p)) (fun x => l.length - (intOf x).toNat)
        case atStart => exact ⟨0, rfl, by omega, fun i hi => by omega⟩
        case round =>
          obtain ⟨q, rfl, hq, hall⟩ := hrel
          by_cases hql : q < l.length
          · obtain ⟨b2, off2, rfl, hc2⟩ := HN.out.2.2 (by omega)
            have c2 := hc2 q hql
            have C2 := HAT.out (l.getD q 0)
            have HY2 := Lib.hid (HX2.out q hql)
            have HY3 := Lib.hid (show atL o (l.getD q 0) ≤ p → ∀ j, j < q + 1 → atL o (l.getD j 0) ≤ p from fun h1 j hj => by
              rcases Nat.lt_succ_iff_lt_or_eq.1 hj with h3 | h3
              · exact hall.out j h3
              · subst h3; exact h1)
            obtain ⟨y, hy⟩ : ∃ y, y = l.getD q 0 := ⟨_, rfl⟩
            rw [← hy] at c2 C2 HY2 HY3
            obtain ⟨z, hz⟩ : ∃ z, z = atL o y := ⟨_, rfl⟩
            rw [← hz] at C2 HY2 HY3
            have HC2 := Lib.hid C2
            clear hc2 C2 hy hz
            by_cases hzp : p < z
            · have HE := Lib.hid (HY2.out hzp)
              go_wp2_with fail
              refine Calls.mono HC2.out ?_
              rintro e w' ⟨rfl, rfl⟩
              go_wp2_with fail
              go_ret
              exact ⟨by rw [HE.out]; rfl, rfl⟩
            · go_wp2_with fail
              refine Calls.mono HC2.out ?_
              rintro e w' ⟨rfl, rfl⟩
              go_wp2_with fail
              go_round
              case rel => exact ⟨q + 1, by go_num, by omega, HY3.out (by omega)⟩
              case measure => simp [intOf]; omega
          · obtain rfl : q = l.length := by omega
            have HK1 := Lib.hid (HX3.out (by omega) hall.out)
            go_wp2_with fail
            go_round
            case rel => exact ⟨k + 1, by go_num, by omega, HK1.out⟩
            case measure => simp [intOf]; omega
    · obtain rfl : k = n := by omega
      have HE2 := Lib.hid (HE.out hkp.out)
      clear HE
      go_wp2_with fail
      go_ret
      exact ⟨by rw [HE2.out]; rfl, rfl⟩
end Go.Proofs.Ytgdkgoiagjjccaa
