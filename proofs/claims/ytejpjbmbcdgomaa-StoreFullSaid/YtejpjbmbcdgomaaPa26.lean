/- TWalkR: put together. -/
import Derived.Test.YtejpjbmbcdgomaaPa25
/- A walk shows a range. -/
namespace Go.Proofs.Ytejpjbmbcdgomaa
set_option maxRecDepth 100000
open Go.RowKit

set_option maxHeartbeats 8000000 in
theorem walk_leaf_r {w0 : World} {cb : Nat} {Q : List Ix → World → Prop} (S : Shows 87 cb w0 Q) {w : World} {m : MT (0)} (h : Tu w0 (0) m) (lo hi : Int) (acc : List Ix) (hq : Q acc w) (hb : acc.length + (walkT lo hi (0) (trOf (0) m)).length ≤ 100000) :
    Calls Try.prog 86 #[.pointer (some ⟨(root 0 m).p, 0, none⟩), .int .i64 lo, .int .i64 hi, .func (.func 87) #[] #[.pointer (some ⟨cb, 0, none⟩)]] w fun e w' => e = .returned (.tuple #[]) ∧ Q (acc ++ walkT lo hi (0) (trOf (0) m)) w' := by
  have hT0 := h.below (S.below _ _ hq)
  have HF := Lib.hid (find_any hT0.top hT0.upis (by have := hT0.few; omega) lo)
  have hpl := place_le (root (0) m).is lo
  obtain ⟨i, hi2⟩ : ∃ i, i = place (root (0) m).is lo := ⟨_, rfl⟩
  obtain ⟨fb, hfb⟩ : ∃ fb, fb = foundB (root (0) m).is lo := ⟨_, rfl⟩
  obtain ⟨n, hn⟩ : ∃ n, n = (root (0) m).is.length := ⟨_, rfl⟩
  obtain ⟨p, hp⟩ : ∃ p, p = (root (0) m).p := ⟨_, rfl⟩
  have hfew := h.few
  rw [← hfb, ← hi2, ← hp] at HF
  rw [← hi2, ← hn] at hpl
  rw [← hn] at hfew
  obtain ⟨RES, hres⟩ : ∃ RES, acc ++ walkT lo hi (0) (trOf (0) m) = RES := ⟨_, rfl⟩
  have hrs : acc ++ ((root 0 m).is.drop i).takeWhile (fun y => decide (y.k ≤ hi)) = RES := by rw [hi2]; exact hres
  rw [hres]
  change Calls Try.prog _ #[.pointer (some ⟨(root (0) m).p, 0, none⟩), _, _, _] _ _
  rw [← hp]
  have HB := Lib.hid (show RES.length ≤ 100000 from by rw [← hres, List.length_append]; exact hb)
  have HRS := Lib.hid hrs
  have H := Lib.hid h
  have HN := Lib.hid (show n = (root (0) m).is.length ∧ (root (0) m).p = p ∧ True from ⟨hn, hp.symm, trivial⟩)
  have HQ0 := Lib.hid hq
  clear h hT0 hi2 hfb hn hp hres hrs hq hb
  go_enter Try.func86, Try.ntmps86
  go_wp2_with fail
  refine Calls.mono HF.out ?_
  rintro e w1 ⟨rfl, hb1⟩
  have HQ1 := Lib.hid (S.later _ _ _ HQ0.out hb1)
  clear hb1 HF HQ0
  go_wp2_with fail
  go_loopg [8, 16, 17, 18, 19, 20, 21, 22, 23, 24, 25, 26, 27, 28, 29, 30, 31, 32, 33, 34, 35, 36, 37, 38, 39, 40, 41, 42, 43, 44, 45, 46, 47, 48, 49, 50, 51, 52, 53, 54, 55, 56, 57, 58, 59, 60, 61, 62, 63, 64, 65, 66] (n - i) (fun k ix _ _ _ _ _ _ _ _ _ _ _ _ _ _ _ _ _ _ _ _ _ _ _ _ _ _ _ _ _ _ _ _ _ _ _ _ _ _ _ _ _ _ _ _ _ _ _ _ _ _ _ wr => ∃ (z : Nat) (acc2 : List Ix), ix = .int .i64 (z : Int) ∧ z + k = n ∧ acc2 ++ ((root 0 m).is.drop z).takeWhile (fun y => decide (y.k ≤ hi)) = RES ∧ Q acc2 wr)
  case atStart => exact ⟨i, acc, rfl, by omega, HRS.out, HQ1.out⟩
  case round =>
    obtain ⟨z, acc2, rfl, hz, he, hq⟩ := hrel
    have HQ := Lib.hid hq
    have HE := Lib.hid he
    have hzn0 : z ≤ n := by omega
    have hz0 : (z : Int) ≤ (n : Int) := by omega
    clear hq he
    have hT := H.out.below (S.below _ _ HQ.out)
    have HLE := Lib.hid (leaf_any hT.top)
    rw [hT.leafb, show decide (0 = 0) = true from rfl] at HLE
    rw [HN.out.2.1] at HLE
    obtain ⟨A0, cc0, e0, _⟩ := hT.top.items
    have c0 := hT.top.c0
    rw [e0] at c0
    rw [HN.out.2.1, ← HN.out.1] at c0
    clear e0 hT
    go_wp2_with fail
    refine Calls.mono HLE.out ?_
    rintro e w3 ⟨rfl, rfl⟩
    clear HLE c0
    have hT := H.out.below (S.below _ _ HQ.out)

    by_cases hzn : z = n
    · subst hzn
      obtain ⟨A0, cc0, e0, _⟩ := hT.top.items
      have c0 := hT.top.c0
      rw [e0] at c0
      rw [HN.out.2.1, ← HN.out.1] at c0
      clear e0 hT
      go_wp2_with fail
      refine bodyPost_ret (v := .tuple #[]) (by simp [results, Try.results86, go_sem]) rfl ⟨rfl, ?_⟩
      have h9 := HE.out
      rw [lastL _ (by have := HN.out.1; omega), List.append_nil] at h9
      rw [← h9]
      exact HQ.out
    · have hlt : z < (root 0 m).is.length := by have := HN.out.1; omega
      obtain ⟨x, hx⟩ : ∃ x, (root 0 m).is[z]? = some x := ⟨_, List.getElem?_eq_getElem hlt⟩
      obtain ⟨gn, cn, env, f3, hnl, hn0, x0, x1, x2, x3, _⟩ := hT.top.it hx
      rw [HN.out.2.1, ← HN.out.1] at hn0
      have f4 : (z : Int) < (n : Int) := by omega
      have f5 : z < n := by omega
      have e4 : ((z : Int) == (n : Int)) = false := by rw [beq_eq_false_iff_ne]; omega
      have HXX := Lib.hid hx
      clear env f3 hx hT
      by_cases hgt : hi < x.k
      · have d9 : decide (hi < x.k) = true := decide_eq_true hgt
        have HGT := Lib.hid hgt
        clear hgt
        go_wp2_with fail
        refine bodyPost_ret (v := .tuple #[]) (by simp [results, Try.results86, go_sem]) rfl ⟨rfl, ?_⟩
        have h9 := HE.out
        rw [stopL _ HXX.out HGT.out, List.append_nil] at h9
        rw [← h9]
        exact HQ.out
      · have d9 : decide (hi < x.k) = false := decide_eq_false hgt
        have HGT := Lib.hid hgt
        have HSH := Lib.hid (S.shows _ _ x HQ.out (by
          have := HB.out
          rw [← HE.out] at this
          simp only [List.length_append] at this ⊢
          rw [goL _ HXX.out (by have := HGT.out; omega)] at this
          simp only [List.length_cons] at this
          omega))
        clear hgt
        go_wp2_with fail
        refine Calls.mono HSH.out ?_
        rintro e w4 ⟨rfl, hq4⟩
        have HQ4 := Lib.hid hq4
        clear hq4 HSH
        go_wp2_with fail
        go_roundg (gk - 1)
        case measure => omega
        case rel =>
          refine ⟨z + 1, acc2 ++ [x], by go_num, by omega, ?_, HQ4.out⟩
          have h9 := HE.out
          rw [goL _ HXX.out (by have := HGT.out; omega)] at h9
          rw [← h9]
          simp
set_option maxHeartbeats 8000000 in
theorem walk_kids_r {w0 : World} {cb : Nat} {Q : List Ix → World → Prop} (S : Shows 87 cb w0 Q) {w : World} {d : Nat} {m : MT (d + 1)} (h : Tu w0 (d + 1) m) (lo hi : Int) (acc : List Ix) (hq : Q acc w) (hb : acc.length + (walkT lo hi (d + 1) (trOf (d + 1) m)).length ≤ 100000)
    (IH : ∀ c ∈ m.2, ∀ (acc : List Ix) (w : World), Q acc w → acc.length + (walkT lo hi d (trOf d c)).length ≤ 100000 → Calls Try.prog 86 #[.pointer (some ⟨(root d c).p, 0, none⟩), .int .i64 lo, .int .i64 hi, .func (.func 87) #[] #[.pointer (some ⟨cb, 0, none⟩)]] w fun e w' => e = .returned (.tuple #[]) ∧ Q (acc ++ walkT lo hi d (trOf d c)) w') :
    Calls Try.prog 86 #[.pointer (some ⟨m.1.p, 0, none⟩), .int .i64 lo, .int .i64 hi, .func (.func 87) #[] #[.pointer (some ⟨cb, 0, none⟩)]] w fun e w' => e = .returned (.tuple #[]) ∧ Q (acc ++ walkT lo hi (d + 1) (trOf (d + 1) m)) w' := by
  have hT0 := h.below (S.below _ _ hq)
  have HF := Lib.hid (find_any hT0.top hT0.upis (by have := hT0.few; omega) lo)
  have hpl := place_le (root (d + 1) m).is lo
  obtain ⟨i, hi2⟩ : ∃ i, i = place (root (d + 1) m).is lo := ⟨_, rfl⟩
  obtain ⟨fb, hfb⟩ : ∃ fb, fb = foundB (root (d + 1) m).is lo := ⟨_, rfl⟩
  obtain ⟨n, hn⟩ : ∃ n, n = (root (d + 1) m).is.length := ⟨_, rfl⟩
  obtain ⟨p, hp⟩ : ∃ p, p = (root (d + 1) m).p := ⟨_, rfl⟩
  have hfew := h.few
  rw [← hfb, ← hi2, ← hp] at HF
  rw [← hi2, ← hn] at hpl
  rw [← hn] at hfew
  obtain ⟨RES, hres⟩ : ∃ RES, acc ++ walkT lo hi (d + 1) (trOf (d + 1) m) = RES := ⟨_, rfl⟩
  have hrs : acc ++ walkN (walkT lo hi d) hi ((root (d + 1) m).is.drop i) ((m.2.map (trOf d)).drop i) = RES := by rw [hi2]; exact hres
  rw [hres]
  change Calls Try.prog _ #[.pointer (some ⟨(root (d + 1) m).p, 0, none⟩), _, _, _] _ _
  rw [← hp]
  have HB := Lib.hid (show RES.length ≤ 100000 from by rw [← hres, List.length_append]; exact hb)
  have HRS := Lib.hid hrs
  have H := Lib.hid h
  have HN := Lib.hid (show n = (root (d + 1) m).is.length ∧ (root (d + 1) m).p = p ∧ m.2.length = n + 1 from ⟨hn, hp.symm, by rw [h.len, hn]; rfl⟩)
  have HQ0 := Lib.hid hq
  clear h hT0 hi2 hfb hn hp hres hrs hq hb
  go_enter Try.func86, Try.ntmps86
  go_wp2_with fail
  refine Calls.mono HF.out ?_
  rintro e w1 ⟨rfl, hb1⟩
  have HQ1 := Lib.hid (S.later _ _ _ HQ0.out hb1)
  clear hb1 HF HQ0
  go_wp2_with fail
  go_loopg [8, 16, 17, 18, 19, 20, 21, 22, 23, 24, 25, 26, 27, 28, 29, 30, 31, 32, 33, 34, 35, 36, 37, 38, 39, 40, 41, 42, 43, 44, 45, 46, 47, 48, 49, 50, 51, 52, 53, 54, 55, 56, 57, 58, 59, 60, 61, 62, 63, 64, 65, 66] (n - i) (fun k ix _ _ _ _ _ _ _ _ _ _ _ _ _ _ _ _ _ _ _ _ _ _ _ _ _ _ _ _ _ _ _ _ _ _ _ _ _ _ _ _ _ _ _ _ _ _ _ _ _ _ _ wr => ∃ (z : Nat) (acc2 : List Ix), ix = .int .i64 (z : Int) ∧ z + k = n ∧ acc2 ++ walkN (walkT lo hi d) hi ((root (d + 1) m).is.drop z) ((m.2.map (trOf d)).drop z) = RES ∧ Q acc2 wr)
  case atStart => exact ⟨i, acc, rfl, by omega, HRS.out, HQ1.out⟩
  case round =>
    obtain ⟨z, acc2, rfl, hz, he, hq⟩ := hrel
    have HQ := Lib.hid hq
    have HE := Lib.hid he
    have hzn0 : z ≤ n := by omega
    have hz0 : (z : Int) ≤ (n : Int) := by omega
    clear hq he
    have hkc : z < m.2.length := by have := HN.out.2.2; omega
    obtain ⟨c, hc⟩ : ∃ c, m.2[z]? = some c := ⟨_, List.getElem?_eq_getElem hkc⟩
    have hT := H.out.below (S.below _ _ HQ.out)
    obtain ⟨gu', cu', A2', cc2', e1', l1', u1, u2, u3⟩ := (show NodeIn wr m.1 m.2 from hT.node).cell hc
    change wr.cell? ⟨(root (d + 1) m).p, 1, none⟩ = _ at u1
    rw [HN.out.2.1] at u1
    have hcm := List.mem_of_getElem? hc
    have HIC := Lib.hid (IH c hcm _ wr HQ.out (by
      obtain ⟨r, hr⟩ := preK (walkT lo hi d) hi (l := (root (d + 1) m).is.drop z) (bs := (m.2.map (trOf d)).drop z) (b := trOf d c) (by rw [List.getElem?_drop, List.getElem?_map, Nat.add_zero, hc]; rfl)
      have h9 := HE.out
      rw [hr] at h9
      have h10 := HB.out
      rw [← h9] at h10
      simp only [List.length_append] at h10
      omega))
    have HCC := Lib.hid hc
    have HLE := Lib.hid (leaf_any hT.top)
    rw [hT.leafb, show decide (d + 1 = 0) = false from rfl] at HLE
    rw [HN.out.2.1] at HLE
    obtain ⟨A0, cc0, e0, _⟩ := hT.top.items
    have c0 := hT.top.c0
    rw [e0] at c0
    rw [HN.out.2.1, ← HN.out.1] at c0
    clear hkc hc hT e1' u3 hcm e0
    go_wp2_with fail
    refine Calls.mono HLE.out ?_
    rintro e w3 ⟨rfl, rfl⟩
    clear HLE
    go_wp2_with fail
    refine Calls.mono HIC.out ?_
    rintro e w3 ⟨rfl, hq3⟩
    have HQ3 := Lib.hid hq3
    clear hq3 u1 u2 l1' c0 HIC
    have hT := H.out.below (S.below _ _ HQ3.out)

    by_cases hzn : z = n
    · subst hzn
      obtain ⟨A0, cc0, e0, _⟩ := hT.top.items
      have c0 := hT.top.c0
      rw [e0] at c0
      rw [HN.out.2.1, ← HN.out.1] at c0
      clear e0 hT
      go_wp2_with fail
      refine bodyPost_ret (v := .tuple #[]) (by simp [results, Try.results86, go_sem]) rfl ⟨rfl, ?_⟩
      have h9 := HE.out
      rw [lastK _ _ (by have := HN.out.1; exact Nat.le_of_eq this.symm) (by rw [List.getElem?_map, HCC.out]; rfl)] at h9
      rw [← h9]
      exact HQ3.out
    · have hlt : z < (root (d + 1) m).is.length := by have := HN.out.1; omega
      obtain ⟨x, hx⟩ : ∃ x, (root (d + 1) m).is[z]? = some x := ⟨_, List.getElem?_eq_getElem hlt⟩
      obtain ⟨gn, cn, env, f3, hnl, hn0, x0, x1, x2, x3, _⟩ := hT.top.it hx
      rw [HN.out.2.1, ← HN.out.1] at hn0
      have f4 : (z : Int) < (n : Int) := by omega
      have f5 : z < n := by omega
      have e4 : ((z : Int) == (n : Int)) = false := by rw [beq_eq_false_iff_ne]; omega
      have HXX := Lib.hid hx
      clear env f3 hx hT
      by_cases hgt : hi < x.k
      · have d9 : decide (hi < x.k) = true := decide_eq_true hgt
        have HGT := Lib.hid hgt
        clear hgt
        go_wp2_with fail
        refine bodyPost_ret (v := .tuple #[]) (by simp [results, Try.results86, go_sem]) rfl ⟨rfl, ?_⟩
        have h9 := HE.out
        rw [stopK _ _ HXX.out (by rw [List.getElem?_map, HCC.out]; rfl) HGT.out] at h9
        rw [← h9]
        exact HQ3.out
      · have d9 : decide (hi < x.k) = false := decide_eq_false hgt
        have HGT := Lib.hid hgt
        have HSH := Lib.hid (S.shows _ _ x HQ3.out (by
          have := HB.out
          rw [← HE.out] at this
          simp only [List.length_append] at this ⊢
          rw [goK _ _ HXX.out (by rw [List.getElem?_map, HCC.out]; rfl) (by have := HGT.out; omega)] at this
          simp only [List.length_append, List.length_cons] at this
          omega))
        clear hgt
        go_wp2_with fail
        refine Calls.mono HSH.out ?_
        rintro e w4 ⟨rfl, hq4⟩
        have HQ4 := Lib.hid hq4
        clear hq4 HSH
        go_wp2_with fail
        go_roundg (gk - 1)
        case measure => omega
        case rel =>
          refine ⟨z + 1, (acc2 ++ walkT lo hi d (trOf d c)) ++ [x], by go_num, by omega, ?_, HQ4.out⟩
          have h9 := HE.out
          rw [goK _ _ HXX.out (by rw [List.getElem?_map, HCC.out]; rfl) (by have := HGT.out; omega)] at h9
          rw [← h9]
          simp
theorem walk_any_r {cb : Nat} {w0 : World} {Q : List Ix → World → Prop} (S : Shows 87 cb w0 Q) (lo hi : Int) : ∀ (d : Nat) (m : MT d) (acc : List Ix) (w : World), Tu w0 d m → Q acc w → acc.length + (walkT lo hi d (trOf d m)).length ≤ 100000 →
    Calls Try.prog 86 #[.pointer (some ⟨(root d m).p, 0, none⟩), .int .i64 lo, .int .i64 hi, .func (.func 87) #[] #[.pointer (some ⟨cb, 0, none⟩)]] w fun e w' => e = .returned (.tuple #[]) ∧ Q (acc ++ walkT lo hi d (trOf d m)) w'
  | 0, _, acc, _, h, hq, hb => walk_leaf_r S h lo hi acc hq hb
  | d + 1, _, acc, _, h, hq, hb => walk_kids_r S h lo hi acc hq hb fun c hc acc2 w2 hq2 hb2 => walk_any_r S lo hi d c acc2 w2 (h.kid hc) hq2 hb2
end Go.Proofs.Ytejpjbmbcdgomaa
