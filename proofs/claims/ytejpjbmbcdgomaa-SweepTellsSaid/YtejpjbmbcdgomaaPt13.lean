/- TWalkR, TShowR, TTrR, TDropT: put together. -/
import Derived.Test.YtejpjbmbcdgomaaPt12
/- A walk shows a range. -/
namespace Go.Proofs.Ytejpjbmbcdgomaa
set_option maxRecDepth 100000
open Go.RowKit

set_option maxHeartbeats 8000000 in
theorem walk_leaf_r {w0 : World} {cb : Nat} {Q : List Ix → World → Prop} (S : Shows 87 cb w0 Q) {w : World} {m : MT (0)} (h : Tu w0 (0) m) (lo hi : Int) (acc : List Ix) (hq : Q acc w) (hb : acc.length + (walkT lo hi (0) (trOf (0) m)).length ≤ 100000) :
    Calls Try.prog 86 #[.pointer (some ⟨(root 0 m).p, 0, none⟩), .int .i64 lo, .int .i64 hi, .func (.func 87) #[] #[.pointer (some ⟨cb, 0, none⟩)]] w fun e w' => e = .returned (.tuple #[]) ∧ Q (acc ++ walkT lo hi (0) (trOf (0) m)) w' := by
  have hT0 := h.below (S.below _ _ hq)
  have HF := Lib.hid (find_any hT0.top hT0.upis (by have := hT0.few; omega) lo)
  have hpl := place_le (root (0) m).is lo
  obtain ⟨i, hi2⟩ : ∃ i, i = place (root (0) m).is lo := ⟨_, rfl⟩
  obtain ⟨fb, hfb⟩ : ∃ fb, fb = foundB (root (0) m).is lo := ⟨_, rfl⟩
  obtain ⟨n, hn⟩ : ∃ n, n = (root (0) m).is.length := ⟨_, rfl⟩
  obtain ⟨p, hp⟩ : ∃ p, p = (root (0) m).p := ⟨_, rfl⟩
  have hfew := h.few
  rw [← hfb, ← hi2, ← hp] at HF
  rw [← hi2, ← hn] at hpl
  rw [← hn] at hfew
  obtain ⟨RES, hres⟩ : ∃ RES, acc ++ walkT lo hi (0) (trOf (0) m) = RES := ⟨_, rfl⟩
  have hrs : acc ++ ((root 0 m).is.drop i).takeWhile (fun y => decide (y.k ≤ hi)) = RES := by rw [hi2]; exact hres
  rw [hres]
  change Calls Try.prog _ #[.pointer (some ⟨(root (0) m).p, 0, none⟩), _, _, _] _ _
  rw [← hp]
  have HB := Lib.hid (show RES.length ≤ 100000 from by rw [← hres, List.length_append]; exact hb)
  have HRS := Lib.hid hrs
  have H := Lib.hid h
  have HN := Lib.hid (show n = (root (0) m).is.length ∧ (root (0) m).p = p ∧ True from ⟨hn, hp.symm, trivial⟩)
  have HQ0 := Lib.hid hq
  clear h hT0 hi2 hfb hn hp hres hrs hq hb
  go_enter Try.func86, Try.ntmps86
  go_wp2_with fail
  refine Calls.mono HF.out ?_
  rintro e w1 ⟨rfl, hb1⟩
  have HQ1 := Lib.hid (S.later _ _ _ HQ0.out hb1)
  clear hb1 HF HQ0
  go_wp2_with fail
  go_loopg [8, 16, 17, 18, 19, 20, 21, 22, 23, 24, 25, 26, 27, 28, 29, 30, 31, 32, 33, 34, 35, 36, 37, 38, 39, 40, 41, 42, 43, 44, 45, 46, 47, 48, 49, 50, 51, 52, 53, 54, 55, 56, 57, 58, 59, 60, 61, 62, 63, 64, 65, 66] (n - i) (fun k ix _ _ _ _ _ _ _ _ _ _ _ _ _ _ _ _ _ _ _ _ _ _ _ _ _ _ _ _ _ _ _ _ _ _ _ _ _ _ _ _ _ _ _ _ _ _ _ _ _ _ _ wr => ∃ (z : Nat) (acc2 : List Ix), ix = .int .i64 (z : Int) ∧ z + k = n ∧ acc2 ++ ((root 0 m).is.drop z).takeWhile (fun y => decide (y.k ≤ hi)) = RES ∧ Q acc2 wr)
  case atStart => exact ⟨i, acc, rfl, by omega, HRS.out, HQ1.out⟩
  case round =>
    obtain ⟨z, acc2, rfl, hz, he, hq⟩ := hrel
    have HQ := Lib.hid hq
    have HE := Lib.hid he
    have hzn0 : z ≤ n := by omega
    have hz0 : (z : Int) ≤ (n : Int) := by omega
    clear hq he
    have hT := H.out.below (S.below _ _ HQ.out)
    have HLE := Lib.hid (leaf_any hT.top)
    rw [hT.leafb, show decide (0 = 0) = true from rfl] at HLE
    rw [HN.out.2.1] at HLE
    obtain ⟨A0, cc0, e0, _⟩ := hT.top.items
    have c0 := hT.top.c0
    rw [e0] at c0
    rw [HN.out.2.1, ← HN.out.1] at c0
    clear e0 hT
    go_wp2_with fail
    refine Calls.mono HLE.out ?_
    rintro e w3 ⟨rfl, rfl⟩
    clear HLE c0
    have hT := H.out.below (S.below _ _ HQ.out)

    by_cases hzn : z = n
    · subst hzn
      obtain ⟨A0, cc0, e0, _⟩ := hT.top.items
      have c0 := hT.top.c0
      rw [e0] at c0
      rw [HN.out.2.1, ← HN.out.1] at c0
      clear e0 hT
      go_wp2_with fail
      refine bodyPost_ret (v := .tuple #[]) (by simp [results, Try.results86, go_sem]) rfl ⟨rfl, ?_⟩
      have h9 := HE.out
      rw [lastL _ (by have := HN.out.1; omega), List.append_nil] at h9
      rw [← h9]
      exact HQ.out
    · have hlt : z < (root 0 m).is.length := by have := HN.out.1; omega
      obtain ⟨x, hx⟩ : ∃ x, (root 0 m).is[z]? = some x := ⟨_, List.getElem?_eq_getElem hlt⟩
      obtain ⟨gn, cn, env, f3, hnl, hn0, x0, x1, x2, x3, _⟩ := hT.top.it hx
      rw [HN.out.2.1, ← HN.out.1] at hn0
      have f4 : (z : Int) < (n : Int) := by omega
      have f5 : z < n := by omega
      have e4 : ((z : Int) == (n : Int)) = false := by rw [beq_eq_false_iff_ne]; omega
      have HXX := Lib.hid hx
      clear env f3 hx hT
      by_cases hgt : hi < x.k
      · have d9 : decide (hi < x.k) = true := decide_eq_true hgt
        have HGT := Lib.hid hgt
        clear hgt
        go_wp2_with fail
        refine bodyPost_ret (v := .tuple #[]) (by simp [results, Try.results86, go_sem]) rfl ⟨rfl, ?_⟩
        have h9 := HE.out
        rw [stopL _ HXX.out HGT.out, List.append_nil] at h9
        rw [← h9]
        exact HQ.out
      · have d9 : decide (hi < x.k) = false := decide_eq_false hgt
        have HGT := Lib.hid hgt
        have HSH := Lib.hid (S.shows _ _ x HQ.out (by
          have := HB.out
          rw [← HE.out] at this
          simp only [List.length_append] at this ⊢
          rw [goL _ HXX.out (by have := HGT.out; omega)] at this
          simp only [List.length_cons] at this
          omega))
        clear hgt
        go_wp2_with fail
        refine Calls.mono HSH.out ?_
        rintro e w4 ⟨rfl, hq4⟩
        have HQ4 := Lib.hid hq4
        clear hq4 HSH
        go_wp2_with fail
        go_roundg (gk - 1)
        case measure => omega
        case rel =>
          refine ⟨z + 1, acc2 ++ [x], by go_num, by omega, ?_, HQ4.out⟩
          have h9 := HE.out
          rw [goL _ HXX.out (by have := HGT.out; omega)] at h9
          rw [← h9]
          simp
set_option maxHeartbeats 8000000 in
theorem walk_kids_r {w0 : World} {cb : Nat} {Q : List Ix → World → Prop} (S : Shows 87 cb w0 Q) {w : World} {d : Nat} {m : MT (d + 1)} (h : Tu w0 (d + 1) m) (lo hi : Int) (acc : List Ix) (hq : Q acc w) (hb : acc.length + (walkT lo hi (d + 1) (trOf (d + 1) m)).length ≤ 100000)
    (IH : ∀ c ∈ m.2, ∀ (acc : List Ix) (w : World), Q acc w → acc.length + (walkT lo hi d (trOf d c)).length ≤ 100000 → Calls Try.prog 86 #[.pointer (some ⟨(root d c).p, 0, none⟩), .int .i64 lo, .int .i64 hi, .func (.func 87) #[] #[.pointer (some ⟨cb, 0, none⟩)]] w fun e w' => e = .returned (.tuple #[]) ∧ Q (acc ++ walkT lo hi d (trOf d c)) w') :
    Calls Try.prog 86 #[.pointer (some ⟨m.1.p, 0, none⟩), .int .i64 lo, .int .i64 hi, .func (.func 87) #[] #[.pointer (some ⟨cb, 0, none⟩)]] w fun e w' => e = .returned (.tuple #[]) ∧ Q (acc ++ walkT lo hi (d + 1) (trOf (d + 1) m)) w' := by
  have hT0 := h.below (S.below _ _ hq)
  have HF := Lib.hid (find_any hT0.top hT0.upis (by have := hT0.few; omega) lo)
  have hpl := place_le (root (d + 1) m).is lo
  obtain ⟨i, hi2⟩ : ∃ i, i = place (root (d + 1) m).is lo := ⟨_, rfl⟩
  obtain ⟨fb, hfb⟩ : ∃ fb, fb = foundB (root (d + 1) m).is lo := ⟨_, rfl⟩
  obtain ⟨n, hn⟩ : ∃ n, n = (root (d + 1) m).is.length := ⟨_, rfl⟩
  obtain ⟨p, hp⟩ : ∃ p, p = (root (d + 1) m).p := ⟨_, rfl⟩
  have hfew := h.few
  rw [← hfb, ← hi2, ← hp] at HF
  rw [← hi2, ← hn] at hpl
  rw [← hn] at hfew
  obtain ⟨RES, hres⟩ : ∃ RES, acc ++ walkT lo hi (d + 1) (trOf (d + 1) m) = RES := ⟨_, rfl⟩
  have hrs : acc ++ walkN (walkT lo hi d) hi ((root (d + 1) m).is.drop i) ((m.2.map (trOf d)).drop i) = RES := by rw [hi2]; exact hres
  rw [hres]
  change Calls Try.prog _ #[.pointer (some ⟨(root (d + 1) m).p, 0, none⟩), _, _, _] _ _
  rw [← hp]
  have HB := Lib.hid (show RES.length ≤ 100000 from by rw [← hres, List.length_append]; exact hb)
  have HRS := Lib.hid hrs
  have H := Lib.hid h
  have HN := Lib.hid (show n = (root (d + 1) m).is.length ∧ (root (d + 1) m).p = p ∧ m.2.length = n + 1 from ⟨hn, hp.symm, by rw [h.len, hn]; rfl⟩)
  have HQ0 := Lib.hid hq
  clear h hT0 hi2 hfb hn hp hres hrs hq hb
  go_enter Try.func86, Try.ntmps86
  go_wp2_with fail
  refine Calls.mono HF.out ?_
  rintro e w1 ⟨rfl, hb1⟩
  have HQ1 := Lib.hid (S.later _ _ _ HQ0.out hb1)
  clear hb1 HF HQ0
  go_wp2_with fail
  go_loopg [8, 16, 17, 18, 19, 20, 21, 22, 23, 24, 25, 26, 27, 28, 29, 30, 31, 32, 33, 34, 35, 36, 37, 38, 39, 40, 41, 42, 43, 44, 45, 46, 47, 48, 49, 50, 51, 52, 53, 54, 55, 56, 57, 58, 59, 60, 61, 62, 63, 64, 65, 66] (n - i) (fun k ix _ _ _ _ _ _ _ _ _ _ _ _ _ _ _ _ _ _ _ _ _ _ _ _ _ _ _ _ _ _ _ _ _ _ _ _ _ _ _ _ _ _ _ _ _ _ _ _ _ _ _ wr => ∃ (z : Nat) (acc2 : List Ix), ix = .int .i64 (z : Int) ∧ z + k = n ∧ acc2 ++ walkN (walkT lo hi d) hi ((root (d + 1) m).is.drop z) ((m.2.map (trOf d)).drop z) = RES ∧ Q acc2 wr)
  case atStart => exact ⟨i, acc, rfl, by omega, HRS.out, HQ1.out⟩
  case round =>
    obtain ⟨z, acc2, rfl, hz, he, hq⟩ := hrel
    have HQ := Lib.hid hq
    have HE := Lib.hid he
    have hzn0 : z ≤ n := by omega
    have hz0 : (z : Int) ≤ (n : Int) := by omega
    clear hq he
    have hkc : z < m.2.length := by have := HN.out.2.2; omega
    obtain ⟨c, hc⟩ : ∃ c, m.2[z]? = some c := ⟨_, List.getElem?_eq_getElem hkc⟩
    have hT := H.out.below (S.below _ _ HQ.out)
    obtain ⟨gu', cu', A2', cc2', e1', l1', u1, u2, u3⟩ := (show NodeIn wr m.1 m.2 from hT.node).cell hc
    change wr.cell? ⟨(root (d + 1) m).p, 1, none⟩ = _ at u1
    rw [HN.out.2.1] at u1
    have hcm := List.mem_of_getElem? hc
    have HIC := Lib.hid (IH c hcm _ wr HQ.out (by
      obtain ⟨r, hr⟩ := preK (walkT lo hi d) hi (l := (root (d + 1) m).is.drop z) (bs := (m.2.map (trOf d)).drop z) (b := trOf d c) (by rw [List.getElem?_drop, List.getElem?_map, Nat.add_zero, hc]; rfl)
      have h9 := HE.out
      rw [hr] at h9
      have h10 := HB.out
      rw [← h9] at h10
      simp only [List.length_append] at h10
      omega))
    have HCC := Lib.hid hc
    have HLE := Lib.hid (leaf_any hT.top)
    rw [hT.leafb, show decide (d + 1 = 0) = false from rfl] at HLE
    rw [HN.out.2.1] at HLE
    obtain ⟨A0, cc0, e0, _⟩ := hT.top.items
    have c0 := hT.top.c0
    rw [e0] at c0
    rw [HN.out.2.1, ← HN.out.1] at c0
    clear hkc hc hT e1' u3 hcm e0
    go_wp2_with fail
    refine Calls.mono HLE.out ?_
    rintro e w3 ⟨rfl, rfl⟩
    clear HLE
    go_wp2_with fail
    refine Calls.mono HIC.out ?_
    rintro e w3 ⟨rfl, hq3⟩
    have HQ3 := Lib.hid hq3
    clear hq3 u1 u2 l1' c0 HIC
    have hT := H.out.below (S.below _ _ HQ3.out)

    by_cases hzn : z = n
    · subst hzn
      obtain ⟨A0, cc0, e0, _⟩ := hT.top.items
      have c0 := hT.top.c0
      rw [e0] at c0
      rw [HN.out.2.1, ← HN.out.1] at c0
      clear e0 hT
      go_wp2_with fail
      refine bodyPost_ret (v := .tuple #[]) (by simp [results, Try.results86, go_sem]) rfl ⟨rfl, ?_⟩
      have h9 := HE.out
      rw [lastK _ _ (by have := HN.out.1; exact Nat.le_of_eq this.symm) (by rw [List.getElem?_map, HCC.out]; rfl)] at h9
      rw [← h9]
      exact HQ3.out
    · have hlt : z < (root (d + 1) m).is.length := by have := HN.out.1; omega
      obtain ⟨x, hx⟩ : ∃ x, (root (d + 1) m).is[z]? = some x := ⟨_, List.getElem?_eq_getElem hlt⟩
      obtain ⟨gn, cn, env, f3, hnl, hn0, x0, x1, x2, x3, _⟩ := hT.top.it hx
      rw [HN.out.2.1, ← HN.out.1] at hn0
      have f4 : (z : Int) < (n : Int) := by omega
      have f5 : z < n := by omega
      have e4 : ((z : Int) == (n : Int)) = false := by rw [beq_eq_false_iff_ne]; omega
      have HXX := Lib.hid hx
      clear env f3 hx hT
      by_cases hgt : hi < x.k
      · have d9 : decide (hi < x.k) = true := decide_eq_true hgt
        have HGT := Lib.hid hgt
        clear hgt
        go_wp2_with fail
        refine bodyPost_ret (v := .tuple #[]) (by simp [results, Try.results86, go_sem]) rfl ⟨rfl, ?_⟩
        have h9 := HE.out
        rw [stopK _ _ HXX.out (by rw [List.getElem?_map, HCC.out]; rfl) HGT.out] at h9
        rw [← h9]
        exact HQ3.out
      · have d9 : decide (hi < x.k) = false := decide_eq_false hgt
        have HGT := Lib.hid hgt
        have HSH := Lib.hid (S.shows _ _ x HQ3.out (by
          have := HB.out
          rw [← HE.out] at this
          simp only [List.length_append] at this ⊢
          rw [goK _ _ HXX.out (by rw [List.getElem?_map, HCC.out]; rfl) (by have := HGT.out; omega)] at this
          simp only [List.length_append, List.length_cons] at this
          omega))
        clear hgt
        go_wp2_with fail
        refine Calls.mono HSH.out ?_
        rintro e w4 ⟨rfl, hq4⟩
        have HQ4 := Lib.hid hq4
        clear hq4 HSH
        go_wp2_with fail
        go_roundg (gk - 1)
        case measure => omega
        case rel =>
          refine ⟨z + 1, (acc2 ++ walkT lo hi d (trOf d c)) ++ [x], by go_num, by omega, ?_, HQ4.out⟩
          have h9 := HE.out
          rw [goK _ _ HXX.out (by rw [List.getElem?_map, HCC.out]; rfl) (by have := HGT.out; omega)] at h9
          rw [← h9]
          simp
theorem walk_any_r {cb : Nat} {w0 : World} {Q : List Ix → World → Prop} (S : Shows 87 cb w0 Q) (lo hi : Int) : ∀ (d : Nat) (m : MT d) (acc : List Ix) (w : World), Tu w0 d m → Q acc w → acc.length + (walkT lo hi d (trOf d m)).length ≤ 100000 →
    Calls Try.prog 86 #[.pointer (some ⟨(root d m).p, 0, none⟩), .int .i64 lo, .int .i64 hi, .func (.func 87) #[] #[.pointer (some ⟨cb, 0, none⟩)]] w fun e w' => e = .returned (.tuple #[]) ∧ Q (acc ++ walkT lo hi d (trOf d m)) w'
  | 0, _, acc, _, h, hq, hb => walk_leaf_r S h lo hi acc hq hb
  | d + 1, _, acc, _, h, hq, hb => walk_kids_r S h lo hi acc hq hb fun c hc acc2 w2 hq2 hb2 => walk_any_r S lo hi d c acc2 w2 (h.kid hc) hq2 hb2
end Go.Proofs.Ytejpjbmbcdgomaa

/- What a walk shows is collected (of Range alone). -/
namespace Go.Proofs.Ytejpjbmbcdgomaa
set_option maxRecDepth 100000
open Go.RowKit

def BagR (B : Nat) (w : World) (cb : Nat) (l : List Ix) : Prop := B ≤ cb ∧ ∃ v, w.heap[cb]? = some (.cells #[v] 152 (0, 0)) ∧ w.ownsRow B 166 4 v l.length (rowV Ix.vals l)
theorem BagR.later {B cb : Nat} {w w' : World} {l : List Ix} (h : BagR B w cb l) (hb : Below w.heap.size w w') : BagR B w' cb l := by
  obtain ⟨h0, v, h1, h2⟩ := h
  refine ⟨h0, v, (hb.block _ (Array.getElem?_eq_some_iff.1 h1).1).trans h1, own_same h2 fun q hq => ?_⟩
  obtain ⟨_, e⟩ := own_at h2 hq
  exact hb.block q (Array.getElem?_eq_some_iff.1 e).1
/-- The row grew, then its slice was stored. -/
theorem BagR.put {B cb n : Nat} {w w1 : World} {v v' : Value} {l : List Ix} (h0 : B ≤ cb) (h1 : w.heap[cb]? = some (.cells #[v] 152 (0, 0))) (h2 : w.ownsRow B 166 4 v n (rowV Ix.vals l)) {x : Ix} (hn : l.length = n) (ho : w1.ownsRow B 166 4 v' (n + 1) (rowV Ix.vals l ++ x.vals)) (hg : w.grownBy w1 v.ownBlock) (hq : ∀ q, v'.ownBlock = some q → v.ownBlock = some q ∨ w.heap.size ≤ q) (_ : B ≤ w.heap.size) :
    (BagR B (w1.setCell ⟨cb, 0, none⟩ v') cb (l ++ [x]) ∧ Below B w (w1.setCell ⟨cb, 0, none⟩ v')) ∧ w1.cell? ⟨cb, 0, none⟩ = some v ∧ w1.frozen? ⟨cb, 0, none⟩ = false := by
  have hcb := (Array.getElem?_eq_some_iff.1 h1).1
  have hne : v.ownBlock ≠ some cb := fun e => by
    obtain ⟨_, e2⟩ := own_at h2 e
    rw [h1] at e2
    injection e2 with e2
    injection e2 with _ e3
    exact absurd e3 (by decide)
  have h3 : w1.heap[cb]? = some (.cells #[v] 152 (0, 0)) := (hg.block _ hcb (fun e => hne e.symm)).trans h1
  have hne2 : ∀ q, v'.ownBlock = some q → q ≠ cb := fun q e e2 => by
    subst e2
    rcases hq _ e with e | e
    · exact hne e
    · omega
  refine ⟨⟨⟨h0, v', (heap_set w1 cb 0 v' h3).trans rfl, ?_⟩, ?_⟩, cell_of_row _ _ 0 _ _ _ h3, frozen_of h3 0⟩
  · rw [List.length_append, hn, rowV_append]
    exact own_same (by simpa [rowV] using ho) fun q e => heap_ne _ _ _ _ (hne2 q e)
  · refine ⟨hg.os, hg.tape, hg.output, by rw [World.size_setCell]; exact hg.size, fun k hk => ?_⟩
    rw [heap_ne _ _ _ _ (by omega)]
    exact hg.block k (by omega) fun e => by have := own_ge h2 e.symm; omega
set_option maxHeartbeats 4000000 in
theorem showR_any {B cb : Nat} {w : World} {l : List Ix} (h : BagR B w cb l) (hB : B ≤ w.heap.size) (x : Ix) (hl : l.length < 100000) :
    Calls Try.prog 87 #[.agg #[.int .i64 x.c.v, .int .i64 x.c.s, .bool x.c.dead, .int .i64 x.k], .pointer (some ⟨cb, 0, none⟩)] w fun e w' => e = .returned (.tuple #[]) ∧ BagR B w' cb (l ++ [x]) ∧ Below B w w' := by
  obtain ⟨h0, v, h1, h2⟩ := h
  obtain ⟨A, c, rfl⟩ := own_form h2
  have hcw := (Array.getElem?_eq_some_iff.1 h1).1
  obtain ⟨Wa, hWa⟩ : ∃ Wa, Wa = w.alloc (.cells #[.int .i64 x.c.v, .int .i64 x.c.s, .bool x.c.dead, .int .i64 x.k] 166) := ⟨_, rfl⟩
  have hba : Below w.heap.size w Wa := by rw [hWa]; exact (Below.refl _ _).alloc (Nat.le_refl _) _
  have hsa : Wa.heap.size = w.heap.size + 1 := by rw [hWa]; simp
  have h3 := (hba.block _ hcw).trans h1
  have h5 : Wa.heap[w.heap.size]? = some (.cells #[.int .i64 x.c.v, .int .i64 x.c.s, .bool x.c.dead, .int .i64 x.k] 166 (0, 0)) := by rw [hWa]; exact heap_alloc_new w _
  have h4 : Wa.ownsRow B 166 4 (.slice A l.length c) l.length (rowV Ix.vals l) := own_same h2 fun q hq => by
    obtain ⟨_, e⟩ := own_at h2 hq
    exact hba.block q (Array.getElem?_eq_some_iff.1 e).1
  obtain ⟨s, hs⟩ : ∃ s, s = w.heap.size := ⟨_, rfl⟩
  rw [← hs] at h5
  have c0 : Wa.cell? ⟨cb, 0, none⟩ = some (.slice A l.length c) := by rw [cell_of_row _ _ 0 _ _ _ h3]; rfl
  have x0 : Wa.cell? ⟨s, 0, none⟩ = some (.int .i64 x.c.v) := by rw [cell_of_row _ _ 0 _ _ _ h5]; rfl
  have x1 : Wa.cell? ⟨s, 1, none⟩ = some (.int .i64 x.c.s) := by rw [cell_of_row _ _ 1 _ _ _ h5]; rfl
  have x2 : Wa.cell? ⟨s, 2, none⟩ = some (.bool x.c.dead) := by rw [cell_of_row _ _ 2 _ _ _ h5]; rfl
  have x3 : Wa.cell? ⟨s, 3, none⟩ = some (.int .i64 x.k) := by rw [cell_of_row _ _ 3 _ _ _ h5]; rfl
  have hw2 : ∀ o, Below Wa.heap.size Wa (Wa.alloc o) := fun o => (Below.refl _ _).alloc (Nat.le_refl _) o
  have HO := Lib.hid (fun (o : Obj) => (own_same h4 (fun q hq => by
    obtain ⟨_, e⟩ := own_at h4 hq
    exact (hw2 o).block q (Array.getElem?_eq_some_iff.1 e).1) : (Wa.alloc o).ownsRow B 166 4 (.slice A l.length c) l.length (rowV Ix.vals l)))
  have H3 := Lib.hid (fun (o : Obj) => ((hw2 o).block _ (Array.getElem?_eq_some_iff.1 h3).1).trans h3)
  have HX := Lib.hid (And.intro hl (And.intro hB (And.intro h0 (And.intro hba hsa))))
  have HBS := Lib.hid (fun (o : Obj) => Nat.le_trans hB (Nat.le_trans hba.size (hw2 o).size))
  have HW2 := Lib.hid hw2
  have HW := Lib.hid hWa
  have HS := Lib.hid hs
  obtain ⟨n, hn⟩ : ∃ n, n = l.length := ⟨_, rfl⟩
  rw [← hn] at c0 HO H3 HX
  have HN := Lib.hid hn
  clear h0 h1 h2 h3 h4 h5 hl hB hcw hWa hba hsa hw2 hs hn
  go_enter Try.func87, Try.ntmps87
  go_upto_region 1 with fail
  rw [← HW.out, ← HS.out]
  go_wp2_with (refine wpList_append_rowg elemIx rfl (.tmp 3) (.tmp 5) rfl B (.slice A n c) n (rowV Ix.vals l) rfl (HO.out _) (some ⟨Wa.heap.size, 0, none⟩) 1 1 x.vals rfl (rdv_freshI Wa x 166) (ix1 x) (fun h => by cases h) (by have := HX.out.1; unfold maxLen; omega) (by have := HX.out.1; omega) (HBS.out _) ?_; intro v' w' ho hg hq; obtain ⟨A9, c9, rfl⟩ := own_form ho; have hp := BagR.put HX.out.2.2.1 (H3.out _) (HO.out _) HN.out.symm ho hg hq (HBS.out _); have HP := Lib.hid hp.1; obtain ⟨k8, k9⟩ := hp.2; clear hp ho hg hq)
  exact bodyPost_end (v := .tuple #[]) (by simp [results, Try.results87, go_sem]) rfl ⟨rfl, HP.out.1, (HX.out.2.2.2.1.mono HX.out.2.1).trans (((HW2.out _).mono (Nat.le_trans HX.out.2.1 HX.out.2.2.2.1.size)).trans HP.out.2)⟩
end Go.Proofs.Ytejpjbmbcdgomaa

/- Tree.Copy, Tree.Range. -/
namespace Go.Proofs.Ytejpjbmbcdgomaa
set_option maxRecDepth 100000
open Go.RowKit

theorem shows_r (w0 : World) : Shows 87 w0.heap.size w0 (fun l w => BagR w0.heap.size w w0.heap.size l ∧ Below w0.heap.size w0 w) :=
  ⟨fun _ _ h => h.2, fun _ _ _ h hb => ⟨h.1.later hb, h.2.trans (hb.mono h.2.size)⟩, fun _ _ x h hl => Calls.mono (showR_any h.1 h.2.size x hl) fun _ _ ⟨e1, e2, e3⟩ => ⟨e1, e2, h.2.trans e3⟩⟩
theorem bag_start (w : World) : BagR w.heap.size (w.alloc (.cells #[.slice none 0 0] 152)) w.heap.size [] :=
  ⟨Nat.le_refl _, _, heap_alloc_new w _, World.ownsRow_nil _ _ _ _⟩
set_option maxHeartbeats 4000000 in
theorem trange_any {w : World} {F : Nat → Prop} {tb d : Nat} {l : List Ix} (h : TL w F tb l d) (hl : l.length ≤ 100000) (lo hi : Int) : Calls Try.prog 52 #[.pointer (some ⟨tb, 0, none⟩), .int .i64 lo, .int .i64 hi] w fun e w' => e = .returned (.func (.func 88) #[] #[.pointer (some ⟨w.heap.size, 0, none⟩)]) ∧ BagR w.heap.size w' w.heap.size (rng lo hi l) ∧ Below w.heap.size w w' := by
  have hb := (Below.refl _ w).alloc (Nat.le_refl _) (.cells #[.slice none 0 0] 152)
  obtain ⟨T, m, rfl, rfl, hT⟩ := h
  have c0 : (w.alloc (.cells #[.slice none 0 0] 152)).cell? ⟨tb, 0, none⟩ = some (.pointer (some ⟨(root T.d m).p, 0, none⟩)) := by rw [cell_of_row _ _ 0 _ _ _ ((hb.block _ (Array.getElem?_eq_some_iff.1 hT.block).1).trans hT.block)]; rfl
  have hws := walk_spec lo hi T.d (trOf T.d m) (by rw [hT.tr]; exact hT.ok.ok) (by rw [hT.tr]; exact hT.ok.up)
  have hws2 : walkT lo hi T.d (trOf T.d m) = rng lo hi T.items := by rw [hws, hT.tr]; rfl
  have hle : (rng lo hi T.items).length ≤ 100000 := Nat.le_trans (List.length_filter_le _ _) hl
  have HW := Lib.hid (walk_any_r (shows_r w) lo hi T.d m [] _ hT.tu ⟨bag_start w, hb⟩ (by rw [hws2]; simpa using hle))
  rw [hws2, List.nil_append] at HW
  have HB := Lib.hid (And.intro (bag_start w) hb)
  have HE := Lib.hid (show ¬ lo ≤ hi → rng lo hi T.items = [] from fun h => filter_none fun y _ => by simp; omega)
  obtain ⟨R, hR⟩ : ∃ R, R = rng lo hi T.items := ⟨_, rfl⟩
  rw [← hR] at HW HE ⊢
  clear hT hws hws2 hle hb hR
  by_cases hlo : lo ≤ hi
  · have d1 : decide (lo ≤ hi) = true := decide_eq_true hlo
    clear hlo HE
    go_enter Try.func52, Try.ntmps52
    go_wp2_with fail
    refine Calls.mono HW.out ?_
    rintro e w1 ⟨rfl, hq, hb1⟩
    go_wp2_with fail
    go_ret
    exact ⟨rfl, hq, hb1⟩
  · have d1 : decide (lo ≤ hi) = false := decide_eq_false hlo
    obtain rfl := HE.out hlo
    clear hlo HW HE
    go_enter Try.func52, Try.ntmps52
    go_wp2_with fail
    go_ret
    exact ⟨rfl, HB.out.1, HB.out.2⟩
end Go.Proofs.Ytejpjbmbcdgomaa

/- Tree.Drop. -/
namespace Go.Proofs.Ytejpjbmbcdgomaa
set_option maxRecDepth 100000
open Go.RowKit

end Go.Proofs.Ytejpjbmbcdgomaa
