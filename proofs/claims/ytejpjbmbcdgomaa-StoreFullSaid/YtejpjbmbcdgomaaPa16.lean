/- TFillW: put together. -/
import Derived.Test.YtejpjbmbcdgomaaPa15
/- A fill's walk. -/
namespace Go.Proofs.Ytejpjbmbcdgomaa
set_option maxRecDepth 100000
open Go.RowKit

section
variable {w : World} {d : Nat} {n : Nd} {cs : List (MT d)}
theorem NodeIn.mem (h : NodeIn w n cs) {z : MT d} (hz : z ∈ cs) : NdM w (root d z) :=
  h.all.m _ (List.mem_cons_of_mem _ (List.mem_flatMap.2 ⟨z, hz, by rw [nodes_eq]; exact List.mem_cons_self ..⟩))
theorem NodeIn.top (h : NodeIn w n cs) : NdM w n := h.all.m n (List.mem_cons_self ..)
/-- One below a node, as it lies. -/
theorem NodeIn.cell (h : NodeIn w n cs) {j : Nat} {z : MT d} (hz : cs[j]? = some z) : ∃ gu cu A c, n.u = .slice (some ⟨gu, 0, none⟩) n.ps.length cu ∧ (j : Int) < (n.ps.length : Int) ∧ w.cell? ⟨n.p, 1, none⟩ = some (.slice (some ⟨gu, 0, none⟩) n.ps.length cu) ∧
    w.cell? ⟨gu, j, none⟩ = some (.pointer (some ⟨(root d z).p, 0, none⟩)) ∧ w.cell? ⟨(root d z).p, 0, none⟩ = some (.slice A (root d z).is.length c) := by
  have hp : n.ps[j]? = some (root d z).p := by rw [h.ps, List.getElem?_map, hz]; rfl
  obtain ⟨gu, cu, e1, e2, _, e3, e4⟩ := h.top.kd hp
  have hm := h.mem (List.mem_of_getElem? hz)
  obtain ⟨A, c, e5, _⟩ := hm.items
  have h0 := hm.c0
  rw [e5] at h0
  exact ⟨gu, cu, A, c, e1, e2, e3, e4, h0⟩
end
set_option maxHeartbeats 2000000 in
theorem fill_yes {w : World} {n : Nd} {i gu cu zp m c m2 : Nat} {A : Option Addr} (k1 : w.cell? ⟨n.p, 1, none⟩ = some (.slice (some ⟨gu, 0, none⟩) m2 cu)) (hi : (i : Int) < (m2 : Int)) (k2 : w.cell? ⟨gu, i, none⟩ = some (.pointer (some ⟨zp, 0, none⟩))) (k3 : w.cell? ⟨zp, 0, none⟩ = some (.slice A m c)) (hm : 2 ≤ m) :
    Calls Try.prog 119 #[.pointer (some ⟨n.p, 0, none⟩), .int .i64 (i : Int)] w fun e w' => e = .returned (.tuple #[]) ∧ w = w' := by
  go_enter Try.func119, Try.ntmps119
  go_wp2_with fail
  exact bodyPost_ret (v := .tuple #[]) (by simp [results, Try.results119, go_sem]) rfl ⟨rfl, rfl⟩
set_option maxHeartbeats 2000000 in
/-- A fill that calls a deed: by the left one's and the right one's numbers. -/
theorem fill_left_w {w : World} {Q : Ending → World → Prop} {n : Nd} {i j gu cu zp m c m2 yp my cy : Nat} {A Ay : Option Addr} (k1 : w.cell? ⟨n.p, 1, none⟩ = some (.slice (some ⟨gu, 0, none⟩) m2 cu)) (hj : j = i + 1) (hi : (j : Int) < (m2 : Int)) (k2 : w.cell? ⟨gu, j, none⟩ = some (.pointer (some ⟨zp, 0, none⟩))) (k3 : w.cell? ⟨zp, 0, none⟩ = some (.slice A m c)) (hm : m < 2)
    (k4 : w.cell? ⟨gu, i, none⟩ = some (.pointer (some ⟨yp, 0, none⟩))) (k5 : w.cell? ⟨yp, 0, none⟩ = some (.slice Ay my cy)) (hy : 2 < my) (hb : j ≤ 100) (H : Hid (Calls Try.prog 128 #[.pointer (some ⟨n.p, 0, none⟩), .int .i64 (j : Int)] w Q)) (hQ : ∀ e w', Q e w' → e = .returned (.tuple #[])) :
    Calls Try.prog 119 #[.pointer (some ⟨n.p, 0, none⟩), .int .i64 (j : Int)] w Q := by
  have HJ := Lib.hid hj
  have hj0 : 0 < j := by omega
  have f1 : (j : Int) - 1 = (i : Int) := by omega
  clear hj
  go_enter Try.func119, Try.ntmps119
  go_wp2_with fail
  refine Calls.mono H.out ?_
  rintro e w' hq
  obtain rfl := hQ _ _ hq
  go_wp2_with fail
  exact bodyPost_end (v := .tuple #[]) (by simp [results, Try.results119, go_sem]) rfl hq
set_option maxHeartbeats 2000000 in
theorem fill_right0_w {w : World} {Q : Ending → World → Prop} {n : Nd} {i j gu cu zp m c m2 yp my cy nl cn : Nat} {A Ay An : Option Addr} (k1 : w.cell? ⟨n.p, 1, none⟩ = some (.slice (some ⟨gu, 0, none⟩) m2 cu)) (hj : j = i + 1) (hi : (i : Int) < (m2 : Int)) (hi2 : (j : Int) < (m2 : Int)) (k2 : w.cell? ⟨gu, i, none⟩ = some (.pointer (some ⟨zp, 0, none⟩))) (k3 : w.cell? ⟨zp, 0, none⟩ = some (.slice A m c)) (hm : m < 2)
    (k4 : w.cell? ⟨gu, j, none⟩ = some (.pointer (some ⟨yp, 0, none⟩))) (k5 : w.cell? ⟨yp, 0, none⟩ = some (.slice Ay my cy)) (hy : 2 < my) (hb : j ≤ 100) (k0 : w.cell? ⟨n.p, 0, none⟩ = some (.slice An nl cn)) (hn : i < nl) (h0 : i < 1) (H : Hid (Calls Try.prog 129 #[.pointer (some ⟨n.p, 0, none⟩), .int .i64 (i : Int)] w Q)) (hQ : ∀ e w', Q e w' → e = .returned (.tuple #[])) :
    Calls Try.prog 119 #[.pointer (some ⟨n.p, 0, none⟩), .int .i64 (i : Int)] w Q := by
  have f1 : (i : Int) + 1 = (j : Int) := by omega
  have d0 : decide (0 < i) = false := decide_eq_false (by omega)
  clear hj h0
  go_enter Try.func119, Try.ntmps119
  go_wp2_with fail
  refine Calls.mono H.out ?_
  rintro e w' hq
  obtain rfl := hQ _ _ hq
  go_wp2_with fail
  exact bodyPost_end (v := .tuple #[]) (by simp [results, Try.results119, go_sem]) rfl hq
set_option maxHeartbeats 2000000 in
theorem fill_right_w {w : World} {Q : Ending → World → Prop} {n : Nd} {i0 i j gu cu zp m c m2 yp my cy nl cn xp mx cx : Nat} {A Ay An Ax : Option Addr} (k1 : w.cell? ⟨n.p, 1, none⟩ = some (.slice (some ⟨gu, 0, none⟩) m2 cu)) (hj : j = i + 1) (hi0 : i = i0 + 1) (hi : (i : Int) < (m2 : Int)) (hi2 : (j : Int) < (m2 : Int)) (k2 : w.cell? ⟨gu, i, none⟩ = some (.pointer (some ⟨zp, 0, none⟩))) (k3 : w.cell? ⟨zp, 0, none⟩ = some (.slice A m c)) (hm : m < 2)
    (k4 : w.cell? ⟨gu, j, none⟩ = some (.pointer (some ⟨yp, 0, none⟩))) (k5 : w.cell? ⟨yp, 0, none⟩ = some (.slice Ay my cy)) (hy : 2 < my) (hb : j ≤ 100) (k0 : w.cell? ⟨n.p, 0, none⟩ = some (.slice An nl cn)) (hn : i < nl)
    (k6 : w.cell? ⟨gu, i0, none⟩ = some (.pointer (some ⟨xp, 0, none⟩))) (k7 : w.cell? ⟨xp, 0, none⟩ = some (.slice Ax mx cx)) (hx : mx ≤ 2) (H : Hid (Calls Try.prog 129 #[.pointer (some ⟨n.p, 0, none⟩), .int .i64 (i : Int)] w Q)) (hQ : ∀ e w', Q e w' → e = .returned (.tuple #[])) :
    Calls Try.prog 119 #[.pointer (some ⟨n.p, 0, none⟩), .int .i64 (i : Int)] w Q := by
  have f1 : (i : Int) + 1 = (j : Int) := by omega
  have f2 : (i : Int) - 1 = (i0 : Int) := by omega
  have d0 : decide (0 < i) = true := decide_eq_true (by omega)
  have d1 : decide (2 < mx) = false := decide_eq_false (by omega)
  have hi3 : (i0 : Int) < (m2 : Int) := by omega
  clear hj hi0
  go_enter Try.func119, Try.ntmps119
  go_wp2_with fail
  refine Calls.mono H.out ?_
  rintro e w' hq
  obtain rfl := hQ _ _ hq
  go_wp2_with fail
  exact bodyPost_end (v := .tuple #[]) (by simp [results, Try.results119, go_sem]) rfl hq
set_option maxHeartbeats 2000000 in
theorem fill_mergel_w {w : World} {Q : Ending → World → Prop} {n : Nd} {i0 i j gu cu zp m c m2 yp my cy nl cn xp mx cx : Nat} {A Ay An Ax : Option Addr} (k1 : w.cell? ⟨n.p, 1, none⟩ = some (.slice (some ⟨gu, 0, none⟩) m2 cu)) (hj : j = i + 1) (hi0 : i = i0 + 1) (hi : (i : Int) < (m2 : Int)) (hi2 : (j : Int) < (m2 : Int)) (k2 : w.cell? ⟨gu, i, none⟩ = some (.pointer (some ⟨zp, 0, none⟩))) (k3 : w.cell? ⟨zp, 0, none⟩ = some (.slice A m c)) (hm : m < 2)
    (k4 : w.cell? ⟨gu, j, none⟩ = some (.pointer (some ⟨yp, 0, none⟩))) (k5 : w.cell? ⟨yp, 0, none⟩ = some (.slice Ay my cy)) (hy : my ≤ 2) (hb : j ≤ 100) (k0 : w.cell? ⟨n.p, 0, none⟩ = some (.slice An nl cn)) (hn : i < nl)
    (k6 : w.cell? ⟨gu, i0, none⟩ = some (.pointer (some ⟨xp, 0, none⟩))) (k7 : w.cell? ⟨xp, 0, none⟩ = some (.slice Ax mx cx)) (hx : mx ≤ 2) (H : Hid (Calls Try.prog 130 #[.pointer (some ⟨n.p, 0, none⟩), .int .i64 (i0 : Int)] w Q)) (hQ : ∀ e w', Q e w' → e = .returned (.tuple #[])) :
    Calls Try.prog 119 #[.pointer (some ⟨n.p, 0, none⟩), .int .i64 (i : Int)] w Q := by
  have f1 : (i : Int) + 1 = (j : Int) := by omega
  have f2 : (i : Int) - 1 = (i0 : Int) := by omega
  have d0 : decide (0 < i) = true := decide_eq_true (by omega)
  have d1 : decide (2 < mx) = false := decide_eq_false (by omega)
  have d2 : decide (2 < my) = false := decide_eq_false (by omega)
  have hi3 : (i0 : Int) < (m2 : Int) := by omega
  clear hj hi0
  go_enter Try.func119, Try.ntmps119
  go_wp2_with fail
  refine Calls.mono H.out ?_
  rintro e w' hq
  obtain rfl := hQ _ _ hq
  go_wp2_with fail
  exact bodyPost_end (v := .tuple #[]) (by simp [results, Try.results119, go_sem]) rfl hq
set_option maxHeartbeats 2000000 in
theorem fill_mergee_w {w : World} {Q : Ending → World → Prop} {n : Nd} {i0 i gu cu zp m c m2 nl cn xp mx cx : Nat} {A An Ax : Option Addr} (k1 : w.cell? ⟨n.p, 1, none⟩ = some (.slice (some ⟨gu, 0, none⟩) m2 cu)) (hi0 : i = i0 + 1) (hi : (i : Int) < (m2 : Int)) (k2 : w.cell? ⟨gu, i, none⟩ = some (.pointer (some ⟨zp, 0, none⟩))) (k3 : w.cell? ⟨zp, 0, none⟩ = some (.slice A m c)) (hm : m < 2)
    (hb : i ≤ 100) (k0 : w.cell? ⟨n.p, 0, none⟩ = some (.slice An nl cn)) (hn : nl ≤ i)
    (k6 : w.cell? ⟨gu, i0, none⟩ = some (.pointer (some ⟨xp, 0, none⟩))) (k7 : w.cell? ⟨xp, 0, none⟩ = some (.slice Ax mx cx)) (hx : mx ≤ 2) (H : Hid (Calls Try.prog 130 #[.pointer (some ⟨n.p, 0, none⟩), .int .i64 (i0 : Int)] w Q)) (hQ : ∀ e w', Q e w' → e = .returned (.tuple #[])) :
    Calls Try.prog 119 #[.pointer (some ⟨n.p, 0, none⟩), .int .i64 (i : Int)] w Q := by
  have f2 : (i : Int) - 1 = (i0 : Int) := by omega
  have d0 : decide (0 < i) = true := decide_eq_true (by omega)
  have d1 : decide (2 < mx) = false := decide_eq_false (by omega)
  have d2 : decide (i < nl) = false := decide_eq_false (by omega)
  have hi3 : (i0 : Int) < (m2 : Int) := by omega
  clear hi0
  go_enter Try.func119, Try.ntmps119
  go_wp2_with fail
  refine Calls.mono H.out ?_
  rintro e w' hq
  obtain rfl := hQ _ _ hq
  go_wp2_with fail
  exact bodyPost_end (v := .tuple #[]) (by simp [results, Try.results119, go_sem]) rfl hq
set_option maxHeartbeats 2000000 in
theorem fill_merger_w {w : World} {Q : Ending → World → Prop} {n : Nd} {i j gu cu zp m c m2 yp my cy nl cn : Nat} {A Ay An : Option Addr} (k1 : w.cell? ⟨n.p, 1, none⟩ = some (.slice (some ⟨gu, 0, none⟩) m2 cu)) (hj : j = i + 1) (hi : (i : Int) < (m2 : Int)) (hi2 : (j : Int) < (m2 : Int)) (k2 : w.cell? ⟨gu, i, none⟩ = some (.pointer (some ⟨zp, 0, none⟩))) (k3 : w.cell? ⟨zp, 0, none⟩ = some (.slice A m c)) (hm : m < 2)
    (k4 : w.cell? ⟨gu, j, none⟩ = some (.pointer (some ⟨yp, 0, none⟩))) (k5 : w.cell? ⟨yp, 0, none⟩ = some (.slice Ay my cy)) (hy : my ≤ 2) (hb : j ≤ 100) (k0 : w.cell? ⟨n.p, 0, none⟩ = some (.slice An nl cn)) (hn : i < nl) (h0 : i < 1) (H : Hid (Calls Try.prog 130 #[.pointer (some ⟨n.p, 0, none⟩), .int .i64 (i : Int)] w Q)) (hQ : ∀ e w', Q e w' → e = .returned (.tuple #[])) :
    Calls Try.prog 119 #[.pointer (some ⟨n.p, 0, none⟩), .int .i64 (i : Int)] w Q := by
  have f1 : (i : Int) + 1 = (j : Int) := by omega
  have d0 : decide (0 < i) = false := decide_eq_false (by omega)
  have d2 : decide (2 < my) = false := decide_eq_false (by omega)
  clear hj h0
  go_enter Try.func119, Try.ntmps119
  go_wp2_with fail
  refine Calls.mono H.out ?_
  rintro e w' hq
  obtain rfl := hQ _ _ hq
  go_wp2_with fail
  exact bodyPost_end (v := .tuple #[]) (by simp [results, Try.results119, go_sem]) rfl hq
theorem same_n {u : Value} {g g2 n n2 c c2 : Nat} (h : u = .slice (some ⟨g, 0, none⟩) n c) (h2 : u = .slice (some ⟨g2, 0, none⟩) n2 c2) : g2 = g ∧ c2 = c := by
  rw [h] at h2
  injection h2 with q1 _ q3
  injection q1 with q1
  injection q1 with q1
  exact ⟨q1.symm, q3.symm⟩
theorem get_mid {β : Type} (A : List β) (m : β) (B : List β) (i : Nat) (h : A.length = i) : (A ++ m :: B)[i]? = some m := by
  subst h
  rw [List.getElem?_append_right (Nat.le_refl _), Nat.sub_self]
  rfl
theorem get_next {β : Type} (A : List β) (m r : β) (B : List β) (i : Nat) (h : A.length = i) : (A ++ m :: r :: B)[i + 1]? = some r := by
  rw [snoc_form]
  exact get_mid _ r B _ (by simp [h])
/-- What a fill does. -/
theorem fill_node {w : World} {d : Nat} {n : Nd} {a b : List (MT d)} {c : MT d} (x0 : Ix) (h : NodeIn w n (a ++ c :: b)) (hne : 0 < n.is.length) (i : Nat) (hi : a.length = i) :
    Calls Try.prog 119 #[.pointer (some ⟨n.p, 0, none⟩), .int .i64 (i : Int)] w (NodePost w n (a ++ c :: b) (fillT x0 d n.is ((a ++ c :: b).map (trOf d)) i)) := by
  have hQ : ∀ (res : List Ix × List (Tr Cl d)) (cs : List (MT d)) e w', NodePost w n cs res e w' → e = .returned (.tuple #[]) := fun res cs e w' ⟨_, _, e1, _⟩ => e1
  have hlen := h.len
  have hfew := h.few
  have hcs : (a ++ c :: b).length = i + 1 + b.length := by simp [hi]; omega
  rw [hcs] at hlen
  clear hcs
  obtain ⟨An, cn, en, _⟩ := h.top.items
  have k0 := h.top.c0
  rw [en] at k0
  have itc : (its d (trOf d c)).length = (root d c).is.length := by rw [its_tr]
  have hc := get_mid a c b i hi
  obtain ⟨gu, cu, A, cc, e1, l1, k1, k2, k3⟩ := h.cell hc
  rw [List.map_append, List.map_cons]
  by_cases h2 : 2 ≤ (root d c).is.length
  · rw [fill_enough x0 n.is _ _ _ i (by simp [hi]) (by rw [itc]; exact h2)]
    refine Calls.mono (fill_yes k1 l1 k2 k3 h2) ?_
    rintro e w' ⟨rfl, rfl⟩
    exact ⟨n, a ++ c :: b, rfl, rfl, rfl, by simp, h.ps, h.lk, Mv.refl h.all⟩
  · have hm : (root d c).is.length < 2 := by omega
    rcases List.eq_nil_or_concat a with ea | ⟨a0, l, ea⟩
    · subst ea
      obtain rfl : 0 = i := hi
      obtain ⟨r, b', rfl⟩ : ∃ r b', b = r :: b' := by
        cases b with
        | nil => rw [List.length_nil] at hlen; omega
        | cons r b' => exact ⟨r, b', rfl⟩
      obtain ⟨x, hx⟩ : ∃ x, n.is[0]? = some x := ⟨_, List.getElem?_eq_getElem hne⟩
      obtain ⟨gu2, cu2, A2, c2, e2, l2, k4, k5, k6⟩ := h.cell (get_next [] c r b' 0 rfl)
      obtain ⟨rfl, rfl⟩ := same_n e1 e2
      have itr : (its d (trOf d r)).length = (root d r).is.length := by rw [its_tr]
      by_cases h3 : 2 < (root d r).is.length
      · have hE := fill_right x0 x n.is ([] : List (Tr Cl d)) (trOf d c) (trOf d r) (b'.map (trOf d)) 0 rfl hx (by rw [itc]; exact hm) (by rw [itr]; exact h3) (fun A' l e => by simp at e)
        have hC := right_node (a := []) (l := c) (r := r) (b := b') x0 x h 0 rfl hx (by omega)
        rw [show ([] : List (MT d)).map (trOf d) = [] from rfl] at hC ⊢
        rw [List.map_cons, hE]
        exact fill_right0_w k1 (j := 0 + 1) rfl l1 l2 k2 k3 hm k5 k6 h3 (by omega) k0 hne (by omega) (Lib.hid hC) (hQ _ _)
      · have hE := fill_merger x0 x n.is (trOf d c) (trOf d r) (b'.map (trOf d)) hx (by rw [itc]; exact hm) (by rw [itr]; omega)
        have hC := merge_node (a := []) (l := c) (r := r) (b := b') x h 0 rfl hx
        rw [show ([] : List (MT d)).map (trOf d) = [] from rfl] at hC ⊢
        rw [List.map_cons, show ([] : List (Tr Cl d)) ++ trOf d c :: trOf d r :: List.map (trOf d) b' = trOf d c :: trOf d r :: List.map (trOf d) b' from rfl, hE]
        exact fill_merger_w k1 (j := 0 + 1) rfl l1 l2 k2 k3 hm k5 k6 (by omega) (by omega) k0 hne (by omega) (Lib.hid hC) (hQ _ _)
    · obtain ⟨i0, hi0⟩ : ∃ i0, a0.length = i0 := ⟨_, rfl⟩
      have ha : a = a0 ++ [l] := by rw [ea]; simp
      have hii : i = i0 + 1 := by rw [← hi, ha]; simp [hi0]
      subst ha
      have hcs2 : (a0 ++ [l]) ++ c :: b = a0 ++ l :: c :: b := by simp
      have hmp : (a0 ++ [l]).map (trOf d) ++ trOf d c :: b.map (trOf d) = a0.map (trOf d) ++ trOf d l :: trOf d c :: b.map (trOf d) := by simp
      obtain ⟨gu2, cu2, A2, c2, e2, l2, k4, k5, k6⟩ := h.cell (j := i0) (z := l) (by rw [hcs2]; exact get_mid a0 l _ _ hi0)
      obtain ⟨rfl, rfl⟩ := same_n e1 e2
      have h' := h
      rw [hcs2] at h'
      rw [hmp, hcs2]
      have hil : i0 < n.is.length := by omega
      obtain ⟨x, hx⟩ : ∃ x, n.is[i0]? = some x := ⟨_, List.getElem?_eq_getElem hil⟩
      have itl : (its d (trOf d l)).length = (root d l).is.length := by rw [its_tr]
      by_cases h3 : 2 < (root d l).is.length
      · rw [fill_left x0 x n.is (a0.map (trOf d)) (trOf d l) (trOf d c) (b.map (trOf d)) i0 i (by simp [hi0]) hii hx (by rw [itc]; exact hm) (by rw [itl]; exact h3)]
        exact fill_left_w k1 hii l1 k2 k3 hm k5 k6 h3 (by omega) (Lib.hid (left_node x0 x h' i0 i hi0 hii hx (by omega))) (hQ _ _)
      · have hlx : (root d l).is.length ≤ 2 := by omega
        cases b with
        | nil =>
          have hnl : n.is.length ≤ i := by rw [List.length_nil] at hlen; omega
          rw [List.map_nil, fill_mergel x0 x n.is (a0.map (trOf d)) (trOf d l) (trOf d c) [] i0 i (by simp [hi0]) hii hx (by rw [itc]; exact hm) (by rw [itl]; exact hlx) (fun r B' e => by simp at e) (fun _ => hnl)]
          exact fill_mergee_w k1 hii l1 k2 k3 hm (by omega) k0 hnl k5 k6 hlx (Lib.hid (merge_node x h' i0 hi0 hx)) (hQ _ _)
        | cons r b' =>
          have hnl : i < n.is.length := by rw [List.length_cons] at hlen; omega
          have itr : (its d (trOf d r)).length = (root d r).is.length := by rw [its_tr]
          obtain ⟨gu3, cu3, A3, c3, e3, l3, k7, k8, k9⟩ := h.cell (get_next (a0 ++ [l]) c r b' i hi)
          obtain ⟨rfl, rfl⟩ := same_n e1 e3
          rw [List.map_cons]
          by_cases h4 : 2 < (root d r).is.length
          · obtain ⟨y, hy⟩ : ∃ y, n.is[i]? = some y := ⟨_, List.getElem?_eq_getElem hnl⟩
            have hE := fill_right x0 y n.is ((a0 ++ [l]).map (trOf d)) (trOf d c) (trOf d r) (b'.map (trOf d)) i (by simp [hii, hi0]) hy (by rw [itc]; exact hm) (by rw [itr]; exact h4) (fun A' l' e => by
              rw [List.map_append, List.map_cons, List.map_nil] at e
              obtain ⟨_, e4⟩ := List.append_inj' e rfl
              injection e4 with e4
              rw [← e4, itl]; exact hlx)
            have hC := right_node (a := a0 ++ [l]) (l := c) (r := r) (b := b') x0 y h i hi hy (by omega)
            simp only [List.map_append, List.map_cons, List.map_nil, List.append_assoc, List.singleton_append] at hE
            rw [hE]
            rw [hcs2] at hC
            simp only [List.map_append, List.map_cons, List.map_nil, List.append_assoc, List.singleton_append] at hC
            exact fill_right_w k1 (j := i + 1) rfl hii l1 l3 k2 k3 hm k8 k9 h4 (by omega) k0 hnl k5 k6 hlx (Lib.hid hC) (hQ _ _)
          · rw [fill_mergel x0 x n.is (a0.map (trOf d)) (trOf d l) (trOf d c) (trOf d r :: b'.map (trOf d)) i0 i (by simp [hi0]) hii hx (by rw [itc]; exact hm) (by rw [itl]; exact hlx) (fun r' B' e _ => by injection e with e _; rw [← e, itr]; omega) (fun e => by simp at e)]
            exact fill_mergel_w k1 (j := i + 1) rfl hii l1 l3 k2 k3 hm k8 k9 (by omega) (by omega) k0 hnl k5 k6 hlx (Lib.hid (merge_node x h' i0 hi0 hx)) (hQ _ _)
end Go.Proofs.Ytejpjbmbcdgomaa
