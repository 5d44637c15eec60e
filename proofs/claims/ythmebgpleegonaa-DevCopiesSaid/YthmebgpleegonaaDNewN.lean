/- Both News, where the sizes are not in order. -/
import Derived.Test.YthmebgpleegonaaDRefN
import Derived.Test.YthmebgpleegonaaDDoX
namespace Go.Proofs.Ythmebgpleegonaa
set_option maxRecDepth 100000
open Go.RowKit

/-- Numbers in memory: some in order, then one that is not. -/
def PreZ (w : World) (A : Option Addr) (l : List Nat) (n : Int) : Prop := ∃ b off, A = some ⟨b, off, none⟩ ∧ (∀ q (hq : q < l.length), w.cell? ⟨b, off + q, none⟩ = some (.int .i64 (l[q] : Int))) ∧ w.cell? ⟨b, off + l.length, none⟩ = some (.int .i64 n)
theorem PreZ.below {w w' : World} {A : Option Addr} {l : List Nat} {n : Int} (h : PreZ w A l n) (hb : Below w.heap.size w w') : PreZ w' A l n := by
  obtain ⟨b, off, e, h1, h2⟩ := h
  exact ⟨b, off, e, fun q hq => (hb.cell (World.block_lt_of_cell? _ _ (h1 q hq))).trans (h1 q hq), (hb.cell (World.block_lt_of_cell? _ _ h2)).trans h2⟩
theorem zs_split : ∀ l : List Int, (∀ n ∈ l, 1 ≤ n ∧ n ≤ 4096) ∨ ∃ (k : List Nat) (n : Int) (r : List Int), l = (k.map fun m : Nat => (m : Int)) ++ n :: r ∧ (∀ m ∈ k, 1 ≤ m ∧ m ≤ 4096) ∧ (n < 1 ∨ 4096 < n)
  | [] => .inl fun n hn => by cases hn
  | x :: l => by
    by_cases hx : 1 ≤ x ∧ x ≤ 4096
    · rcases zs_split l with h | ⟨k, n, r, h1, h2, h3⟩
      · refine .inl fun n hn => ?_
        rcases List.mem_cons.1 hn with e | e
        · rw [e]; exact hx
        · exact h n e
      · refine .inr ⟨x.toNat :: k, n, r, by rw [h1, List.map_cons, List.cons_append, Int.toNat_of_nonneg (by omega)], fun m hm => ?_, h3⟩
        rcases List.mem_cons.1 hm with e | e
        · rw [e]; omega
        · exact h2 m e
    · exact .inr ⟨[], x, l, rfl, (fun m hm => absurd hm (by simp)), by omega⟩
theorem Zs.cell {w : World} {A : Option Addr} {l : List Int} (h : Zs w A l) (hn : 0 < l.length) : ∃ b off, A = some ⟨b, off, none⟩ ∧ ∀ q (hq : q < l.length), w.cell? ⟨b, off + q, none⟩ = some (.int .i64 l[q]) := by
  obtain ⟨b, off, e, hc⟩ := RowAt.cells h (fun _ => rfl) hn
  exact ⟨b, off, e, fun q hq => by have := hc q hq 0 _ (by decide) rfl; simpa using this⟩
theorem Zs.pre {w : World} {A : Option Addr} {l : List Int} (h : Zs w A l) {k : List Nat} {n : Int} {r : List Int} (e : l = (k.map fun m : Nat => (m : Int)) ++ n :: r) : PreZ w A k n ∧ k.length < l.length := by
  have hlen : l.length = k.length + (r.length + 1) := by rw [e]; simp
  obtain ⟨b, off, e2, hc⟩ := Zs.cell h (by omega)
  refine ⟨⟨b, off, e2, fun q hq => ?_, ?_⟩, by omega⟩
  · have h1 := hc q (by omega)
    have h2 : l[q]'(by omega) = (k[q] : Int) := by
      simp only [e]
      rw [List.getElem_append_left (by rw [List.length_map]; exact hq), List.getElem_map]
    rw [h2] at h1
    exact h1
  · have h1 := hc k.length (by omega)
    have h2 : l[k.length]'(by omega) = n := by
      simp only [e]
      rw [List.getElem_append_right (by rw [List.length_map]; exact Nat.le_refl _)]
      simp
    rw [h2] at h1
    exact h1
theorem rowV_toNat : ∀ l : List Int, (∀ n ∈ l, 1 ≤ n ∧ n ≤ 4096) → rowV numV (l.map Int.toNat) = rowV zV l
  | [], _ => rfl
  | x :: l, h => by
    have h1 := rowV_toNat l fun n hn => h n (List.mem_cons_of_mem _ hn)
    have hx := h x (List.mem_cons_self ..)
    have e : rowV numV ((x :: l).map Int.toNat) = numV x.toNat ++ rowV numV (l.map Int.toNat) := by simp [rowV]
    have e2 : rowV zV (x :: l) = zV x ++ rowV zV l := by simp [rowV]
    rw [e, e2, h1]
    unfold numV zV
    rw [Int.toNat_of_nonneg (by omega)]
theorem Zs.sz {w : World} {A : Option Addr} {l : List Int} (h : Zs w A l) (hg : ∀ n ∈ l, 1 ≤ n ∧ n ≤ 4096) : Sz w A (l.map Int.toNat) := by
  refine ⟨rfl, ?_⟩
  rw [rowV_toNat l hg, List.length_map]
  exact h.row
theorem new_len (A : Option Addr) (c M : Nat) (w : World) (hm : M < 1 ∨ 5 < M) (hM : M ≤ 9223372036854775807) :
    Calls Try.prog 10 #[.slice A M c] w fun e w' => e = .returned (.tuple #[.pointer none, eV 1]) ∧ Below w.heap.size w w' := by
  show Calls Try.prog 10 #[.slice A M c] w fun e w' => e = .returned (.tuple #[.pointer none, .iface 71 (.int .i64 1)]) ∧ Below w.heap.size w w'
  rcases hm with hm | hm
  · have g1 : decide ((M : Int) < 1) = true := decide_eq_true (by omega)
    go_enter Try.func10, Try.ntmps10
    go_wp2_with fail
    go_ret2
    exact ⟨rfl, Below.refl _ _⟩
  · have g1 : decide ((M : Int) < 1) = false := decide_eq_false (by omega)
    have g2 : decide (5 < (M : Int)) = true := decide_eq_true (by omega)
    go_enter Try.func10, Try.ntmps10
    go_wp2_with fail
    go_ret2
    exact ⟨rfl, Below.refl _ _⟩
theorem refnew_len (A : Option Addr) (c M : Nat) (w : World) (hm : M < 1 ∨ 5 < M) (hM : M ≤ 9223372036854775807) :
    Calls Try.prog 11 #[.slice A M c] w fun e w' => e = .returned (.tuple #[.agg #[.slice none 0 0, .int .i64 0, .int .i64 0, .bool false, .bool false], .int .i64 1]) ∧ Below w.heap.size w w' := by
  obtain ⟨k1, k3, ks, hb3⟩ := two_blocks w (.cells #[.slice none 0 0, .int .i64 0, .int .i64 0, .bool false, .bool false] 33) (.cells #[.slice none 0 0, .int .i64 0, .int .i64 0, .bool false, .bool false] 33)
  obtain ⟨z, hz⟩ : ∃ z, z = w.heap.size := ⟨_, rfl⟩
  have HZ := Lib.hid hz
  have HW := Lib.hid (And.intro k1 (And.intro k3 (And.intro ks hb3)))
  rw [← hz] at HW
  clear k1 k3 ks hb3
  rw [← hz]
  clear hz
  rcases hm with hm | hm
  · have d1 : decide ((M : Int) < 1) = true := decide_eq_true (by omega)
    go_enter Try.func11, Try.ntmps11
    go_upto_region 2 with fail
    rw [← HZ.out]
    revert HW
    generalize World.alloc _ _ = wb
    intro HW
    have b0 := HW.out.1
    have b1 := HW.out.2.1
    have pp0 := (cell_of_row _ _ 0 _ _ (0, 0) b0).trans rfl
    have pp1 := (cell_of_row _ _ 1 _ _ (0, 0) b0).trans rfl
    have pp2 := (cell_of_row _ _ 2 _ _ (0, 0) b0).trans rfl
    have pp3 := (cell_of_row _ _ 3 _ _ (0, 0) b0).trans rfl
    have pp4 := (cell_of_row _ _ 4 _ _ (0, 0) b0).trans rfl
    have g0 := frozen_at b0 0
    have g1 := frozen_at b0 1
    have g2 := frozen_at b0 2
    have g3 := frozen_at b0 3
    have g4 := frozen_at b0 4
    have q0 := (cell_of_row _ _ 0 _ _ (0, 0) b1).trans rfl
    have q1 := (cell_of_row _ _ 1 _ _ (0, 0) b1).trans rfl
    have q2 := (cell_of_row _ _ 2 _ _ (0, 0) b1).trans rfl
    have q3 := (cell_of_row _ _ 3 _ _ (0, 0) b1).trans rfl
    have q4 := (cell_of_row _ _ 4 _ _ (0, 0) b1).trans rfl
    clear b0 b1
    go_wp2_with fail
    obtain ⟨u, tk, tb⟩ := set5 wb z 33 _ _ _ _ _ (.slice none 0 0) (.int .i64 0) (.int .i64 0) (.bool false) (.bool false) HW.out.1
    have hbl := tb z w HW.out.2.2.2 (Nat.le_refl _)
    have HT := Lib.hid (And.intro u hbl)
    clear u tk tb hbl pp0 pp1 pp2 pp3 pp4 g0 g1 g2 g3 g4 q0 q1 q2 q3 q4
    revert HT
    generalize World.setCell (World.setCell _ _ _) _ _ = w9
    intro HT
    obtain ⟨u, hbl⟩ := HT.out
    have h0 := (cell_of_row _ _ 0 _ _ (0, 0) u).trans rfl
    have h1 := (cell_of_row _ _ 1 _ _ (0, 0) u).trans rfl
    have h2 := (cell_of_row _ _ 2 _ _ (0, 0) u).trans rfl
    have h3 := (cell_of_row _ _ 3 _ _ (0, 0) u).trans rfl
    have h4 := (cell_of_row _ _ 4 _ _ (0, 0) u).trans rfl
    exact bodyPost_ret (v := .tuple #[.agg #[.slice none 0 0, .int .i64 0, .int .i64 0, .bool false, .bool false], .int .i64 1]) (by simp [results, Try.results11, go_sem, h0, h1, h2, h3, h4]) rfl ⟨rfl, hbl⟩
  · have d1 : decide ((M : Int) < 1) = false := decide_eq_false (by omega)
    have d2 : decide (5 < (M : Int)) = true := decide_eq_true (by omega)
    go_enter Try.func11, Try.ntmps11
    go_upto_region 2 with fail
    rw [← HZ.out]
    revert HW
    generalize World.alloc _ _ = wb
    intro HW
    have b0 := HW.out.1
    have b1 := HW.out.2.1
    have pp0 := (cell_of_row _ _ 0 _ _ (0, 0) b0).trans rfl
    have pp1 := (cell_of_row _ _ 1 _ _ (0, 0) b0).trans rfl
    have pp2 := (cell_of_row _ _ 2 _ _ (0, 0) b0).trans rfl
    have pp3 := (cell_of_row _ _ 3 _ _ (0, 0) b0).trans rfl
    have pp4 := (cell_of_row _ _ 4 _ _ (0, 0) b0).trans rfl
    have g0 := frozen_at b0 0
    have g1 := frozen_at b0 1
    have g2 := frozen_at b0 2
    have g3 := frozen_at b0 3
    have g4 := frozen_at b0 4
    have q0 := (cell_of_row _ _ 0 _ _ (0, 0) b1).trans rfl
    have q1 := (cell_of_row _ _ 1 _ _ (0, 0) b1).trans rfl
    have q2 := (cell_of_row _ _ 2 _ _ (0, 0) b1).trans rfl
    have q3 := (cell_of_row _ _ 3 _ _ (0, 0) b1).trans rfl
    have q4 := (cell_of_row _ _ 4 _ _ (0, 0) b1).trans rfl
    clear b0 b1
    go_wp2_with fail
    obtain ⟨u, tk, tb⟩ := set5 wb z 33 _ _ _ _ _ (.slice none 0 0) (.int .i64 0) (.int .i64 0) (.bool false) (.bool false) HW.out.1
    have hbl := tb z w HW.out.2.2.2 (Nat.le_refl _)
    have HT := Lib.hid (And.intro u hbl)
    clear u tk tb hbl pp0 pp1 pp2 pp3 pp4 g0 g1 g2 g3 g4 q0 q1 q2 q3 q4
    revert HT
    generalize World.setCell (World.setCell _ _ _) _ _ = w9
    intro HT
    obtain ⟨u, hbl⟩ := HT.out
    have h0 := (cell_of_row _ _ 0 _ _ (0, 0) u).trans rfl
    have h1 := (cell_of_row _ _ 1 _ _ (0, 0) u).trans rfl
    have h2 := (cell_of_row _ _ 2 _ _ (0, 0) u).trans rfl
    have h3 := (cell_of_row _ _ 3 _ _ (0, 0) u).trans rfl
    have h4 := (cell_of_row _ _ 4 _ _ (0, 0) u).trans rfl
    exact bodyPost_ret (v := .tuple #[.agg #[.slice none 0 0, .int .i64 0, .int .i64 0, .bool false, .bool false], .int .i64 1]) (by simp [results, Try.results11, go_sem, h0, h1, h2, h3, h4]) rfl ⟨rfl, hbl⟩
set_option maxHeartbeats 8000000 in
theorem new_bad (A : Option Addr) (c : Nat) (l : List Nat) (x : Int) (M : Nat) (w : World) (h : PreZ w A l x) (hm : l.length < M ∧ M ≤ 5) (hs : ∀ n ∈ l, 1 ≤ n ∧ n ≤ 4096) (hx : x < 1 ∨ 4096 < x) :
    Calls Try.prog 10 #[.slice A M c] w fun e w' => e = .returned (.tuple #[.pointer none, .iface 71 (.int .i64 1)]) ∧ Below w.heap.size w w' := by
  obtain ⟨n, hn⟩ : ∃ n, n = l.length := ⟨_, rfl⟩
  have HN := Lib.hid hn
  have HH := Lib.hid h
  have HS := Lib.hid hs
  have HB := Lib.hid (SetM.box w)
  have hz := Chg.of_below ((Below.refl w.heap.size w).alloc (Nat.le_refl _) (.cells #[.int .i64 0, .int .i64 0, .bool false, .bool false, .slice none 0 0] 77)) (fun _ => False)
  have HC := Lib.hid (show Chg w (w.alloc (.cells #[.int .i64 0, .int .i64 0, .bool false, .bool false, .slice none 0 0] 77)) (fun _ => False) (fun k => k = w.heap.size) from ⟨hz.os, hz.tape, hz.output, hz.size, hz.block, fun k e => .inr (by omega)⟩)
  clear hz
  rw [← hn] at hm
  have g1 : decide ((M : Int) < 1) = false := by rw [decide_eq_false_iff_not]; omega
  have g2 : decide ((M : Int) > 5) = false := by rw [decide_eq_false_iff_not]; omega
  clear h hs hn
  go_enter Try.func10, Try.ntmps10
  go_wp2_with fail
  go_loopw [6, 20] (fun _ i wr => ∃ (q : Nat) (F : Nat → Prop) (v : Value) (L : List DM), i = .int .i64 (q : Int) ∧ q ≤ n ∧ SetM wr F w.heap.size pw0 v L ∧ L.map DM.dk = (l.take q).map Dk.new ∧ (∀ d ∈ L, d.n = 0) ∧ Chg w wr (fun _ => False) F) (fun _ i _ => n - (intOf i).toNat)
  case atStart => exact ⟨0, _, _, [], rfl, by omega, HB.out, rfl, (fun d hd => by cases hd), HC.out⟩
  case round =>
    obtain ⟨q, F, v, L, rfl, hq, h2, h3, h4, h5⟩ := hrel
    have hL : L.length = q := by
      have := congrArg List.length h3
      rw [List.length_map, List.length_map, List.length_take, ← HN.out, Nat.min_eq_left hq] at this
      exact this
    have H2 := Lib.hid h2
    have H3 := Lib.hid h3
    have H4 := Lib.hid h4
    have H5 := Lib.hid h5
    by_cases hlt : q < n
    · have hql : q < l.length := by rw [← HN.out]; exact hlt
      obtain ⟨b, off, rfl, hc, _⟩ := HH.out
      have x0 := (h5.cell' (World.block_lt_of_cell? _ _ (hc q hql)) (fun e => e)).trans (hc q hql)
      obtain ⟨y1, y2⟩ := HS.out _ (List.getElem_mem hql)
      obtain ⟨m, hm⟩ : ∃ m, m = l[q] := ⟨_, rfl⟩
      have HM := Lib.hid hm
      have H2' := Lib.hid (show wr.ownsRow 0 81 3 v q (rowV DM.vals L) by rw [← hL]; exact h2.own)
      rw [← hm] at x0 y1 y2
      have g3 : decide ((m : Int) < 1) = false := by rw [decide_eq_false_iff_not]; omega
      have g4 : decide ((m : Int) > 4096) = false := by rw [decide_eq_false_iff_not]; omega
      obtain ⟨_, _, _, _, z4⟩ := h2.c
      clear hc h2 h3 h4 h5 hm
      have hmk := run_makeMap (P := Try.prog) 78 wr
      go_wp2_with (at_builtin; refine wpList_append_rowv elem75 rfl (.tmp 35) (.tmp 39) rfl 0 v q (rowV DM.vals L) rfl ((H2'.out.alloc (.map #[] 0)).alloc (.cells #[.int .i64 (m : Int), .map (some wr.heap.size), .slice none 0 0] 81)) (some ⟨wr.heap.size + 1, 0, none⟩) 1 1 (DM.new m wr.heap.size).vals rfl (by have := rdv_dm (wr.alloc (.map #[] 0)) m wr.heap.size; rwa [World.size_alloc] at this) (DM.one _ _) (fun h => by cases h) (by unfold maxLen; omega) (by omega) (by omega) ?_; intro v6 w6 hown6 hg6 hb6; obtain ⟨A6, c6, rfl, _, _, _⟩ := rdv_own hown6; have hnd := H2.out.newdisk (n := m) (o := .cells #[.int .i64 (m : Int), .map (some wr.heap.size), .slice none 0 0] 81) (by rw [hL]; exact hown6) hg6 hb6; obtain ⟨q1, q2, q3, q4⟩ := hnd; have Q3 := Lib.hid q3; have Q4 := Lib.hid (H5.out.trans q4); clear q3 q4 hown6 hg6 hb6)
      go_roundw
      case rel =>
        refine ⟨q + 1, _, _, L ++ [DM.new m wr.heap.size], by go_num, by omega, Q3.out, ?_, ?_, Q4.out⟩
        · rw [List.map_append, H3.out, List.take_succ_eq_append_getElem hql, List.map_append, ← HM.out]
          rfl
        · intro d hd
          rcases List.mem_append.1 hd with e | e
          · exact H4.out d e
          · rw [List.mem_singleton.1 e]; rfl
      case measure => simp [intOf]; omega
    · obtain rfl : q = n := by omega
      obtain ⟨b, off, rfl, _, c0⟩ := HH.out
      rw [← HN.out] at c0
      have x0 := (h5.cell' (World.block_lt_of_cell? _ _ c0) (fun e => e)).trans c0
      have bel := Chg.below h5 (Nat.le_refl _) (fun k e => e.elim)
      clear h2 h3 h4 h5 c0
      have d6 : decide ((q : Int) < (M : Int)) = true := decide_eq_true (by omega)
      rcases hx with hx | hx
      · have d3 : decide (x < 1) = true := decide_eq_true hx
        go_wp2_with fail
        go_ret2
        exact ⟨rfl, bel⟩
      · have d3 : decide (x < 1) = false := decide_eq_false (by omega)
        have d4 : decide (4096 < x) = true := decide_eq_true hx
        go_wp2_with fail
        go_ret2
        exact ⟨rfl, bel⟩
set_option maxHeartbeats 8000000 in
theorem refnew_bad (A : Option Addr) (c : Nat) (l : List Nat) (n : Int) (M : Nat) (w : World) (h : PreZ w A l n) (hm : l.length < M ∧ M ≤ 5) (hs : ∀ n ∈ l, 1 ≤ n ∧ n ≤ 4096) (hn : n < 1 ∨ 4096 < n) :
    Calls Try.prog 11 #[.slice A M c] w fun e w' => e = .returned (.tuple #[.agg #[.slice none 0 0, .int .i64 0, .int .i64 0, .bool false, .bool false], .int .i64 1]) ∧ Below w.heap.size w w' := by
  obtain ⟨k1, k3, ks, hb3⟩ := two_blocks w (.cells #[.slice none 0 0, .int .i64 0, .int .i64 0, .bool false, .bool false] 33) (.cells #[.slice none 0 0, .int .i64 0, .int .i64 0, .bool false, .bool false] 33)
  obtain ⟨N, hN⟩ : ∃ N, N = l.length := ⟨_, rfl⟩
  obtain ⟨z, hz⟩ : ∃ z, z = w.heap.size := ⟨_, rfl⟩
  have HN := Lib.hid hN
  have HZ := Lib.hid hz
  have H0 := Lib.hid h
  have HSS := Lib.hid hs
  have hlc : (l.map Dk.new).length = N := by rw [List.length_map, hN]
  have HLC := Lib.hid hlc
  have HW := Lib.hid (And.intro k1 (And.intro k3 (And.intro ks hb3)))
  rw [← hN] at hm
  rw [← hz] at HW
  obtain ⟨hm1, hm5⟩ := hm
  clear k1 k3 ks hb3 h hs hN hlc
  rw [← hz]
  clear hz
  have d1 : decide ((M : Int) < 1) = false := decide_eq_false (by omega)
  have d2 : decide (5 < (M : Int)) = false := decide_eq_false (by omega)
  go_enter Try.func11, Try.ntmps11
  go_upto_region 2 with fail
  rw [← HZ.out]
  revert HW
  generalize World.alloc _ _ = wb
  intro HW
  go_wp2_with fail
  clear d1 d2
  go_loopw [5] (fun i wr => ∃ (q : Nat) (v : Value) (X' : Nat → Prop) (L : List RDx), i = .int .i64 (q : Int) ∧ q ≤ N ∧ (wr.heap[z]? = some (.cells #[.slice none 0 0, .int .i64 0, .int .i64 0, .bool false, .bool false] 33 (0, 0)) ∧ wr.heap[z + 1]? = some (.cells #[v, .int .i64 0, .int .i64 0, .bool false, .bool false] 33 (0, 0)) ∧ Below z w wr) ∧ CDev wr (z + 2) q v ((l.map Dk.new).take q) X' L) (fun i _ => N - (intOf i).toNat)
  case atStart => exact ⟨0, .slice none 0 0, fun _ => False, [], rfl, by omega, ⟨HW.out.1, HW.out.2.1, HW.out.2.2.2⟩, ⟨World.ownsRow_nil _ _ _ _, by simp, rfl, (fun r hr => by cases hr), (fun k e => e.elim), fun k e => e.elim⟩⟩
  case round =>
    obtain ⟨j, v, X', L, rfl, hq, ⟨b0, b1, bel⟩, hcd⟩ := hrel
    have hzl : z + 1 < wr.heap.size := (Array.getElem?_eq_some_iff.1 b1).1
    have HB := Lib.hid (And.intro b0 (And.intro b1 bel))
    have HCD := Lib.hid hcd
    obtain ⟨Av, cv, rfl, hrv, hnil, _⟩ := rdv_own hcd.own
    have q0 := (cell_of_row _ _ 0 _ _ (0, 0) b1).trans rfl
    clear b0 b1 bel hcd hrv
    by_cases hlt : j < N
    · have hjl : j < l.length := by have := HN.out; omega
      have hltM : j < M := by omega
      have hsz := PreZ.below H0.out (by rw [← HZ.out]; exact HB.out.2.2)
      obtain ⟨b, off, rfl, hc, _⟩ := hsz
      have c0 := hc j hjl
      have hnj := HSS.out _ (List.getElem_mem hjl)
      obtain ⟨sz, hsj⟩ : ∃ y, y = l[j] := ⟨_, rfl⟩
      rw [← hsj] at c0 hnj
      have HSJ := Lib.hid hsj
      obtain ⟨hn1, hn2⟩ := hnj
      have d3 : decide ((sz : Int) < 1) = false := decide_eq_false (by omega)
      have d4 : decide (4096 < (sz : Int)) = false := decide_eq_false (by omega)
      clear hc hsj hnil
      go_upto_region 9 with fail
      clear d3 d4 q0
      have HA := Lib.hid (show ∀ W2, Below wr.drew.heap.size wr.drew W2 → Below wr.heap.size wr W2 ∧ W2.cell? ⟨z + 1, 0, none⟩ = some (.slice Av j cv) ∧ W2.cell? ⟨b, off + j, none⟩ = some (.int .i64 (sz : Int)) from fun W2 hw => by
        have hb2 : Below wr.heap.size wr W2 := (Below.refl _ wr).drew.trans hw
        exact ⟨hb2, (cell_of_row _ _ 0 _ _ (0, 0) ((hb2.block _ hzl).trans HB.out.2.1)).trans rfl, (hb2.cell (World.block_lt_of_cell? _ _ c0)).trans c0⟩)
      have hjN : (j : Int) < (M : Int) := by omega
      clear c0
      refine wp_region_noPanic ?_
      refine wp_region_abs 9 47 [
        .is (.pointer (some ⟨z + 1, 0, none⟩)),
        .is (.slice Av j cv),
        .is (.slice (some ⟨b, off, none⟩) M c),
        .is (.int .i64 (j : Int)),
        .is (.pointer (some ⟨b, off + j, none⟩)),
        .is (.int .i64 (sz : Int)),
        .tells (fun _ v _ wa => ∃ g, v = .slice (some ⟨g, 0, none⟩) sz sz ∧ wa.ownsRow wr.heap.size 50 64 (.slice (some ⟨g, 0, none⟩) sz sz) sz (rowV Sx.vals (secsF (fun _ => Sx.zero) sz)) ∧ wr.heap.size ≤ g),
        .tells (fun _ v _ wa => ∃ g, v = .agg #[.slice (some ⟨g, 0, none⟩) sz sz, .slice none 0 0] ∧ wa.ownsRow wr.heap.size 50 64 (.slice (some ⟨g, 0, none⟩) sz sz) sz (rowV Sx.vals (secsF (fun _ => Sx.zero) sz)) ∧ wr.heap.size ≤ g),
        .tells (fun _ v _ wa => ∃ g g2, v = .slice (some ⟨g2, 0, none⟩) 1 1 ∧ wa.heap[g2]? = some (.cells #[.slice (some ⟨g, 0, none⟩) sz sz, .slice none 0 0] 85 (0, 0)) ∧ wa.ownsRow wr.heap.size 50 64 (.slice (some ⟨g, 0, none⟩) sz sz) sz (rowV Sx.vals (secsF (fun _ => Sx.zero) sz)) ∧ wr.heap.size ≤ g)]
        [35, 36, 37, 38, 39, 40, 41, 42, 43]
        [[], [0], [], [], [2, 3], [4], [5], [6], [7]] (by kernel_rfl) (by rfl) rfl rfl (by kernel_rfl) (fun _ _ _ _ h => h.elim) ?_ ?_
      · refine ⟨?_, ?_, ?_, ?_, ?_, ?_, ?_, ?_, ?_, trivial⟩
        · intro W2 hw K hK
          go_simp
          exact hK _ _ rfl (Below.refl _ _)
        · intro W2 hw K hK
          obtain ⟨_, a0, _⟩ := HA.out W2 hw
          go_simp
          exact hK _ _ rfl (Below.refl _ _)
        · intro W2 hw K hK
          go_simp
          exact hK _ _ rfl (Below.refl _ _)
        · intro W2 hw K hK
          go_simp
          exact hK _ _ rfl (Below.refl _ _)
        · intro W2 hw K hK
          go_simp
          exact hK _ _ rfl (Below.refl _ _)
        · intro W2 hw K hK
          obtain ⟨_, _, a0⟩ := HA.out W2 hw
          go_simp
          exact hK _ _ rfl (Below.refl _ _)
        · intro W2 hw
          refine (show ∀ d, Does _ _ _ _ _ _ d _ from fun d => ?_) _
          have hsw := (HA.out W2 hw).1.size
          exact does_make_sx rfl _ _ rfl sz wr.heap.size hn2 hsw rfl rfl fun w6 h6 _ => ⟨_, rfl, h6, hsw⟩
        · rintro W2 hw v6 wb6 wa6 ⟨_, g, rfl, h6, h6z⟩ x6 K hK
          go_simp
          exact hK _ _ ⟨g, rfl, own_same h6 (fun k e => x6.block k (h6.lt k e).2), h6z⟩ (Below.refl _ _)
        · rintro W2 hw v7 wb7 wa7 ⟨_, g, rfl, h6, h6z⟩ x6 K hK
          go_simp
          have hba : Below W2.heap.size W2 (W2.alloc (.cells #[.slice (some ⟨g, 0, none⟩) sz sz, .slice none 0 0] 85)) := (Below.refl _ _).alloc (Nat.le_refl _) _
          exact hK _ _ ⟨g, _, rfl, heap_alloc_new _ _, own_same (own_same h6 (fun k e => x6.block k (h6.lt k e).2)) (fun k e => hba.block k (Nat.lt_of_lt_of_le (h6.lt k e).2 x6.size)), h6z⟩ hba
      · intro W2 hw2
        intro v6 wb6 wa6 _ _ _ _ v7 wb7 wa7 _ _ _ _ v8 wb8 wa8 h8 x8 _ _
        simp only [Behind, List.drop, Act.put, List.setIfInBounds_toArray, List.set_cons_zero, List.set_cons_succ]
        obtain ⟨g, g2, rfl, hg2, hown, hgz⟩ := h8
        have hb2 := (HA.out W2 hw2).1
        have hg22 := (x8.block g2 (Array.getElem?_eq_some_iff.1 hg2).1).trans hg2
        have hown2 := own_same (w' := W2) hown fun k e => x8.block k (hown.lt k e).2
        have hcd2 := HCD.out.below hb2
        have hrd : Rdv W2 (some ⟨g2, 0, none⟩) 1 2 [.slice (some ⟨g, 0, none⟩) sz sz, .slice none 0 0] := ⟨rfl, fun _ => ⟨g2, 0, rfl, fun r u hr => by
          rw [Nat.zero_add, cell_of_row _ _ r _ _ (0, 0) hg22]
          simpa using hr⟩⟩
        have HM := Lib.hid (And.intro hb2 (And.intro hown2 hcd2))
        have HRD := Lib.hid hrd
        have hs2 := hb2.size
        clear hw2 hg2 hown x8 hg22 hown2 hcd2 hrd hb2
        go_wp2_with (refine wpList_append_rowv elemRD rfl (.tmp 36) (.tmp 43) rfl (z + 2) (.slice Av j cv) j (rowV RDx.vals L) (by rfl) HM.out.2.2.own (some ⟨g2, 0, none⟩) 1 1 [.slice (some ⟨g, 0, none⟩) sz sz, .slice none 0 0] (by rfl) HRD.out (fun u hu => by rcases List.mem_cons.1 hu with rfl | hu; exact rfl; rw [List.mem_singleton.1 hu]; rfl) (fun h => by cases h) (by unfold maxLen; omega) (by omega) (by omega) ?_; intro v6 w6 hown6 hg6 hgb6; obtain ⟨q6, c6, rfl, hq6⟩ := own_some hown6 (by omega); have HO6 := Lib.hid hown6; have HG6 := Lib.hid hg6; have HGB := Lib.hid hgb6; have h62 := (hg6.block (z + 1) (by omega) (fun e => by have := (HM.out.2.2.own.lt (z + 1) e.symm).1; omega)).trans ((HM.out.1.block (z + 1) hzl).trans HB.out.2.1); have y0 := (cell_of_row _ _ 0 _ _ (0, 0) h62).trans rfl; have y1 := frozen_at h62 0; have hs6 := hg6.size; have hz6 : z + 1 < w6.heap.size := (Array.getElem?_eq_some_iff.1 h62).1; clear hown6 hg6 hgb6 h62)
        refine NoPanic.normal ?_
        go_wp2_with fail
        have hne : ∀ k, k ≠ z + 1 → (w6.setCell ⟨z + 1, 0, none⟩ (.slice (some ⟨q6, 0, none⟩) (j + 1) c6)).heap[k]? = w6.heap[k]? := fun k hk => Below.heap_setCell _ ⟨z + 1, 0, none⟩ _ _ hk
        have hlow : ∀ k, k < z + 2 → w6.heap[k]? = wr.heap[k]? := fun k hk => (HG6.out.block k (by omega) (fun e => by have := (HM.out.2.2.own.lt k e.symm).1; omega)).trans (HM.out.1.block k (by omega))
        have hgl := own_lt HM.out.2.1
        have hX : ∀ k, (X' k ∨ k = g) → z + 2 ≤ k ∧ k < W2.heap.size ∧ (Value.slice Av j cv).ownBlock ≠ some k := fun k e => by
          rcases e with e | e
          · have h1 := HM.out.2.2.xb k e
            exact ⟨h1.1, h1.2, HM.out.2.2.ap k e⟩
          · subst e
            exact ⟨by omega, hgl.2.1, fun e2 => by have := (HCD.out.own.lt k e2).2; omega⟩
        have hkeep : ∀ k, (X' k ∨ k = g) → (w6.setCell ⟨z + 1, 0, none⟩ (.slice (some ⟨q6, 0, none⟩) (j + 1) c6)).heap[k]? = W2.heap[k]? := fun k e => by
          obtain ⟨h1, h2, h3⟩ := hX k e
          exact (hne k (by omega)).trans (HG6.out.block k h2 (fun e2 => h3 e2.symm))
        have hjc : j < (l.map Dk.new).length := by rw [HLC.out]; exact hlt
        refine ⟨⟨j + 1, .slice (some ⟨q6, 0, none⟩) (j + 1) c6, fun k => X' k ∨ k = g, L ++ [⟨some ⟨g, 0, none⟩, sz, Dk.new sz, none, 0⟩], by go_num, by omega, ⟨(hne z (by omega)).trans ((hlow z (by omega)).trans HB.out.1), ?_, ?_⟩, ⟨?_, ?_, ?_, ?_, ?_, ?_⟩⟩, by simp [intOf]; omega⟩
        · exact box_set (b := z + 1) ((hlow (z + 1) (by omega)).trans HB.out.2.1) 0 (.slice (some ⟨q6, 0, none⟩) (j + 1) c6)
        · refine HB.out.2.2.trans ⟨HG6.out.os.trans HM.out.1.os, HG6.out.tape.trans HM.out.1.tape, HG6.out.output.trans HM.out.1.output, by rw [World.size_setCell]; omega, fun k hk => (hne k (by omega)).trans (hlow k (by omega))⟩
        · have ho := HO6.out
          have e : rowV RDx.vals L ++ [.slice (some ⟨g, 0, none⟩) sz sz, .slice none 0 0] = rowV RDx.vals (L ++ [⟨some ⟨g, 0, none⟩, sz, Dk.new sz, none, 0⟩]) := by
            rw [rowV_append]
            simp [rowV, RDx.vals, Dk.new]
          rw [e] at ho
          exact own_same ho fun k e2 => by
            have e3 : k = q6 := (Option.some.inj e2).symm
            rw [e3]
            exact hne q6 (by omega)
        · rw [List.map_append, HM.out.2.2.dks, List.take_succ_eq_append_getElem hjc, List.getElem_map, ← HSJ.out]
          rfl
        · rw [List.length_append, HM.out.2.2.len]; rfl
        · intro r hr
          rcases List.mem_append.1 hr with e | e
          · exact ((HM.out.2.2.ok r e).wide (Y := fun k => X' k ∨ k = g) fun k e => .inl e).keep hkeep
          · rw [List.mem_singleton.1 e]
            refine ⟨?_, ⟨rfl, by simp [rowV, Dk.new], fun h => absurd h (by simp [Dk.new])⟩, (fun e => by cases e), (fun _ => rfl), (fun a e => by injection e with e; subst e; exact .inr rfl), fun a e => by cases e⟩
            have hr0 : RowAt Sx.vals 64 W2 (some ⟨g, 0, none⟩) sz (secsF (fun _ => Sx.zero) sz) := rowat_own HM.out.2.1 (secsF_length _ _)
            exact RowAt.keep (X := fun k => X' k ∨ k = g) hr0 (fun a e => by injection e with e; subst e; exact .inr rfl) hkeep
        · intro k e
          obtain ⟨h1, h2, _⟩ := hX k e
          exact ⟨h1, by rw [World.size_setCell]; omega⟩
        · intro k e e2
          obtain ⟨_, h2, h3⟩ := hX k e
          rcases HGB.out with e4 | e4
          · exact h3 (e4 ▸ e2)
          · rw [e2] at e4
            injection e4 with e4
            omega
    · obtain rfl : j = N := by omega
      have hsz := PreZ.below H0.out (by rw [← HZ.out]; exact HB.out.2.2)
      obtain ⟨b, off, rfl, _, c0⟩ := hsz
      rw [← HN.out] at c0
      have b0 := HB.out.1
      have pp0 := (cell_of_row _ _ 0 _ _ (0, 0) b0).trans rfl
      have pp1 := (cell_of_row _ _ 1 _ _ (0, 0) b0).trans rfl
      have pp2 := (cell_of_row _ _ 2 _ _ (0, 0) b0).trans rfl
      have pp3 := (cell_of_row _ _ 3 _ _ (0, 0) b0).trans rfl
      have pp4 := (cell_of_row _ _ 4 _ _ (0, 0) b0).trans rfl
      have g0 := frozen_at b0 0
      have g1 := frozen_at b0 1
      have g2 := frozen_at b0 2
      have g3 := frozen_at b0 3
      have g4 := frozen_at b0 4
      clear b0
      have d6 : decide ((j : Int) < (M : Int)) = true := decide_eq_true (by omega)
      rcases hn with hn | hn
      · have d3 : decide (n < 1) = true := decide_eq_true hn
        go_wp2_with fail
        obtain ⟨u, tk, tb⟩ := set5 wr z 33 _ _ _ _ _ (.slice none 0 0) (.int .i64 0) (.int .i64 0) (.bool false) (.bool false) HB.out.1
        have hbl := tb z w HB.out.2.2 (Nat.le_refl _)
        have HT := Lib.hid (And.intro u hbl)
        clear u tk tb hbl pp0 pp1 pp2 pp3 pp4 g0 g1 g2 g3 g4
        revert HT
        generalize World.setCell (World.setCell _ _ _) _ _ = w9
        intro HT
        obtain ⟨u, hbl⟩ := HT.out
        have h0 := (cell_of_row _ _ 0 _ _ (0, 0) u).trans rfl
        have h1 := (cell_of_row _ _ 1 _ _ (0, 0) u).trans rfl
        have h2 := (cell_of_row _ _ 2 _ _ (0, 0) u).trans rfl
        have h3 := (cell_of_row _ _ 3 _ _ (0, 0) u).trans rfl
        have h4 := (cell_of_row _ _ 4 _ _ (0, 0) u).trans rfl
        exact bodyPost_ret (v := .tuple #[.agg #[.slice none 0 0, .int .i64 0, .int .i64 0, .bool false, .bool false], .int .i64 1]) (by simp [results, Try.results11, go_sem, h0, h1, h2, h3, h4]) rfl ⟨rfl, hbl⟩
      · have d3 : decide (n < 1) = false := decide_eq_false (by omega)
        have d4 : decide (4096 < n) = true := decide_eq_true hn
        go_wp2_with fail
        obtain ⟨u, tk, tb⟩ := set5 wr z 33 _ _ _ _ _ (.slice none 0 0) (.int .i64 0) (.int .i64 0) (.bool false) (.bool false) HB.out.1
        have hbl := tb z w HB.out.2.2 (Nat.le_refl _)
        have HT := Lib.hid (And.intro u hbl)
        clear u tk tb hbl pp0 pp1 pp2 pp3 pp4 g0 g1 g2 g3 g4
        revert HT
        generalize World.setCell (World.setCell _ _ _) _ _ = w9
        intro HT
        obtain ⟨u, hbl⟩ := HT.out
        have h0 := (cell_of_row _ _ 0 _ _ (0, 0) u).trans rfl
        have h1 := (cell_of_row _ _ 1 _ _ (0, 0) u).trans rfl
        have h2 := (cell_of_row _ _ 2 _ _ (0, 0) u).trans rfl
        have h3 := (cell_of_row _ _ 3 _ _ (0, 0) u).trans rfl
        have h4 := (cell_of_row _ _ 4 _ _ (0, 0) u).trans rfl
        exact bodyPost_ret (v := .tuple #[.agg #[.slice none 0 0, .int .i64 0, .int .i64 0, .bool false, .bool false], .int .i64 1]) (by simp [results, Try.results11, go_sem, h0, h1, h2, h3, h4]) rfl ⟨rfl, hbl⟩
end Go.Proofs.Ythmebgpleegonaa
