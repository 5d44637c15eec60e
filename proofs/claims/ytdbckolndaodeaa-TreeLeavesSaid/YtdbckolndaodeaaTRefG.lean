/- The document's Get; the same rows. -/
import Derived.Test.YtdbckolndaodeaaTRef
import Derived.Deep.QuietTactic
import Derived.BigQuiet
namespace Go.Proofs.Ytdbckolndaodeaa
set_option maxRecDepth 100000
open Go.RowKit

theorem get_hit {k : Int} {x : Ix} {l : List Ix} (h : x.k = k) : getC k (x :: l) = some x.c := by unfold getC; rw [List.find?_cons_of_pos (by simpa using h)]; rfl
theorem get_miss {k : Int} {x : Ix} {l : List Ix} (h : x.k ≠ k) : getC k (x :: l) = getC k l := by unfold getC; rw [List.find?_cons_of_neg (by simpa using h)]
set_option maxHeartbeats 8000000 in
theorem refGet_any {w : World} {A : Option Addr} {c : Nat} {l : List Ix} (h : Ris w A l) (hl : l.length ≤ 100000) (k : Int) : Calls Try.prog 13 #[.slice A l.length c, .int .i64 k] w fun e w' => e = .returned (.tuple #[.agg #[.int .i64 (cv (getC k l)).v, .int .i64 (cv (getC k l)).s, .bool (cv (getC k l)).dead], .bool (getC k l).isSome]) ∧ Below w.heap.size w w' := by
  have HH := Lib.hid h
  have HL := Lib.hid hl
  obtain ⟨G, hG⟩ : ∃ G, G = getC k l := ⟨_, rfl⟩
  have HG : Hid (getC k (l.drop 0) = G) := Lib.hid (by rw [hG]; rfl)
  rw [← hG]
  obtain ⟨n, hn⟩ : ∃ n, n = l.length := ⟨_, rfl⟩
  have HN := Lib.hid hn
  rw [← hn]
  obtain ⟨W1, hW1⟩ : ∃ W1, W1 = w.alloc (.cells #[.int .i64 0, .int .i64 0, .bool false] 29) := ⟨_, rfl⟩
  have HR1 : Hid (Rx w W1) := Lib.hid (by rw [hW1]; exact Rx.start w)
  have HW := Lib.hid hW1
  obtain ⟨s, hs⟩ : ∃ s, s = w.heap.size := ⟨_, rfl⟩
  have HS := Lib.hid hs
  have hr := HR1.out.res
  rw [← hs] at hr
  have r0 : W1.cell? ⟨s, 0, none⟩ = some (.int .i64 0) := by rw [cell_of_row _ _ 0 _ _ _ hr]; rfl
  have r1 : W1.cell? ⟨s, 1, none⟩ = some (.int .i64 0) := by rw [cell_of_row _ _ 1 _ _ _ hr]; rfl
  have r2 : W1.cell? ⟨s, 2, none⟩ = some (.bool false) := by rw [cell_of_row _ _ 2 _ _ _ hr]; rfl
  have rf := frozen_of hr
  have HRR := Lib.hid (fun x y z => res3 hr x y z)
  have HSB := Lib.hid (⟨by rw [hs]; omega, HR1.out.below⟩ : Sb w W1 s)
  have HHB := Lib.hid (RowAt.below h HR1.out.below)
  clear h hl hG hn hW1 hr
  go_enter Try.func13, Try.ntmps13
  go_wp2_with fail
  rw [← HW.out, ← hs]
  clear hs
  go_loopw [6, 7, 8, 9, 10, 11, 12, 13, 14, 15, 16, 17, 18, 19, 20, 21, 22, 23, 24] (fun ix _ _ _ _ _ _ _ _ _ _ _ _ _ _ _ _ _ _ wr => ∃ z : Nat, ix = .int .i64 (z : Int) ∧ z ≤ n ∧ getC k (l.drop z) = G ∧ wr = W1) (fun ix _ _ _ _ _ _ _ _ _ _ _ _ _ _ _ _ _ _ _ => n - (intOf ix).toNat)
  case atStart => exact ⟨0, rfl, Nat.zero_le _, HG.out, rfl⟩
  case round =>
    obtain ⟨z, rfl, hz, he, rfl⟩ := hrel
    have HE := Lib.hid he
    clear he
    by_cases hlt : z < n
    · have hzl : z < l.length := by rw [← HN.out]; exact hlt
      obtain ⟨b, off, rfl, hcl⟩ := Ris.cell HHB.out (by omega)
      obtain ⟨x0, x1, x2, x3⟩ := hcl z hzl
      obtain ⟨x, hx⟩ : ∃ x, x = l[z] := ⟨_, rfl⟩
      have hda : l.drop z = x :: l.drop (z + 1) := drop_at (by rw [hx]; exact List.getElem?_eq_getElem hzl)
      rw [← hx] at x0 x1 x2 x3
      have HDA := Lib.hid hda
      have hnb : n ≤ 100000 := by rw [HN.out]; exact HL.out
      clear hcl hx hzl hda
      by_cases hk : x.k = k
      · have d1 : (x.k == k) = true := by rw [hk]; simp
        have HKK : Hid (G = some x.c) := Lib.hid (by rw [← HE.out, HDA.out, get_hit hk])
        clear hk
        go_wp2_with fail
        refine bodyPost_ret (v := .tuple #[.agg #[.int .i64 x.c.v, .int .i64 x.c.s, .bool x.c.dead], .bool true]) (by simp [results, Try.results13, go_sem, (HRR.out (.int .i64 x.c.v) (.int .i64 x.c.s) (.bool x.c.dead)).1, (HRR.out (.int .i64 x.c.v) (.int .i64 x.c.s) (.bool x.c.dead)).2.1, (HRR.out (.int .i64 x.c.v) (.int .i64 x.c.s) (.bool x.c.dead)).2.2]) rfl ⟨by rw [HKK.out]; rfl, (((HSB.out.s1 0 _).s1 1 _).s1 2 _).b⟩
      · have d1 : (x.k == k) = false := by simp [hk]
        have HKK : Hid (getC k (l.drop (z + 1)) = G) := Lib.hid (by rw [← HE.out, HDA.out, get_miss hk])
        clear hk
        go_wp2_with fail
        go_roundw
        case rel => exact ⟨z + 1, by go_num, by omega, HKK.out, trivial⟩
        case measure => simp [intOf]; omega
    · obtain rfl : z = n := by omega
      have HKK : Hid (G = none) := Lib.hid (by
        rw [← HE.out, List.drop_of_length_le (by rw [← HN.out]; exact Nat.le_refl _)]; rfl)
      go_wp2_with fail
      refine bodyPost_ret (v := .tuple #[.agg #[.int .i64 0, .int .i64 0, .bool false], .bool false]) (by simp [results, Try.results13, go_sem, (HRR.out (.int .i64 0) (.int .i64 0) (.bool false)).1, (HRR.out (.int .i64 0) (.int .i64 0) (.bool false)).2.1, (HRR.out (.int .i64 0) (.int .i64 0) (.bool false)).2.2]) rfl ⟨by rw [HKK.out]; rfl, (((HSB.out.s1 0 _).s1 1 _).s1 2 _).b⟩
set_option maxHeartbeats 8000000 in
theorem same_any {w : World} {A A2 : Option Addr} {c c2 : Nat} {l : List Ix} (h : Ris w A l) (h2 : Ris w A2 l) (hl : l.length ≤ 100000) : Calls Try.prog 15 #[.slice A l.length c, .slice A2 l.length c2] w fun e w' => e = .returned (.bool true) ∧ Below w.heap.size w w' := by
  have HH := Lib.hid h
  have HH2 := Lib.hid h2
  obtain ⟨n, hn⟩ : ∃ n, n = l.length := ⟨_, rfl⟩
  have HN := Lib.hid hn
  rw [← hn]
  rw [← hn] at hl
  have HL := Lib.hid hl
  clear h h2 hn hl
  have d0 : ((n : Int) != (n : Int)) = false := by simp
  go_enter Try.func15, Try.ntmps15
  go_wp2_with fail
  clear d0
  go_loopw [5, 13, 14, 15, 16, 17, 18, 19, 20, 21, 22, 23, 24, 25] (fun _ ix _ _ _ _ _ _ _ _ _ _ _ _ wr => ∃ z : Nat, ix = .int .i64 (z : Int) ∧ z ≤ n ∧ Below w.heap.size w wr) (fun _ ix _ _ _ _ _ _ _ _ _ _ _ _ _ => n - (intOf ix).toNat)
  case atStart => exact ⟨0, rfl, Nat.zero_le _, Below.refl _ _⟩
  case round =>
    obtain ⟨z, rfl, hz, hb⟩ := hrel
    have HB := Lib.hid hb
    by_cases hlt : z < n
    · have hzl : z < l.length := by rw [← HN.out]; exact hlt
      obtain ⟨b, off, rfl, hcl⟩ := Ris.cell (RowAt.below HH.out hb) (by omega)
      obtain ⟨x0, x1, x2, x3⟩ := hcl z hzl
      obtain ⟨b', off', rfl, hcl'⟩ := Ris.cell (RowAt.below HH2.out hb) (by omega)
      obtain ⟨y0, y1, y2, y3⟩ := hcl' z hzl
      obtain ⟨x, hx⟩ : ∃ x, x = l[z] := ⟨_, rfl⟩
      rw [← hx] at x0 x1 x2 x3 y0 y1 y2 y3
      have hnb : n ≤ 100000 := HL.out
      have hzi : (z : Int) < (n : Int) := by omega
      clear hcl hcl' hx hzl hb
      go_upto_region 6 with fail
      go_quiet (fail)
      go_wp2_with fail
      go_roundw
      case rel => exact ⟨z + 1, by go_num, by omega, below_drewQ HB.out⟩
      case measure => simp [intOf]; omega
    · obtain rfl : z = n := by omega
      clear hb
      go_wp2_with fail
      go_ret
      exact ⟨rfl, HB.out⟩
end Go.Proofs.Ytdbckolndaodeaa
