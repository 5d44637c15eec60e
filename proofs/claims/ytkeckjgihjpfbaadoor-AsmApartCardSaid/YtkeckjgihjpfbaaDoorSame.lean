/- The contracts of slices.Equal over instructions, prog.Same, num.Programs, the law's large and copies, the document's Shape. -/
import Derived.Test.YtkeckjgihjpfbaaDoorCheck
namespace Go.Proofs.YtkeckjgihjpfbaaDoor
set_option maxRecDepth 100000
open Go.RowKit

theorem decide_cut (l m : List Ins) (k : Nat) (hk : k < l.length) (hm : k < m.length) (h : l[k] ≠ m[k]) : l ≠ m := fun e => by subst e; exact h rfl
theorem decide_all (l m : List Ins) (hl : l.length = m.length) (h : ∀ j (h1 : j < l.length) (h2 : j < m.length), l[j] = m[j]) : l = m := List.ext_getElem hl h
set_option maxHeartbeats 2000000 in
theorem equal_any (A A' : Option Addr) (n n' c c' : Nat) (l m : List Ins) (w : World) (h1 : Codes w A n l) (h2 : Codes w A' n' m) (hn : n ≤ 9223372036854775807) (hn' : n' ≤ 9223372036854775807) :
    Calls Tryd.prog 54 #[.slice A n c, .slice A' n' c'] w fun e w' => e = .returned (.bool (decide (l = m))) ∧ Below w.heap.size w w' := by
  have HL := Lib.hid h1.len
  have HM := Lib.hid h2.len
  have H1 := Lib.hid h1
  have H2 := Lib.hid h2
  clear h1 h2
  by_cases hnn : n = n'
  · subst hnn
    have d0 : ((n : Int) != (n : Int)) = false := by simp
    go_enter Tryd.func54, Tryd.ntmps54
    go_wp2_with fail
    go_loopw [13] (fun i wr => ∃ k : Nat, i = .int .i64 (k : Int) ∧ k ≤ n ∧ Below w.heap.size w wr ∧ (∀ j (h1 : j < l.length) (h2 : j < m.length), j < k → l[j] = m[j])) (fun i _ => n - (intOf i).toNat)
    case atStart => exact ⟨0, rfl, by omega, Below.refl _ _, fun j _ _ h => absurd h (by omega)⟩
    case round =>
      obtain ⟨k, rfl, hk, hb, hall⟩ := hrel
      have HB := Lib.hid hb
      have HALL := Lib.hid hall
      clear hb hall
      by_cases hlt : k < n
      · have hkl : k < l.length := by rw [HL.out]; exact hlt
        have hkm : k < m.length := by rw [HM.out]; exact hlt
        obtain ⟨b, off, rfl, hc⟩ := (H1.out.ext (stays_b HB.out)).cells (by omega)
        obtain ⟨b2, off2, rfl, hc2⟩ := (H2.out.ext (stays_b HB.out)).cells (by omega)
        obtain ⟨p0, p1, p2, p3, p4, p5⟩ := hc k hkl
        obtain ⟨q0, q1, q2, q3, q4, q5⟩ := hc2 k hkm
        obtain ⟨x, hx⟩ : ∃ x, x = l[k] := ⟨_, rfl⟩
        obtain ⟨y, hy⟩ : ∃ y, y = m[k] := ⟨_, rfl⟩
        rw [← hx] at p0 p1 p2 p3 p4 p5
        rw [← hy] at q0 q1 q2 q3 q4 q5
        have hne := fun W => neq_ins W x y
        unfold Ins.val at hne
        have HX := Lib.hid hx
        have HY := Lib.hid hy
        clear hc hc2 hx hy
        by_cases he : x = y
        · rw [decide_eq_true he] at hne
          have HE := Lib.hid he
          clear he
          go_wp2_with fail
          go_quiet (fail)
          have hbd : Below w.heap.size w (wr.drewN nq) := ⟨HB.out.os, HB.out.tape, HB.out.output, HB.out.size, HB.out.block⟩
          go_wp2_with fail
          go_roundw
          case rel => exact ⟨k + 1, by go_num, by omega, hbd, fun j h1 h2 hj => by
            rcases Nat.lt_or_ge j k with h | h
            · exact HALL.out j h1 h2 h
            · obtain rfl : j = k := by omega
              rw [← HX.out, ← HY.out]; exact HE.out⟩
          case measure => simp [intOf]; omega
        · rw [decide_eq_false he] at hne
          have HE := Lib.hid (show decide (l = m) = false from decide_eq_false (decide_cut l m k hkl hkm (by rw [← HX.out, ← HY.out]; exact he)))
          clear he
          go_wp2_with fail
          go_quiet (fail)
          have hbd : Below w.heap.size w (wr.drewN nq) := ⟨HB.out.os, HB.out.tape, HB.out.output, HB.out.size, HB.out.block⟩
          go_wp2_with fail
          go_ret
          exact ⟨ret_bool' HE.out.symm, hbd⟩
      · obtain rfl : k = n := by omega
        have HE := Lib.hid (show decide (l = m) = true from decide_eq_true (decide_all l m (by rw [HL.out, HM.out]) (fun j h1 h2 => HALL.out j h1 h2 (by rw [← HL.out]; exact h1))))
        go_wp2_with fail
        go_ret
        exact ⟨ret_bool' HE.out.symm, HB.out⟩
  · have d0 : ((n : Int) != (n' : Int)) = true := by rw [bne_iff_ne]; omega
    have HE := Lib.hid (show decide (l = m) = false from decide_eq_false (fun e => hnn (by rw [← HL.out, ← HM.out, e])))
    clear hnn
    go_enter Tryd.func54, Tryd.ntmps54
    go_wp2_with fail
    go_ret
    exact ⟨ret_bool' HE.out.symm, Below.refl _ _⟩
theorem two_boxes (w : World) (f g : Int) (A A' : Option Addr) (n n' c c' : Nat) : Below w.heap.size w ((w.alloc (.cells #[.int .i64 f, .slice A n c] 24)).alloc (.cells #[.int .i64 g, .slice A' n' c'] 24)) := ((Below.refl _ w).alloc (Nat.le_refl _) _).alloc (by simp) _
/-- The same program? -/
def sameP (f g : Int) (l m : List Ins) : Bool := decide (f = g) && decide (l = m)
set_option maxHeartbeats 1000000 in
theorem sameP_any (f g : Int) (A A' : Option Addr) (n n' c c' : Nat) (l m : List Ins) (w : World) (h1 : Codes w A n l) (h2 : Codes w A' n' m) (hn : n ≤ 9223372036854775807) (hn' : n' ≤ 9223372036854775807) :
    Calls Tryd.prog 27 #[.agg #[.int .i64 f, .slice A n c], .agg #[.int .i64 g, .slice A' n' c']] w fun e w' => e = .returned (.bool (sameP f g l m)) ∧ Below w.heap.size w w' := by
  have hb := two_boxes w f g A A' n n' c c'
  have HB := Lib.hid hb
  have HE := Lib.hid (equal_any A A' n n' c c' l m _ (h1.ext (stays_b hb)) (h2.ext (stays_b hb)) hn hn')
  clear h1 h2 hb
  by_cases hfg : f = g
  · subst hfg
    have d0 : (f == f) = true := by simp
    have HS := Lib.hid (show sameP f f l m = decide (l = m) by simp [sameP])
    go_enter Tryd.func27, Tryd.ntmps27
    go_wp2_with fail
    refine Calls.mono HE.out ?_
    rintro e w1 ⟨rfl, hb1⟩
    have HB1 := Lib.hid (HB.out.trans (hb1.mono HB.out.size))
    clear hb1
    go_wp2_with fail
    go_ret
    exact ⟨ret_bool' HS.out.symm, HB1.out⟩
  · have d0 : (f == g) = false := by rw [beq_eq_false_iff_ne]; exact hfg
    have HS := Lib.hid (show sameP f g l m = false by simp [sameP, hfg])
    clear hfg
    go_enter Tryd.func27, Tryd.ntmps27
    go_wp2_with fail
    go_ret
    exact ⟨ret_bool' HS.out.symm, HB.out⟩
set_option maxHeartbeats 400000 in
theorem large_any (f : Int) (A : Option Addr) (n c : Nat) (w : World) :
    Calls Tryd.prog 12 #[.agg #[.int .i64 f, .slice A n c]] w fun e w' => e = .returned (.bool (decide ((100 : Int) < (n : Int)))) ∧ Below w.heap.size w w' := by
  go_enter Tryd.func12, Tryd.ntmps12
  go_wp2_with fail
  go_ret
  exact ⟨rfl, (Below.refl _ w).alloc (Nat.le_refl _) _⟩
end Go.Proofs.YtkeckjgihjpfbaaDoor
