/- What is large. -/
import Derived.Test.YtmicheheibkmjaaFJoinW
namespace Go.Proofs.Ytmicheheibkmjaa
set_option maxRecDepth 100000
open Go.RowKit

set_option maxHeartbeats 4000000 in
theorem large_any (A : Option Addr) (n c : Nat) (fs : List Ft) (w : World) (h : FtsG w A n fs) (hn : n ≤ 9223372036854775807) :
    Calls Try.prog 9 #[.slice A n c] w fun e w' => (∃ r : Bool, e = .returned (.bool r) ∧ (r = false → n ≤ 11 ∧ Few fs 60)) ∧ Below w.heap.size w w' := by
  have HH := Lib.hid h
  have HL := Lib.hid h.1
  clear h
  go_enter Try.func9, Try.ntmps9
  go_wp2_with fail
  go_loopw [3, 4, 7] (fun _ _ i wr => ∃ q : Nat, i = .int .i64 (q : Int) ∧ q ≤ n ∧ q ≤ 11 ∧ Hid (Few (fs.take q) 60) ∧ Below w.heap.size w wr) (fun _ _ i _ => n - (intOf i).toNat)
  case atStart => exact ⟨0, rfl, by omega, by omega, fun f hf => by simp at hf, Below.refl _ _⟩
  case round =>
    obtain ⟨q, rfl, hq, hq11, hno, hbr⟩ := hrel
    have HBR := Lib.hid hbr
    by_cases hlt : q < n
    · have hqf : q < fs.length := by rw [HL.out]; exact hlt
      obtain ⟨b, off, rfl, hc⟩ := (HH.out.below hbr).2 (by omega)
      obtain ⟨x, hx, x0, x1, x2⟩ := hc q hlt
      have l1 := hx.at_.rs.len
      have l2 := hx.at_.sp.len
      have l3 := hx.at_.ws.len
      obtain ⟨s1, s2, s3⟩ := hx.at_.small
      have HS := Lib.hid (show x.n ≤ 60 → x.n2 ≤ 60 → x.n3 ≤ 60 → Few (fs.take (q + 1)) 60 from fun a1 a2 a3 f hf => by
        rw [List.take_succ_eq_append_getElem hqf, List.mem_append] at hf
        rcases hf with hf | hf
        · exact hno.out f hf
        · simp at hf
          rw [hf, ← getD_at fs q hqf]
          omega)
      have HW := Lib.hid (HBR.out.trans (((Below.refl wr.heap.size wr).alloc (Nat.le_refl _) (.cells #[.slice x.A x.n x.c, .slice x.A2 x.n2 x.c2, .slice x.A3 x.n3 x.c3] 30)).mono HBR.out.size))
      clear hc hx hbr l1 l2 l3
      by_cases h10 : 10 < q
      · have e0 : decide ((10 : Int) < q) = true := by rw [decide_eq_true_iff]; omega
        go_wp2_with fail
        go_ret
        exact ⟨⟨true, rfl, fun h => by cases h⟩, HW.out⟩
      · have e0 : decide ((10 : Int) < q) = false := by rw [decide_eq_false_iff_not]; omega
        by_cases h1 : 60 < x.n
        · have e1 : decide ((60 : Int) < x.n) = true := by rw [decide_eq_true_iff]; omega
          go_wp2_with fail
          go_ret
          exact ⟨⟨true, rfl, fun h => by cases h⟩, HW.out⟩
        · have e1 : decide ((60 : Int) < x.n) = false := by rw [decide_eq_false_iff_not]; omega
          by_cases h2 : 60 < x.n2
          · have e2 : decide ((60 : Int) < x.n2) = true := by rw [decide_eq_true_iff]; omega
            go_wp2_with fail
            go_ret
            exact ⟨⟨true, rfl, fun h => by cases h⟩, HW.out⟩
          · have e2 : decide ((60 : Int) < x.n2) = false := by rw [decide_eq_false_iff_not]; omega
            by_cases h3 : 60 < x.n3
            · have e3 : decide ((60 : Int) < x.n3) = true := by rw [decide_eq_true_iff]; omega
              go_wp2_with fail
              go_ret
              exact ⟨⟨true, rfl, fun h => by cases h⟩, HW.out⟩
            · have e3 : decide ((60 : Int) < x.n3) = false := by rw [decide_eq_false_iff_not]; omega
              have HN := Lib.hid (HS.out (by omega) (by omega) (by omega))
              go_wp2_with fail
              go_roundw
              case rel => exact ⟨q + 1, by go_num, by omega, by omega, HN.out, HW.out⟩
              case measure => simp [intOf]; omega
    · obtain rfl : n = q := by omega
      have HN := Lib.hid (show Few fs 60 by
        have := hno.out
        rwa [← HL.out, List.take_length] at this)
      clear hbr
      go_wp2_with fail
      go_ret
      exact ⟨⟨false, rfl, fun _ => ⟨by omega, HN.out⟩⟩, HBR.out⟩
end Go.Proofs.Ytmicheheibkmjaa
