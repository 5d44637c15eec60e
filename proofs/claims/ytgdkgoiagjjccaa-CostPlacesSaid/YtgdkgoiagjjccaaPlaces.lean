/- CostPlaces answers true of whatever policy, number and transaction. -/
import Derived.Test.YtgdkgoiagjjccaaCopies
namespace Go.Proofs.Ytgdkgoiagjjccaa
set_option maxRecDepth 100000
open Go.RowKit

set_option maxHeartbeats 1000000 in
theorem places_long (B C F W P seq : Int) (A : Option Addr) (n c : Nat) (A2 : Option Addr) (m c2 : Nat) (hl : 40 < n ∨ 40 < m) (w : World) :
    Calls Try.prog 4 #[polV B C F W P, .int .i64 seq, .agg #[.slice A n c, .slice A2 m c2]] w fun e w' => e = .returned (.bool true) ∧ Below w.heap.size w w' := by
  have HA := Lib.hid (fun w => alive_any w)
  have HB := Lib.hid (ww_below w B C F W P A n c A2 m c2)
  have HX := Lib.hid (ww_xb w B C F W P A n c A2 m c2)
  by_cases h40 : 40 < n
  · clear hl
    go_enter Try.func4, Try.ntmps4
    go_wp2_with fail
    refine Calls.mono (HA.out _) ?_
    rintro e w1 ⟨rfl, hb1⟩
    have c0 := (HX.out.below hb1 HX.out.lt).c0
    have HE := Lib.hid (HB.out.trans (hb1.mono HB.out.size))
    clear hb1
    go_wp2_with fail
    go_ret
    exact ⟨rfl, HE.out⟩
  · have h41 : 40 < m := hl.resolve_left h40
    clear hl
    go_enter Try.func4, Try.ntmps4
    go_wp2_with fail
    refine Calls.mono (HA.out _) ?_
    rintro e w1 ⟨rfl, hb1⟩
    have c0 := (HX.out.below hb1 HX.out.lt).c0
    have c1 := (HX.out.below hb1 HX.out.lt).c1
    have HE := Lib.hid (HB.out.trans (hb1.mono HB.out.size))
    clear hb1
    go_wp2_with fail
    go_ret
    exact ⟨rfl, HE.out⟩
theorem places_all (B C F V P seq : Int) (A : Option Addr) (n c : Nat) (A2 : Option Addr) (m c2 : Nat) (ws : List (Int × Int × Int × Bool)) (xs : List Int) (hs : Fits seq) (w : World) (hw : Wrs w A n ws) (hr : Nums w A2 m xs) (hn : n ≤ 9223372036854775807) (hm : m ≤ 9223372036854775807) (hnil : A = none → c = 0) (hnil2 : A2 = none → c2 = 0) :
    Calls Try.prog 4 #[polV B C F V P, .int .i64 seq, .agg #[.slice A n c, .slice A2 m c2]] w fun e w' => e = .returned (.bool true) ∧ Below w.heap.size w w' := by
  by_cases hl : 40 < n ∨ 40 < m
  · exact places_long B C F V P seq A n c A2 m c2 hl w
  · exact places_any B C F V P seq A n c A2 m c2 ws xs hs w hw hr hn hm hnil hnil2 (fun h => hl (.inl h)) (fun h => hl (.inr h))
end Go.Proofs.Ytgdkgoiagjjccaa
