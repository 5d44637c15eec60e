/- CostWithin, over what its arguments read as. -/
import Derived.Test.YtgdkgoiagjjccaaWithin
import Derived.Test.YtgdkgoiagjjccaaOpen2
namespace Go.Proofs.Ytgdkgoiagjjccaa
open Go.RowKit
theorem within_all (B C F V P seq : Int) (A : Option Addr) (n c : Nat) (A2 : Option Addr) (m c2 : Nat) (ws : List (Int × Int × Int × Bool)) (xs : List Int) (hs : Fits seq) (w : World) (hw : Wrs w A n ws) (hr : Nums w A2 m xs) (hn : n ≤ 9223372036854775807) (hm : m ≤ 9223372036854775807) :
    Calls Try.prog 6 #[polV B C F V P, .int .i64 seq, .agg #[.slice A n c, .slice A2 m c2]] w fun e w' => e = .returned (.bool true) ∧ Below w.heap.size w w' := by
  obtain ⟨T, K, h⟩ := hw.first
  exact within_any B C F V P seq A n c A2 m c2 T K xs hs w h hr hn hm
end Go.Proofs.Ytgdkgoiagjjccaa
