/- The contract of the reference's Add. -/
import Derived.Test.YtfajalhpenincaaBigAddL
import Derived.Test.YtfajalhpenincaaBigAddM
namespace Go.Proofs.Ytfajalhpenincaa
open Go.RowKit

theorem addB_any (x y : Value) (a b : Int) (w : World) (hx : IsBig w x a) (hy : IsBig w y b) (hz : (a + b).natAbs < 10 ^ 200) :
    Calls Try.prog 15 #[x, y] w fun e w' => ∃ v, e = .returned v ∧ IsBig w' v (a + b) ∧ Below w.heap.size w w' := by
  obtain ⟨s, A, n, c, ds, rfl, ha⟩ := hx
  obtain ⟨t, A2, n2, c2, es, rfl, hb⟩ := hy
  by_cases hst : s = t
  · exact add_same s t A A2 n c n2 c2 ds es a b w ha hb hz hst
  · by_cases hlt : val ds < val es
    · exact add_less s t A A2 n c n2 c2 ds es a b w ha hb hz hst hlt
    · exact add_more s t A A2 n c n2 c2 ds es a b w ha hb hz hst hlt
end Go.Proofs.Ytfajalhpenincaa
