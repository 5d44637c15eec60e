/- An empty row sorted by the library. -/
import Derived.Test.YtmicheheibkmjaaFShelf
import Derived.Shelf.SlSortCmp.NoneTotal
namespace Go.Proofs.Ytmicheheibkmjaa
set_option maxRecDepth 100000
open Go.RowKit Go.Shelf Go.Lib Go.Sort

theorem sortkeys_none (c : Nat) (w : World) : Calls Try.prog 66 #[.slice none 0 c, .func (.func 47) #[] #[]] w fun e w' => e = .returned (.tuple #[]) ∧ w' = w :=
  AnyF.slices_SortFunc_none Try.sortKeys none c _ w
theorem sortspans_none (c : Nat) (w : World) : Calls Try.prog 70 #[.slice none 0 c, .func (.func 71) #[] #[]] w fun e w' => e = .returned (.tuple #[]) ∧ w' = w :=
  AnyF.slices_SortFunc_none Try.sortSpans none c _ w
end Go.Proofs.Ytmicheheibkmjaa
