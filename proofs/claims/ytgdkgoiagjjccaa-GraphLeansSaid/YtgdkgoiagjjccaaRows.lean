/-
  No cell of these rows narrows 'for every input' (looked for: loops, veiled, ifaces, maps, wideKeys, modest, calm, conditions, laid).
  DERIVED. THE GIVEN ROWS OF THIS SEAT. 12 by the template 'for every input the law returns true; each argument reads behind the call as it read before'; 0 by the template 'total and deterministic' (their statements: YtgdkgoiagjjccaaTotals.lean).
  GIVEN WITH THE SEED: the statements are not yours to turn. If you find one false, say at which input.
  Laid BY PROGRAM, IN A SANDBOX (cutbox-rows.mjs): the forced cells as the released guide's own fill.sh prints them over the translation 2ea75749490eec37… (all of the seat's roots in one cut). By AI agents, Wed Nov 11 2026. No macro, syntax, notation, axiom, sorry.
-/
import Derived.Test.YtgdkgoiagjjccaaChecked
import GoSem.Claim
import GoSem.ClaimJoined
import GoSem.ClaimMapViews
import Derived.JoinedTies
import Derived.KernelRfl
namespace Go.Proofs.Ytgdkgoiagjjccaa
/- THE CELL 'sum', in the pinned program and in every row, IS THE sha256 OF THE DUMP (.gsa) THAT YtgdkgoiagjjccaaProg.lean LOADS. Nothing in Lean hashes anything: it is a label: what it is worth is what the hold of that sum in a sandbox is worth. -/
noncomputable def Try.pinned : Pinned := { name := "ytgdkgoiagjjccaa", sum := "2ea75749490eec37a5452cbeb1951ac07f00289b4e4de35e2d35a480763e58a2", checked := Try.checked }
namespace Rows
def none {H : Type} : Left H := { results := [], args := [] }

/-- 'sluicewaylaw12.CostCommands': WHATEVER THE INPUT: true; the input reads as it did. -/
def costCommandsSpec : ChangeSpec := { name := "costCommands", fn := fun _ => fun
  | [d] => { results := [.lit (.bool true)], args := [d] }
  | _ => none }
def costCommandsRow : OpenClaim := { program := "ytgdkgoiagjjccaa", sum := "2ea75749490eec37a5452cbeb1951ac07f00289b4e4de35e2d35a480763e58a2", func := "sluiceway/sluicewaylaw12.CostCommands", spec := "costCommands", inPlace := ["math/bits.Add64"], apart := false }
def CostCommandsSaid : Prop := costCommandsRow.holds Try.pinned (OpenSpec.ofChange costCommandsSpec)

/-- ITS FALSE NEIGHBOUR: 'it returns false'. Refute it at one input. -/
def costCommandsWrong : ChangeSpec := { name := "costCommands", fn := fun _ => fun
  | [d] => { results := [.lit (.bool false)], args := [d] }
  | _ => none }
def CostCommandsWrongFalsely : Prop := costCommandsRow.holds Try.pinned (OpenSpec.ofChange costCommandsWrong)

/-- 'sluicewaylaw12.CostPlaces': WHATEVER THE INPUT: true; the input reads as it did. -/
def costPlacesSpec : ChangeSpec := { name := "costPlaces", fn := fun _ => fun
  | [d1, d2, d3] => { results := [.lit (.bool true)], args := [d1, d2, d3] }
  | _ => none }
def costPlacesRow : OpenClaim := { program := "ytgdkgoiagjjccaa", sum := "2ea75749490eec37a5452cbeb1951ac07f00289b4e4de35e2d35a480763e58a2", func := "sluiceway/sluicewaylaw12.CostPlaces", spec := "costPlaces", inPlace := ["math/bits.Add64"], apart := false }
def CostPlacesSaid : Prop := costPlacesRow.holds Try.pinned (OpenSpec.ofChange costPlacesSpec)

/-- ITS FALSE NEIGHBOUR: 'it returns false'. Refute it at one input. -/
def costPlacesWrong : ChangeSpec := { name := "costPlaces", fn := fun _ => fun
  | [d1, d2, d3] => { results := [.lit (.bool false)], args := [d1, d2, d3] }
  | _ => none }
def CostPlacesWrongFalsely : Prop := costPlacesRow.holds Try.pinned (OpenSpec.ofChange costPlacesWrong)

/-- 'sluicewaylaw12.CostSteady': WHATEVER THE INPUT: true; the input reads as it did. -/
def costSteadySpec : ChangeSpec := { name := "costSteady", fn := fun _ => fun
  | [d1, d2, d3] => { results := [.lit (.bool true)], args := [d1, d2, d3] }
  | _ => none }
def costSteadyRow : OpenClaim := { program := "ytgdkgoiagjjccaa", sum := "2ea75749490eec37a5452cbeb1951ac07f00289b4e4de35e2d35a480763e58a2", func := "sluiceway/sluicewaylaw12.CostSteady", spec := "costSteady", inPlace := ["math/bits.Add64"], apart := false }
def CostSteadySaid : Prop := costSteadyRow.holds Try.pinned (OpenSpec.ofChange costSteadySpec)

/-- ITS FALSE NEIGHBOUR: 'it returns false'. Refute it at one input. -/
def costSteadyWrong : ChangeSpec := { name := "costSteady", fn := fun _ => fun
  | [d1, d2, d3] => { results := [.lit (.bool false)], args := [d1, d2, d3] }
  | _ => none }
def CostSteadyWrongFalsely : Prop := costSteadyRow.holds Try.pinned (OpenSpec.ofChange costSteadyWrong)

/-- 'sluicewaylaw12.CostWithin': WHATEVER THE INPUT: true; the input reads as it did. -/
def costWithinSpec : ChangeSpec := { name := "costWithin", fn := fun _ => fun
  | [d1, d2, d3] => { results := [.lit (.bool true)], args := [d1, d2, d3] }
  | _ => none }
def costWithinRow : OpenClaim := { program := "ytgdkgoiagjjccaa", sum := "2ea75749490eec37a5452cbeb1951ac07f00289b4e4de35e2d35a480763e58a2", func := "sluiceway/sluicewaylaw12.CostWithin", spec := "costWithin", inPlace := ["math/bits.Add64"], apart := false }
def CostWithinSaid : Prop := costWithinRow.holds Try.pinned (OpenSpec.ofChange costWithinSpec)

/-- ITS FALSE NEIGHBOUR: 'it returns false'. Refute it at one input. -/
def costWithinWrong : ChangeSpec := { name := "costWithin", fn := fun _ => fun
  | [d1, d2, d3] => { results := [.lit (.bool false)], args := [d1, d2, d3] }
  | _ => none }
def CostWithinWrongFalsely : Prop := costWithinRow.holds Try.pinned (OpenSpec.ofChange costWithinWrong)

/-- 'sluicewaylaw19.GraphLeans': WHATEVER THE INPUT: true; the input reads as it did. -/
def graphLeansSpec : ChangeSpec := { name := "graphLeans", fn := fun _ => fun
  | [d] => { results := [.lit (.bool true)], args := [d] }
  | _ => none }
def graphLeansRow : OpenClaim := { program := "ytgdkgoiagjjccaa", sum := "2ea75749490eec37a5452cbeb1951ac07f00289b4e4de35e2d35a480763e58a2", func := "sluiceway/sluicewaylaw19.GraphLeans", spec := "graphLeans", unfollowed := true, recurses := true, apart := false }
def GraphLeansSaid : Prop := graphLeansRow.holds Try.pinned (OpenSpec.ofChange graphLeansSpec)

/-- ITS FALSE NEIGHBOUR: 'it returns false'. Refute it at one input. -/
def graphLeansWrong : ChangeSpec := { name := "graphLeans", fn := fun _ => fun
  | [d] => { results := [.lit (.bool false)], args := [d] }
  | _ => none }
def GraphLeansWrongFalsely : Prop := graphLeansRow.holds Try.pinned (OpenSpec.ofChange graphLeansWrong)

/-- 'sluicewaylaw19.GraphLevels': WHATEVER THE INPUT: true; the input reads as it did. -/
def graphLevelsSpec : ChangeSpec := { name := "graphLevels", fn := fun _ => fun
  | [d1, d2] => { results := [.lit (.bool true)], args := [d1, d2] }
  | _ => none }
def graphLevelsRow : OpenClaim := { program := "ytgdkgoiagjjccaa", sum := "2ea75749490eec37a5452cbeb1951ac07f00289b4e4de35e2d35a480763e58a2", func := "sluiceway/sluicewaylaw19.GraphLevels", spec := "graphLevels", unfollowed := true, recurses := true, apart := false }
def GraphLevelsSaid : Prop := graphLevelsRow.holds Try.pinned (OpenSpec.ofChange graphLevelsSpec)

/-- ITS FALSE NEIGHBOUR: 'it returns false'. Refute it at one input. -/
def graphLevelsWrong : ChangeSpec := { name := "graphLevels", fn := fun _ => fun
  | [d1, d2] => { results := [.lit (.bool false)], args := [d1, d2] }
  | _ => none }
def GraphLevelsWrongFalsely : Prop := graphLevelsRow.holds Try.pinned (OpenSpec.ofChange graphLevelsWrong)

/-- 'sluicewaylaw19.GraphLeast': WHATEVER THE INPUT: true; the input reads as it did. -/
def graphLeastSpec : ChangeSpec := { name := "graphLeast", fn := fun _ => fun
  | [d] => { results := [.lit (.bool true)], args := [d] }
  | _ => none }
def graphLeastRow : OpenClaim := { program := "ytgdkgoiagjjccaa", sum := "2ea75749490eec37a5452cbeb1951ac07f00289b4e4de35e2d35a480763e58a2", func := "sluiceway/sluicewaylaw19.GraphLeast", spec := "graphLeast", unfollowed := true, recurses := true, apart := false }
def GraphLeastSaid : Prop := graphLeastRow.holds Try.pinned (OpenSpec.ofChange graphLeastSpec)

/-- ITS FALSE NEIGHBOUR: 'it returns false'. Refute it at one input. -/
def graphLeastWrong : ChangeSpec := { name := "graphLeast", fn := fun _ => fun
  | [d] => { results := [.lit (.bool false)], args := [d] }
  | _ => none }
def GraphLeastWrongFalsely : Prop := graphLeastRow.holds Try.pinned (OpenSpec.ofChange graphLeastWrong)

/-- 'sluicewaylaw19.GraphOrders': WHATEVER THE INPUT: true; the input reads as it did. -/
def graphOrdersSpec : ChangeSpec := { name := "graphOrders", fn := fun _ => fun
  | [d1, d2] => { results := [.lit (.bool true)], args := [d1, d2] }
  | _ => none }
def graphOrdersRow : OpenClaim := { program := "ytgdkgoiagjjccaa", sum := "2ea75749490eec37a5452cbeb1951ac07f00289b4e4de35e2d35a480763e58a2", func := "sluiceway/sluicewaylaw19.GraphOrders", spec := "graphOrders", unfollowed := true, recurses := true, apart := false }
def GraphOrdersSaid : Prop := graphOrdersRow.holds Try.pinned (OpenSpec.ofChange graphOrdersSpec)

/-- ITS FALSE NEIGHBOUR: 'it returns false'. Refute it at one input. -/
def graphOrdersWrong : ChangeSpec := { name := "graphOrders", fn := fun _ => fun
  | [d1, d2] => { results := [.lit (.bool false)], args := [d1, d2] }
  | _ => none }
def GraphOrdersWrongFalsely : Prop := graphOrdersRow.holds Try.pinned (OpenSpec.ofChange graphOrdersWrong)

/-- 'sluicewaylaw21.SchedPlays': WHATEVER THE INPUT: true; the input reads as it did. -/
def schedPlaysSpec : ChangeSpec := { name := "schedPlays", fn := fun _ => fun
  | [d1, d2] => { results := [.lit (.bool true)], args := [d1, d2] }
  | _ => none }
def schedPlaysRow : OpenClaim := { program := "ytgdkgoiagjjccaa", sum := "2ea75749490eec37a5452cbeb1951ac07f00289b4e4de35e2d35a480763e58a2", func := "sluiceway/sluicewaylaw21.SchedPlays", spec := "schedPlays", unfollowed := true, recurses := true, apart := false }
def SchedPlaysSaid : Prop := schedPlaysRow.holds Try.pinned (OpenSpec.ofChange schedPlaysSpec)

/-- ITS FALSE NEIGHBOUR: 'it returns false'. Refute it at one input. -/
def schedPlaysWrong : ChangeSpec := { name := "schedPlays", fn := fun _ => fun
  | [d1, d2] => { results := [.lit (.bool false)], args := [d1, d2] }
  | _ => none }
def SchedPlaysWrongFalsely : Prop := schedPlaysRow.holds Try.pinned (OpenSpec.ofChange schedPlaysWrong)

/-- 'sluicewaylaw21.SchedOnce': WHATEVER THE INPUT: true; the input reads as it did. -/
def schedOnceSpec : ChangeSpec := { name := "schedOnce", fn := fun _ => fun
  | [d1, d2] => { results := [.lit (.bool true)], args := [d1, d2] }
  | _ => none }
def schedOnceRow : OpenClaim := { program := "ytgdkgoiagjjccaa", sum := "2ea75749490eec37a5452cbeb1951ac07f00289b4e4de35e2d35a480763e58a2", func := "sluiceway/sluicewaylaw21.SchedOnce", spec := "schedOnce", unfollowed := true, recurses := true, apart := false }
def SchedOnceSaid : Prop := schedOnceRow.holds Try.pinned (OpenSpec.ofChange schedOnceSpec)

/-- ITS FALSE NEIGHBOUR: 'it returns false'. Refute it at one input. -/
def schedOnceWrong : ChangeSpec := { name := "schedOnce", fn := fun _ => fun
  | [d1, d2] => { results := [.lit (.bool false)], args := [d1, d2] }
  | _ => none }
def SchedOnceWrongFalsely : Prop := schedOnceRow.holds Try.pinned (OpenSpec.ofChange schedOnceWrong)

/-- 'sluicewaylaw21.SchedOne': WHATEVER THE INPUT: true; the input reads as it did. -/
def schedOneSpec : ChangeSpec := { name := "schedOne", fn := fun _ => fun
  | [d] => { results := [.lit (.bool true)], args := [d] }
  | _ => none }
def schedOneRow : OpenClaim := { program := "ytgdkgoiagjjccaa", sum := "2ea75749490eec37a5452cbeb1951ac07f00289b4e4de35e2d35a480763e58a2", func := "sluiceway/sluicewaylaw21.SchedOne", spec := "schedOne", unfollowed := true, recurses := true, apart := false }
def SchedOneSaid : Prop := schedOneRow.holds Try.pinned (OpenSpec.ofChange schedOneSpec)

/-- ITS FALSE NEIGHBOUR: 'it returns false'. Refute it at one input. -/
def schedOneWrong : ChangeSpec := { name := "schedOne", fn := fun _ => fun
  | [d] => { results := [.lit (.bool false)], args := [d] }
  | _ => none }
def SchedOneWrongFalsely : Prop := schedOneRow.holds Try.pinned (OpenSpec.ofChange schedOneWrong)

/-- 'sluicewaylaw21.SchedNone': WHATEVER THE INPUT: true; the input reads as it did. -/
def schedNoneSpec : ChangeSpec := { name := "schedNone", fn := fun _ => fun
  | [d] => { results := [.lit (.bool true)], args := [d] }
  | _ => none }
def schedNoneRow : OpenClaim := { program := "ytgdkgoiagjjccaa", sum := "2ea75749490eec37a5452cbeb1951ac07f00289b4e4de35e2d35a480763e58a2", func := "sluiceway/sluicewaylaw21.SchedNone", spec := "schedNone", unfollowed := true, recurses := true, apart := false }
def SchedNoneSaid : Prop := schedNoneRow.holds Try.pinned (OpenSpec.ofChange schedNoneSpec)

/-- ITS FALSE NEIGHBOUR: 'it returns false'. Refute it at one input. -/
def schedNoneWrong : ChangeSpec := { name := "schedNone", fn := fun _ => fun
  | [d] => { results := [.lit (.bool false)], args := [d] }
  | _ => none }
def SchedNoneWrongFalsely : Prop := schedNoneRow.holds Try.pinned (OpenSpec.ofChange schedNoneWrong)

/- THE SECOND FORM. 'bulk': how many values and letters a reading holds, each counted each time it is reached (what is shared counts as often as it is met; a slice's spare places count too). A statement '..UptoSaid' is the law's where the arguments, and the package variables that the reading takes, are together of bulk at most 1048576: NARROWER than '..Said'. Prove '..Said' where nothing that the law and all that it calls make is longer than what came in: it says more and counts as full. Else prove '..UptoSaid'. A law counts once. -/
mutual
def uptoBulk {H : Type} : DataW H → Nat
  | .lit (.string bytes) => bytes.length + 1
  | .lit _ => 1
  | .nil => 1
  | .ptr d => uptoBulk d + 1
  | .slice elems spare => uptoBulkAll elems + uptoBulkAll spare + 1
  | .agg parts => uptoBulkAll parts + 1
  | .iface _ d => uptoBulk d + 1
  | .map entries => uptoBulkEntries entries + 1
  | .held _ => 1
def uptoBulkAll {H : Type} : List (DataW H) → Nat
  | [] => 0
  | d :: r => uptoBulk d + uptoBulkAll r
def uptoBulkEntries {H : Type} : List (Lit × DataW H) → Nat
  | [] => 0
  | x :: r => uptoBulkEntry x + uptoBulkEntries r
def uptoBulkEntry {H : Type} : Lit × DataW H → Nat
  | (.string bytes, d) => bytes.length + uptoBulk d + 1
  | (_, d) => uptoBulk d + 1
 end
def uptoSmall : (H : Type) → List (DataW H) → Bool := fun _ ds => decide (uptoBulkAll ds ≤ 1048576)
def OpenSpec.upto (s : _root_.Go.ChangeSpec) : _root_.Go.OpenSpec := { _root_.Go.OpenSpec.ofChange s with cond := some uptoSmall }

/-- 'sluicewaylaw12.CostCommands', WHERE WHAT IT READS IS OF BULK AT MOST 1048576: true; the input reads as it did. -/
def costCommandsUptoRow : OpenClaim := { program := "ytgdkgoiagjjccaa", sum := "2ea75749490eec37a5452cbeb1951ac07f00289b4e4de35e2d35a480763e58a2", func := "sluiceway/sluicewaylaw12.CostCommands", spec := "costCommands", inPlace := ["math/bits.Add64"], apart := false, narrowed := true }
def CostCommandsUptoSaid : Prop := costCommandsUptoRow.holds Try.pinned (OpenSpec.upto costCommandsSpec)

/-- 'sluicewaylaw12.CostPlaces', WHERE WHAT IT READS IS OF BULK AT MOST 1048576: true; the input reads as it did. -/
def costPlacesUptoRow : OpenClaim := { program := "ytgdkgoiagjjccaa", sum := "2ea75749490eec37a5452cbeb1951ac07f00289b4e4de35e2d35a480763e58a2", func := "sluiceway/sluicewaylaw12.CostPlaces", spec := "costPlaces", inPlace := ["math/bits.Add64"], apart := false, narrowed := true }
def CostPlacesUptoSaid : Prop := costPlacesUptoRow.holds Try.pinned (OpenSpec.upto costPlacesSpec)

/-- 'sluicewaylaw12.CostSteady', WHERE WHAT IT READS IS OF BULK AT MOST 1048576: true; the input reads as it did. -/
def costSteadyUptoRow : OpenClaim := { program := "ytgdkgoiagjjccaa", sum := "2ea75749490eec37a5452cbeb1951ac07f00289b4e4de35e2d35a480763e58a2", func := "sluiceway/sluicewaylaw12.CostSteady", spec := "costSteady", inPlace := ["math/bits.Add64"], apart := false, narrowed := true }
def CostSteadyUptoSaid : Prop := costSteadyUptoRow.holds Try.pinned (OpenSpec.upto costSteadySpec)

/-- 'sluicewaylaw12.CostWithin', WHERE WHAT IT READS IS OF BULK AT MOST 1048576: true; the input reads as it did. -/
def costWithinUptoRow : OpenClaim := { program := "ytgdkgoiagjjccaa", sum := "2ea75749490eec37a5452cbeb1951ac07f00289b4e4de35e2d35a480763e58a2", func := "sluiceway/sluicewaylaw12.CostWithin", spec := "costWithin", inPlace := ["math/bits.Add64"], apart := false, narrowed := true }
def CostWithinUptoSaid : Prop := costWithinUptoRow.holds Try.pinned (OpenSpec.upto costWithinSpec)

/-- 'sluicewaylaw19.GraphLeans', WHERE WHAT IT READS IS OF BULK AT MOST 1048576: true; the input reads as it did. -/
def graphLeansUptoRow : OpenClaim := { program := "ytgdkgoiagjjccaa", sum := "2ea75749490eec37a5452cbeb1951ac07f00289b4e4de35e2d35a480763e58a2", func := "sluiceway/sluicewaylaw19.GraphLeans", spec := "graphLeans", unfollowed := true, recurses := true, apart := false, narrowed := true }
def GraphLeansUptoSaid : Prop := graphLeansUptoRow.holds Try.pinned (OpenSpec.upto graphLeansSpec)

/-- 'sluicewaylaw19.GraphLevels', WHERE WHAT IT READS IS OF BULK AT MOST 1048576: true; the input reads as it did. -/
def graphLevelsUptoRow : OpenClaim := { program := "ytgdkgoiagjjccaa", sum := "2ea75749490eec37a5452cbeb1951ac07f00289b4e4de35e2d35a480763e58a2", func := "sluiceway/sluicewaylaw19.GraphLevels", spec := "graphLevels", unfollowed := true, recurses := true, apart := false, narrowed := true }
def GraphLevelsUptoSaid : Prop := graphLevelsUptoRow.holds Try.pinned (OpenSpec.upto graphLevelsSpec)

/-- 'sluicewaylaw19.GraphLeast', WHERE WHAT IT READS IS OF BULK AT MOST 1048576: true; the input reads as it did. -/
def graphLeastUptoRow : OpenClaim := { program := "ytgdkgoiagjjccaa", sum := "2ea75749490eec37a5452cbeb1951ac07f00289b4e4de35e2d35a480763e58a2", func := "sluiceway/sluicewaylaw19.GraphLeast", spec := "graphLeast", unfollowed := true, recurses := true, apart := false, narrowed := true }
def GraphLeastUptoSaid : Prop := graphLeastUptoRow.holds Try.pinned (OpenSpec.upto graphLeastSpec)

/-- 'sluicewaylaw19.GraphOrders', WHERE WHAT IT READS IS OF BULK AT MOST 1048576: true; the input reads as it did. -/
def graphOrdersUptoRow : OpenClaim := { program := "ytgdkgoiagjjccaa", sum := "2ea75749490eec37a5452cbeb1951ac07f00289b4e4de35e2d35a480763e58a2", func := "sluiceway/sluicewaylaw19.GraphOrders", spec := "graphOrders", unfollowed := true, recurses := true, apart := false, narrowed := true }
def GraphOrdersUptoSaid : Prop := graphOrdersUptoRow.holds Try.pinned (OpenSpec.upto graphOrdersSpec)

/-- 'sluicewaylaw21.SchedPlays', WHERE WHAT IT READS IS OF BULK AT MOST 1048576: true; the input reads as it did. -/
def schedPlaysUptoRow : OpenClaim := { program := "ytgdkgoiagjjccaa", sum := "2ea75749490eec37a5452cbeb1951ac07f00289b4e4de35e2d35a480763e58a2", func := "sluiceway/sluicewaylaw21.SchedPlays", spec := "schedPlays", unfollowed := true, recurses := true, apart := false, narrowed := true }
def SchedPlaysUptoSaid : Prop := schedPlaysUptoRow.holds Try.pinned (OpenSpec.upto schedPlaysSpec)

/-- 'sluicewaylaw21.SchedOnce', WHERE WHAT IT READS IS OF BULK AT MOST 1048576: true; the input reads as it did. -/
def schedOnceUptoRow : OpenClaim := { program := "ytgdkgoiagjjccaa", sum := "2ea75749490eec37a5452cbeb1951ac07f00289b4e4de35e2d35a480763e58a2", func := "sluiceway/sluicewaylaw21.SchedOnce", spec := "schedOnce", unfollowed := true, recurses := true, apart := false, narrowed := true }
def SchedOnceUptoSaid : Prop := schedOnceUptoRow.holds Try.pinned (OpenSpec.upto schedOnceSpec)

/-- 'sluicewaylaw21.SchedOne', WHERE WHAT IT READS IS OF BULK AT MOST 1048576: true; the input reads as it did. -/
def schedOneUptoRow : OpenClaim := { program := "ytgdkgoiagjjccaa", sum := "2ea75749490eec37a5452cbeb1951ac07f00289b4e4de35e2d35a480763e58a2", func := "sluiceway/sluicewaylaw21.SchedOne", spec := "schedOne", unfollowed := true, recurses := true, apart := false, narrowed := true }
def SchedOneUptoSaid : Prop := schedOneUptoRow.holds Try.pinned (OpenSpec.upto schedOneSpec)

/-- 'sluicewaylaw21.SchedNone', WHERE WHAT IT READS IS OF BULK AT MOST 1048576: true; the input reads as it did. -/
def schedNoneUptoRow : OpenClaim := { program := "ytgdkgoiagjjccaa", sum := "2ea75749490eec37a5452cbeb1951ac07f00289b4e4de35e2d35a480763e58a2", func := "sluiceway/sluicewaylaw21.SchedNone", spec := "schedNone", unfollowed := true, recurses := true, apart := false, narrowed := true }
def SchedNoneUptoSaid : Prop := schedNoneUptoRow.holds Try.pinned (OpenSpec.upto schedNoneSpec)

end Rows
end Go.Proofs.Ytgdkgoiagjjccaa
