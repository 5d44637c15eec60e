/-
  No cell of these rows narrows 'for every input' (looked for: loops, veiled, ifaces, maps, wideKeys, modest, calm, conditions, laid).
  DERIVED. THE GIVEN ROWS OF THIS SEAT. 7 by the template 'for every input the law returns true; each argument reads behind the call as it read before'; 0 by the template 'total and deterministic' (their statements: YtejpjbmbcdgomaaTotals.lean).
  GIVEN WITH THE SEED: the statements are not yours to turn. If you find one false, say at which input.
  Laid BY PROGRAM, IN A SANDBOX (cutbox-rows.mjs): the forced cells as the released guide's own fill.sh prints them over the translation ed6d876a7721e38c… (all of the seat's roots in one cut). By AI agents, Wed Nov 11 2026. No macro, syntax, notation, axiom, sorry.
-/
import Derived.Test.YtejpjbmbcdgomaaChecked
import GoSem.Claim
import GoSem.ClaimJoined
import GoSem.ClaimMapViews
import Derived.JoinedTies
import Derived.KernelRfl
namespace Go.Proofs.Ytejpjbmbcdgomaa
/- THE CELL 'sum', in the pinned program and in every row, IS THE sha256 OF THE DUMP (.gsa) THAT YtejpjbmbcdgomaaProg.lean LOADS. Nothing in Lean hashes anything: it is a label: what it is worth is what the hold of that sum in a sandbox is worth. -/
noncomputable def Try.pinned : Pinned := { name := "ytejpjbmbcdgomaa", sum := "ed6d876a7721e38c866864efbab85ce3c8ed437a6a8da73b2151f34480594261", checked := Try.checked }
namespace Rows
def none {H : Type} : Left H := { results := [], args := [] }

/-- 'sluicewaylaw09.StoreRanges': WHATEVER THE INPUT: true; the input reads as it did. -/
def storeRangesSpec : ChangeSpec := { name := "storeRanges", fn := fun _ => fun
  | [d1, d2, d3] => { results := [.lit (.bool true)], args := [d1, d2, d3] }
  | _ => none }
def storeRangesRow : OpenClaim := { program := "ytejpjbmbcdgomaa", sum := "ed6d876a7721e38c866864efbab85ce3c8ed437a6a8da73b2151f34480594261", func := "sluiceway/sluicewaylaw09.StoreRanges", spec := "storeRanges", inPlace := ["slices.overlaps[sluiceway/tree.item]", "slices.overlaps[*sluiceway/tree.node]"], unfollowed := true, recurses := true, plainKeys := false, apart := false }
def StoreRangesSaid : Prop := storeRangesRow.holds Try.pinned (OpenSpec.ofChange storeRangesSpec)

/-- ITS FALSE NEIGHBOUR: 'it returns false'. Refute it at one input. -/
def storeRangesWrong : ChangeSpec := { name := "storeRanges", fn := fun _ => fun
  | [d1, d2, d3] => { results := [.lit (.bool false)], args := [d1, d2, d3] }
  | _ => none }
def StoreRangesWrongFalsely : Prop := storeRangesRow.holds Try.pinned (OpenSpec.ofChange storeRangesWrong)

/-- 'sluicewaylaw09.StoreTakes': WHATEVER THE INPUT: true; the input reads as it did. -/
def storeTakesSpec : ChangeSpec := { name := "storeTakes", fn := fun _ => fun
  | [d] => { results := [.lit (.bool true)], args := [d] }
  | _ => none }
def storeTakesRow : OpenClaim := { program := "ytejpjbmbcdgomaa", sum := "ed6d876a7721e38c866864efbab85ce3c8ed437a6a8da73b2151f34480594261", func := "sluiceway/sluicewaylaw09.StoreTakes", spec := "storeTakes", inPlace := ["slices.overlaps[sluiceway/tree.item]", "slices.overlaps[*sluiceway/tree.node]"], unfollowed := true, recurses := true, plainKeys := false, apart := false }
def StoreTakesSaid : Prop := storeTakesRow.holds Try.pinned (OpenSpec.ofChange storeTakesSpec)

/-- ITS FALSE NEIGHBOUR: 'it returns false'. Refute it at one input. -/
def storeTakesWrong : ChangeSpec := { name := "storeTakes", fn := fun _ => fun
  | [d] => { results := [.lit (.bool false)], args := [d] }
  | _ => none }
def StoreTakesWrongFalsely : Prop := storeTakesRow.holds Try.pinned (OpenSpec.ofChange storeTakesWrong)

/-- 'sluicewaylaw09.StoreTwice': WHATEVER THE INPUT: true; the input reads as it did. -/
def storeTwiceSpec : ChangeSpec := { name := "storeTwice", fn := fun _ => fun
  | [d1, d2] => { results := [.lit (.bool true)], args := [d1, d2] }
  | _ => none }
def storeTwiceRow : OpenClaim := { program := "ytejpjbmbcdgomaa", sum := "ed6d876a7721e38c866864efbab85ce3c8ed437a6a8da73b2151f34480594261", func := "sluiceway/sluicewaylaw09.StoreTwice", spec := "storeTwice", inPlace := ["slices.overlaps[sluiceway/tree.item]", "slices.overlaps[*sluiceway/tree.node]"], unfollowed := true, recurses := true, plainKeys := false, apart := false }
def StoreTwiceSaid : Prop := storeTwiceRow.holds Try.pinned (OpenSpec.ofChange storeTwiceSpec)

/-- ITS FALSE NEIGHBOUR: 'it returns false'. Refute it at one input. -/
def storeTwiceWrong : ChangeSpec := { name := "storeTwice", fn := fun _ => fun
  | [d1, d2] => { results := [.lit (.bool false)], args := [d1, d2] }
  | _ => none }
def StoreTwiceWrongFalsely : Prop := storeTwiceRow.holds Try.pinned (OpenSpec.ofChange storeTwiceWrong)

/-- 'sluicewaylaw09.StoreFull': WHATEVER THE INPUT: true; the input reads as it did. -/
def storeFullSpec : ChangeSpec := { name := "storeFull", fn := fun _ => fun
  | [d1, d2, d3] => { results := [.lit (.bool true)], args := [d1, d2, d3] }
  | _ => none }
def storeFullRow : OpenClaim := { program := "ytejpjbmbcdgomaa", sum := "ed6d876a7721e38c866864efbab85ce3c8ed437a6a8da73b2151f34480594261", func := "sluiceway/sluicewaylaw09.StoreFull", spec := "storeFull", inPlace := ["slices.overlaps[sluiceway/tree.item]", "slices.overlaps[*sluiceway/tree.node]"], unfollowed := true, recurses := true, plainKeys := false, apart := false }
def StoreFullSaid : Prop := storeFullRow.holds Try.pinned (OpenSpec.ofChange storeFullSpec)

/-- ITS FALSE NEIGHBOUR: 'it returns false'. Refute it at one input. -/
def storeFullWrong : ChangeSpec := { name := "storeFull", fn := fun _ => fun
  | [d1, d2, d3] => { results := [.lit (.bool false)], args := [d1, d2, d3] }
  | _ => none }
def StoreFullWrongFalsely : Prop := storeFullRow.holds Try.pinned (OpenSpec.ofChange storeFullWrong)

/-- 'sluicewaylaw18.SweepTells': WHATEVER THE INPUT: true; the input reads as it did. -/
def sweepTellsSpec : ChangeSpec := { name := "sweepTells", fn := fun _ => fun
  | [d1, d2] => { results := [.lit (.bool true)], args := [d1, d2] }
  | _ => none }
def sweepTellsRow : OpenClaim := { program := "ytejpjbmbcdgomaa", sum := "ed6d876a7721e38c866864efbab85ce3c8ed437a6a8da73b2151f34480594261", func := "sluiceway/sluicewaylaw18.SweepTells", spec := "sweepTells", inPlace := ["slices.overlaps[sluiceway/tree.item]", "slices.overlaps[*sluiceway/tree.node]", "slices.overlaps[sluiceway/sweep.note]"], unfollowed := true, recurses := true, plainKeys := false, apart := false }
def SweepTellsSaid : Prop := sweepTellsRow.holds Try.pinned (OpenSpec.ofChange sweepTellsSpec)

/-- ITS FALSE NEIGHBOUR: 'it returns false'. Refute it at one input. -/
def sweepTellsWrong : ChangeSpec := { name := "sweepTells", fn := fun _ => fun
  | [d1, d2] => { results := [.lit (.bool false)], args := [d1, d2] }
  | _ => none }
def SweepTellsWrongFalsely : Prop := sweepTellsRow.holds Try.pinned (OpenSpec.ofChange sweepTellsWrong)

/-- 'sluicewaylaw18.SweepAlone': WHATEVER THE INPUT: true; the input reads as it did. -/
def sweepAloneSpec : ChangeSpec := { name := "sweepAlone", fn := fun _ => fun
  | [d1, d2] => { results := [.lit (.bool true)], args := [d1, d2] }
  | _ => none }
def sweepAloneRow : OpenClaim := { program := "ytejpjbmbcdgomaa", sum := "ed6d876a7721e38c866864efbab85ce3c8ed437a6a8da73b2151f34480594261", func := "sluiceway/sluicewaylaw18.SweepAlone", spec := "sweepAlone", inPlace := ["slices.overlaps[sluiceway/tree.item]", "slices.overlaps[*sluiceway/tree.node]", "slices.overlaps[sluiceway/sweep.note]"], unfollowed := true, recurses := true, plainKeys := false, apart := false }
def SweepAloneSaid : Prop := sweepAloneRow.holds Try.pinned (OpenSpec.ofChange sweepAloneSpec)

/-- ITS FALSE NEIGHBOUR: 'it returns false'. Refute it at one input. -/
def sweepAloneWrong : ChangeSpec := { name := "sweepAlone", fn := fun _ => fun
  | [d1, d2] => { results := [.lit (.bool false)], args := [d1, d2] }
  | _ => none }
def SweepAloneWrongFalsely : Prop := sweepAloneRow.holds Try.pinned (OpenSpec.ofChange sweepAloneWrong)

/-- 'sluicewaylaw18.SweepNone': WHATEVER THE INPUT: true; the input reads as it did. -/
def sweepNoneSpec : ChangeSpec := { name := "sweepNone", fn := fun _ => fun
  | [d1, d2] => { results := [.lit (.bool true)], args := [d1, d2] }
  | _ => none }
def sweepNoneRow : OpenClaim := { program := "ytejpjbmbcdgomaa", sum := "ed6d876a7721e38c866864efbab85ce3c8ed437a6a8da73b2151f34480594261", func := "sluiceway/sluicewaylaw18.SweepNone", spec := "sweepNone", inPlace := ["slices.overlaps[sluiceway/tree.item]", "slices.overlaps[*sluiceway/tree.node]", "slices.overlaps[sluiceway/sweep.note]"], unfollowed := true, recurses := true, plainKeys := false, apart := false }
def SweepNoneSaid : Prop := sweepNoneRow.holds Try.pinned (OpenSpec.ofChange sweepNoneSpec)

/-- ITS FALSE NEIGHBOUR: 'it returns false'. Refute it at one input. -/
def sweepNoneWrong : ChangeSpec := { name := "sweepNone", fn := fun _ => fun
  | [d1, d2] => { results := [.lit (.bool false)], args := [d1, d2] }
  | _ => none }
def SweepNoneWrongFalsely : Prop := sweepNoneRow.holds Try.pinned (OpenSpec.ofChange sweepNoneWrong)

/- THE SECOND FORM. 'bulk': how many values and letters a reading holds, each counted each time it is reached (what is shared counts as often as it is met; a slice's spare places count too). A statement '..UptoSaid' is the law's where the arguments, and the package variables that the reading takes, are together of bulk at most 1048576: NARROWER than '..Said'. Prove '..Said' where nothing that the law and all that it calls make is longer than what came in: it says more and counts as full. Else prove '..UptoSaid'. A law counts once. -/
mutual
def uptoBulk {H : Type} : DataW H → Nat
  | .lit (.string bytes) => bytes.length + 1
  | .lit _ => 1
  | .nil => 1
  | .ptr d => uptoBulk d + 1
  | .slice elems spare => uptoBulkAll elems + uptoBulkAll spare + 1
  | .agg parts => uptoBulkAll parts + 1
  | .iface _ d => uptoBulk d + 1
  | .map entries => uptoBulkEntries entries + 1
  | .held _ => 1
def uptoBulkAll {H : Type} : List (DataW H) → Nat
  | [] => 0
  | d :: r => uptoBulk d + uptoBulkAll r
def uptoBulkEntries {H : Type} : List (Lit × DataW H) → Nat
  | [] => 0
  | x :: r => uptoBulkEntry x + uptoBulkEntries r
def uptoBulkEntry {H : Type} : Lit × DataW H → Nat
  | (.string bytes, d) => bytes.length + uptoBulk d + 1
  | (_, d) => uptoBulk d + 1
 end
def uptoSmall : (H : Type) → List (DataW H) → Bool := fun _ ds => decide (uptoBulkAll ds ≤ 1048576)
def OpenSpec.upto (s : _root_.Go.ChangeSpec) : _root_.Go.OpenSpec := { _root_.Go.OpenSpec.ofChange s with cond := some uptoSmall }

/-- 'sluicewaylaw09.StoreRanges', WHERE WHAT IT READS IS OF BULK AT MOST 1048576: true; the input reads as it did. -/
def storeRangesUptoRow : OpenClaim := { program := "ytejpjbmbcdgomaa", sum := "ed6d876a7721e38c866864efbab85ce3c8ed437a6a8da73b2151f34480594261", func := "sluiceway/sluicewaylaw09.StoreRanges", spec := "storeRanges", inPlace := ["slices.overlaps[sluiceway/tree.item]", "slices.overlaps[*sluiceway/tree.node]"], unfollowed := true, recurses := true, plainKeys := false, apart := false, narrowed := true }
def StoreRangesUptoSaid : Prop := storeRangesUptoRow.holds Try.pinned (OpenSpec.upto storeRangesSpec)

/-- 'sluicewaylaw09.StoreTakes', WHERE WHAT IT READS IS OF BULK AT MOST 1048576: true; the input reads as it did. -/
def storeTakesUptoRow : OpenClaim := { program := "ytejpjbmbcdgomaa", sum := "ed6d876a7721e38c866864efbab85ce3c8ed437a6a8da73b2151f34480594261", func := "sluiceway/sluicewaylaw09.StoreTakes", spec := "storeTakes", inPlace := ["slices.overlaps[sluiceway/tree.item]", "slices.overlaps[*sluiceway/tree.node]"], unfollowed := true, recurses := true, plainKeys := false, apart := false, narrowed := true }
def StoreTakesUptoSaid : Prop := storeTakesUptoRow.holds Try.pinned (OpenSpec.upto storeTakesSpec)

/-- 'sluicewaylaw09.StoreTwice', WHERE WHAT IT READS IS OF BULK AT MOST 1048576: true; the input reads as it did. -/
def storeTwiceUptoRow : OpenClaim := { program := "ytejpjbmbcdgomaa", sum := "ed6d876a7721e38c866864efbab85ce3c8ed437a6a8da73b2151f34480594261", func := "sluiceway/sluicewaylaw09.StoreTwice", spec := "storeTwice", inPlace := ["slices.overlaps[sluiceway/tree.item]", "slices.overlaps[*sluiceway/tree.node]"], unfollowed := true, recurses := true, plainKeys := false, apart := false, narrowed := true }
def StoreTwiceUptoSaid : Prop := storeTwiceUptoRow.holds Try.pinned (OpenSpec.upto storeTwiceSpec)

/-- 'sluicewaylaw09.StoreFull', WHERE WHAT IT READS IS OF BULK AT MOST 1048576: true; the input reads as it did. -/
def storeFullUptoRow : OpenClaim := { program := "ytejpjbmbcdgomaa", sum := "ed6d876a7721e38c866864efbab85ce3c8ed437a6a8da73b2151f34480594261", func := "sluiceway/sluicewaylaw09.StoreFull", spec := "storeFull", inPlace := ["slices.overlaps[sluiceway/tree.item]", "slices.overlaps[*sluiceway/tree.node]"], unfollowed := true, recurses := true, plainKeys := false, apart := false, narrowed := true }
def StoreFullUptoSaid : Prop := storeFullUptoRow.holds Try.pinned (OpenSpec.upto storeFullSpec)

/-- 'sluicewaylaw18.SweepTells', WHERE WHAT IT READS IS OF BULK AT MOST 1048576: true; the input reads as it did. -/
def sweepTellsUptoRow : OpenClaim := { program := "ytejpjbmbcdgomaa", sum := "ed6d876a7721e38c866864efbab85ce3c8ed437a6a8da73b2151f34480594261", func := "sluiceway/sluicewaylaw18.SweepTells", spec := "sweepTells", inPlace := ["slices.overlaps[sluiceway/tree.item]", "slices.overlaps[*sluiceway/tree.node]", "slices.overlaps[sluiceway/sweep.note]"], unfollowed := true, recurses := true, plainKeys := false, apart := false, narrowed := true }
def SweepTellsUptoSaid : Prop := sweepTellsUptoRow.holds Try.pinned (OpenSpec.upto sweepTellsSpec)

/-- 'sluicewaylaw18.SweepAlone', WHERE WHAT IT READS IS OF BULK AT MOST 1048576: true; the input reads as it did. -/
def sweepAloneUptoRow : OpenClaim := { program := "ytejpjbmbcdgomaa", sum := "ed6d876a7721e38c866864efbab85ce3c8ed437a6a8da73b2151f34480594261", func := "sluiceway/sluicewaylaw18.SweepAlone", spec := "sweepAlone", inPlace := ["slices.overlaps[sluiceway/tree.item]", "slices.overlaps[*sluiceway/tree.node]", "slices.overlaps[sluiceway/sweep.note]"], unfollowed := true, recurses := true, plainKeys := false, apart := false, narrowed := true }
def SweepAloneUptoSaid : Prop := sweepAloneUptoRow.holds Try.pinned (OpenSpec.upto sweepAloneSpec)

/-- 'sluicewaylaw18.SweepNone', WHERE WHAT IT READS IS OF BULK AT MOST 1048576: true; the input reads as it did. -/
def sweepNoneUptoRow : OpenClaim := { program := "ytejpjbmbcdgomaa", sum := "ed6d876a7721e38c866864efbab85ce3c8ed437a6a8da73b2151f34480594261", func := "sluiceway/sluicewaylaw18.SweepNone", spec := "sweepNone", inPlace := ["slices.overlaps[sluiceway/tree.item]", "slices.overlaps[*sluiceway/tree.node]", "slices.overlaps[sluiceway/sweep.note]"], unfollowed := true, recurses := true, plainKeys := false, apart := false, narrowed := true }
def SweepNoneUptoSaid : Prop := sweepNoneUptoRow.holds Try.pinned (OpenSpec.upto sweepNoneSpec)

end Rows
end Go.Proofs.Ytejpjbmbcdgomaa
