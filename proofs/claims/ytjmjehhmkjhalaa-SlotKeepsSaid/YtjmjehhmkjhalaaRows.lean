/-
  No cell of these rows narrows 'for every input' (looked for: loops, veiled, ifaces, maps, wideKeys, modest, calm, conditions, laid).
  DERIVED. THE GIVEN ROWS OF THIS SEAT. 11 by the template 'for every input the law returns true; each argument reads behind the call as it read before'; 0 by the template 'total and deterministic' (their statements: YtjmjehhmkjhalaaTotals.lean).
  GIVEN WITH THE SEED: the statements are not yours to turn. If you find one false, say at which input.
  Laid BY PROGRAM, IN A SANDBOX (cutbox-rows.mjs): the forced cells as the released guide's own fill.sh prints them over the translation ab0ed759ae814b7c… (all of the seat's roots in one cut). By AI agents, Wed Nov 11 2026. No macro, syntax, notation, axiom, sorry.
-/
import Derived.Test.YtjmjehhmkjhalaaChecked
import GoSem.Claim
import GoSem.ClaimJoined
import GoSem.ClaimMapViews
import Derived.JoinedTies
import Derived.KernelRfl
namespace Go.Proofs.Ytjmjehhmkjhalaa
/- THE CELL 'sum', in the pinned program and in every row, IS THE sha256 OF THE DUMP (.gsa) THAT YtjmjehhmkjhalaaProg.lean LOADS. Nothing in Lean hashes anything: it is a label: what it is worth is what the hold of that sum in a sandbox is worth. -/
noncomputable def Try.pinned : Pinned := { name := "ytjmjehhmkjhalaa", sum := "ab0ed759ae814b7c3765d73e184fc57790ca27e7309cf51c6b6a1bc3efa4d2a4", checked := Try.checked }
namespace Rows
def none {H : Type} : Left H := { results := [], args := [] }

/-- 'sluicewaylaw14.StreamPlays': WHATEVER THE INPUT: true; the input reads as it did. -/
def streamPlaysSpec : ChangeSpec := { name := "streamPlays", fn := fun _ => fun
  | [d1, d2] => { results := [.lit (.bool true)], args := [d1, d2] }
  | _ => none }
def streamPlaysRow : OpenClaim := { program := "ytjmjehhmkjhalaa", sum := "ab0ed759ae814b7c3765d73e184fc57790ca27e7309cf51c6b6a1bc3efa4d2a4", func := "sluiceway/sluicewaylaw14.StreamPlays", spec := "streamPlays", unfollowed := true, recurses := true, apart := false }
def StreamPlaysSaid : Prop := streamPlaysRow.holds Try.pinned (OpenSpec.ofChange streamPlaysSpec)

/-- ITS FALSE NEIGHBOUR: 'it returns false'. Refute it at one input. -/
def streamPlaysWrong : ChangeSpec := { name := "streamPlays", fn := fun _ => fun
  | [d1, d2] => { results := [.lit (.bool false)], args := [d1, d2] }
  | _ => none }
def StreamPlaysWrongFalsely : Prop := streamPlaysRow.holds Try.pinned (OpenSpec.ofChange streamPlaysWrong)

/-- 'sluicewaylaw14.StreamScans': WHATEVER THE INPUT: true; the input reads as it did. -/
def streamScansSpec : ChangeSpec := { name := "streamScans", fn := fun _ => fun
  | [d1, d2] => { results := [.lit (.bool true)], args := [d1, d2] }
  | _ => none }
def streamScansRow : OpenClaim := { program := "ytjmjehhmkjhalaa", sum := "ab0ed759ae814b7c3765d73e184fc57790ca27e7309cf51c6b6a1bc3efa4d2a4", func := "sluiceway/sluicewaylaw14.StreamScans", spec := "streamScans", unfollowed := true, recurses := true, apart := false }
def StreamScansSaid : Prop := streamScansRow.holds Try.pinned (OpenSpec.ofChange streamScansSpec)

/-- ITS FALSE NEIGHBOUR: 'it returns false'. Refute it at one input. -/
def streamScansWrong : ChangeSpec := { name := "streamScans", fn := fun _ => fun
  | [d1, d2] => { results := [.lit (.bool false)], args := [d1, d2] }
  | _ => none }
def StreamScansWrongFalsely : Prop := streamScansRow.holds Try.pinned (OpenSpec.ofChange streamScansWrong)

/-- 'sluicewaylaw14.StreamKeeps': WHATEVER THE INPUT: true; the input reads as it did. -/
def streamKeepsSpec : ChangeSpec := { name := "streamKeeps", fn := fun _ => fun
  | [d1, d2, d3] => { results := [.lit (.bool true)], args := [d1, d2, d3] }
  | _ => none }
def streamKeepsRow : OpenClaim := { program := "ytjmjehhmkjhalaa", sum := "ab0ed759ae814b7c3765d73e184fc57790ca27e7309cf51c6b6a1bc3efa4d2a4", func := "sluiceway/sluicewaylaw14.StreamKeeps", spec := "streamKeeps", unfollowed := true, recurses := true, apart := false }
def StreamKeepsSaid : Prop := streamKeepsRow.holds Try.pinned (OpenSpec.ofChange streamKeepsSpec)

/-- ITS FALSE NEIGHBOUR: 'it returns false'. Refute it at one input. -/
def streamKeepsWrong : ChangeSpec := { name := "streamKeeps", fn := fun _ => fun
  | [d1, d2, d3] => { results := [.lit (.bool false)], args := [d1, d2, d3] }
  | _ => none }
def StreamKeepsWrongFalsely : Prop := streamKeepsRow.holds Try.pinned (OpenSpec.ofChange streamKeepsWrong)

/-- 'sluicewaylaw14.StreamNone': WHATEVER THE INPUT: true; the input reads as it did. -/
def streamNoneSpec : ChangeSpec := { name := "streamNone", fn := fun _ => fun
  | [d1, d2] => { results := [.lit (.bool true)], args := [d1, d2] }
  | _ => none }
def streamNoneRow : OpenClaim := { program := "ytjmjehhmkjhalaa", sum := "ab0ed759ae814b7c3765d73e184fc57790ca27e7309cf51c6b6a1bc3efa4d2a4", func := "sluiceway/sluicewaylaw14.StreamNone", spec := "streamNone", unfollowed := true, recurses := true, apart := false }
def StreamNoneSaid : Prop := streamNoneRow.holds Try.pinned (OpenSpec.ofChange streamNoneSpec)

/-- ITS FALSE NEIGHBOUR: 'it returns false'. Refute it at one input. -/
def streamNoneWrong : ChangeSpec := { name := "streamNone", fn := fun _ => fun
  | [d1, d2] => { results := [.lit (.bool false)], args := [d1, d2] }
  | _ => none }
def StreamNoneWrongFalsely : Prop := streamNoneRow.holds Try.pinned (OpenSpec.ofChange streamNoneWrong)

/-- 'sluicewaylaw15.SlotSeals': WHATEVER THE INPUT: true; the input reads as it did. -/
def slotSealsSpec : ChangeSpec := { name := "slotSeals", fn := fun _ => fun
  | [d] => { results := [.lit (.bool true)], args := [d] }
  | _ => none }
def slotSealsRow : OpenClaim := { program := "ytjmjehhmkjhalaa", sum := "ab0ed759ae814b7c3765d73e184fc57790ca27e7309cf51c6b6a1bc3efa4d2a4", func := "sluiceway/sluicewaylaw15.SlotSeals", spec := "slotSeals", unfollowed := true, recurses := true, apart := false }
def SlotSealsSaid : Prop := slotSealsRow.holds Try.pinned (OpenSpec.ofChange slotSealsSpec)

/-- ITS FALSE NEIGHBOUR: 'it returns false'. Refute it at one input. -/
def slotSealsWrong : ChangeSpec := { name := "slotSeals", fn := fun _ => fun
  | [d] => { results := [.lit (.bool false)], args := [d] }
  | _ => none }
def SlotSealsWrongFalsely : Prop := slotSealsRow.holds Try.pinned (OpenSpec.ofChange slotSealsWrong)

/-- 'sluicewaylaw15.SlotOpens': WHATEVER THE INPUT: true; the input reads as it did. -/
def slotOpensSpec : ChangeSpec := { name := "slotOpens", fn := fun _ => fun
  | [d] => { results := [.lit (.bool true)], args := [d] }
  | _ => none }
def slotOpensRow : OpenClaim := { program := "ytjmjehhmkjhalaa", sum := "ab0ed759ae814b7c3765d73e184fc57790ca27e7309cf51c6b6a1bc3efa4d2a4", func := "sluiceway/sluicewaylaw15.SlotOpens", spec := "slotOpens", unfollowed := true, recurses := true, apart := false }
def SlotOpensSaid : Prop := slotOpensRow.holds Try.pinned (OpenSpec.ofChange slotOpensSpec)

/-- ITS FALSE NEIGHBOUR: 'it returns false'. Refute it at one input. -/
def slotOpensWrong : ChangeSpec := { name := "slotOpens", fn := fun _ => fun
  | [d] => { results := [.lit (.bool false)], args := [d] }
  | _ => none }
def SlotOpensWrongFalsely : Prop := slotOpensRow.holds Try.pinned (OpenSpec.ofChange slotOpensWrong)

/-- 'sluicewaylaw15.SlotPlays': WHATEVER THE INPUT: true; the input reads as it did. -/
def slotPlaysSpec : ChangeSpec := { name := "slotPlays", fn := fun _ => fun
  | [d1, d2] => { results := [.lit (.bool true)], args := [d1, d2] }
  | _ => none }
def slotPlaysRow : OpenClaim := { program := "ytjmjehhmkjhalaa", sum := "ab0ed759ae814b7c3765d73e184fc57790ca27e7309cf51c6b6a1bc3efa4d2a4", func := "sluiceway/sluicewaylaw15.SlotPlays", spec := "slotPlays", unfollowed := true, recurses := true, apart := false }
def SlotPlaysSaid : Prop := slotPlaysRow.holds Try.pinned (OpenSpec.ofChange slotPlaysSpec)

/-- ITS FALSE NEIGHBOUR: 'it returns false'. Refute it at one input. -/
def slotPlaysWrong : ChangeSpec := { name := "slotPlays", fn := fun _ => fun
  | [d1, d2] => { results := [.lit (.bool false)], args := [d1, d2] }
  | _ => none }
def SlotPlaysWrongFalsely : Prop := slotPlaysRow.holds Try.pinned (OpenSpec.ofChange slotPlaysWrong)

/-- 'sluicewaylaw15.SlotKeeps': WHATEVER THE INPUT: true; the input reads as it did. -/
def slotKeepsSpec : ChangeSpec := { name := "slotKeeps", fn := fun _ => fun
  | [d1, d2] => { results := [.lit (.bool true)], args := [d1, d2] }
  | _ => none }
def slotKeepsRow : OpenClaim := { program := "ytjmjehhmkjhalaa", sum := "ab0ed759ae814b7c3765d73e184fc57790ca27e7309cf51c6b6a1bc3efa4d2a4", func := "sluiceway/sluicewaylaw15.SlotKeeps", spec := "slotKeeps", unfollowed := true, recurses := true, apart := false }
def SlotKeepsSaid : Prop := slotKeepsRow.holds Try.pinned (OpenSpec.ofChange slotKeepsSpec)

/-- ITS FALSE NEIGHBOUR: 'it returns false'. Refute it at one input. -/
def slotKeepsWrong : ChangeSpec := { name := "slotKeeps", fn := fun _ => fun
  | [d1, d2] => { results := [.lit (.bool false)], args := [d1, d2] }
  | _ => none }
def SlotKeepsWrongFalsely : Prop := slotKeepsRow.holds Try.pinned (OpenSpec.ofChange slotKeepsWrong)

/-- 'sluicewaylaw16.ImagePlays': WHATEVER THE INPUT: true; the input reads as it did. -/
def imagePlaysSpec : ChangeSpec := { name := "imagePlays", fn := fun _ => fun
  | [d1, d2] => { results := [.lit (.bool true)], args := [d1, d2] }
  | _ => none }
def imagePlaysRow : OpenClaim := { program := "ytjmjehhmkjhalaa", sum := "ab0ed759ae814b7c3765d73e184fc57790ca27e7309cf51c6b6a1bc3efa4d2a4", func := "sluiceway/sluicewaylaw16.ImagePlays", spec := "imagePlays", unfollowed := true, recurses := true, apart := false }
def ImagePlaysSaid : Prop := imagePlaysRow.holds Try.pinned (OpenSpec.ofChange imagePlaysSpec)

/-- ITS FALSE NEIGHBOUR: 'it returns false'. Refute it at one input. -/
def imagePlaysWrong : ChangeSpec := { name := "imagePlays", fn := fun _ => fun
  | [d1, d2] => { results := [.lit (.bool false)], args := [d1, d2] }
  | _ => none }
def ImagePlaysWrongFalsely : Prop := imagePlaysRow.holds Try.pinned (OpenSpec.ofChange imagePlaysWrong)

/-- 'sluicewaylaw16.ImageStays': WHATEVER THE INPUT: true; the input reads as it did. -/
def imageStaysSpec : ChangeSpec := { name := "imageStays", fn := fun _ => fun
  | [d] => { results := [.lit (.bool true)], args := [d] }
  | _ => none }
def imageStaysRow : OpenClaim := { program := "ytjmjehhmkjhalaa", sum := "ab0ed759ae814b7c3765d73e184fc57790ca27e7309cf51c6b6a1bc3efa4d2a4", func := "sluiceway/sluicewaylaw16.ImageStays", spec := "imageStays", unfollowed := true, recurses := true, apart := false }
def ImageStaysSaid : Prop := imageStaysRow.holds Try.pinned (OpenSpec.ofChange imageStaysSpec)

/-- ITS FALSE NEIGHBOUR: 'it returns false'. Refute it at one input. -/
def imageStaysWrong : ChangeSpec := { name := "imageStays", fn := fun _ => fun
  | [d] => { results := [.lit (.bool false)], args := [d] }
  | _ => none }
def ImageStaysWrongFalsely : Prop := imageStaysRow.holds Try.pinned (OpenSpec.ofChange imageStaysWrong)

/-- 'sluicewaylaw16.ImageAlone': WHATEVER THE INPUT: true; the input reads as it did. -/
def imageAloneSpec : ChangeSpec := { name := "imageAlone", fn := fun _ => fun
  | [d] => { results := [.lit (.bool true)], args := [d] }
  | _ => none }
def imageAloneRow : OpenClaim := { program := "ytjmjehhmkjhalaa", sum := "ab0ed759ae814b7c3765d73e184fc57790ca27e7309cf51c6b6a1bc3efa4d2a4", func := "sluiceway/sluicewaylaw16.ImageAlone", spec := "imageAlone", unfollowed := true, recurses := true, apart := false }
def ImageAloneSaid : Prop := imageAloneRow.holds Try.pinned (OpenSpec.ofChange imageAloneSpec)

/-- ITS FALSE NEIGHBOUR: 'it returns false'. Refute it at one input. -/
def imageAloneWrong : ChangeSpec := { name := "imageAlone", fn := fun _ => fun
  | [d] => { results := [.lit (.bool false)], args := [d] }
  | _ => none }
def ImageAloneWrongFalsely : Prop := imageAloneRow.holds Try.pinned (OpenSpec.ofChange imageAloneWrong)

/- THE SECOND FORM. 'bulk': how many values and letters a reading holds, each counted each time it is reached (what is shared counts as often as it is met; a slice's spare places count too). A statement '..UptoSaid' is the law's where the arguments, and the package variables that the reading takes, are together of bulk at most 1048576: NARROWER than '..Said'. Prove '..Said' where nothing that the law and all that it calls make is longer than what came in: it says more and counts as full. Else prove '..UptoSaid'. A law counts once. -/
mutual
def uptoBulk {H : Type} : DataW H → Nat
  | .lit (.string bytes) => bytes.length + 1
  | .lit _ => 1
  | .nil => 1
  | .ptr d => uptoBulk d + 1
  | .slice elems spare => uptoBulkAll elems + uptoBulkAll spare + 1
  | .agg parts => uptoBulkAll parts + 1
  | .iface _ d => uptoBulk d + 1
  | .map entries => uptoBulkEntries entries + 1
  | .held _ => 1
def uptoBulkAll {H : Type} : List (DataW H) → Nat
  | [] => 0
  | d :: r => uptoBulk d + uptoBulkAll r
def uptoBulkEntries {H : Type} : List (Lit × DataW H) → Nat
  | [] => 0
  | x :: r => uptoBulkEntry x + uptoBulkEntries r
def uptoBulkEntry {H : Type} : Lit × DataW H → Nat
  | (.string bytes, d) => bytes.length + uptoBulk d + 1
  | (_, d) => uptoBulk d + 1
 end
def uptoSmall : (H : Type) → List (DataW H) → Bool := fun _ ds => decide (uptoBulkAll ds ≤ 1048576)
def OpenSpec.upto (s : _root_.Go.ChangeSpec) : _root_.Go.OpenSpec := { _root_.Go.OpenSpec.ofChange s with cond := some uptoSmall }

/-- 'sluicewaylaw14.StreamPlays', WHERE WHAT IT READS IS OF BULK AT MOST 1048576: true; the input reads as it did. -/
def streamPlaysUptoRow : OpenClaim := { program := "ytjmjehhmkjhalaa", sum := "ab0ed759ae814b7c3765d73e184fc57790ca27e7309cf51c6b6a1bc3efa4d2a4", func := "sluiceway/sluicewaylaw14.StreamPlays", spec := "streamPlays", unfollowed := true, recurses := true, apart := false, narrowed := true }
def StreamPlaysUptoSaid : Prop := streamPlaysUptoRow.holds Try.pinned (OpenSpec.upto streamPlaysSpec)

/-- 'sluicewaylaw14.StreamScans', WHERE WHAT IT READS IS OF BULK AT MOST 1048576: true; the input reads as it did. -/
def streamScansUptoRow : OpenClaim := { program := "ytjmjehhmkjhalaa", sum := "ab0ed759ae814b7c3765d73e184fc57790ca27e7309cf51c6b6a1bc3efa4d2a4", func := "sluiceway/sluicewaylaw14.StreamScans", spec := "streamScans", unfollowed := true, recurses := true, apart := false, narrowed := true }
def StreamScansUptoSaid : Prop := streamScansUptoRow.holds Try.pinned (OpenSpec.upto streamScansSpec)

/-- 'sluicewaylaw14.StreamKeeps', WHERE WHAT IT READS IS OF BULK AT MOST 1048576: true; the input reads as it did. -/
def streamKeepsUptoRow : OpenClaim := { program := "ytjmjehhmkjhalaa", sum := "ab0ed759ae814b7c3765d73e184fc57790ca27e7309cf51c6b6a1bc3efa4d2a4", func := "sluiceway/sluicewaylaw14.StreamKeeps", spec := "streamKeeps", unfollowed := true, recurses := true, apart := false, narrowed := true }
def StreamKeepsUptoSaid : Prop := streamKeepsUptoRow.holds Try.pinned (OpenSpec.upto streamKeepsSpec)

/-- 'sluicewaylaw14.StreamNone', WHERE WHAT IT READS IS OF BULK AT MOST 1048576: true; the input reads as it did. -/
def streamNoneUptoRow : OpenClaim := { program := "ytjmjehhmkjhalaa", sum := "ab0ed759ae814b7c3765d73e184fc57790ca27e7309cf51c6b6a1bc3efa4d2a4", func := "sluiceway/sluicewaylaw14.StreamNone", spec := "streamNone", unfollowed := true, recurses := true, apart := false, narrowed := true }
def StreamNoneUptoSaid : Prop := streamNoneUptoRow.holds Try.pinned (OpenSpec.upto streamNoneSpec)

/-- 'sluicewaylaw15.SlotSeals', WHERE WHAT IT READS IS OF BULK AT MOST 1048576: true; the input reads as it did. -/
def slotSealsUptoRow : OpenClaim := { program := "ytjmjehhmkjhalaa", sum := "ab0ed759ae814b7c3765d73e184fc57790ca27e7309cf51c6b6a1bc3efa4d2a4", func := "sluiceway/sluicewaylaw15.SlotSeals", spec := "slotSeals", unfollowed := true, recurses := true, apart := false, narrowed := true }
def SlotSealsUptoSaid : Prop := slotSealsUptoRow.holds Try.pinned (OpenSpec.upto slotSealsSpec)

/-- 'sluicewaylaw15.SlotOpens', WHERE WHAT IT READS IS OF BULK AT MOST 1048576: true; the input reads as it did. -/
def slotOpensUptoRow : OpenClaim := { program := "ytjmjehhmkjhalaa", sum := "ab0ed759ae814b7c3765d73e184fc57790ca27e7309cf51c6b6a1bc3efa4d2a4", func := "sluiceway/sluicewaylaw15.SlotOpens", spec := "slotOpens", unfollowed := true, recurses := true, apart := false, narrowed := true }
def SlotOpensUptoSaid : Prop := slotOpensUptoRow.holds Try.pinned (OpenSpec.upto slotOpensSpec)

/-- 'sluicewaylaw15.SlotPlays', WHERE WHAT IT READS IS OF BULK AT MOST 1048576: true; the input reads as it did. -/
def slotPlaysUptoRow : OpenClaim := { program := "ytjmjehhmkjhalaa", sum := "ab0ed759ae814b7c3765d73e184fc57790ca27e7309cf51c6b6a1bc3efa4d2a4", func := "sluiceway/sluicewaylaw15.SlotPlays", spec := "slotPlays", unfollowed := true, recurses := true, apart := false, narrowed := true }
def SlotPlaysUptoSaid : Prop := slotPlaysUptoRow.holds Try.pinned (OpenSpec.upto slotPlaysSpec)

/-- 'sluicewaylaw15.SlotKeeps', WHERE WHAT IT READS IS OF BULK AT MOST 1048576: true; the input reads as it did. -/
def slotKeepsUptoRow : OpenClaim := { program := "ytjmjehhmkjhalaa", sum := "ab0ed759ae814b7c3765d73e184fc57790ca27e7309cf51c6b6a1bc3efa4d2a4", func := "sluiceway/sluicewaylaw15.SlotKeeps", spec := "slotKeeps", unfollowed := true, recurses := true, apart := false, narrowed := true }
def SlotKeepsUptoSaid : Prop := slotKeepsUptoRow.holds Try.pinned (OpenSpec.upto slotKeepsSpec)

/-- 'sluicewaylaw16.ImagePlays', WHERE WHAT IT READS IS OF BULK AT MOST 1048576: true; the input reads as it did. -/
def imagePlaysUptoRow : OpenClaim := { program := "ytjmjehhmkjhalaa", sum := "ab0ed759ae814b7c3765d73e184fc57790ca27e7309cf51c6b6a1bc3efa4d2a4", func := "sluiceway/sluicewaylaw16.ImagePlays", spec := "imagePlays", unfollowed := true, recurses := true, apart := false, narrowed := true }
def ImagePlaysUptoSaid : Prop := imagePlaysUptoRow.holds Try.pinned (OpenSpec.upto imagePlaysSpec)

/-- 'sluicewaylaw16.ImageStays', WHERE WHAT IT READS IS OF BULK AT MOST 1048576: true; the input reads as it did. -/
def imageStaysUptoRow : OpenClaim := { program := "ytjmjehhmkjhalaa", sum := "ab0ed759ae814b7c3765d73e184fc57790ca27e7309cf51c6b6a1bc3efa4d2a4", func := "sluiceway/sluicewaylaw16.ImageStays", spec := "imageStays", unfollowed := true, recurses := true, apart := false, narrowed := true }
def ImageStaysUptoSaid : Prop := imageStaysUptoRow.holds Try.pinned (OpenSpec.upto imageStaysSpec)

/-- 'sluicewaylaw16.ImageAlone', WHERE WHAT IT READS IS OF BULK AT MOST 1048576: true; the input reads as it did. -/
def imageAloneUptoRow : OpenClaim := { program := "ytjmjehhmkjhalaa", sum := "ab0ed759ae814b7c3765d73e184fc57790ca27e7309cf51c6b6a1bc3efa4d2a4", func := "sluiceway/sluicewaylaw16.ImageAlone", spec := "imageAlone", unfollowed := true, recurses := true, apart := false, narrowed := true }
def ImageAloneUptoSaid : Prop := imageAloneUptoRow.holds Try.pinned (OpenSpec.upto imageAloneSpec)

end Rows
end Go.Proofs.Ytjmjehhmkjhalaa
