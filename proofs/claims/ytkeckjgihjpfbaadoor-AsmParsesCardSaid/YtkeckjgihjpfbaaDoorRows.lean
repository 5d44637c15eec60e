/-
  NARROWER THAN 'FOR EVERY INPUT', by the rows' own cells (each row's printed sentence says how): ProgEncodes: laid · ProgDecodes: laid · ProgShapes: laid · ProgCuts: laid · AsmPrints: laid · AsmParses: laid · AsmLines: laid · AsmApart: laid.
  DERIVED. THE GIVEN ROWS OF THIS SEAT. 8 by the template 'for every input the law returns true; each argument reads behind the call as it read before'; 0 by the template 'total and deterministic' (their statements: YtkeckjgihjpfbaaDoorTotals.lean).
  GIVEN WITH THE SEED: the statements are not yours to turn. If you find one false, say at which input.
  Laid BY PROGRAM, IN A SANDBOX (cutbox-rows.mjs): the forced cells as the released guide's own fill.sh prints them over the translation 4c4ef74d9b2b9806… (all of the seat's roots in one cut). By AI agents, Wed Nov 11 2026. No macro, syntax, notation, axiom, sorry.
-/
import Derived.Test.YtkeckjgihjpfbaaDoorChecked
import GoSem.PinnedTables
import GoSem.Claim
import GoSem.ClaimJoined
import GoSem.ClaimMapViews
import Derived.JoinedTies
import Derived.KernelRfl
namespace Go.Proofs.YtkeckjgihjpfbaaDoor
/- THE CELL 'sum', in the pinned program and in every row, IS THE sha256 OF THE DUMP (.gsa) THAT YtkeckjgihjpfbaaDoorProg.lean LOADS. Nothing in Lean hashes anything: it is a label: what it is worth is what the hold of that sum in a sandbox is worth. -/
noncomputable def Tryd.pinned : Pinned := { name := "ytkeckjgihjpfbaadoor", sum := "4c4ef74d9b2b9806841661bcd3f6a549a02bd4f7f9214238ec887b28aa171b8b", checked := Tryd.checked }
namespace Rows
def none {H : Type} : Left H := { results := [], args := [] }

/- WHAT THE LISTED PACKAGE-LEVEL VARIABLES READ AS WHEN THE CALL BEGINS. Each datum BY PROGRAM (the guide's laid-datum.mjs) off the statement by which the dump's own 'gosem.cut.vars' lays the variable. In a bare row this is a premise. The card (YtkeckjgihjpfbaaDoorCards.lean) ties it to the program's text. -/
def laid_sluiceway_prog_shapes {H : Type} : DataW H := .agg [.lit (.string [97, 110]), .lit (.string [97, 98]), .lit (.string [97, 98, 99]), .lit (.string [97, 98, 99]), .lit (.string [97, 98, 99]), .lit (.string [97, 98, 99]), .lit (.string [97, 98, 99]), .lit (.string [97, 116, 98]), .lit (.string [97, 116, 98]), .lit (.string [116, 98, 97]), .lit (.string [116, 98]), .lit (.string [97, 116, 98, 99, 107]), .lit (.string [97, 116, 98, 99, 107]), .lit (.string [115, 98, 106, 99]), .lit (.string [98, 106, 99]), .lit (.string [97])]
def laid_math_bits_deBruijn32tab {H : Type} : DataW H := .agg [.lit (.int .u8 0), .lit (.int .u8 1), .lit (.int .u8 28), .lit (.int .u8 2), .lit (.int .u8 29), .lit (.int .u8 14), .lit (.int .u8 24), .lit (.int .u8 3), .lit (.int .u8 30), .lit (.int .u8 22), .lit (.int .u8 20), .lit (.int .u8 15), .lit (.int .u8 25), .lit (.int .u8 17), .lit (.int .u8 4), .lit (.int .u8 8), .lit (.int .u8 31), .lit (.int .u8 27), .lit (.int .u8 13), .lit (.int .u8 23), .lit (.int .u8 21), .lit (.int .u8 19), .lit (.int .u8 16), .lit (.int .u8 7), .lit (.int .u8 26), .lit (.int .u8 12), .lit (.int .u8 18), .lit (.int .u8 6), .lit (.int .u8 11), .lit (.int .u8 5), .lit (.int .u8 10), .lit (.int .u8 9)]
def laid_math_bits_deBruijn64tab {H : Type} : DataW H := .agg [.lit (.int .u8 0), .lit (.int .u8 1), .lit (.int .u8 56), .lit (.int .u8 2), .lit (.int .u8 57), .lit (.int .u8 49), .lit (.int .u8 28), .lit (.int .u8 3), .lit (.int .u8 61), .lit (.int .u8 58), .lit (.int .u8 42), .lit (.int .u8 50), .lit (.int .u8 38), .lit (.int .u8 29), .lit (.int .u8 17), .lit (.int .u8 4), .lit (.int .u8 62), .lit (.int .u8 47), .lit (.int .u8 59), .lit (.int .u8 36), .lit (.int .u8 45), .lit (.int .u8 43), .lit (.int .u8 51), .lit (.int .u8 22), .lit (.int .u8 53), .lit (.int .u8 39), .lit (.int .u8 33), .lit (.int .u8 30), .lit (.int .u8 24), .lit (.int .u8 18), .lit (.int .u8 12), .lit (.int .u8 5), .lit (.int .u8 63), .lit (.int .u8 55), .lit (.int .u8 48), .lit (.int .u8 27), .lit (.int .u8 60), .lit (.int .u8 41), .lit (.int .u8 37), .lit (.int .u8 16), .lit (.int .u8 46), .lit (.int .u8 35), .lit (.int .u8 44), .lit (.int .u8 21), .lit (.int .u8 52), .lit (.int .u8 32), .lit (.int .u8 23), .lit (.int .u8 11), .lit (.int .u8 54), .lit (.int .u8 26), .lit (.int .u8 40), .lit (.int .u8 15), .lit (.int .u8 34), .lit (.int .u8 20), .lit (.int .u8 31), .lit (.int .u8 10), .lit (.int .u8 25), .lit (.int .u8 14), .lit (.int .u8 19), .lit (.int .u8 9), .lit (.int .u8 13), .lit (.int .u8 8), .lit (.int .u8 7), .lit (.int .u8 6)]
def laid_internal_strconv_uint64pow10 {H : Type} : DataW H := .agg [.lit (.int .u64 1), .lit (.int .u64 10), .lit (.int .u64 100), .lit (.int .u64 1000), .lit (.int .u64 10000), .lit (.int .u64 100000), .lit (.int .u64 1000000), .lit (.int .u64 10000000), .lit (.int .u64 100000000), .lit (.int .u64 1000000000), .lit (.int .u64 10000000000), .lit (.int .u64 100000000000), .lit (.int .u64 1000000000000), .lit (.int .u64 10000000000000), .lit (.int .u64 100000000000000), .lit (.int .u64 1000000000000000), .lit (.int .u64 10000000000000000), .lit (.int .u64 100000000000000000), .lit (.int .u64 1000000000000000000), .lit (.int .u64 10000000000000000000)]
def laid_unicode_utf8_acceptRanges {H : Type} : DataW H := .agg [.agg [.lit (.int .u8 128), .lit (.int .u8 191)], .agg [.lit (.int .u8 160), .lit (.int .u8 191)], .agg [.lit (.int .u8 128), .lit (.int .u8 159)], .agg [.lit (.int .u8 144), .lit (.int .u8 191)], .agg [.lit (.int .u8 128), .lit (.int .u8 143)], .agg [.lit (.int .u8 0), .lit (.int .u8 0)], .agg [.lit (.int .u8 0), .lit (.int .u8 0)], .agg [.lit (.int .u8 0), .lit (.int .u8 0)], .agg [.lit (.int .u8 0), .lit (.int .u8 0)], .agg [.lit (.int .u8 0), .lit (.int .u8 0)], .agg [.lit (.int .u8 0), .lit (.int .u8 0)], .agg [.lit (.int .u8 0), .lit (.int .u8 0)], .agg [.lit (.int .u8 0), .lit (.int .u8 0)], .agg [.lit (.int .u8 0), .lit (.int .u8 0)], .agg [.lit (.int .u8 0), .lit (.int .u8 0)], .agg [.lit (.int .u8 0), .lit (.int .u8 0)]]
def laid_strconv_ErrRange {H : Type} : DataW H := .iface "*errors.errorString" (.ptr (.agg [.lit (.string [118, 97, 108, 117, 101, 32, 111, 117, 116, 32, 111, 102, 32, 114, 97, 110, 103, 101])]))
def laid_strconv_ErrSyntax {H : Type} : DataW H := .iface "*errors.errorString" (.ptr (.agg [.lit (.string [105, 110, 118, 97, 108, 105, 100, 32, 115, 121, 110, 116, 97, 120])]))
def laid_sluiceway_asm_words {H : Type} : DataW H := .agg [.lit (.string [115, 101, 116]), .lit (.string [109, 111, 118, 101]), .lit (.string [97, 100, 100]), .lit (.string [115, 117, 98]), .lit (.string [109, 117, 108]), .lit (.string [100, 105, 118]), .lit (.string [109, 111, 100]), .lit (.string [103, 101, 116]), .lit (.string [104, 97, 115]), .lit (.string [112, 117, 116]), .lit (.string [100, 101, 108]), .lit (.string [115, 117, 109]), .lit (.string [99, 111, 117, 110, 116]), .lit (.string [115, 107, 105, 112]), .lit (.string [97, 98, 111, 114, 116]), .lit (.string [111, 117, 116])]
def laid_sluiceway_asm_relations {H : Type} : DataW H := .agg [.lit (.string [60]), .lit (.string [61]), .lit (.string [62]), .lit (.string [60, 62])]
/-- One of Go's own tables, pinned by name: the form's constant. -/
def laid_unicode_utf8_first : DataW Unit := Go.Pinned.utf8First

/-- 'sluicewaylaw06.ProgEncodes': WHATEVER THE INPUT: true; the input reads as it did. -/
def progEncodesSpec : ChangeSpec := { name := "progEncodes", fn := fun _ => fun
  | [d] => { results := [.lit (.bool true)], args := [d] }
  | _ => none }
def progEncodesRow : OpenClaim := { program := "ytkeckjgihjpfbaadoor", sum := "4c4ef74d9b2b9806841661bcd3f6a549a02bd4f7f9214238ec887b28aa171b8b", func := "sluiceway/sluicewaylaw06.ProgEncodes", spec := "progEncodes", named := ["sluiceway/prog.shapes"], apart := false, laid := [("sluiceway/prog.shapes", laid_sluiceway_prog_shapes)] }
def ProgEncodesSaid : Prop := progEncodesRow.holds Tryd.pinned (OpenSpec.ofChange progEncodesSpec)

/-- ITS FALSE NEIGHBOUR: 'it returns false'. Refute it at one input. -/
def progEncodesWrong : ChangeSpec := { name := "progEncodes", fn := fun _ => fun
  | [d] => { results := [.lit (.bool false)], args := [d] }
  | _ => none }
def ProgEncodesWrongFalsely : Prop := progEncodesRow.holds Tryd.pinned (OpenSpec.ofChange progEncodesWrong)

/-- 'sluicewaylaw06.ProgDecodes': WHATEVER THE INPUT: true; the input reads as it did. -/
def progDecodesSpec : ChangeSpec := { name := "progDecodes", fn := fun _ => fun
  | [d] => { results := [.lit (.bool true)], args := [d] }
  | _ => none }
def progDecodesRow : OpenClaim := { program := "ytkeckjgihjpfbaadoor", sum := "4c4ef74d9b2b9806841661bcd3f6a549a02bd4f7f9214238ec887b28aa171b8b", func := "sluiceway/sluicewaylaw06.ProgDecodes", spec := "progDecodes", named := ["sluiceway/prog.shapes"], apart := false, laid := [("sluiceway/prog.shapes", laid_sluiceway_prog_shapes)] }
def ProgDecodesSaid : Prop := progDecodesRow.holds Tryd.pinned (OpenSpec.ofChange progDecodesSpec)

/-- ITS FALSE NEIGHBOUR: 'it returns false'. Refute it at one input. -/
def progDecodesWrong : ChangeSpec := { name := "progDecodes", fn := fun _ => fun
  | [d] => { results := [.lit (.bool false)], args := [d] }
  | _ => none }
def ProgDecodesWrongFalsely : Prop := progDecodesRow.holds Tryd.pinned (OpenSpec.ofChange progDecodesWrong)

/-- 'sluicewaylaw06.ProgShapes': WHATEVER THE INPUT: true; the input reads as it did. -/
def progShapesSpec : ChangeSpec := { name := "progShapes", fn := fun _ => fun
  | [d1, d2, d3] => { results := [.lit (.bool true)], args := [d1, d2, d3] }
  | _ => none }
def progShapesRow : OpenClaim := { program := "ytkeckjgihjpfbaadoor", sum := "4c4ef74d9b2b9806841661bcd3f6a549a02bd4f7f9214238ec887b28aa171b8b", func := "sluiceway/sluicewaylaw06.ProgShapes", spec := "progShapes", named := ["sluiceway/prog.shapes"], apart := false, laid := [("sluiceway/prog.shapes", laid_sluiceway_prog_shapes)] }
def ProgShapesSaid : Prop := progShapesRow.holds Tryd.pinned (OpenSpec.ofChange progShapesSpec)

/-- ITS FALSE NEIGHBOUR: 'it returns false'. Refute it at one input. -/
def progShapesWrong : ChangeSpec := { name := "progShapes", fn := fun _ => fun
  | [d1, d2, d3] => { results := [.lit (.bool false)], args := [d1, d2, d3] }
  | _ => none }
def ProgShapesWrongFalsely : Prop := progShapesRow.holds Tryd.pinned (OpenSpec.ofChange progShapesWrong)

/-- 'sluicewaylaw06.ProgCuts': WHATEVER THE INPUT: true; the input reads as it did. -/
def progCutsSpec : ChangeSpec := { name := "progCuts", fn := fun _ => fun
  | [d1, d2, d3] => { results := [.lit (.bool true)], args := [d1, d2, d3] }
  | _ => none }
def progCutsRow : OpenClaim := { program := "ytkeckjgihjpfbaadoor", sum := "4c4ef74d9b2b9806841661bcd3f6a549a02bd4f7f9214238ec887b28aa171b8b", func := "sluiceway/sluicewaylaw06.ProgCuts", spec := "progCuts", named := ["sluiceway/prog.shapes"], apart := false, laid := [("sluiceway/prog.shapes", laid_sluiceway_prog_shapes)] }
def ProgCutsSaid : Prop := progCutsRow.holds Tryd.pinned (OpenSpec.ofChange progCutsSpec)

/-- ITS FALSE NEIGHBOUR: 'it returns false'. Refute it at one input. -/
def progCutsWrong : ChangeSpec := { name := "progCuts", fn := fun _ => fun
  | [d1, d2, d3] => { results := [.lit (.bool false)], args := [d1, d2, d3] }
  | _ => none }
def ProgCutsWrongFalsely : Prop := progCutsRow.holds Tryd.pinned (OpenSpec.ofChange progCutsWrong)

/-- 'sluicewaylaw07.AsmPrints': WHATEVER THE INPUT: true; the input reads as it did. -/
def asmPrintsSpec : ChangeSpec := { name := "asmPrints", fn := fun _ => fun
  | [d] => { results := [.lit (.bool true)], args := [d] }
  | _ => none }
def asmPrintsRow : OpenClaim := { program := "ytkeckjgihjpfbaadoor", sum := "4c4ef74d9b2b9806841661bcd3f6a549a02bd4f7f9214238ec887b28aa171b8b", func := "sluiceway/sluicewaylaw07.AsmPrints", spec := "asmPrints", inPlace := ["internal/bytealg.IndexByteString", "internal/bytealg.IndexString", "internal/bytealg.CountString"], recurses := true, named := ["sluiceway/prog.shapes", "internal/strconv.uint64pow10", "math/bits.deBruijn32tab", "math/bits.deBruijn64tab", "sluiceway/asm.words", "sluiceway/asm.relations", "internal/bytealg.MaxLen", "unicode/utf8.first", "unicode/utf8.acceptRanges", "strconv.ErrSyntax", "strconv.ErrRange"], apart := false, laid := [("math/bits.deBruijn32tab", laid_math_bits_deBruijn32tab), ("math/bits.deBruijn64tab", laid_math_bits_deBruijn64tab), ("internal/strconv.uint64pow10", laid_internal_strconv_uint64pow10), ("unicode/utf8.acceptRanges", laid_unicode_utf8_acceptRanges), ("sluiceway/prog.shapes", laid_sluiceway_prog_shapes), ("strconv.ErrRange", laid_strconv_ErrRange), ("strconv.ErrSyntax", laid_strconv_ErrSyntax), ("sluiceway/asm.words", laid_sluiceway_asm_words), ("sluiceway/asm.relations", laid_sluiceway_asm_relations), ("unicode/utf8.first", laid_unicode_utf8_first)] }
def AsmPrintsSaid : Prop := asmPrintsRow.holds Tryd.pinned (OpenSpec.ofChange asmPrintsSpec)

/-- ITS FALSE NEIGHBOUR: 'it returns false'. Refute it at one input. -/
def asmPrintsWrong : ChangeSpec := { name := "asmPrints", fn := fun _ => fun
  | [d] => { results := [.lit (.bool false)], args := [d] }
  | _ => none }
def AsmPrintsWrongFalsely : Prop := asmPrintsRow.holds Tryd.pinned (OpenSpec.ofChange asmPrintsWrong)

/-- 'sluicewaylaw07.AsmParses': WHATEVER THE INPUT: true; the input reads as it did. -/
def asmParsesSpec : ChangeSpec := { name := "asmParses", fn := fun _ => fun
  | [d] => { results := [.lit (.bool true)], args := [d] }
  | _ => none }
def asmParsesRow : OpenClaim := { program := "ytkeckjgihjpfbaadoor", sum := "4c4ef74d9b2b9806841661bcd3f6a549a02bd4f7f9214238ec887b28aa171b8b", func := "sluiceway/sluicewaylaw07.AsmParses", spec := "asmParses", inPlace := ["internal/bytealg.IndexByteString", "internal/bytealg.IndexString", "internal/bytealg.CountString"], recurses := true, named := ["sluiceway/prog.shapes", "internal/strconv.uint64pow10", "math/bits.deBruijn32tab", "math/bits.deBruijn64tab", "sluiceway/asm.words", "sluiceway/asm.relations", "internal/bytealg.MaxLen", "unicode/utf8.first", "unicode/utf8.acceptRanges", "strconv.ErrSyntax", "strconv.ErrRange"], apart := false, laid := [("math/bits.deBruijn32tab", laid_math_bits_deBruijn32tab), ("math/bits.deBruijn64tab", laid_math_bits_deBruijn64tab), ("internal/strconv.uint64pow10", laid_internal_strconv_uint64pow10), ("unicode/utf8.acceptRanges", laid_unicode_utf8_acceptRanges), ("sluiceway/prog.shapes", laid_sluiceway_prog_shapes), ("strconv.ErrRange", laid_strconv_ErrRange), ("strconv.ErrSyntax", laid_strconv_ErrSyntax), ("sluiceway/asm.words", laid_sluiceway_asm_words), ("sluiceway/asm.relations", laid_sluiceway_asm_relations), ("unicode/utf8.first", laid_unicode_utf8_first)] }
def AsmParsesSaid : Prop := asmParsesRow.holds Tryd.pinned (OpenSpec.ofChange asmParsesSpec)

/-- ITS FALSE NEIGHBOUR: 'it returns false'. Refute it at one input. -/
def asmParsesWrong : ChangeSpec := { name := "asmParses", fn := fun _ => fun
  | [d] => { results := [.lit (.bool false)], args := [d] }
  | _ => none }
def AsmParsesWrongFalsely : Prop := asmParsesRow.holds Tryd.pinned (OpenSpec.ofChange asmParsesWrong)

/-- 'sluicewaylaw07.AsmLines': WHATEVER THE INPUT: true; the input reads as it did. -/
def asmLinesSpec : ChangeSpec := { name := "asmLines", fn := fun _ => fun
  | [d1, d2] => { results := [.lit (.bool true)], args := [d1, d2] }
  | _ => none }
def asmLinesRow : OpenClaim := { program := "ytkeckjgihjpfbaadoor", sum := "4c4ef74d9b2b9806841661bcd3f6a549a02bd4f7f9214238ec887b28aa171b8b", func := "sluiceway/sluicewaylaw07.AsmLines", spec := "asmLines", recurses := true, named := ["sluiceway/prog.shapes", "internal/strconv.uint64pow10", "math/bits.deBruijn32tab", "math/bits.deBruijn64tab", "sluiceway/asm.words", "sluiceway/asm.relations"], apart := false, laid := [("math/bits.deBruijn32tab", laid_math_bits_deBruijn32tab), ("math/bits.deBruijn64tab", laid_math_bits_deBruijn64tab), ("internal/strconv.uint64pow10", laid_internal_strconv_uint64pow10), ("sluiceway/prog.shapes", laid_sluiceway_prog_shapes), ("sluiceway/asm.words", laid_sluiceway_asm_words), ("sluiceway/asm.relations", laid_sluiceway_asm_relations)] }
def AsmLinesSaid : Prop := asmLinesRow.holds Tryd.pinned (OpenSpec.ofChange asmLinesSpec)

/-- ITS FALSE NEIGHBOUR: 'it returns false'. Refute it at one input. -/
def asmLinesWrong : ChangeSpec := { name := "asmLines", fn := fun _ => fun
  | [d1, d2] => { results := [.lit (.bool false)], args := [d1, d2] }
  | _ => none }
def AsmLinesWrongFalsely : Prop := asmLinesRow.holds Tryd.pinned (OpenSpec.ofChange asmLinesWrong)

/-- 'sluicewaylaw07.AsmApart': WHATEVER THE INPUT: true; the input reads as it did. -/
def asmApartSpec : ChangeSpec := { name := "asmApart", fn := fun _ => fun
  | [d1, d2] => { results := [.lit (.bool true)], args := [d1, d2] }
  | _ => none }
def asmApartRow : OpenClaim := { program := "ytkeckjgihjpfbaadoor", sum := "4c4ef74d9b2b9806841661bcd3f6a549a02bd4f7f9214238ec887b28aa171b8b", func := "sluiceway/sluicewaylaw07.AsmApart", spec := "asmApart", named := ["sluiceway/prog.shapes", "internal/strconv.uint64pow10", "math/bits.deBruijn32tab", "math/bits.deBruijn64tab", "sluiceway/asm.words", "sluiceway/asm.relations"], apart := false, laid := [("math/bits.deBruijn32tab", laid_math_bits_deBruijn32tab), ("math/bits.deBruijn64tab", laid_math_bits_deBruijn64tab), ("internal/strconv.uint64pow10", laid_internal_strconv_uint64pow10), ("sluiceway/prog.shapes", laid_sluiceway_prog_shapes), ("sluiceway/asm.words", laid_sluiceway_asm_words), ("sluiceway/asm.relations", laid_sluiceway_asm_relations)] }
def AsmApartSaid : Prop := asmApartRow.holds Tryd.pinned (OpenSpec.ofChange asmApartSpec)

/-- ITS FALSE NEIGHBOUR: 'it returns false'. Refute it at one input. -/
def asmApartWrong : ChangeSpec := { name := "asmApart", fn := fun _ => fun
  | [d1, d2] => { results := [.lit (.bool false)], args := [d1, d2] }
  | _ => none }
def AsmApartWrongFalsely : Prop := asmApartRow.holds Tryd.pinned (OpenSpec.ofChange asmApartWrong)

/- THE SECOND FORM. 'bulk': how many values and letters a reading holds, each counted each time it is reached (what is shared counts as often as it is met; a slice's spare places count too). A statement '..UptoSaid' is the law's where the arguments, and the package variables that the reading takes, are together of bulk at most 1048576: NARROWER than '..Said'. Prove '..Said' where nothing that the law and all that it calls make is longer than what came in: it says more and counts as full. Else prove '..UptoSaid'. A law counts once. -/
mutual
def uptoBulk {H : Type} : DataW H → Nat
  | .lit (.string bytes) => bytes.length + 1
  | .lit _ => 1
  | .nil => 1
  | .ptr d => uptoBulk d + 1
  | .slice elems spare => uptoBulkAll elems + uptoBulkAll spare + 1
  | .agg parts => uptoBulkAll parts + 1
  | .iface _ d => uptoBulk d + 1
  | .map entries => uptoBulkEntries entries + 1
  | .held _ => 1
def uptoBulkAll {H : Type} : List (DataW H) → Nat
  | [] => 0
  | d :: r => uptoBulk d + uptoBulkAll r
def uptoBulkEntries {H : Type} : List (Lit × DataW H) → Nat
  | [] => 0
  | x :: r => uptoBulkEntry x + uptoBulkEntries r
def uptoBulkEntry {H : Type} : Lit × DataW H → Nat
  | (.string bytes, d) => bytes.length + uptoBulk d + 1
  | (_, d) => uptoBulk d + 1
 end
def uptoSmall : (H : Type) → List (DataW H) → Bool := fun _ ds => decide (uptoBulkAll ds ≤ 1048576)
def OpenSpec.upto (s : _root_.Go.ChangeSpec) : _root_.Go.OpenSpec := { _root_.Go.OpenSpec.ofChange s with cond := some uptoSmall }

/-- 'sluicewaylaw06.ProgEncodes', WHERE WHAT IT READS IS OF BULK AT MOST 1048576: true; the input reads as it did. -/
def progEncodesUptoRow : OpenClaim := { program := "ytkeckjgihjpfbaadoor", sum := "4c4ef74d9b2b9806841661bcd3f6a549a02bd4f7f9214238ec887b28aa171b8b", func := "sluiceway/sluicewaylaw06.ProgEncodes", spec := "progEncodes", named := ["sluiceway/prog.shapes"], apart := false, laid := [("sluiceway/prog.shapes", laid_sluiceway_prog_shapes)], narrowed := true }
def ProgEncodesUptoSaid : Prop := progEncodesUptoRow.holds Tryd.pinned (OpenSpec.upto progEncodesSpec)

/-- 'sluicewaylaw06.ProgDecodes', WHERE WHAT IT READS IS OF BULK AT MOST 1048576: true; the input reads as it did. -/
def progDecodesUptoRow : OpenClaim := { program := "ytkeckjgihjpfbaadoor", sum := "4c4ef74d9b2b9806841661bcd3f6a549a02bd4f7f9214238ec887b28aa171b8b", func := "sluiceway/sluicewaylaw06.ProgDecodes", spec := "progDecodes", named := ["sluiceway/prog.shapes"], apart := false, laid := [("sluiceway/prog.shapes", laid_sluiceway_prog_shapes)], narrowed := true }
def ProgDecodesUptoSaid : Prop := progDecodesUptoRow.holds Tryd.pinned (OpenSpec.upto progDecodesSpec)

/-- 'sluicewaylaw06.ProgShapes', WHERE WHAT IT READS IS OF BULK AT MOST 1048576: true; the input reads as it did. -/
def progShapesUptoRow : OpenClaim := { program := "ytkeckjgihjpfbaadoor", sum := "4c4ef74d9b2b9806841661bcd3f6a549a02bd4f7f9214238ec887b28aa171b8b", func := "sluiceway/sluicewaylaw06.ProgShapes", spec := "progShapes", named := ["sluiceway/prog.shapes"], apart := false, laid := [("sluiceway/prog.shapes", laid_sluiceway_prog_shapes)], narrowed := true }
def ProgShapesUptoSaid : Prop := progShapesUptoRow.holds Tryd.pinned (OpenSpec.upto progShapesSpec)

/-- 'sluicewaylaw06.ProgCuts', WHERE WHAT IT READS IS OF BULK AT MOST 1048576: true; the input reads as it did. -/
def progCutsUptoRow : OpenClaim := { program := "ytkeckjgihjpfbaadoor", sum := "4c4ef74d9b2b9806841661bcd3f6a549a02bd4f7f9214238ec887b28aa171b8b", func := "sluiceway/sluicewaylaw06.ProgCuts", spec := "progCuts", named := ["sluiceway/prog.shapes"], apart := false, laid := [("sluiceway/prog.shapes", laid_sluiceway_prog_shapes)], narrowed := true }
def ProgCutsUptoSaid : Prop := progCutsUptoRow.holds Tryd.pinned (OpenSpec.upto progCutsSpec)

/-- 'sluicewaylaw07.AsmPrints', WHERE WHAT IT READS IS OF BULK AT MOST 1048576: true; the input reads as it did. -/
def asmPrintsUptoRow : OpenClaim := { program := "ytkeckjgihjpfbaadoor", sum := "4c4ef74d9b2b9806841661bcd3f6a549a02bd4f7f9214238ec887b28aa171b8b", func := "sluiceway/sluicewaylaw07.AsmPrints", spec := "asmPrints", inPlace := ["internal/bytealg.IndexByteString", "internal/bytealg.IndexString", "internal/bytealg.CountString"], recurses := true, named := ["sluiceway/prog.shapes", "internal/strconv.uint64pow10", "math/bits.deBruijn32tab", "math/bits.deBruijn64tab", "sluiceway/asm.words", "sluiceway/asm.relations", "internal/bytealg.MaxLen", "unicode/utf8.first", "unicode/utf8.acceptRanges", "strconv.ErrSyntax", "strconv.ErrRange"], apart := false, laid := [("math/bits.deBruijn32tab", laid_math_bits_deBruijn32tab), ("math/bits.deBruijn64tab", laid_math_bits_deBruijn64tab), ("internal/strconv.uint64pow10", laid_internal_strconv_uint64pow10), ("unicode/utf8.acceptRanges", laid_unicode_utf8_acceptRanges), ("sluiceway/prog.shapes", laid_sluiceway_prog_shapes), ("strconv.ErrRange", laid_strconv_ErrRange), ("strconv.ErrSyntax", laid_strconv_ErrSyntax), ("sluiceway/asm.words", laid_sluiceway_asm_words), ("sluiceway/asm.relations", laid_sluiceway_asm_relations), ("unicode/utf8.first", laid_unicode_utf8_first)], narrowed := true }
def AsmPrintsUptoSaid : Prop := asmPrintsUptoRow.holds Tryd.pinned (OpenSpec.upto asmPrintsSpec)

/-- 'sluicewaylaw07.AsmParses', WHERE WHAT IT READS IS OF BULK AT MOST 1048576: true; the input reads as it did. -/
def asmParsesUptoRow : OpenClaim := { program := "ytkeckjgihjpfbaadoor", sum := "4c4ef74d9b2b9806841661bcd3f6a549a02bd4f7f9214238ec887b28aa171b8b", func := "sluiceway/sluicewaylaw07.AsmParses", spec := "asmParses", inPlace := ["internal/bytealg.IndexByteString", "internal/bytealg.IndexString", "internal/bytealg.CountString"], recurses := true, named := ["sluiceway/prog.shapes", "internal/strconv.uint64pow10", "math/bits.deBruijn32tab", "math/bits.deBruijn64tab", "sluiceway/asm.words", "sluiceway/asm.relations", "internal/bytealg.MaxLen", "unicode/utf8.first", "unicode/utf8.acceptRanges", "strconv.ErrSyntax", "strconv.ErrRange"], apart := false, laid := [("math/bits.deBruijn32tab", laid_math_bits_deBruijn32tab), ("math/bits.deBruijn64tab", laid_math_bits_deBruijn64tab), ("internal/strconv.uint64pow10", laid_internal_strconv_uint64pow10), ("unicode/utf8.acceptRanges", laid_unicode_utf8_acceptRanges), ("sluiceway/prog.shapes", laid_sluiceway_prog_shapes), ("strconv.ErrRange", laid_strconv_ErrRange), ("strconv.ErrSyntax", laid_strconv_ErrSyntax), ("sluiceway/asm.words", laid_sluiceway_asm_words), ("sluiceway/asm.relations", laid_sluiceway_asm_relations), ("unicode/utf8.first", laid_unicode_utf8_first)], narrowed := true }
def AsmParsesUptoSaid : Prop := asmParsesUptoRow.holds Tryd.pinned (OpenSpec.upto asmParsesSpec)

/-- 'sluicewaylaw07.AsmLines', WHERE WHAT IT READS IS OF BULK AT MOST 1048576: true; the input reads as it did. -/
def asmLinesUptoRow : OpenClaim := { program := "ytkeckjgihjpfbaadoor", sum := "4c4ef74d9b2b9806841661bcd3f6a549a02bd4f7f9214238ec887b28aa171b8b", func := "sluiceway/sluicewaylaw07.AsmLines", spec := "asmLines", recurses := true, named := ["sluiceway/prog.shapes", "internal/strconv.uint64pow10", "math/bits.deBruijn32tab", "math/bits.deBruijn64tab", "sluiceway/asm.words", "sluiceway/asm.relations"], apart := false, laid := [("math/bits.deBruijn32tab", laid_math_bits_deBruijn32tab), ("math/bits.deBruijn64tab", laid_math_bits_deBruijn64tab), ("internal/strconv.uint64pow10", laid_internal_strconv_uint64pow10), ("sluiceway/prog.shapes", laid_sluiceway_prog_shapes), ("sluiceway/asm.words", laid_sluiceway_asm_words), ("sluiceway/asm.relations", laid_sluiceway_asm_relations)], narrowed := true }
def AsmLinesUptoSaid : Prop := asmLinesUptoRow.holds Tryd.pinned (OpenSpec.upto asmLinesSpec)

/-- 'sluicewaylaw07.AsmApart', WHERE WHAT IT READS IS OF BULK AT MOST 1048576: true; the input reads as it did. -/
def asmApartUptoRow : OpenClaim := { program := "ytkeckjgihjpfbaadoor", sum := "4c4ef74d9b2b9806841661bcd3f6a549a02bd4f7f9214238ec887b28aa171b8b", func := "sluiceway/sluicewaylaw07.AsmApart", spec := "asmApart", named := ["sluiceway/prog.shapes", "internal/strconv.uint64pow10", "math/bits.deBruijn32tab", "math/bits.deBruijn64tab", "sluiceway/asm.words", "sluiceway/asm.relations"], apart := false, laid := [("math/bits.deBruijn32tab", laid_math_bits_deBruijn32tab), ("math/bits.deBruijn64tab", laid_math_bits_deBruijn64tab), ("internal/strconv.uint64pow10", laid_internal_strconv_uint64pow10), ("sluiceway/prog.shapes", laid_sluiceway_prog_shapes), ("sluiceway/asm.words", laid_sluiceway_asm_words), ("sluiceway/asm.relations", laid_sluiceway_asm_relations)], narrowed := true }
def AsmApartUptoSaid : Prop := asmApartUptoRow.holds Tryd.pinned (OpenSpec.upto asmApartSpec)

end Rows
end Go.Proofs.YtkeckjgihjpfbaaDoor
