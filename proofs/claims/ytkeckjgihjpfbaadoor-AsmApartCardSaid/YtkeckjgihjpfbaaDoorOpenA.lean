/- Layer 7: the listed variables as the walks want them; a start that holds them; instructions that came in. -/
import Derived.Test.YtkeckjgihjpfbaaDoorOpen
import Derived.Test.YtkeckjgihjpfbaaDoorAsm1
import Derived.Lib.LaidU8
namespace Go.Proofs.YtkeckjgihjpfbaaDoor
set_option maxRecDepth 100000
open Go.ChangeShapes Go.WideShapes Go.ChangeAt Go.RowKit Go.Deep Go.Joins

theorem gWords : Tryd.prog.globalNamed "sluiceway/asm.words" = some 1 := by kernel_rfl
theorem gWordsType : (Tryd.prog.globals[1]?).map (·.type) = some 90 := by kernel_rfl
theorem gRels : Tryd.prog.globalNamed "sluiceway/asm.relations" = some 2 := by kernel_rfl
theorem gRelsType : (Tryd.prog.globals[2]?).map (·.type) = some 123 := by kernel_rfl
theorem gPow : Tryd.prog.globalNamed "internal/strconv.uint64pow10" = some 4 := by kernel_rfl
theorem gPowType : (Tryd.prog.globals[4]?).map (·.type) = some 140 := by kernel_rfl
theorem cells123 : Tryd.prog.cellsOf 123 = 4 := by kernel_rfl
theorem cells140 : Tryd.prog.cellsOf 140 = 20 := by kernel_rfl
theorem cells68 : Tryd.prog.cellsOf 68 = 1 := by kernel_rfl
theorem words_laid : (Rows.laid_sluiceway_asm_words : DataW Unit) = strData wordsS := rfl
theorem rels_laid : (Rows.laid_sluiceway_asm_relations : DataW Unit) = strData relsS := rfl
theorem pow_laid : (Rows.laid_internal_strconv_uint64pow10 : DataW Unit) = Lib.tabData .u64 Lib.pow10Tab := by kernel_rfl
theorem at_of_laid {W : World} {l : List (String × DataW Unit)} (h : laidMet Tryd.prog l W) (m1 : ("sluiceway/prog.shapes", Rows.laid_sluiceway_prog_shapes) ∈ l) (m2 : ("sluiceway/asm.words", Rows.laid_sluiceway_asm_words) ∈ l)
    (m3 : ("sluiceway/asm.relations", Rows.laid_sluiceway_asm_relations) ∈ l) (m4 : ("internal/strconv.uint64pow10", Rows.laid_internal_strconv_uint64pow10) ∈ l) : AT W := by
  refine ⟨?_, ?_, ?_, ?_⟩
  · obtain ⟨g', t', cs, fuel, p, hg', ht', hvar, hd⟩ := Lib.laidMet.reads h m1
    rw [laid_is] at hd
    obtain rfl := Option.some.inj (gShapes.symm.trans hg')
    obtain rfl := Option.some.inj (gShapesType.symm.trans ht')
    have hcs := cells_of_strs Tryd.underlying90 Tryd.underlying9 cells9 cells90 hd
    intro i hi
    rw [World.var?_cell gShapes hvar i, ← Array.getElem?_toList, hcs, strN_mk, List.getElem?_map, shapes_at i hi]
    rfl
  · obtain ⟨g', t', cs, fuel, p, hg', ht', hvar, hd⟩ := Lib.laidMet.reads h m2
    rw [words_laid] at hd
    obtain rfl := Option.some.inj (gWords.symm.trans hg')
    obtain rfl := Option.some.inj (gWordsType.symm.trans ht')
    have hcs := cells_of_strs Tryd.underlying90 Tryd.underlying9 cells9 cells90 hd
    intro i hi
    rw [World.var?_cell gWords hvar i, ← Array.getElem?_toList, hcs, List.getElem?_map]
    rw [show wordsS[i]? = some ((wordsS[i]?).getD []) by rw [List.getElem?_eq_getElem (show i < wordsS.length from hi)]; rfl]
    rfl
  · obtain ⟨g', t', cs, fuel, p, hg', ht', hvar, hd⟩ := Lib.laidMet.reads h m3
    rw [rels_laid] at hd
    obtain rfl := Option.some.inj (gRels.symm.trans hg')
    obtain rfl := Option.some.inj (gRelsType.symm.trans ht')
    have hcs := cells_of_strs Tryd.underlying123 Tryd.underlying9 cells9 cells123 hd
    intro i hi
    rw [World.var?_cell gRels hvar i, ← Array.getElem?_toList, hcs, List.getElem?_map]
    rw [show relsS[i]? = some ((relsS[i]?).getD []) by rw [List.getElem?_eq_getElem (show i < relsS.length from hi)]; rfl]
    rfl
  · obtain ⟨g', t', cs, fuel, p, hg', ht', hvar, hd⟩ := Lib.laidMet.reads h m4
    rw [pow_laid] at hd
    obtain rfl := Option.some.inj (gPow.symm.trans hg')
    obtain rfl := Option.some.inj (gPowType.symm.trans ht')
    unfold Lib.TabIs
    rw [hvar, ← Lib.cells_of_tab Tryd.underlying140 Tryd.underlying68 cells68 cells140 hd]

/-- The cells of a struct argument, each of its kind. -/
theorem okWide_parts {w : World} {r : Reach} {base : Nat} {t : TypeId} {v : Value} (ts : List TypeId) (hu : ∃ fs, Tryd.prog.underlying t = some (.struct fs)) (hts : Tryd.prog.cellTypes Tryd.prog.depth t = some ts) (hk : Tryd.prog.cellsOf t = ts.length)
    (h : Value.okWide Tryd.prog w r base t v) : ∃ l : List Value, v = .agg l.toArray ∧ l.length = ts.length ∧ ∀ (i : Nat) (u : Value), l[i]? = some u → ∃ k, ts[i]? = some k ∧ Cell.okWide Tryd.prog w r base k u := by
  obtain ⟨fs, hfs⟩ := hu
  unfold Value.okWide at h
  rw [hfs] at h
  obtain ⟨cs, rfl, hsz, ts', h1, _, h3⟩ := h
  rw [hts] at h1
  injection h1 with h1
  subst h1
  refine ⟨cs.toList, by simp, by simp [hsz, hk], fun i u hu => ?_⟩
  obtain ⟨k, h4, h5⟩ := h3 i u (by simpa using hu)
  have hlt : i < ts.length := by
    have := (List.getElem?_eq_some_iff.1 hu).1
    simpa [hsz, hk] using this
  rw [Nat.mod_eq_of_lt hlt] at h4
  exact ⟨k, h4, h5⟩
theorem cell_i64 {w : World} {r : Reach} {base : Nat} {v : Value} (hc : Cell.okWide Tryd.prog w r base 3 v) : ∃ n : Int, v = Value.int .i64 n ∧ Fits n := by
  unfold Cell.okWide at hc
  rw [Tryd.underlying3] at hc
  cases v with
  | int q n =>
    simp only [Cell.ok] at hc
    obtain ⟨rfl, h⟩ := hc
    exact ⟨n, rfl, (show IntKind.i64.min = -9223372036854775808 by decide) ▸ h.1, (show IntKind.i64.max = 9223372036854775807 by decide) ▸ h.2⟩
  | _ => simp_all [Cell.ok]
theorem open_ins {w : World} {r : Reach} {base : Nat} {v : Value} (h : Value.okWide Tryd.prog w r base 43 v) : ∃ x : Ins, v = x.val ∧ x.Ok := by
  obtain ⟨l, rfl, hl, hc⟩ := okWide_parts [3, 3, 3, 3, 3, 3] ⟨_, Tryd.underlying43⟩ (by kernel_rfl) (by kernel_rfl) h
  match l, hl with
  | [u0, u1, u2, u3, u4, u5], _ =>
    obtain ⟨k0, e0, c0⟩ := hc 0 u0 rfl
    obtain ⟨k1, e1, c1⟩ := hc 1 u1 rfl
    obtain ⟨k2, e2, c2⟩ := hc 2 u2 rfl
    obtain ⟨k3, e3, c3⟩ := hc 3 u3 rfl
    obtain ⟨k4, e4, c4⟩ := hc 4 u4 rfl
    obtain ⟨k5, e5, c5⟩ := hc 5 u5 rfl
    cases e0; cases e1; cases e2; cases e3; cases e4; cases e5
    obtain ⟨z0, rfl, f0⟩ := cell_i64 c0
    obtain ⟨z1, rfl, f1⟩ := cell_i64 c1
    obtain ⟨z2, rfl, f2⟩ := cell_i64 c2
    obtain ⟨z3, rfl, f3⟩ := cell_i64 c3
    obtain ⟨z4, rfl, f4⟩ := cell_i64 c4
    obtain ⟨z5, rfl, f5⟩ := cell_i64 c5
    exact ⟨⟨z0, z1, z2, z3, z4, z5⟩, rfl, f0, f1, f2, f3, f4, f5⟩

def bits32 : List Int := [0, 1, 28, 2, 29, 14, 24, 3, 30, 22, 20, 15, 25, 17, 4, 8, 31, 27, 13, 23, 21, 19, 16, 7, 26, 12, 18, 6, 11, 5, 10, 9]
def bits64 : List Int := [0, 1, 56, 2, 57, 49, 28, 3, 61, 58, 42, 50, 38, 29, 17, 4, 62, 47, 59, 36, 45, 43, 51, 22, 53, 39, 33, 30, 24, 18, 12, 5, 63, 55, 48, 27, 60, 41, 37, 16, 46, 35, 44, 21, 52, 32, 23, 11, 54, 26, 40, 15, 34, 20, 31, 10, 25, 14, 19, 9, 13, 8, 7, 6]
def putCells (cs : List Value) (o : Obj) : Obj := match o with
  | .cells _ t frozen => .cells cs.toArray t frozen
  | o => o
noncomputable def laidWorldA (os : Os) : World :=
  { World.holding Tryd.prog os ⟨#[], #[], []⟩ with heap := ((((((World.holding Tryd.prog os ⟨#[], #[], []⟩).heap.modify 0 (putCells (shapesS.map fun s => Value.string ⟨s.toArray⟩))).modify 1 (putCells (wordsS.map fun s => Value.string ⟨s.toArray⟩))).modify 2 (putCells (relsS.map fun s => Value.string ⟨s.toArray⟩))).modify 4 (putCells (Lib.pow10Tab.map fun z => Value.int .u64 z))).modify 7 (putCells (bits32.map fun z => Value.int .u8 z))).modify 8 (putCells (bits64.map fun z => Value.int .u8 z)) }
def laidA : List (String × DataW Unit) := [("math/bits.deBruijn32tab", Rows.laid_math_bits_deBruijn32tab), ("math/bits.deBruijn64tab", Rows.laid_math_bits_deBruijn64tab), ("internal/strconv.uint64pow10", Rows.laid_internal_strconv_uint64pow10), ("sluiceway/prog.shapes", Rows.laid_sluiceway_prog_shapes), ("sluiceway/asm.words", Rows.laid_sluiceway_asm_words), ("sluiceway/asm.relations", Rows.laid_sluiceway_asm_relations)]
theorem laid_metA (os : Os) (args : Array Value) : laidMetH Tryd.prog laidA ((laidWorldA os).forCall (fun _ _ => 0) ⟨#[], args, []⟩).memory := by
  rw [Go.MakeChecks.laidMetH_plain _ _ _ (by rfl)]
  exact laidMet_of_run' 8 (by kernel_rfl) (by kernel_rfl)
end Go.Proofs.YtkeckjgihjpfbaaDoor
