/- YtkeckjgihjpfbaaDoorTakeI, YtkeckjgihjpfbaaDoorSame, YtkeckjgihjpfbaaDoorWholes, YtkeckjgihjpfbaaDoorDec, YtkeckjgihjpfbaaDoorRfMath, YtkeckjgihjpfbaaDoorBackM, YtkeckjgihjpfbaaDoorREnc, YtkeckjgihjpfbaaDoorBackC, YtkeckjgihjpfbaaDoorDecode, YtkeckjgihjpfbaaDoorEncodesLaw: put together. -/
import Derived.Test.YtkeckjgihjpfbaaDoorZP2
import Derived.Test.YtkeckjgihjpfbaaDoorZP1
import Derived.Deep.Cut
import Derived.Deep.RegionLaw
import Derived.Deep.DrawnRows
/- The contract of prog.take: an instruction that is read. -/
namespace Go.Proofs.YtkeckjgihjpfbaaDoor
set_option maxRecDepth 100000
open Go.RowKit

def wrapI (n : Nat) : Int := IntKind.i64.wrap (n : Int)
theorem wrapI_fits (n : Nat) : Fits (wrapI n) := by unfold wrapI Fits; rw [IntKind.wrap_i64]; omega
theorem wrapI_small (n : Nat) (h : n ≤ 9223372036854775807) : wrapI n = (n : Int) := by unfold wrapI; rw [IntKind.wrap_i64]; omega
theorem unfoldN_fits (n : Nat) (h : n < 18446744073709551616) : Fits (unfoldN n) := by unfold unfoldN Fits; split <;> omega
def stepL (s : Ins × List Nat × Bool) (l : Nat) : Ins × List Nat × Bool := (s.1.set (offL l) (if l = 110 then unfoldN (rcount s.2.1).1 else wrapI (rcount s.2.1).1), (rcount s.2.1).2.1, (rcount s.2.1).2.2)
def startI (bs : List Nat) (bad : Bool) : Ins × List Nat × Bool := ({ Ins.zero with op := (byteT bs : Int) }, bs.drop 1, bad || decide (bs.length = 0))
/-- An instruction that is read. -/
def takeI (bs : List Nat) (bad : Bool) : Ins × List Nat × Bool := (shapeL (byteT bs : Int)).foldl stepL (startI bs bad)
def takeL (bs : List Nat) (bad : Bool) (k : Nat) : Ins × List Nat × Bool := ((shapeL (byteT bs : Int)).take k).foldl stepL (startI bs bad)
theorem takeL_succ (bs : List Nat) (bad : Bool) (k : Nat) (hk : k < (shapeL (byteT bs : Int)).length) : takeL bs bad (k + 1) = stepL (takeL bs bad k) (shapeL (byteT bs : Int))[k] := by
  unfold takeL
  rw [List.take_succ_eq_append_getElem hk, List.foldl_append]
  rfl
theorem takeL_all (bs : List Nat) (bad : Bool) (k : Nat) (hk : (shapeL (byteT bs : Int)).length = k) : takeL bs bad k = takeI bs bad := by
  unfold takeL takeI
  rw [← hk, List.take_length]
theorem Rdr.alloc {w : World} {B : Nat → Prop} {V : Value} {bs : List Nat} {bad : Bool} (h : Rdr w B V bs bad) (o : Obj) : Rdr (w.alloc o) B V bs bad := h.stays (by simp) (fun k hk _ => heap_alloc_old w o hk)
theorem Only.alloc (w : World) (o : Obj) (V : Value) : Only w (w.alloc o) V := Only.of_below ((Below.refl _ w).alloc (Nat.le_refl _) o)
theorem Rdr.lt {w : World} {B : Nat → Prop} {V : Value} {bs : List Nat} {bad : Bool} (h : Rdr w B V bs bad) : ∀ k, V = .pointer (Option.some ⟨k, 0, Option.none⟩) → k < w.heap.size := by
  cases h with
  | none => intro k hk; cases hk
  | some g _ _ _ _ _ _ block => intro k hk; injection hk with hk; injection hk with hk; injection hk with hk; rw [← hk]; exact (Array.getElem?_eq_some_iff.1 block).1
theorem Rdr.setNew {w : World} {B : Nat → Prop} {V : Value} {bs : List Nat} {bad : Bool} (h : Rdr w B V bs bad) (g o : Nat) (u : Value) (hg : ¬ B g) : Rdr (w.setCell ⟨g, o, Option.none⟩ u) B V bs bad :=
  h.stays (by rw [World.size_setCell]; exact Nat.le_refl _) (fun k _ hk => Deep.blk_setCell_other w ⟨g, o, Option.none⟩ u k (fun e => hg (by have : k = g := e; rw [← this]; exact hk)))
/-- Nothing but what V points at is changed of what stood in w. -/
theorem Only.setNew {w w1 : World} {V : Value} (h : Only w w1 V) (g o : Nat) (u : Value) (hg : w.heap.size ≤ g) : Only w (w1.setCell ⟨g, o, none⟩ u) V :=
  ⟨h.os, h.tape, h.output, by rw [World.size_setCell]; exact h.size, fun k hk hv => (Deep.blk_setCell_other w1 ⟨g, o, none⟩ u k (by show k ≠ g; omega)).trans (h.block k hk hv)⟩
theorem Tab.only {w w' : World} {V : Value} (h : Tab w) (k : Only w w' V) (hV : V ≠ .pointer (some ⟨0, 0, none⟩)) : Tab w' := fun i hi => by
  rw [← h i hi]
  exact World.cell?_of_block (k.block 0 (tab_size h) hV)
theorem byteT_lt {bs : List Nat} (h : ∀ x ∈ bs, x < 256) : byteT bs < 256 := by
  cases bs with
  | nil => decide
  | cons x t => exact h x (List.mem_cons_self ..)
def zeroArr : Array Value := #[.int .i64 0, .int .i64 0, .int .i64 0, .int .i64 0, .int .i64 0, .int .i64 0]
theorem results45 (w : World) (g : Nat) (x : Ins) (h : w.heap[g]? = some (.cells x.vals.toArray 43 (0, 0))) (tmps : Array Value) (h2 : tmps.getD 2 undef = .pointer (some ⟨g, 0, none⟩)) :
    (results Tryd.f45 tmps).run Tryd.prog w = .ok x.val w := by
  have h2' : tmps[2]?.getD undef = .pointer (some ⟨g, 0, none⟩) := by simpa using h2
  have c0 : w.cell? ⟨g, 0, none⟩ = some (.int .i64 x.op) := cell_of_row w g 0 _ 43 (0, 0) h
  have c1 : w.cell? ⟨g, 1, none⟩ = some (.int .i64 x.a) := cell_of_row w g 1 _ 43 (0, 0) h
  have c2 : w.cell? ⟨g, 2, none⟩ = some (.int .i64 x.b) := cell_of_row w g 2 _ 43 (0, 0) h
  have c3 : w.cell? ⟨g, 3, none⟩ = some (.int .i64 x.c) := cell_of_row w g 3 _ 43 (0, 0) h
  have c4 : w.cell? ⟨g, 4, none⟩ = some (.int .i64 x.t) := cell_of_row w g 4 _ 43 (0, 0) h
  have c5 : w.cell? ⟨g, 5, none⟩ = some (.int .i64 x.n) := cell_of_row w g 5 _ 43 (0, 0) h
  have e : Tryd.f45.results = #[.cell 2 43] := Tryd.results45
  have hl : (loadVar 43 ⟨g, 0, none⟩).run Tryd.prog w = .ok x.val w := by simp [go_sem, c0, c1, c2, c3, c4, c5, Ins.val]
  simp only [results, e]
  simp [asAddr, h2', hl]
theorem heap_at {w : World} {g : Nat} {cs : Array Value} {t : TypeId} (h : w.heap[g]? = some (.cells cs t (0, 0))) (k : Nat) (v : Value) : (w.setCell ⟨g, k, none⟩ v).heap[g]? = some (.cells (cs.setIfInBounds k v) t (0, 0)) := by
  simp [World.setCell, Array.getElem?_modify, h]
/-- Six cells stored. -/
def set6 (w : World) (g : Nat) (x : Ins) : World := (((((w.setCell ⟨g, 0, none⟩ (.int .i64 x.op)).setCell ⟨g, 1, none⟩ (.int .i64 x.a)).setCell ⟨g, 2, none⟩ (.int .i64 x.b)).setCell ⟨g, 3, none⟩ (.int .i64 x.c)).setCell ⟨g, 4, none⟩ (.int .i64 x.t)).setCell ⟨g, 5, none⟩ (.int .i64 x.n)
theorem set6_at {w : World} {g : Nat} {y : Ins} (h : w.heap[g]? = some (.cells y.vals.toArray 43 (0, 0))) (x : Ins) : (set6 w g x).heap[g]? = some (.cells x.vals.toArray 43 (0, 0)) := by
  unfold set6
  have h0 := heap_at h 0 (.int .i64 x.op)
  have h1 := heap_at h0 1 (.int .i64 x.a)
  have h2 := heap_at h1 2 (.int .i64 x.b)
  have h3 := heap_at h2 3 (.int .i64 x.c)
  have h4 := heap_at h3 4 (.int .i64 x.t)
  exact heap_at h4 5 (.int .i64 x.n)
theorem set6_only {w w1 : World} {V : Value} (h : Only w w1 V) (g : Nat) (x : Ins) (hg : w.heap.size ≤ g) : Only w (set6 w1 g x) V :=
  (((((h.setNew g 0 _ hg).setNew g 1 _ hg).setNew g 2 _ hg).setNew g 3 _ hg).setNew g 4 _ hg).setNew g 5 _ hg
theorem set6_rdr {w : World} {B : Nat → Prop} {V : Value} {bs : List Nat} {bad : Bool} (h : Rdr w B V bs bad) (g : Nat) (x : Ins) (hg : ¬ B g) : Rdr (set6 w g x) B V bs bad :=
  (((((h.setNew g 0 _ hg).setNew g 1 _ hg).setNew g 2 _ hg).setNew g 3 _ hg).setNew g 4 _ hg).setNew g 5 _ hg
/-- What stands in take's round. -/
structure TI (w : World) (q : Nat) (wr : World) (B : Nat → Prop) (V : Value) (s : Ins × List Nat × Bool) : Prop where
  rdr : Rdr wr B V s.2.1 s.2.2
  only : Only w wr V
  out : wr.heap[w.heap.size]? = some (.cells zeroArr 43 (0, 0))
  cur : wr.heap[q]? = some (.cells s.1.vals.toArray 43 (0, 0))
  lo : w.heap.size + 1 ≤ q
  lt : q + 1 ≤ wr.heap.size
theorem TI.step {w wr w2 : World} {q : Nat} {B : Nat → Prop} {V : Value} {s : Ins × List Nat × Bool} {bs : List Nat} {bad : Bool} (h : TI w q wr B V s) (hV : ∀ k, V = .pointer (some ⟨k, 0, none⟩) → k < w.heap.size) (hr : Rdr w2 B V bs bad) (ho : Only wr w2 V) : TI w q w2 B V (s.1, bs, bad) :=
  ⟨hr, h.only.trans ho, (ho.block _ (by have := h.lt; have := h.lo; omega) (fun e => by have := hV _ e; omega)).trans h.out, (ho.block _ (by have := h.lt; omega) (fun e => by have := hV _ e; have := h.lo; omega)).trans h.cur, h.lo, Nat.le_trans h.lt ho.size⟩
theorem TI.put {w wr : World} {q : Nat} {B : Nat → Prop} {V : Value} {s : Ins × List Nat × Bool} (h : TI w q wr B V s) (hB : ∀ k, B k → k < w.heap.size) (o : Nat) (ho : 1 ≤ o ∧ o ≤ 5) (v : Int) : TI w q (wr.setCell ⟨q, o, none⟩ (.int .i64 v)) B V (s.1.set o v, s.2) :=
  ⟨h.rdr.setNew q o _ (fun e => by have := hB _ e; have := h.lo; omega), h.only.setNew _ _ _ (by have := h.lo; omega), (Deep.blk_setCell_other wr _ _ _ (by show w.heap.size ≠ q; have := h.lo; omega)).trans h.out, heap_set h.cur ho v, h.lo, by rw [World.size_setCell]; exact h.lt⟩
theorem TI.start {w w1 : World} {B : Nat → Prop} {V : Value} {bs : List Nat} {bad : Bool} (b : Nat) (hr : Rdr w1 B V bs bad) (ho : Only (w.alloc (.cells #[.int .i64 0, .int .i64 0, .int .i64 0, .int .i64 0, .int .i64 0, .int .i64 0] 43)) w1 V) (hV : ∀ k, V = .pointer (some ⟨k, 0, none⟩) → k < w.heap.size) :
    TI w w1.heap.size (w1.alloc (.cells #[.int .i64 (b : Int), .int .i64 0, .int .i64 0, .int .i64 0, .int .i64 0, .int .i64 0] 43)) B V ({ Ins.zero with op := (b : Int) }, bs, bad) := by
  have hl := ho.size
  rw [World.size_alloc] at hl
  refine ⟨hr.alloc _, ((Only.alloc w _ V).trans ho).trans (Only.alloc w1 _ V), ?_, heap_alloc_new w1 _, hl, by rw [World.size_alloc]; exact Nat.le_refl _⟩
  exact (heap_alloc_old w1 _ (by omega)).trans ((ho.block _ (by rw [World.size_alloc]; omega) (fun e => by have := hV _ e; omega)).trans (heap_alloc_new w _))
theorem TI.fin {w wr : World} {q : Nat} {B : Nat → Prop} {V : Value} {s : Ins × List Nat × Bool} (h : TI w q wr B V s) (hB : ∀ k, B k → k < w.heap.size) :
    Rdr (set6 wr w.heap.size s.1) B V s.2.1 s.2.2 ∧ Only w (set6 wr w.heap.size s.1) V ∧ (set6 wr w.heap.size s.1).heap[w.heap.size]? = some (.cells s.1.vals.toArray 43 (0, 0)) :=
  ⟨set6_rdr h.rdr _ _ (fun e => by have := hB _ e; omega), set6_only h.only _ _ (Nat.le_refl _), set6_at (y := Ins.zero) h.out s.1⟩
set_option maxHeartbeats 4000000 in
theorem takeI_any (B : Nat → Prop) (V : Value) (bs : List Nat) (bad : Bool) (w : World) (hT : Tab w) (h : Rdr w B V bs bad) (hV : V ≠ .pointer (some ⟨0, 0, none⟩)) (hB : ∀ k, B k → k < w.heap.size) :
    Calls Tryd.prog 45 #[V] w fun e w' => e = .returned (takeI bs bad).1.val ∧ Rdr w' B V (takeI bs bad).2.1 (takeI bs bad).2.2 ∧ Only w w' V := by
  have HVL := Lib.hid h.lt
  have HB := Lib.hid hB
  have HT := Lib.hid hT
  have HV := Lib.hid hV
  have hb256 := byteT_lt h.small'
  have HY := Lib.hid (rbyte_any B V bs bad (w.alloc (.cells #[.int .i64 0, .int .i64 0, .int .i64 0, .int .i64 0, .int .i64 0, .int .i64 0] 43)) (h.alloc _))
  have HS0 := Lib.hid (show startI bs bad = ({ Ins.zero with op := (byteT bs : Int) }, bs.drop 1, bad || decide (bs.length = 0)) from rfl)
  have HTL := Lib.hid (takeL_succ bs bad)
  have HTA := Lib.hid (takeL_all bs bad)
  have HT0 := Lib.hid (show takeL bs bad 0 = startI bs bad from rfl)
  obtain ⟨ls, hls⟩ : ∃ ls, ls = shapeL (byteT bs : Int) := ⟨_, rfl⟩
  have HSM := Lib.hid (show ∀ y ∈ ls, y < 256 by rw [hls]; exact shapeL_small _)
  have hlen : ls.length ≤ 5 := by rw [hls]; exact shapeL_len _
  have HSH := Lib.hid (fun W (h : Tab W) => (by have h1 := shape_any (byteT bs : Int) W h; rw [← hls] at h1; exact h1 : Calls Tryd.prog 25 #[.int .i64 (byteT bs : Int)] W fun e w' => e = .returned (.tuple #[.string (strN ls), .bool (okOp (byteT bs : Int))]) ∧ W = w'))
  rw [← hls] at HTL HTA
  obtain ⟨b, hb⟩ : ∃ b, b = byteT bs := ⟨_, rfl⟩
  rw [← hb] at hb256 HY HS0 HSH
  obtain ⟨s, hs⟩ : ∃ s, s = strN ls := ⟨_, rfl⟩
  obtain ⟨m, hm⟩ : ∃ m, m = ls.length := ⟨_, rfl⟩
  have hsz : s.size = m := by rw [hs, strN_size, hm]
  have HIX := Lib.hid (fun k (hk : k < ls.length) w => (by rw [hs]; exact idx_str ls HSM.out k hk w : (Instr.index 9 (.string s) (.int .i64 (k : Int))).run Tryd.prog w = .ok (.int .u8 ((ls[k] : Nat) : Int)) w))
  rw [← hs] at HSH
  have HM := Lib.hid hm
  rw [← hm] at hlen
  have e1 : IntKind.i64.wrap (b : Int) = ((b : Nat) : Int) := by rw [IntKind.wrap_i64]; omega
  clear h hV hB hT hls hb hs hm
  go_enter Tryd.func45, Tryd.ntmps45
  go_wp2_with fail
  refine Calls.mono HY.out ?_
  rintro e w1 ⟨rfl, hr1, ho1⟩
  have HR1 := Lib.hid hr1
  have HO1 := Lib.hid ho1
  have hl1 := ho1.size
  rw [World.size_alloc] at hl1
  clear hr1 ho1
  go_wp2_with fail
  have HTI0 := Lib.hid (TI.start b HR1.out HO1.out HVL.out)
  have HT1 := Lib.hid (HT.out.only HTI0.out.only HV.out)
  refine Calls.mono (HSH.out _ HT1.out) ?_
  rintro e w2 ⟨rfl, rfl⟩
  go_wp2_with fail
  go_loopw [19] (fun i wr => ∃ k : Nat, i = .int .i64 (k : Int) ∧ k ≤ m ∧ TI w w1.heap.size wr B V (takeL bs bad k)) (fun i _ => m - (intOf i).toNat)
  case atStart => exact ⟨0, rfl, by omega, by rw [HT0.out, HS0.out]; exact HTI0.out⟩
  case round =>
    obtain ⟨k, rfl, hk, hti⟩ := hrel
    obtain ⟨S, hS⟩ : ∃ S, S = takeL bs bad k := ⟨_, rfl⟩
    rw [← hS] at hti
    obtain ⟨x, bs', bad'⟩ := S
    have HS := Lib.hid hS
    have HTI := Lib.hid hti
    have hlo := hti.lo
    have hlt2 := hti.lt
    clear hti hS
    by_cases hlt : k < m
    · have hkl : k < ls.length := by rw [← HM.out]; exact hlt
      have hix := HIX.out k hkl
      have hnx := HTL.out k hkl
      rw [← HS.out] at hnx
      obtain ⟨l, hl⟩ : ∃ l, l = ls[k] := ⟨_, rfl⟩
      rw [← hl] at hix hnx
      have HNX := Lib.hid hnx
      have hl256 : l < 256 := by rw [hl]; exact HSM.out _ (List.getElem_mem hkl)
      clear hl hnx
      by_cases h110 : l = 110
      · have d1 : ((l : Int) == 110) = true := by rw [beq_iff_eq]; omega
        have HN := Lib.hid (rnum_any B V bs' bad' wr HTI.out.rdr)
        have HNY := Lib.hid (show takeL bs bad (k + 1) = (x.set 5 (unfoldN (rcount bs').1), (rcount bs').2.1, (rcount bs').2.2) by rw [HNX.out, h110]; rfl)
        clear h110
        go_wp2_with fail
        refine Calls.mono HN.out ?_
        rintro e w2 ⟨rfl, hr2, ho2⟩
        have h2 := HTI.out.step HVL.out hr2 ho2
        have H2 := Lib.hid h2
        have c5 : w2.cell? ⟨w1.heap.size, 5, none⟩ = some (.int .i64 x.n) := cell_of_row w2 _ 5 _ 43 (0, 0) h2.cur
        have f5 : w2.frozen? ⟨w1.heap.size, 5, none⟩ = false := by simp [World.frozen?, h2.cur]
        clear hr2 ho2 h2
        go_wp2_with fail
        go_roundw
        case rel => exact ⟨k + 1, by go_num, by omega, by rw [HNY.out]; exact H2.out.put HB.out 5 (by decide) _⟩
        case measure => simp [intOf]; omega
      · have d1 : ((l : Int) == 110) = false := by rw [beq_eq_false_iff_ne]; omega
        obtain ⟨o, ho⟩ : ∃ o, o = offL l := ⟨_, rfl⟩
        have hol := offL_le l
        have HF := Lib.hid (field_any w1.heap.size l wr)
        have HN := Lib.hid (rcount_any B V bs' bad' wr HTI.out.rdr)
        have HNY := Lib.hid (show takeL bs bad (k + 1) = (x.set o (wrapI (rcount bs').1), (rcount bs').2.1, (rcount bs').2.2) by rw [HNX.out, ho]; unfold stepL; rw [if_neg h110])
        rw [← ho] at HF hol
        obtain ⟨z, hz⟩ : ∃ z, z = wrapI (rcount bs').1 := ⟨_, rfl⟩
        have hw : IntKind.i64.wrap ((rcount bs').1 : Int) = z := by rw [hz]; rfl
        rw [← hz] at HNY
        obtain ⟨u, hu⟩ : ∃ u, u = (rcount bs').1 := ⟨_, rfl⟩
        have hult := rcount_lt bs' HTI.out.rdr.small'
        rw [← hu] at hw HN hult
        clear h110 ho hz hu
        have HOL := Lib.hid hol
        clear hol
        go_wp2_with fail
        refine Calls.mono HF.out ?_
        rintro e w2 ⟨rfl, rfl⟩
        go_wp2_with fail
        refine Calls.mono HN.out ?_
        rintro e w2 ⟨rfl, hr2, ho2⟩
        have h2 := HTI.out.step HVL.out hr2 ho2
        have H2 := Lib.hid h2
        obtain ⟨y, hy⟩ : ∃ y, x.vals.toArray[o]? = some (.int .i64 y) := ⟨_, get_at _ o HOL.out⟩
        have c5 : w2.cell? ⟨w1.heap.size, o, none⟩ = some (.int .i64 y) := (cell_of_row w2 _ o _ 43 (0, 0) h2.cur).trans hy
        have f5 : w2.frozen? ⟨w1.heap.size, o, none⟩ = false := by simp [World.frozen?, h2.cur]
        clear hr2 ho2 h2 hy
        go_wp2_with fail
        go_roundw
        case rel => exact ⟨k + 1, by go_num, by omega, by rw [HNY.out]; exact H2.out.put HB.out o HOL.out _⟩
        case measure => simp [intOf]; omega
    · obtain rfl : k = m := by omega
      have hcu := HTI.out.cur
      have hou := HTI.out.out
      have g0 : wr.cell? ⟨w1.heap.size, 0, none⟩ = some (.int .i64 x.op) := cell_of_row wr _ 0 _ 43 (0, 0) hcu
      have g1 : wr.cell? ⟨w1.heap.size, 1, none⟩ = some (.int .i64 x.a) := cell_of_row wr _ 1 _ 43 (0, 0) hcu
      have g2 : wr.cell? ⟨w1.heap.size, 2, none⟩ = some (.int .i64 x.b) := cell_of_row wr _ 2 _ 43 (0, 0) hcu
      have g3 : wr.cell? ⟨w1.heap.size, 3, none⟩ = some (.int .i64 x.c) := cell_of_row wr _ 3 _ 43 (0, 0) hcu
      have g4 : wr.cell? ⟨w1.heap.size, 4, none⟩ = some (.int .i64 x.t) := cell_of_row wr _ 4 _ 43 (0, 0) hcu
      have g5 : wr.cell? ⟨w1.heap.size, 5, none⟩ = some (.int .i64 x.n) := cell_of_row wr _ 5 _ 43 (0, 0) hcu
      have z0 : wr.cell? ⟨w.heap.size, 0, none⟩ = some (.int .i64 0) := cell_of_row wr _ 0 _ 43 (0, 0) hou
      have z1 : wr.cell? ⟨w.heap.size, 1, none⟩ = some (.int .i64 0) := cell_of_row wr _ 1 _ 43 (0, 0) hou
      have z2 : wr.cell? ⟨w.heap.size, 2, none⟩ = some (.int .i64 0) := cell_of_row wr _ 2 _ 43 (0, 0) hou
      have z3 : wr.cell? ⟨w.heap.size, 3, none⟩ = some (.int .i64 0) := cell_of_row wr _ 3 _ 43 (0, 0) hou
      have z4 : wr.cell? ⟨w.heap.size, 4, none⟩ = some (.int .i64 0) := cell_of_row wr _ 4 _ 43 (0, 0) hou
      have z5 : wr.cell? ⟨w.heap.size, 5, none⟩ = some (.int .i64 0) := cell_of_row wr _ 5 _ 43 (0, 0) hou
      have fz : ∀ o, wr.frozen? ⟨w.heap.size, o, none⟩ = false := fun o => by simp [World.frozen?, hou]
      have f0 := fz 0
      have f1 := fz 1
      have f2 := fz 2
      have f3 := fz 3
      have f4 := fz 4
      have f5 := fz 5
      have HEND := Lib.hid (HTA.out k HM.out.symm)
      clear hcu hou fz
      go_wp2_with fail
      obtain ⟨r1, r2, r3⟩ := HTI.out.fin HB.out
      refine bodyPost_ret (results45 _ _ x r3 _ rfl) rfl ?_
      rw [← HEND.out, ← HS.out]
      exact ⟨rfl, r1, r2⟩
end Go.Proofs.YtkeckjgihjpfbaaDoor

/- The contracts of slices.Equal over instructions, prog.Same, num.Programs, the law's large and copies, the document's Shape. -/
namespace Go.Proofs.YtkeckjgihjpfbaaDoor
set_option maxRecDepth 100000
open Go.RowKit

theorem decide_cut (l m : List Ins) (k : Nat) (hk : k < l.length) (hm : k < m.length) (h : l[k] ≠ m[k]) : l ≠ m := fun e => by subst e; exact h rfl
theorem decide_all (l m : List Ins) (hl : l.length = m.length) (h : ∀ j (h1 : j < l.length) (h2 : j < m.length), l[j] = m[j]) : l = m := List.ext_getElem hl h
set_option maxHeartbeats 2000000 in
theorem equal_any (A A' : Option Addr) (n n' c c' : Nat) (l m : List Ins) (w : World) (h1 : Codes w A n l) (h2 : Codes w A' n' m) (hn : n ≤ 9223372036854775807) (hn' : n' ≤ 9223372036854775807) :
    Calls Tryd.prog 54 #[.slice A n c, .slice A' n' c'] w fun e w' => e = .returned (.bool (decide (l = m))) ∧ Below w.heap.size w w' := by
  have HL := Lib.hid h1.len
  have HM := Lib.hid h2.len
  have H1 := Lib.hid h1
  have H2 := Lib.hid h2
  clear h1 h2
  by_cases hnn : n = n'
  · subst hnn
    have d0 : ((n : Int) != (n : Int)) = false := by simp
    go_enter Tryd.func54, Tryd.ntmps54
    go_wp2_with fail
    go_loopw [13] (fun i wr => ∃ k : Nat, i = .int .i64 (k : Int) ∧ k ≤ n ∧ Below w.heap.size w wr ∧ (∀ j (h1 : j < l.length) (h2 : j < m.length), j < k → l[j] = m[j])) (fun i _ => n - (intOf i).toNat)
    case atStart => exact ⟨0, rfl, by omega, Below.refl _ _, fun j _ _ h => absurd h (by omega)⟩
    case round =>
      obtain ⟨k, rfl, hk, hb, hall⟩ := hrel
      have HB := Lib.hid hb
      have HALL := Lib.hid hall
      clear hb hall
      by_cases hlt : k < n
      · have hkl : k < l.length := by rw [HL.out]; exact hlt
        have hkm : k < m.length := by rw [HM.out]; exact hlt
        obtain ⟨b, off, rfl, hc⟩ := (H1.out.ext (stays_b HB.out)).cells (by omega)
        obtain ⟨b2, off2, rfl, hc2⟩ := (H2.out.ext (stays_b HB.out)).cells (by omega)
        obtain ⟨p0, p1, p2, p3, p4, p5⟩ := hc k hkl
        obtain ⟨q0, q1, q2, q3, q4, q5⟩ := hc2 k hkm
        obtain ⟨x, hx⟩ : ∃ x, x = l[k] := ⟨_, rfl⟩
        obtain ⟨y, hy⟩ : ∃ y, y = m[k] := ⟨_, rfl⟩
        rw [← hx] at p0 p1 p2 p3 p4 p5
        rw [← hy] at q0 q1 q2 q3 q4 q5
        have hne := fun W => neq_ins W x y
        unfold Ins.val at hne
        have HX := Lib.hid hx
        have HY := Lib.hid hy
        clear hc hc2 hx hy
        by_cases he : x = y
        · rw [decide_eq_true he] at hne
          have HE := Lib.hid he
          clear he
          go_wp2_with fail
          go_quiet (fail)
          have hbd : Below w.heap.size w (wr.drewN nq) := ⟨HB.out.os, HB.out.tape, HB.out.output, HB.out.size, HB.out.block⟩
          go_wp2_with fail
          go_roundw
          case rel => exact ⟨k + 1, by go_num, by omega, hbd, fun j h1 h2 hj => by
            rcases Nat.lt_or_ge j k with h | h
            · exact HALL.out j h1 h2 h
            · obtain rfl : j = k := by omega
              rw [← HX.out, ← HY.out]; exact HE.out⟩
          case measure => simp [intOf]; omega
        · rw [decide_eq_false he] at hne
          have HE := Lib.hid (show decide (l = m) = false from decide_eq_false (decide_cut l m k hkl hkm (by rw [← HX.out, ← HY.out]; exact he)))
          clear he
          go_wp2_with fail
          go_quiet (fail)
          have hbd : Below w.heap.size w (wr.drewN nq) := ⟨HB.out.os, HB.out.tape, HB.out.output, HB.out.size, HB.out.block⟩
          go_wp2_with fail
          go_ret
          exact ⟨ret_bool' HE.out.symm, hbd⟩
      · obtain rfl : k = n := by omega
        have HE := Lib.hid (show decide (l = m) = true from decide_eq_true (decide_all l m (by rw [HL.out, HM.out]) (fun j h1 h2 => HALL.out j h1 h2 (by rw [← HL.out]; exact h1))))
        go_wp2_with fail
        go_ret
        exact ⟨ret_bool' HE.out.symm, HB.out⟩
  · have d0 : ((n : Int) != (n' : Int)) = true := by rw [bne_iff_ne]; omega
    have HE := Lib.hid (show decide (l = m) = false from decide_eq_false (fun e => hnn (by rw [← HL.out, ← HM.out, e])))
    clear hnn
    go_enter Tryd.func54, Tryd.ntmps54
    go_wp2_with fail
    go_ret
    exact ⟨ret_bool' HE.out.symm, Below.refl _ _⟩
theorem two_boxes (w : World) (f g : Int) (A A' : Option Addr) (n n' c c' : Nat) : Below w.heap.size w ((w.alloc (.cells #[.int .i64 f, .slice A n c] 24)).alloc (.cells #[.int .i64 g, .slice A' n' c'] 24)) := ((Below.refl _ w).alloc (Nat.le_refl _) _).alloc (by simp) _
/-- The same program? -/
def sameP (f g : Int) (l m : List Ins) : Bool := decide (f = g) && decide (l = m)
set_option maxHeartbeats 1000000 in
theorem sameP_any (f g : Int) (A A' : Option Addr) (n n' c c' : Nat) (l m : List Ins) (w : World) (h1 : Codes w A n l) (h2 : Codes w A' n' m) (hn : n ≤ 9223372036854775807) (hn' : n' ≤ 9223372036854775807) :
    Calls Tryd.prog 27 #[.agg #[.int .i64 f, .slice A n c], .agg #[.int .i64 g, .slice A' n' c']] w fun e w' => e = .returned (.bool (sameP f g l m)) ∧ Below w.heap.size w w' := by
  have hb := two_boxes w f g A A' n n' c c'
  have HB := Lib.hid hb
  have HE := Lib.hid (equal_any A A' n n' c c' l m _ (h1.ext (stays_b hb)) (h2.ext (stays_b hb)) hn hn')
  clear h1 h2 hb
  by_cases hfg : f = g
  · subst hfg
    have d0 : (f == f) = true := by simp
    have HS := Lib.hid (show sameP f f l m = decide (l = m) by simp [sameP])
    go_enter Tryd.func27, Tryd.ntmps27
    go_wp2_with fail
    refine Calls.mono HE.out ?_
    rintro e w1 ⟨rfl, hb1⟩
    have HB1 := Lib.hid (HB.out.trans (hb1.mono HB.out.size))
    clear hb1
    go_wp2_with fail
    go_ret
    exact ⟨ret_bool' HS.out.symm, HB1.out⟩
  · have d0 : (f == g) = false := by rw [beq_eq_false_iff_ne]; exact hfg
    have HS := Lib.hid (show sameP f g l m = false by simp [sameP, hfg])
    clear hfg
    go_enter Tryd.func27, Tryd.ntmps27
    go_wp2_with fail
    go_ret
    exact ⟨ret_bool' HS.out.symm, HB.out⟩
set_option maxHeartbeats 400000 in
theorem large_any (f : Int) (A : Option Addr) (n c : Nat) (w : World) :
    Calls Tryd.prog 12 #[.agg #[.int .i64 f, .slice A n c]] w fun e w' => e = .returned (.bool (decide ((100 : Int) < (n : Int)))) ∧ Below w.heap.size w w' := by
  go_enter Tryd.func12, Tryd.ntmps12
  go_wp2_with fail
  go_ret
  exact ⟨rfl, (Below.refl _ w).alloc (Nat.le_refl _) _⟩
end Go.Proofs.YtkeckjgihjpfbaaDoor

/- The contracts of num.Programs, the law's copies, the document's Shape. -/
namespace Go.Proofs.YtkeckjgihjpfbaaDoor
set_option maxRecDepth 100000
open Go.RowKit

theorem two_cells (w : World) (f g : Int) (A A' : Option Addr) (n n' c c' : Nat) :
    ((w.alloc (.cells #[.int .i64 f, .slice A n c] 24)).alloc (.cells #[.int .i64 g, .slice A' n' c'] 24)).heap[w.heap.size]? = some (.cells #[.int .i64 f, .slice A n c] 24 (0, 0)) ∧
    ((w.alloc (.cells #[.int .i64 f, .slice A n c] 24)).alloc (.cells #[.int .i64 g, .slice A' n' c'] 24)).heap[w.heap.size + 1]? = some (.cells #[.int .i64 g, .slice A' n' c'] 24 (0, 0)) := by
  refine ⟨(heap_alloc_old _ _ (by simp)).trans (heap_alloc_new w _), ?_⟩
  have h := heap_alloc_new (w.alloc (.cells #[.int .i64 f, .slice A n c] 24)) (.cells #[.int .i64 g, .slice A' n' c'] 24)
  rw [World.size_alloc] at h
  exact h
set_option maxHeartbeats 4000000 in
theorem programs_any (f g : Int) (A A' : Option Addr) (n n' c c' : Nat) (l m : List Ins) (w : World) (h1 : Codes w A n l) (h2 : Codes w A' n' m) (hn : n ≤ 9223372036854775807) (hn' : n' ≤ 9223372036854775807) :
    Calls Tryd.prog 15 #[.agg #[.int .i64 f, .slice A n c], .agg #[.int .i64 g, .slice A' n' c']] w fun e w' => e = .returned (.bool (sameP f g l m)) ∧ Below w.heap.size w w' := by
  have hb := two_boxes w f g A A' n n' c c'
  obtain ⟨hx, hy⟩ := two_cells w f g A A' n n' c c'
  have HBX := Lib.hid hb
  have HXB := Lib.hid hx
  have HYB := Lib.hid hy
  have HL := Lib.hid h1.len
  have HM := Lib.hid h2.len
  have H1 := Lib.hid h1
  have H2 := Lib.hid h2
  clear h1 h2 hb hx hy
  by_cases hfg : f = g
  · subst hfg
    have d0 : (f != f) = false := by simp
    have HS := Lib.hid (show sameP f f l m = decide (l = m) by simp [sameP])
    by_cases hnn : n = n'
    · subst hnn
      have d1 : ((n : Int) != (n : Int)) = false := by simp
      go_enter Tryd.func15, Tryd.ntmps15
      go_wp2_with fail
      clear d0 d1
      go_loopw [23] (fun i wr => ∃ k : Nat, i = .int .i64 (k : Int) ∧ k ≤ n ∧ Below w.heap.size w wr ∧ wr.heap[w.heap.size]? = some (.cells #[.int .i64 f, .slice A n c] 24 (0, 0)) ∧ wr.heap[w.heap.size + 1]? = some (.cells #[.int .i64 f, .slice A' n c'] 24 (0, 0)) ∧ (∀ j (h1 : j < l.length) (h2 : j < m.length), j < k → l[j] = m[j])) (fun i _ => n - (intOf i).toNat)
      case atStart => exact ⟨0, rfl, by omega, HBX.out, HXB.out, HYB.out, fun j _ _ h => absurd h (by omega)⟩
      case round =>
        obtain ⟨k, rfl, hk, hb, hx, hy, hall⟩ := hrel
        have HB := Lib.hid hb
        have HALL := Lib.hid hall
        have HX2 := Lib.hid hx
        have HY2 := Lib.hid hy
        have r1 : wr.cell? ⟨w.heap.size, 1, none⟩ = some (.slice A n c) := cell_of_row wr _ 1 _ 24 (0, 0) hx
        have s1 : wr.cell? ⟨w.heap.size + 1, 1, none⟩ = some (.slice A' n c') := cell_of_row wr _ 1 _ 24 (0, 0) hy
        clear hb hall hx hy
        by_cases hlt : k < n
        · have hkl : k < l.length := by rw [HL.out]; exact hlt
          have hkm : k < m.length := by rw [HM.out]; exact hlt
          obtain ⟨b, off, rfl, hc⟩ := (H1.out.ext (stays_b HB.out)).cells (by omega)
          obtain ⟨b2, off2, rfl, hc2⟩ := (H2.out.ext (stays_b HB.out)).cells (by omega)
          obtain ⟨p0, p1, p2, p3, p4, p5⟩ := hc k hkl
          obtain ⟨q0, q1, q2, q3, q4, q5⟩ := hc2 k hkm
          obtain ⟨x, hx⟩ : ∃ x, x = l[k] := ⟨_, rfl⟩
          obtain ⟨y, hy⟩ : ∃ y, y = m[k] := ⟨_, rfl⟩
          rw [← hx] at p0 p1 p2 p3 p4 p5
          rw [← hy] at q0 q1 q2 q3 q4 q5
          have hne := fun W => neq_ins W x y
          unfold Ins.val at hne
          have HX := Lib.hid hx
          have HY := Lib.hid hy
          clear hc hc2 hx hy
          by_cases he : x = y
          · rw [decide_eq_true he] at hne
            have HE := Lib.hid he
            clear he
            go_wp2_with fail
            go_quiet (fail)
            have hbd : Below w.heap.size w (wr.drewN nq) := ⟨HB.out.os, HB.out.tape, HB.out.output, HB.out.size, HB.out.block⟩
            go_wp2_with fail
            go_roundw
            case rel => exact ⟨k + 1, by go_num, by omega, hbd, HX2.out, HY2.out, fun j h1 h2 hj => by
              rcases Nat.lt_or_ge j k with h | h
              · exact HALL.out j h1 h2 h
              · obtain rfl : j = k := by omega
                rw [← HX.out, ← HY.out]; exact HE.out⟩
            case measure => simp [intOf]; omega
          · rw [decide_eq_false he] at hne
            have HE := Lib.hid (show decide (l = m) = false from decide_eq_false (decide_cut l m k hkl hkm (by rw [← HX.out, ← HY.out]; exact he)))
            clear he
            go_wp2_with fail
            go_quiet (fail)
            have hbd : Below w.heap.size w (wr.drewN nq) := ⟨HB.out.os, HB.out.tape, HB.out.output, HB.out.size, HB.out.block⟩
            go_wp2_with fail
            go_ret
            exact ⟨ret_bool' (by rw [HS.out, HE.out]), hbd⟩
        · obtain rfl : k = n := by omega
          have HE := Lib.hid (show decide (l = m) = true from decide_eq_true (decide_all l m (by rw [HL.out, HM.out]) (fun j h1 h2 => HALL.out j h1 h2 (by rw [← HL.out]; exact h1))))
          go_wp2_with fail
          go_ret
          exact ⟨ret_bool' (by rw [HS.out, HE.out]), HB.out⟩
    · have d1 : ((n : Int) != (n' : Int)) = true := by rw [bne_iff_ne]; omega
      have HE := Lib.hid (show decide (l = m) = false from decide_eq_false (fun e => hnn (by rw [← HL.out, ← HM.out, e])))
      clear hnn
      go_enter Tryd.func15, Tryd.ntmps15
      go_wp2_with fail
      go_ret
      exact ⟨ret_bool' (by rw [HS.out, HE.out]), HBX.out⟩
  · have d0 : (f != g) = true := by rw [bne_iff_ne]; exact hfg
    have HS := Lib.hid (show sameP f g l m = false by simp [sameP, hfg])
    clear hfg
    go_enter Tryd.func15, Tryd.ntmps15
    go_wp2_with fail
    go_ret
    exact ⟨ret_bool' HS.out.symm, HBX.out⟩
/-- The copy's own memory. -/
def CopE (f : Int) (n : Nat) (l : List Ins) (w w' : World) (e : Ending) : Prop := ∃ A' c', e = .returned (.agg #[.int .i64 f, .slice A' n c']) ∧ Codes w' A' n l ∧ w'.ownsRow w.heap.size 43 6 (.slice A' n c') n (insV l) ∧ Below w.heap.size w w'
theorem results13 (w : World) (g : Nat) (f : Int) (A : Option Addr) (n c : Nat) (h : w.heap[g]? = some (.cells #[.int .i64 f, .slice A n c] 24 (0, 0))) (tmps : Array Value) (h2 : tmps.getD 2 undef = .pointer (some ⟨g, 0, none⟩)) :
    (results Tryd.f13 tmps).run Tryd.prog w = .ok (.agg #[.int .i64 f, .slice A n c]) w := by
  have h2' : tmps[2]?.getD undef = .pointer (some ⟨g, 0, none⟩) := by simpa using h2
  have c0 : w.cell? ⟨g, 0, none⟩ = some (.int .i64 f) := cell_of_row w g 0 _ 24 (0, 0) h
  have c1 : w.cell? ⟨g, 1, none⟩ = some (.slice A n c) := cell_of_row w g 1 _ 24 (0, 0) h
  have e : Tryd.f13.results = #[.cell 2 24] := Tryd.results13
  have hl : (loadVar 24 ⟨g, 0, none⟩).run Tryd.prog w = .ok (.agg #[.int .i64 f, .slice A n c]) w := by simp [go_sem, c0, c1]
  simp only [results, e]
  simp [asAddr, h2', hl]
def copW (w : World) (f : Int) (A : Option Addr) (n c : Nat) : World := (w.alloc (.cells #[.int .i64 f, .slice A n c] 24)).alloc (.cells #[.int .i64 0, .slice none 0 0] 24)
theorem copW_size (w : World) (f : Int) (A : Option Addr) (n c : Nat) : (copW w f A n c).heap.size = w.heap.size + 2 := by simp [copW]
theorem copW_below (w : World) (f : Int) (A : Option Addr) (n c : Nat) : Below w.heap.size w (copW w f A n c) := ((Below.refl _ w).alloc (Nat.le_refl _) _).alloc (by simp) _
theorem copW_at (w : World) (f : Int) (A : Option Addr) (n c : Nat) : (copW w f A n c).heap[w.heap.size]? = some (.cells #[.int .i64 f, .slice A n c] 24 (0, 0)) ∧ (copW w f A n c).heap[w.heap.size + 1]? = some (.cells #[.int .i64 0, .slice none 0 0] 24 (0, 0)) := by
  unfold copW
  refine ⟨(heap_alloc_old _ _ (by simp)).trans (heap_alloc_new w _), ?_⟩
  have h := heap_alloc_new (w.alloc (.cells #[.int .i64 f, .slice A n c] 24)) (.cells #[.int .i64 0, .slice none 0 0] 24)
  rw [World.size_alloc] at h
  exact h
theorem cop_facts {w W w3 : World} {f : Int} {A : Option Addr} {n c : Nat} (hsz : w.heap.size + 2 ≤ W.heap.size) (hx : W.heap[w.heap.size]? = some (.cells #[.int .i64 f, .slice A n c] 24 (0, 0))) (hy : W.heap[w.heap.size + 1]? = some (.cells #[.int .i64 0, .slice none 0 0] 24 (0, 0)))
    (hg : (W.alloc (.cells #[] 43)).grownBy w3 (Value.slice (some ⟨W.heap.size, 0, none⟩) 0 0).ownBlock) : w3.heap[w.heap.size]? = some (.cells #[.int .i64 f, .slice A n c] 24 (0, 0)) ∧ w3.heap[w.heap.size + 1]? = some (.cells #[.int .i64 0, .slice none 0 0] 24 (0, 0)) ∧
    w3.cell? ⟨w.heap.size, 0, none⟩ = some (.int .i64 f) ∧ w3.cell? ⟨w.heap.size, 1, none⟩ = some (.slice A n c) ∧ w3.cell? ⟨w.heap.size + 1, 0, none⟩ = some (.int .i64 0) ∧ w3.cell? ⟨w.heap.size + 1, 1, none⟩ = some (.slice none 0 0) ∧
    w3.frozen? ⟨w.heap.size, 1, none⟩ = false ∧ w3.frozen? ⟨w.heap.size + 1, 0, none⟩ = false ∧ w3.frozen? ⟨w.heap.size + 1, 1, none⟩ = false := by
  have y0 : w3.heap[w.heap.size]? = some (.cells #[.int .i64 f, .slice A n c] 24 (0, 0)) := (hg.block _ (by rw [World.size_alloc]; omega) (fun e => by have : w.heap.size = W.heap.size := Option.some.inj e; omega)).trans ((heap_alloc_old W _ (by omega)).trans hx)
  have y1 : w3.heap[w.heap.size + 1]? = some (.cells #[.int .i64 0, .slice none 0 0] 24 (0, 0)) := (hg.block _ (by rw [World.size_alloc]; omega) (fun e => by have : w.heap.size + 1 = W.heap.size := Option.some.inj e; omega)).trans ((heap_alloc_old W _ (by omega)).trans hy)
  exact ⟨y0, y1, cell_of_row w3 _ 0 _ 24 (0, 0) y0, cell_of_row w3 _ 1 _ 24 (0, 0) y0, cell_of_row w3 _ 0 _ 24 (0, 0) y1, cell_of_row w3 _ 1 _ 24 (0, 0) y1, by simp [World.frozen?, y0], by simp [World.frozen?, y1], by simp [World.frozen?, y1]⟩
/-- The cells of one's own row stand in a block of cells. -/
theorem own_cells {w : World} {B e size n : Nat} {v : Value} {xs : List Value} (h : w.ownsRow B e size v n xs) (b : Nat) (hb : v.ownBlock = some b) : B ≤ b ∧ b < w.heap.size ∧ ∃ cur, w.heap[b]? = some (.cells cur e (0, 0)) := by
  rcases h.2 with ⟨rfl, _⟩ | ⟨g, cap, cur, rfl, h1, h2, _⟩
  · cases hb
  · cases hb
    exact ⟨h1, (Array.getElem?_eq_some_iff.1 h2).1, cur, h2⟩
theorem own_keep {w w' : World} {B e size n : Nat} {v : Value} {xs : List Value} (h : w.ownsRow B e size v n xs) (hb : ∀ b cur, v.ownBlock = some b → w.heap[b]? = some (.cells cur e (0, 0)) → w'.heap[b]? = w.heap[b]?) : w'.ownsRow B e size v n xs := by
  refine ⟨h.1, ?_⟩
  rcases h.2 with h0 | ⟨g, cap, cur, rfl, h1, h2, h3⟩
  · exact .inl h0
  · exact .inr ⟨g, cap, cur, rfl, h1, (hb g cur rfl h2).trans h2, h3⟩
theorem cop_end {w W w3 : World} {f : Int} {A A3 : Option Addr} {n c k3 : Nat} {xs : List Value} (y0 : w3.heap[w.heap.size]? = some (.cells #[.int .i64 f, .slice A n c] 24 (0, 0))) (y1 : w3.heap[w.heap.size + 1]? = some (.cells #[.int .i64 0, .slice none 0 0] 24 (0, 0)))
    (ho : w3.ownsRow w.heap.size 43 6 (.slice A3 (0 + n) k3) (0 + n) ([] ++ xs)) (hg : (W.alloc (.cells #[] 43)).grownBy w3 (Value.slice (some ⟨W.heap.size, 0, none⟩) 0 0).ownBlock) (hb : Below w.heap.size w W) (hsz : w.heap.size + 2 ≤ W.heap.size) :
    (((w3.setCell ⟨w.heap.size, 1, none⟩ (.slice A3 n k3)).setCell ⟨w.heap.size + 1, 0, none⟩ (.int .i64 f)).setCell ⟨w.heap.size + 1, 1, none⟩ (.slice A3 n k3)).heap[w.heap.size + 1]? = some (.cells #[.int .i64 f, .slice A3 n k3] 24 (0, 0)) ∧
    (((w3.setCell ⟨w.heap.size, 1, none⟩ (.slice A3 n k3)).setCell ⟨w.heap.size + 1, 0, none⟩ (.int .i64 f)).setCell ⟨w.heap.size + 1, 1, none⟩ (.slice A3 n k3)).ownsRow w.heap.size 43 6 (.slice A3 n k3) n xs ∧
    Below w.heap.size w (((w3.setCell ⟨w.heap.size, 1, none⟩ (.slice A3 n k3)).setCell ⟨w.heap.size + 1, 0, none⟩ (.int .i64 f)).setCell ⟨w.heap.size + 1, 1, none⟩ (.slice A3 n k3)) := by
  rw [Nat.zero_add, List.nil_append] at ho
  refine ⟨?_, ?_, ?_⟩
  · simp [World.setCell, Array.getElem?_modify, y1]
  · refine own_keep ho fun b cur _ e => ?_
    have n0 : b ≠ w.heap.size := fun h => by subst h; rw [y0] at e; cases e
    have n1 : b ≠ w.heap.size + 1 := fun h => by subst h; rw [y1] at e; cases e
    exact (Deep.blk_setCell_other _ _ _ b n1).trans ((Deep.blk_setCell_other _ _ _ b n1).trans (Deep.blk_setCell_other _ _ _ b n0))
  · have h1 : Below w.heap.size w w3 := (hb.alloc hb.size _).grown hg (by rw [World.size_alloc]; omega) (fun q e => by have : W.heap.size = q := Option.some.inj e; omega)
    exact ((h1.setCell (by show w.heap.size ≤ w.heap.size; omega) _).setCell (by show w.heap.size ≤ w.heap.size + 1; omega) _).setCell (by show w.heap.size ≤ w.heap.size + 1; omega) _
set_option maxHeartbeats 2000000 in
theorem copies_any (f : Int) (A : Option Addr) (n c : Nat) (l : List Ins) (w : World) (h : Codes w A n l) (hnil : A = none → c = 0) (hn : n ≤ 1000000000) :
    Calls Tryd.prog 13 #[.agg #[.int .i64 f, .slice A n c]] w fun e w' => CopE f n l w w' e := by
  obtain ⟨hx, hy⟩ := copW_at w f A n c
  have hsz := copW_size w f A n c
  have HBX := Lib.hid (copW_below w f A n c)
  have HX := Lib.hid hx
  have HY := Lib.hid hy
  have HC := Lib.hid (h.ext (stays_b HBX.out))
  have HLN := Lib.hid h.len
  go_enter Tryd.func13, Tryd.ntmps13
  go_upto_region 1 with fail
  change Code.wp _ _ _ _ (copW w f A n c)
  obtain ⟨W, hW⟩ : ∃ W, W = copW w f A n c := ⟨_, rfl⟩
  rw [← hW] at hsz HBX HX HY HC ⊢
  have hsz2 := Nat.le_of_eq hsz.symm
  clear hsz
  have x0 : W.cell? ⟨w.heap.size, 0, none⟩ = some (.int .i64 f) := cell_of_row W _ 0 _ 24 (0, 0) HX.out
  have x1 : W.cell? ⟨w.heap.size, 1, none⟩ = some (.slice A n c) := cell_of_row W _ 1 _ 24 (0, 0) HX.out
  have hEx := World.cell?_alloc_lt W (.cells #[] 43) ⟨w.heap.size, 1, none⟩ (by show w.heap.size < _; omega)
  rw [x1] at hEx
  have HOE := Lib.hid (own_empty W w.heap.size 43 6 43 rfl (by omega))
  have HC2 := Lib.hid (HC.out.ext (stays_b ((Below.refl _ W).alloc (Nat.le_refl _) (.cells #[] 43))))
  clear hx hy h hW
  go_wp2_with (at_builtin; refine wpList_append_rowv elemC rfl (.tmp 3) (.tmp 5) rfl w.heap.size (.slice (some ⟨W.heap.size, 0, none⟩) 0 0) 0 [] rfl HOE.out A n c (insV l) rfl HC2.out.row (insV_one _) hnil (by unfold maxLen; omega) (by omega) (by rw [World.size_alloc]; omega) ?_; intro v3 w3 hown3 hg3 hb3; obtain ⟨A3, k3, rfl, hrd3, _, _⟩ := rdv_own hown3; obtain ⟨y0, y1, c0, c1, e0, e1, f0, f1, f2⟩ := cop_facts hsz2 HX.out HY.out hg3; have Y0 := Lib.hid y0; have Y1 := Lib.hid y1; have HO3 := Lib.hid hown3; have HG3 := Lib.hid hg3; clear hown3 hg3 hb3 hrd3 y0 y1)
  obtain ⟨z1, z2, z3⟩ := cop_end Y0.out Y1.out HO3.out HG3.out HBX.out hsz2
  exact bodyPost_ret (results13 _ _ f A3 n k3 z1 _ rfl) rfl ⟨A3, k3, rfl, ⟨HLN.out, by have h := z2; obtain ⟨_, _, e, hr, _, _⟩ := rdv_own h; injection e with e1 _ e2; subst e1 e2; exact hr⟩, z2, z3⟩
end Go.Proofs.YtkeckjgihjpfbaaDoor

/- The contract of prog.Decode. -/
namespace Go.Proofs.YtkeckjgihjpfbaaDoor
set_option maxRecDepth 100000
open Go.RowKit

def takeN : Nat → List Nat → Bool → List Ins × List Nat × Bool
  | 0, bs, bad => ([], bs, bad)
  | k + 1, bs, bad => ((takeN k bs bad).1 ++ [(takeI (takeN k bs bad).2.1 (takeN k bs bad).2.2).1], (takeI (takeN k bs bad).2.1 (takeN k bs bad).2.2).2)
theorem takeN_len (k : Nat) (bs : List Nat) (bad : Bool) : (takeN k bs bad).1.length = k := by
  induction k with
  | zero => rfl
  | succ k ih => simp [takeN, ih]
/-- What is read of bytes. -/
def readP (xs : List Nat) : Int × List Ins × List Nat × Bool := (wrapI (rcount xs).1, takeN (min (rcount (rcount xs).2.1).1 33) (rcount (rcount xs).2.1).2.1 (rcount (rcount xs).2.1).2.2)
def decOk (xs : List Nat) : Bool := decide ((readP xs).2.2.2 = false ∧ (readP xs).2.2.1 = []) && decide (chk (readP xs).1 (readP xs).2.1 = -2)
def DecE (xs : List Nat) (w w' : World) (e : Ending) : Prop :=
  (decOk xs = true ∧ ∃ A c, e = .returned (.tuple #[.agg #[.int .i64 (readP xs).1, .slice A (readP xs).2.1.length c], .nilIface]) ∧ Codes w' A (readP xs).2.1.length (readP xs).2.1 ∧ w'.ownsRow w.heap.size 43 6 (.slice A (readP xs).2.1.length c) (readP xs).2.1.length (insV (readP xs).2.1)) ∨
  (decOk xs = false ∧ e = .returned (.tuple #[.agg #[.int .i64 0, .slice none 0 0], .iface 36 (.int .i64 2)]))
theorem results19 (w : World) (g : Nat) (f : Int) (A : Option Addr) (n c : Nat) (v : Value) (h : w.heap[g]? = some (.cells #[.int .i64 f, .slice A n c] 24 (0, 0))) (tmps : Array Value) (h2 : tmps.getD 2 undef = .pointer (some ⟨g, 0, none⟩)) (h3 : tmps.getD 3 undef = v) :
    (results Tryd.f19 tmps).run Tryd.prog w = .ok (.tuple #[.agg #[.int .i64 f, .slice A n c], v]) w := by
  have h2' : tmps[2]?.getD undef = .pointer (some ⟨g, 0, none⟩) := by simpa using h2
  have h3' : tmps[3]?.getD undef = v := by simpa using h3
  have c0 : w.cell? ⟨g, 0, none⟩ = some (.int .i64 f) := cell_of_row w g 0 _ 24 (0, 0) h
  have c1 : w.cell? ⟨g, 1, none⟩ = some (.slice A n c) := cell_of_row w g 1 _ 24 (0, 0) h
  have e : Tryd.f19.results = #[.cell 2 24, .tmp 3] := Tryd.results19
  have hl : (loadVar 24 ⟨g, 0, none⟩).run Tryd.prog w = .ok (.agg #[.int .i64 f, .slice A n c]) w := by simp [go_sem, c0, c1]
  simp only [results, e]
  simp [asAddr, h2', hl, h3']
/-- What stands in Decode's round. -/
structure DI (w : World) (q hi : Nat) (wr : World) (B : Nat → Prop) (g : Nat) (f : Int) (v : Value) (s : List Ins × List Nat × Bool) : Prop where
  rdr : Rdr wr B (.pointer (some ⟨g, 0, none⟩)) s.2.1 s.2.2
  below : Below w.heap.size w wr
  out : wr.heap[w.heap.size]? = some (.cells #[.int .i64 0, .slice none 0 0] 24 (0, 0))
  cur : wr.heap[q]? = some (.cells #[.int .i64 f, v] 24 (0, 0))
  own : wr.ownsRow w.heap.size 43 6 v s.1.length (insV s.1)
  away : ∀ b, v.ownBlock = some b → hi ≤ b
  lo : w.heap.size + 1 ≤ q
  hiq : hi ≤ q
  lt : q + 1 ≤ wr.heap.size
theorem rdr_block {w : World} {B : Nat → Prop} {g : Nat} {bs : List Nat} {bad : Bool} (h : Rdr w B (.pointer (some ⟨g, 0, none⟩)) bs bad) : B g ∧ ∃ u, w.heap[g]? = some (.cells u 112 (0, 0)) := by
  generalize hv : (Value.pointer (some ⟨g, 0, none⟩)) = V at h
  cases h with
  | none => cases hv
  | some g' A n c bs bad low block row lies hbad small len =>
    injection hv with hv
    injection hv with hv
    injection hv with hv
    subst hv
    exact ⟨low, _, block⟩
theorem DI.step {w wr w2 : World} {q hi : Nat} {B : Nat → Prop} {g : Nat} {f : Int} {v : Value} {s : List Ins × List Nat × Bool} {bs : List Nat} {bad : Bool} (h : DI w q hi wr B g f v s) (hB : ∀ k, B k → w.heap.size < k ∧ k < hi) (hr : Rdr w2 B (.pointer (some ⟨g, 0, none⟩)) bs bad) (ho : Only wr w2 (.pointer (some ⟨g, 0, none⟩))) : DI w q hi w2 B g f v (s.1, bs, bad) := by
  obtain ⟨hg, u, hu⟩ := rdr_block h.rdr
  have hgb := hB g hg
  have keep : ∀ k, k < wr.heap.size → k ≠ g → w2.heap[k]? = wr.heap[k]? := fun k hk hne => ho.block k hk (fun e => by injection e with e; injection e with e; injection e with e; exact hne e.symm)
  refine ⟨hr, ⟨ho.os.trans h.below.os, ho.tape.trans h.below.tape, ho.output.trans h.below.output, Nat.le_trans h.below.size ho.size, fun k hk => (keep k (by have := h.below.size; omega) (by omega)).trans (h.below.block k hk)⟩, (keep _ (by have := h.lt; have := h.lo; omega) (by omega)).trans h.out, (keep _ (by have := h.lt; omega) (by have := h.hiq; omega)).trans h.cur, own_keep h.own fun b cur _ e => keep b (Array.getElem?_eq_some_iff.1 e).1 (fun e2 => by subst e2; rw [hu] at e; cases e), h.away, h.lo, h.hiq, Nat.le_trans h.lt ho.size⟩
theorem rdv_ins (w : World) (x : Ins) : Rdv (w.alloc (.cells #[.int .i64 x.op, .int .i64 x.a, .int .i64 x.b, .int .i64 x.c, .int .i64 x.t, .int .i64 x.n] 43)) (some ⟨w.heap.size, 0, none⟩) 1 6 (insV [x]) := by
  refine ⟨rfl, fun _ => ⟨_, _, rfl, fun j u hj => ?_⟩⟩
  rw [cell_of_row _ _ _ _ 43 (0, 0) (heap_alloc_new w _), Nat.zero_add]
  exact (show (#[Value.int .i64 x.op, .int .i64 x.a, .int .i64 x.b, .int .i64 x.c, .int .i64 x.t, .int .i64 x.n])[j]? = (insV [x])[j]? by simp [insV, Ins.vals]).trans hj
/-- The append, and the store behind it. -/
theorem DI.push {w wr w3 : World} {q hi : Nat} {B : Nat → Prop} {g : Nat} {f : Int} {v v' : Value} {s : List Ins × List Nat × Bool} {x : Ins} {o : Obj} (h : DI w q hi wr B g f v s) (hB : ∀ k, B k → w.heap.size < k ∧ k < hi) (hown : w3.ownsRow w.heap.size 43 6 v' (s.1.length + 1) (insV s.1 ++ insV [x]))
    (hg : (wr.alloc o).grownBy w3 v.ownBlock) (hv : v'.ownBlock = v.ownBlock ∨ v'.ownBlock = some (wr.alloc o).heap.size) :
    w3.heap[q]? = some (.cells #[.int .i64 f, v] 24 (0, 0)) ∧ DI w q hi (w3.setCell ⟨q, 1, none⟩ v') B g f v' (s.1 ++ [x], s.2) := by
  have hs := hg.size
  rw [World.size_alloc] at hs
  have vt : ∀ b cur t, wr.heap[b]? = some (.cells cur t (0, 0)) → t ≠ 43 → v.ownBlock ≠ some b := fun b cur t e ht e2 => by
    obtain ⟨_, _, c2, h2⟩ := own_cells h.own b e2
    rw [e] at h2
    injection h2 with h2
    injection h2 with _ h2
    exact ht h2
  have keep : ∀ b, b < wr.heap.size → v.ownBlock ≠ some b → w3.heap[b]? = wr.heap[b]? := fun b hb hne => (hg.block b (by rw [World.size_alloc]; omega) (fun e => hne e.symm)).trans (heap_alloc_old wr o hb)
  have lt := h.lt
  have lo := h.lo
  have hiq := h.hiq
  have hq : w3.heap[q]? = some (.cells #[.int .i64 f, v] 24 (0, 0)) := (keep q (by omega) (vt _ _ _ h.cur (by decide))).trans h.cur
  have hsz := h.below.size
  refine ⟨hq, ⟨?_, ?_, ?_, ?_, ?_, ?_, lo, hiq, by rw [World.size_setCell]; omega⟩⟩
  · refine Rdr.stays (h.rdr) (by rw [World.size_setCell]; omega) (fun k hk hBk => ?_)
    have := hB k hBk
    exact (Deep.blk_setCell_other w3 _ _ k (by show k ≠ q; omega)).trans (keep k hk (fun e => by have := h.away k e; omega))
  · have h1 : Below w.heap.size w (wr.alloc o) := h.below.alloc hsz o
    exact (h1.grown hg (by rw [World.size_alloc]; omega) (fun k e => (own_cells h.own k e).1)).setCell (by show w.heap.size ≤ q; omega) v'
  · exact (Deep.blk_setCell_other w3 _ _ _ (by show w.heap.size ≠ q; omega)).trans ((keep _ (by omega) (vt _ _ _ h.out (by decide))).trans h.out)
  · exact heap_at hq 1 v'
  · rw [List.length_append, insV_append]
    exact own_keep hown fun b cur _ e => Deep.blk_setCell_other w3 _ _ b (fun e2 => by have e3 : b = q := e2; subst e3; rw [hq] at e; cases e)
  · intro b e
    rcases hv with hv | hv
    · exact h.away b (hv ▸ e)
    · rw [hv, World.size_alloc] at e
      injection e with e
      omega
end Go.Proofs.YtkeckjgihjpfbaaDoor

/- The document's count, read from its last group, and the program's, read from its first one: the same. -/
namespace Go.Proofs.YtkeckjgihjpfbaaDoor
set_option maxRecDepth 100000
open Go.RowKit

def valH : List Nat → Nat
  | [] => 0
  | b :: t => b % 128 + 128 * valH t
theorem valH_cntN : ∀ (k m : Nat), m < k → m < 18446744073709551616 → valH (cntN m) = m
  | 0, m, h, _ => absurd h (by omega)
  | k + 1, m, h, h64 => by
    by_cases hm : m < 128
    · rw [cntN_small m hm]; simp only [valH]; omega
    · rw [cntN_big m (by omega) h64]
      simp only [valH]
      rw [valH_cntN k (m / 128) (by omega) (by omega)]
      omega
/-- A count's bytes: all but the last one are 128 or more. -/
theorem cntN_shape : ∀ (k m : Nat), m < k → m < 18446744073709551616 → ∃ p q, cntN m = p ++ [q] ∧ q < 128 ∧ ∀ x ∈ p, 128 ≤ x
  | 0, m, h, _ => absurd h (by omega)
  | k + 1, m, h, h64 => by
    by_cases hm : m < 128
    · exact ⟨[], m, by rw [cntN_small m hm]; rfl, hm, fun x hx => by cases hx⟩
    · obtain ⟨p, q, e, hq, hp⟩ := cntN_shape k (m / 128) (by omega) (by omega)
      refine ⟨(m % 128 + 128) :: p, q, by rw [cntN_big m (by omega) h64, e]; rfl, hq, fun x hx => ?_⟩
      rw [List.mem_cons] at hx
      rcases hx with rfl | hx
      · omega
      · exact hp x hx
theorem rcnt_ways (f : Nat) : ∀ (i n : Nat) (bs : List Nat), rcnt f i n bs = (0, [], true) ∨ ∃ x rest, rcnt f i n bs = (x, rest, false) := by
  induction f with
  | zero => intro i n bs; exact .inr ⟨n, bs, by cases bs <;> rfl⟩
  | succ f ih =>
    intro i n bs
    rcases bs with _ | ⟨b, t⟩
    · exact .inl rfl
    · simp only [rcnt]
      by_cases hC : (i = 9 ∧ 1 < b) ∨ (0 < i ∧ b = 0)
      · rw [if_pos hC]; exact .inl rfl
      · rw [if_neg hC]
        by_cases hb : b < 128
        · rw [if_pos hb]; exact .inr ⟨_, _, rfl⟩
        · rw [if_neg hb]; exact ih _ _ _
theorem rcnt_yes (f : Nat) : ∀ (i n x : Nat) (bs rest : List Nat), f + i = 10 → 0 < f → (∀ b ∈ bs, b < 256) → rcnt f i n bs = (x, rest, false) → ∃ m, bs = cntN m ++ rest ∧ (0 < i → 0 < m) ∧ m < 2 ^ (64 - 7 * i) := by
  induction f with
  | zero => intro i n x bs rest _ h; exact absurd h (by omega)
  | succ f ih =>
    intro i n x bs rest hi _ hs h
    rcases bs with _ | ⟨b, t⟩
    · simp [rcnt] at h
    · simp only [rcnt] at h
      have hb256 := hs b (List.mem_cons_self ..)
      by_cases hC : (i = 9 ∧ 1 < b) ∨ (0 < i ∧ b = 0)
      · rw [if_pos hC] at h; cases h
      · rw [if_neg hC] at h
        by_cases hb : b < 128
        · rw [if_pos hb] at h
          injection h with _ h
          injection h with h _
          refine ⟨b, by rw [cntN_small b hb, ← h]; rfl, fun h0 => by omega, ?_⟩
          rcases Nat.lt_or_ge i 9 with h9 | h9
          · calc b < 2 ^ 7 := by omega
              _ ≤ 2 ^ (64 - 7 * i) := Nat.pow_le_pow_right (by omega) (by omega)
          · obtain rfl : i = 9 := by omega
            have : ¬ 1 < b := fun h => hC (.inl ⟨rfl, h⟩)
            show b < 2 ^ 1
            omega
        · rw [if_neg hb] at h
          have h9 : i < 9 := by
            rcases Nat.lt_or_ge i 9 with h9 | h9
            · exact h9
            · exact absurd (.inl ⟨by omega, by omega⟩) hC
          obtain ⟨m, e, h0, hm⟩ := ih (i + 1) _ x t rest (by omega) (by omega) (fun y hy => hs y (List.mem_cons_of_mem _ hy)) h
          have h0' := h0 (by omega)
          have hpow : (2 : Nat) ^ (64 - 7 * i) = 2 ^ (64 - 7 * (i + 1)) * 128 := by
            rw [show 64 - 7 * i = (64 - 7 * (i + 1)) + 7 by omega, Nat.pow_add]
          have hM : m * 128 + b % 128 < 2 ^ (64 - 7 * i) := by
            rw [hpow]
            have : (m + 1) * 128 ≤ 2 ^ (64 - 7 * (i + 1)) * 128 := Nat.mul_le_mul hm (Nat.le_refl _)
            omega
          refine ⟨m * 128 + b % 128, ?_, fun _ => by omega, hM⟩
          have h64 : m * 128 + b % 128 < 18446744073709551616 := by
            have : (2 : Nat) ^ (64 - 7 * i) ≤ 2 ^ 64 := Nat.pow_le_pow_right (by omega) (by omega)
            exact Nat.lt_of_lt_of_le hM this
          rw [cntN_big _ (by omega) h64, show (m * 128 + b % 128) / 128 = m by omega, show (m * 128 + b % 128) % 128 + 128 = b by omega, e]
          rfl
theorem rcount_yes {bs rest : List Nat} {x : Nat} (hs : ∀ b ∈ bs, b < 256) (h : rcount bs = (x, rest, false)) : bs = cntN x ++ rest ∧ x < 18446744073709551616 := by
  obtain ⟨m, e, _, hm⟩ := rcnt_yes 10 0 0 x bs rest rfl (by omega) hs h
  have h2 := rcount_cntN m hm rest
  rw [← e, h] at h2
  obtain rfl := (Prod.mk.inj h2).1
  exact ⟨e, hm⟩
/-- Where there is no last group there is no count. -/
theorem rcount_no {bs : List Nat} {k : Nat} (hs : ∀ b ∈ bs, b < 256) (hk : ∀ j (h : j < bs.length), j < k → 128 ≤ bs[j]) (hend : bs.length ≤ k ∨ 10 ≤ k) : rcount bs = (0, [], true) := by
  rcases rcnt_ways 10 0 0 bs with h | ⟨x, rest, h⟩
  · exact h
  · obtain ⟨e, hx⟩ := rcount_yes hs h
    obtain ⟨p, q, e2, hq, _⟩ := cntN_shape (x + 1) x (by omega) hx
    have hl := (cntN_length x hx).2
    rw [e2] at e hl
    simp at hl
    have hlt : p.length < bs.length := by rw [e]; simp
    have h1 := hk p.length hlt (by omega)
    have h2 : bs[p.length] = q := by
      have : bs[p.length]? = some q := by rw [e]; simp
      rw [List.getElem?_eq_getElem hlt] at this
      injection this
    omega
/-- Where the last group is the k-th one, the count is what is written so again. -/
theorem rcount_at {bs : List Nat} {k : Nat} (hs : ∀ b ∈ bs, b < 256) (hlt : k < bs.length) (hk : ∀ j (h : j < bs.length), j < k → 128 ≤ bs[j]) (hq : bs[k] < 128) (u : Nat) (hu : u = valH (bs.take (k + 1)) % 18446744073709551616) :
    rcount bs = if cntN u = bs.take (k + 1) then (u, bs.drop (k + 1), false) else (0, [], true) := by
  have hu64 : u < 18446744073709551616 := by omega
  by_cases he : cntN u = bs.take (k + 1)
  · rw [if_pos he]
    have := rcount_cntN u hu64 (bs.drop (k + 1))
    rw [he, List.take_append_drop] at this
    exact this
  · rw [if_neg he]
    rcases rcnt_ways 10 0 0 bs with h | ⟨x, rest, h⟩
    · exact h
    · obtain ⟨e, hx⟩ := rcount_yes hs h
      obtain ⟨p, q, e2, hq2, hp⟩ := cntN_shape (x + 1) x (by omega) hx
      have hpl : p.length < bs.length := by rw [e, e2]; simp
      have hbp : bs[p.length] = q := by
        have : bs[p.length]? = some q := by rw [e, e2]; simp
        rw [List.getElem?_eq_getElem hpl] at this
        injection this
      have hpk : p.length = k := by
        rcases Nat.lt_trichotomy p.length k with h1 | h1 | h1
        · have := hk p.length hpl h1; omega
        · exact h1
        · have hb : bs[k] = p[k] := by
            have : bs[k]? = some p[k] := by rw [e, e2, List.append_assoc, List.getElem?_append_left h1, List.getElem?_eq_getElem h1]
            rw [List.getElem?_eq_getElem hlt] at this
            injection this
          have := hp p[k] (List.getElem_mem h1)
          omega
      have ht : bs.take (k + 1) = cntN x := by
        have hl : (cntN x).length = k + 1 := by rw [e2]; simp [hpk]
        rw [e, ← hl, List.take_left]
      rw [ht, valH_cntN (x + 1) x (by omega) hx] at hu
      exact absurd (by rw [ht, hu, Nat.mod_eq_of_lt hx]) he
theorem valH_step (l : List Nat) (j : Nat) (h : j < l.length) : valH (l.drop j) = l[j] % 128 + 128 * valH (l.drop (j + 1)) := by
  rw [List.drop_eq_getElem_cons h]
  rfl
end Go.Proofs.YtkeckjgihjpfbaaDoor

/- What is written is read back, and what is read was written: instructions and programs. -/
namespace Go.Proofs.YtkeckjgihjpfbaaDoor
set_option maxRecDepth 100000
open Go.RowKit

/-- As stepL, the counts turned to numbers by cv. -/
def stepG (cv : Nat → Int) (s : Ins × List Nat × Bool) (l : Nat) : Ins × List Nat × Bool := (s.1.set (offL l) (if l = 110 then unfoldN (rcount s.2.1).1 else cv (rcount s.2.1).1), (rcount s.2.1).2.1, (rcount s.2.1).2.2)
def takeG (cv : Nat → Int) (bs : List Nat) (bad : Bool) : Ins × List Nat × Bool := (shapeL (byteT bs : Int)).foldl (stepG cv) (startI bs bad)
theorem takeG_wrap (bs : List Nat) (bad : Bool) : takeG wrapI bs bad = takeI bs bad := rfl
theorem get_set (x : Ins) (k : Nat) (v : Int) (hk : 1 ≤ k ∧ k ≤ 5) : (x.set k v).get k = v := by
  have : k = 1 ∨ k = 2 ∨ k = 3 ∨ k = 4 ∨ k = 5 := by omega
  rcases this with rfl | rfl | rfl | rfl | rfl <;> rfl
theorem get_set_ne (x : Ins) (k j : Nat) (v : Int) (hk : 1 ≤ k ∧ k ≤ 5) (hj : 1 ≤ j ∧ j ≤ 5) (h : j ≠ k) : (x.set k v).get j = x.get j := by
  have h1 : k = 1 ∨ k = 2 ∨ k = 3 ∨ k = 4 ∨ k = 5 := by omega
  have h2 : j = 1 ∨ j = 2 ∨ j = 3 ∨ j = 4 ∨ j = 5 := by omega
  rcases h1 with rfl | rfl | rfl | rfl | rfl <;> rcases h2 with rfl | rfl | rfl | rfl | rfl <;> first | rfl | exact absurd rfl h
theorem set_op (x : Ins) (k : Nat) (v : Int) : (x.set k v).op = x.op := by unfold Ins.set; split; rfl; split; rfl; split; rfl; split; rfl; rfl
/-- What each letter's bytes are read as. -/
theorem step_back {cv : Nat → Int} (hcv : ∀ n, n ≤ 100000 → cv n = (n : Int)) {x : Ins} (l : Nat) (hl : l ≠ 110 → 0 ≤ x.get (offL l) ∧ x.get (offL l) ≤ 100000) (hn : Fits x.n) (u : Ins) (rest : List Nat) (b : Bool) :
    stepG cv (u, encL x l ++ rest, b) l = (u.set (offL l) (x.get (offL l)), rest, false) := by
  unfold stepG encL
  by_cases h : l = 110
  · subst h
    rw [if_pos rfl, if_pos rfl, rcount_cntN _ (foldN_lt hn), unfold_fold hn]
    rfl
  · rw [if_neg h, if_neg h]
    have h1 := hl h
    rw [rcount_cntN _ (by omega)]
    show (u.set (offL l) (cv (x.get (offL l)).toNat), rest, false) = _
    rw [hcv _ (by omega), Int.toNat_of_nonneg h1.1]
theorem fold_back {cv : Nat → Int} (hcv : ∀ n, n ≤ 100000 → cv n = (n : Int)) {x : Ins} (hn : Fits x.n) : ∀ (ls : List Nat) (_ : ∀ l ∈ ls, l ≠ 110 → 0 ≤ x.get (offL l) ∧ x.get (offL l) ≤ 100000) (u : Ins) (rest : List Nat),
    ls.foldl (stepG cv) (u, encLs x ls ++ rest, false) = (ls.foldl (fun u l => u.set (offL l) (x.get (offL l))) u, rest, false)
  | [], _, _, _ => rfl
  | l :: ls, h, u, rest => by
    rw [List.foldl_cons, show encLs x (l :: ls) = encL x l ++ encLs x ls from rfl, List.append_assoc, step_back hcv l (h l (List.mem_cons_self ..)) hn]
    exact fold_back hcv hn ls (fun q hq => h q (List.mem_cons_of_mem _ hq)) _ rest
/-- Small: what a good instruction's fields are. -/
structure Ins.Small (x : Ins) : Prop where
  op : 0 ≤ x.op ∧ x.op < 16
  flds : ∀ l ∈ shapeL x.op, l ≠ 110 → 0 ≤ x.get (offL l) ∧ x.get (offL l) ≤ 100000
  used : usedL x (shapeL x.op) = x
  n : Fits x.n
theorem hiL_le' (l : Nat) (z : Int) (h : z ≤ 100000) : hiL l z ≤ 100000 := by
  unfold hiL
  split
  · decide
  split
  · decide
  split
  · exact h
  · decide
theorem small_of_good {x : Ins} {z : Int} (h : goodI x z = true) (hz : z ≤ 100000) (hn : Fits x.n) : x.Small := by
  unfold goodI at h
  simp only [Bool.and_eq_true, List.all_eq_true, decide_eq_true_iff] at h
  obtain ⟨h1, h2, h4⟩ := h
  refine ⟨of_decide_eq_true h1, fun l hl h110 => ?_, h4, hn⟩
  have h3 := h2 l hl
  unfold inB at h3
  rw [decide_eq_false h110, Bool.false_or, decide_eq_true_iff] at h3
  have := loL_ge l
  have := hiL_le' l z hz
  omega
theorem Ins.Small.enc {x : Ins} (h : x.Small) : x.Enc := ⟨h.op, fun l hl h1 => by have := h.flds l hl h1; omega, h.n⟩
theorem take_back {cv : Nat → Int} (hcv : ∀ n, n ≤ 100000 → cv n = (n : Int)) {x : Ins} (h : x.Small) (rest : List Nat) : takeG cv (encI x ++ rest) false = (x, rest, false) := by
  have hop := h.op
  have e1 : byteT (encI x ++ rest) = x.op.toNat := rfl
  have e2 : ((x.op.toNat : Nat) : Int) = x.op := Int.toNat_of_nonneg hop.1
  unfold takeG startI
  rw [e1, e2]
  have e3 : (encI x ++ rest).drop 1 = encLs x (shapeL x.op) ++ rest := rfl
  have e4 : (false || decide ((encI x ++ rest).length = 0)) = false := by simp [encI]
  rw [e3, e4, fold_back hcv h.n _ h.flds]
  rw [show (shapeL x.op).foldl (fun u l => u.set (offL l) (x.get (offL l))) { Ins.zero with op := x.op } = usedL x (shapeL x.op) from rfl, h.used]
def takeGN (cv : Nat → Int) : Nat → List Nat → Bool → List Ins × List Nat × Bool
  | 0, bs, bad => ([], bs, bad)
  | k + 1, bs, bad => ((takeGN cv k bs bad).1 ++ [(takeG cv (takeGN cv k bs bad).2.1 (takeGN cv k bs bad).2.2).1], (takeG cv (takeGN cv k bs bad).2.1 (takeGN cv k bs bad).2.2).2)
theorem takeGN_wrap (k : Nat) (bs : List Nat) (bad : Bool) : takeGN wrapI k bs bad = takeN k bs bad := by
  induction k with
  | zero => rfl
  | succ k ih => rw [takeGN, takeN, ih]; rfl
theorem takes_back {cv : Nat → Int} (hcv : ∀ n, n ≤ 100000 → cv n = (n : Int)) (l : List Ins) (h : ∀ x ∈ l, x.Small) (rest : List Nat) : ∀ k, k ≤ l.length → takeGN cv k (encIs l ++ rest) false = (l.take k, encIs (l.drop k) ++ rest, false)
  | 0, _ => by rw [takeGN, List.take_zero, List.drop_zero]
  | k + 1, hk => by
    rw [takeGN, takes_back hcv l h rest k (by omega)]
    have hkl : k < l.length := by omega
    have e : encIs (l.drop k) ++ rest = encI l[k] ++ (encIs (l.drop (k + 1)) ++ rest) := by
      rw [List.drop_eq_getElem_cons hkl, ← List.append_assoc]
      rfl
    simp only [e]
    rw [take_back hcv (h _ (List.getElem_mem hkl)), List.take_succ_eq_append_getElem hkl]
theorem good_small {f : Int} {l : List Ins} (h : chk f l = -2) (hn : ∀ x ∈ l, Fits x.n) : ∀ x ∈ l, x.Small := by
  obtain ⟨hh, hall⟩ := chk_good h
  intro x hx
  obtain ⟨k, hk, rfl⟩ := List.getElem_of_mem hx
  have h1 := hall k hk
  unfold goodAt at h1
  rw [List.getD_eq_getElem?_getD, List.getElem?_eq_getElem hk] at h1
  exact small_of_good h1 (by omega) (hn _ hx)
theorem wrapI_cv : ∀ n, n ≤ 100000 → wrapI n = (n : Int) := fun n h => wrapI_small n (by omega)
/-- A good program's bytes are read back. -/
theorem read_back {f : Int} {l : List Ins} (h : chk f l = -2) (hn : ∀ x ∈ l, Fits x.n) : readP (encP f.toNat l) = (f, l, [], false) := by
  obtain ⟨hh, _⟩ := chk_good h
  unfold readP encP
  rw [List.append_assoc, rcount_cntN _ (by omega)]
  simp only []
  rw [rcount_cntN _ (by omega)]
  simp only []
  rw [Nat.min_eq_left (by omega : l.length ≤ 33), ← takeGN_wrap]
  have := takes_back wrapI_cv l (good_small h hn) [] l.length (Nat.le_refl _)
  rw [List.append_nil, List.take_length, List.drop_length] at this
  rw [this, wrapI_cv _ (by omega), Int.toNat_of_nonneg (by omega)]
  rfl
theorem dec_back {f : Int} {l : List Ins} (h : chk f l = -2) (hn : ∀ x ∈ l, Fits x.n) : decOk (encP f.toNat l) = true := by
  unfold decOk
  rw [read_back h hn]
  simp [h]
end Go.Proofs.YtkeckjgihjpfbaaDoor

/- The contract of the document's Encode. -/
namespace Go.Proofs.YtkeckjgihjpfbaaDoor
set_option maxRecDepth 100000
open Go.RowKit
attribute [local go_sem ↓] Go.wp_at_zero Go.wp_at_succ

/-- What stands while the document's bytes are written: the program's box, and the row. -/
structure EI (w : World) (f : Int) (A : Option Addr) (n c : Nat) (wr : World) (v : Value) (bs : List Nat) : Prop where
  below : Below w.heap.size w wr
  box : wr.heap[w.heap.size]? = some (.cells #[.int .i64 f, .slice A n c] 24 (0, 0))
  own : OwnB wr w.heap.size v bs
theorem own_ne {w : World} {B b n : Nat} {v : Value} {xs : List Value} {cs : Array Value} {t e : TypeId} {f0 : Nat × Nat} (h : w.ownsRow B e 1 v n xs) (hb : w.heap[b]? = some (.cells cs t f0)) (ht : t ≠ e) : v.ownBlock ≠ some b := fun e2 => by
  obtain ⟨_, _, cur, h2⟩ := own_cells h b e2
  rw [hb] at h2
  injection h2 with h2
  injection h2 with _ h2
  exact ht h2
theorem EI.later {w wr w2 : World} {f : Int} {A : Option Addr} {n c : Nat} {v : Value} {bs : List Nat} (h : EI w f A n c wr v bs) (hb : Below wr.heap.size wr w2) : EI w f A n c w2 v bs :=
  ⟨h.below.trans (hb.mono h.below.size), (hb.block _ (Array.getElem?_eq_some_iff.1 h.box).1).trans h.box, own_keep h.own fun b _ _ e => hb.block b (Array.getElem?_eq_some_iff.1 e).1⟩
theorem EI.app {w wr w2 : World} {f : Int} {A : Option Addr} {n c m : Nat} {v v' : Value} {bs ys : List Nat} (h : EI w f A n c wr v bs) (ho : w2.ownsRow w.heap.size 5 1 v' (bs.length + m) (valsB bs ++ valsB ys)) (hm : ys.length = m) (hg : wr.grownBy w2 v.ownBlock) : EI w f A n c w2 v' (bs ++ ys) := by
  have hlt := (Array.getElem?_eq_some_iff.1 h.box).1
  refine ⟨h.below.grown hg h.below.size (fun q e => (own_cells h.own q e).1), (hg.block _ hlt (fun e => own_ne h.own h.box (by decide) e.symm)).trans h.box, ?_⟩
  rw [← valsB_append] at ho
  exact ownB_of ho (by rw [List.length_append, hm])
/-- With the instruction's copy besides. -/
structure EJ (w : World) (f : Int) (A : Option Addr) (n c : Nat) (q : Nat) (x : Ins) (wr : World) (v : Value) (bs : List Nat) : Prop where
  ei : EI w f A n c wr v bs
  cur : wr.heap[q]? = some (.cells x.vals.toArray 43 (0, 0))
theorem EJ.later {w wr w2 : World} {f : Int} {A : Option Addr} {n c q : Nat} {x : Ins} {v : Value} {bs : List Nat} (h : EJ w f A n c q x wr v bs) (hb : Below wr.heap.size wr w2) : EJ w f A n c q x w2 v bs :=
  ⟨h.ei.later hb, (hb.block _ (Array.getElem?_eq_some_iff.1 h.cur).1).trans h.cur⟩
theorem EJ.app {w wr w2 : World} {f : Int} {A : Option Addr} {n c q m : Nat} {x : Ins} {v v' : Value} {bs ys : List Nat} (h : EJ w f A n c q x wr v bs) (ho : w2.ownsRow w.heap.size 5 1 v' (bs.length + m) (valsB bs ++ valsB ys)) (hm : ys.length = m) (hg : wr.grownBy w2 v.ownBlock) : EJ w f A n c q x w2 v' (bs ++ ys) :=
  ⟨h.ei.app ho hm hg, (hg.block _ (Array.getElem?_eq_some_iff.1 h.cur).1 (fun e => own_ne h.ei.own h.cur (by decide) e.symm)).trans h.cur⟩
theorem ownB_rdv {w : World} {B : Nat} {v : Value} {xs : List Nat} (h : OwnB w B v xs) : ∃ A c, v = .slice A xs.length c ∧ Rdv w A xs.length 1 (valsB xs) ∧ (A = none → c = 0) := by
  obtain ⟨A, c, e, h1, h2, _⟩ := OwnB.rdv h
  exact ⟨A, c, e, h1, h2⟩
theorem OwnB.later {w w2 : World} {B : Nat} {v : Value} {xs : List Nat} (h : OwnB w B v xs) (hb : Below w.heap.size w w2) : OwnB w2 B v xs := own_keep h fun b _ _ e => hb.block b (Array.getElem?_eq_some_iff.1 e).1
theorem ownB_base {w : World} {B B' : Nat} {v : Value} {xs : List Nat} (h : OwnB w B v xs) (hB : B' ≤ B) : OwnB w B' v xs := by
  refine ⟨h.1, ?_⟩
  rcases h.2 with h0 | ⟨g, cap, cur, e, h1, h2⟩
  · exact .inl h0
  · exact .inr ⟨g, cap, cur, e, by omega, h2⟩
theorem rdv_b1 (w : World) (x : Nat) : Rdv (w.alloc (.cells #[.int .u8 (x : Int)] 5)) (some ⟨w.heap.size, 0, none⟩) 1 1 (valsB [x]) := rdv_one w x
set_option maxHeartbeats 16000000 in
theorem refenc_any (fn : Nat) (A : Option Addr) (n c : Nat) (l : List Ins) (w : World) (hC : Codes w A n l) (hsm : ∀ x ∈ l, x.Small) (hf : fn ≤ 1000) (hn : n ≤ 32) :
    Calls Tryd.prog 21 #[.agg #[.int .i64 (fn : Int), .slice A n c]] w fun e w' => ∃ v, e = .returned v ∧ OwnB w' w.heap.size v (encP fn l) ∧ Below w.heap.size w w' := by
  have hb1 := (Below.refl w.heap.size w).alloc (Nat.le_refl _) (.cells #[.int .i64 (fn : Int), .slice A n c] 24)
  have HB1 := Lib.hid hb1
  have HN1 := Lib.hid (one_new w (.cells #[.int .i64 (fn : Int), .slice A n c] 24))
  have HC := Lib.hid hC
  have HL := Lib.hid hC.len
  have HSM := Lib.hid hsm
  have HES := Lib.hid (fun k => (encIs_len (l.take k) (fun x hx => (hsm x (List.mem_of_mem_take hx)).enc) : (encIs (l.take k)).length ≤ (l.take k).length * 51))
  have HC1 := Lib.hid (refCount_any fn (by omega) (w.alloc (.cells #[.int .i64 (fn : Int), .slice A n c] 24)))
  have ef : IntKind.u64.wrap (fn : Int) = ((fn : Nat) : Int) := by rw [IntKind.wrap_u64]; omega
  have en : IntKind.u64.wrap (n : Int) = ((n : Nat) : Int) := by rw [IntKind.wrap_u64]; omega
  have hlf := cntN_len fn (by omega)
  have hln := cntN_len n (by omega)
  clear hb1 hC hsm
  go_enter Tryd.func21, Tryd.ntmps21
  go_wp2_with fail
  refine Calls.mono HC1.out ?_
  rintro e w1 ⟨v1, rfl, ho1, hb1⟩
  have hei1 : EI w (fn : Int) A n c w1 v1 (cntN fn) := ⟨HB1.out.trans (hb1.mono HB1.out.size), (hb1.block _ (by rw [World.size_alloc]; omega)).trans HN1.out, ownB_base ho1 (by rw [World.size_alloc]; omega)⟩
  have HEI1 := Lib.hid hei1
  have g1 : w1.cell? ⟨w.heap.size, 1, none⟩ = some (.slice A n c) := cell_of_row w1 _ 1 _ 24 (0, 0) hei1.box
  have HC2 := Lib.hid (refCount_any n (by omega) w1)
  clear ho1 hb1 hei1
  go_wp2_with fail
  refine Calls.mono HC2.out ?_
  rintro e w2 ⟨v2, rfl, ho2, hb2⟩
  have hei2 := HEI1.out.later hb2
  have HEI2 := Lib.hid hei2
  obtain ⟨A1, c1, rfl, _, _⟩ := ownB_rdv hei2.own
  obtain ⟨A2, c2, rfl, hr2, hnil2⟩ := ownB_rdv ho2
  have HR2 := Lib.hid hr2
  have hs2 := hei2.below.size
  have g1' : w2.cell? ⟨w.heap.size, 1, none⟩ = some (.slice A n c) := cell_of_row w2 _ 1 _ 24 (0, 0) hei2.box
  clear ho2 hb2 hei2 hr2
  go_wp2_with (at_builtin; refine wpList_append_rowv elemB rfl (.tmp 12) (.tmp 17) rfl w.heap.size _ (cntN fn).length (valsB (cntN fn)) rfl HEI2.out.own A2 (cntN n).length c2 (valsB (cntN n)) rfl HR2.out (valsB_one _) hnil2 (by unfold maxLen; omega) (by omega) hs2 ?_; intro v3 w3 hown3 hg3 hb3; have HEI3 := Lib.hid (HEI2.out.app hown3 rfl hg3); clear hown3 hg3 hb3)
  clear g1 g1'
  go_loopw [4, 3] (fun i v wr => ∃ k : Nat, i = .int .i64 (k : Int) ∧ k ≤ n ∧ EI w (fn : Int) A n c wr v (cntN fn ++ cntN n ++ encIs (l.take k))) (fun i _ _ => n - (intOf i).toNat)
  case atStart => exact ⟨0, rfl, by omega, by rw [show encIs (l.take 0) = [] from rfl, List.append_nil]; exact HEI3.out⟩
  case round =>
    obtain ⟨k, rfl, hk, hei⟩ := hrel
    have HEI := Lib.hid hei
    have hll := HES.out k
    rw [List.length_take] at hll
    have gr : wr.cell? ⟨w.heap.size, 1, none⟩ = some (.slice A n c) := cell_of_row wr _ 1 _ 24 (0, 0) hei.box
    have hsr := hei.below.size
    have HBR := Lib.hid hei.below
    obtain ⟨pre, hpre⟩ : ∃ p, p = cntN fn ++ cntN n ++ encIs (l.take k) := ⟨_, rfl⟩
    have HPRE := Lib.hid hpre
    have hlp : pre.length ≤ 2000 := by rw [hpre, List.length_append, List.length_append]; omega
    rw [← hpre] at HEI
    clear hei hpre
    by_cases hlt : k < n
    · have hkl : k < l.length := by rw [HL.out]; exact hlt
      obtain ⟨b, off, rfl, hc⟩ := (HC.out.ext (stays_b HBR.out)).cells (by omega)
      obtain ⟨c0, c1', c2', c3, c4, c5⟩ := hc k hkl
      have HTK := Lib.hid (encIs_take l k hkl)
      have hxs := HSM.out _ (List.getElem_mem hkl)
      obtain ⟨x, hx⟩ : ∃ x, x = l[k] := ⟨_, rfl⟩
      rw [← hx] at c0 c1' c2' c3 c4 c5 HTK hxs
      have HXS := Lib.hid hxs
      obtain ⟨op, hop⟩ := Int.eq_ofNat_of_zero_le hxs.op.1
      have hop16 : op < 16 := by have := hxs.op.2; omega
      have e8 : IntKind.u8.wrap x.op = ((op : Nat) : Int) := by rw [hop, IntKind.wrap_u8]; omega
      have HENC := Lib.hid (show encI x = [op] ++ encLs x (shapeL x.op) by unfold encI; rw [hop, Int.toNat_natCast]; rfl)
      obtain ⟨Av, cv, rfl, hrv, hnv⟩ := ownB_rdv HEI.out.own
      have hej : EJ w (fn : Int) (some ⟨b, off, none⟩) n c wr.heap.size x ((wr.alloc (.cells #[.int .i64 x.op, .int .i64 x.a, .int .i64 x.b, .int .i64 x.c, .int .i64 x.t, .int .i64 x.n] 43)).alloc (.cells #[.int .u8 (op : Int)] 5)) (.slice Av pre.length cv) pre :=
        ⟨HEI.out.later (((Below.refl _ wr).alloc (Nat.le_refl _) _).alloc (by simp) _), (heap_alloc_old _ _ (by simp)).trans (heap_alloc_new wr _)⟩
      have HEJ := Lib.hid hej
      have HRB := Lib.hid (rdv_b1 (wr.alloc (.cells #[.int .i64 x.op, .int .i64 x.a, .int .i64 x.b, .int .i64 x.c, .int .i64 x.t, .int .i64 x.n] 43)) op)
      rw [World.size_alloc] at HRB
      clear hc hx hxs hop hrv hej
      go_wp2_with (at_builtin; refine wpList_append_rowv elemB rfl (.tmp 31) (.tmp 35) rfl w.heap.size _ pre.length (valsB pre) rfl HEJ.out.ei.own (some ⟨wr.heap.size + 1, 0, none⟩) 1 1 (valsB [op]) rfl HRB.out (valsB_one _) (fun h => by cases h) (by unfold maxLen; omega) (by omega) (by rw [World.size_alloc, World.size_alloc]; omega) ?_; intro v5 w5 hown5 hg5 hb5; have hej5 := HEJ.out.app hown5 rfl hg5; have HEJ5 := Lib.hid hej5; have q0 : w5.cell? ⟨wr.heap.size, 0, none⟩ = some (.int .i64 x.op) := cell_of_row w5 _ 0 _ 43 (0, 0) hej5.cur; clear hown5 hg5 hb5 hej5)
      obtain ⟨ls, hls⟩ : ∃ ls, ls = shapeL x.op := ⟨_, rfl⟩
      have HSML := Lib.hid (show ∀ y ∈ ls, y < 256 by rw [hls]; exact shapeL_small _)
      have hlen : ls.length ≤ 5 := by rw [hls]; exact shapeL_len _
      have HFL := Lib.hid (show ∀ q ∈ ls, q ≠ 110 → 0 ≤ x.get (offL q) ∧ x.get (offL q) ≤ 100000 by rw [hls]; exact HXS.out.flds)
      have HLE := Lib.hid (fun j => (encLs_len HXS.out.enc (ls.take j) (fun q hq => by rw [← hls]; exact List.mem_of_mem_take hq) : (encLs x (ls.take j)).length ≤ (ls.take j).length * 10))
      have HSH := Lib.hid (refshape_any x.op w5)
      obtain ⟨s, hs⟩ : ∃ s, s = strN ls := ⟨_, rfl⟩
      obtain ⟨m, hm⟩ : ∃ m, m = ls.length := ⟨_, rfl⟩
      have hsz : s.size = m := by rw [hs, strN_size, hm]
      have HIX := Lib.hid (fun k (hk : k < ls.length) w => (by rw [hs]; exact idx_str ls HSML.out k hk w : (Instr.index 9 (.string s) (.int .i64 (k : Int))).run Tryd.prog w = .ok (.int .u8 ((ls[k] : Nat) : Int)) w))
      rw [← hls, ← hs] at HSH
      rw [← hls] at HENC
      have HM := Lib.hid hm
      rw [← hm] at hlen
      clear hls hs hm c0 c1' c2' c3 c4 c5 gr e8
      refine Calls.mono HSH.out ?_
      rintro e w6 ⟨rfl, rfl⟩
      go_wp2_with fail
      clear q0
      obtain ⟨wo, hwo⟩ : ∃ wo : Nat, wo = wr.heap.size := ⟨_, rfl⟩
      rw [← hwo] at HEJ5 ⊢
      have HWO := Lib.hid hwo
      clear hwo
      rename World => wouter
      go_loopw [7, 3] (fun i v wr => ∃ j : Nat, i = .int .i64 (j : Int) ∧ j ≤ m ∧ EJ w (fn : Int) (some ⟨b, off, none⟩) n c wo x wr v (pre ++ [op] ++ encLs x (ls.take j))) (fun i _ _ => m - (intOf i).toNat)
      case atStart => exact ⟨0, rfl, by omega, by rw [show encLs x (ls.take 0) = [] from rfl, List.append_nil]; exact HEJ5.out⟩
      case round =>
        obtain ⟨j, rfl, hj, hej⟩ := hrel
        have HEJ6 := Lib.hid hej
        have hlj := HLE.out j
        rw [List.length_take] at hlj
        obtain ⟨pr, hpr⟩ : ∃ p, p = pre ++ [op] ++ encLs x (ls.take j) := ⟨_, rfl⟩
        have HPR := Lib.hid hpr
        have hlpr : pr.length ≤ 3000 := by rw [hpr, List.length_append, List.length_append]; show pre.length + 1 + _ ≤ _; omega
        rw [← hpr] at HEJ6
        have q0 : wr.cell? ⟨wo, 0, none⟩ = some (.int .i64 x.op) := cell_of_row wr _ 0 _ 43 (0, 0) hej.cur
        have q1 : wr.cell? ⟨wo, 1, none⟩ = some (.int .i64 x.a) := cell_of_row wr _ 1 _ 43 (0, 0) hej.cur
        have q2 : wr.cell? ⟨wo, 2, none⟩ = some (.int .i64 x.b) := cell_of_row wr _ 2 _ 43 (0, 0) hej.cur
        have q3 : wr.cell? ⟨wo, 3, none⟩ = some (.int .i64 x.c) := cell_of_row wr _ 3 _ 43 (0, 0) hej.cur
        have q4 : wr.cell? ⟨wo, 4, none⟩ = some (.int .i64 x.t) := cell_of_row wr _ 4 _ 43 (0, 0) hej.cur
        have q5 : wr.cell? ⟨wo, 5, none⟩ = some (.int .i64 x.n) := cell_of_row wr _ 5 _ 43 (0, 0) hej.cur
        have hsr2 := hej.ei.below.size
        clear hej hpr
        by_cases hjm : j < m
        · have hjl : j < ls.length := by rw [← HM.out]; exact hjm
          have hix := HIX.out j hjl
          obtain ⟨q, hq⟩ : ∃ q, q = ls[j] := ⟨_, rfl⟩
          have HTJ := Lib.hid (encLs_take x ls j hjl)
          rw [← hq] at hix HTJ
          have hqm : q ∈ ls := by rw [hq]; exact List.getElem_mem hjl
          have hq256 := HSML.out q hqm
          obtain ⟨Av6, cv6, rfl, _, _⟩ := ownB_rdv HEJ6.out.ei.own
          clear hq
          by_cases h110 : q = 110
          · have d1 : ((q : Int) == 110) = true := by rw [beq_iff_eq]; omega
            have HEL := Lib.hid (show encL x q = cntN (foldN x.n) from if_pos h110)
            have HN := Lib.hid (refNum_any x.n HXS.out.n wr)
            have hlz := cntN_len (foldN x.n) (foldN_lt HXS.out.n)
            clear h110 hqm q0 q1 q2 q3 q4
            go_wp2_with fail
            refine Calls.mono HN.out ?_
            rintro e w7 ⟨v7, rfl, ho7, hb7⟩
            have HEJ7 := Lib.hid (HEJ6.out.later hb7)
            obtain ⟨A7, c7, rfl, hr7, hn7⟩ := ownB_rdv ho7
            have HR7 := Lib.hid hr7
            have hs7 := hb7.size
            clear ho7 hb7 hr7 q5
            go_wp2_with (at_builtin; refine wpList_append_rowv elemB rfl (.tmp 50) (.tmp 53) rfl w.heap.size _ pr.length (valsB pr) rfl HEJ7.out.ei.own A7 _ c7 (valsB (cntN (foldN x.n))) rfl HR7.out (valsB_one _) hn7 (by unfold maxLen; omega) (by omega) (by omega) ?_; intro v8 w8 hown8 hg8 hb8; have HEJ8 := Lib.hid (HEJ7.out.app hown8 rfl hg8); clear hown8 hg8 hb8)
            go_roundw
            case rel => exact ⟨j + 1, by go_num, by omega, by rw [HTJ.out, ← List.append_assoc, ← HPR.out, HEL.out]; exact HEJ8.out⟩
            case measure => simp [intOf]; omega
          · have d1 : ((q : Int) == 110) = false := by rw [beq_eq_false_iff_ne]; omega
            have hv := HFL.out q hqm h110
            have hval := value_any x q wr.drew
            obtain ⟨z, hz⟩ : ∃ z, z = x.get (offL q) := ⟨_, rfl⟩
            have HEL := Lib.hid (show encL x q = cntN z.toNat by rw [hz]; exact if_neg h110)
            rw [← hz] at hv hval
            obtain ⟨u, rfl⟩ := Int.eq_ofNat_of_zero_le hv.1
            have hu : u ≤ 100000 := by omega
            have eu : IntKind.u64.wrap (u : Int) = ((u : Nat) : Int) := by rw [IntKind.wrap_u64]; omega
            unfold Ins.val at hval
            have HV := Lib.hid hval
            have HN := Lib.hid (fun W => refCount_any u (by omega) W)
            have hlz := cntN_len u (by omega)
            have HEJD := Lib.hid (HEJ6.out.later (wr.drew |> fun _ => (Below.refl _ wr).drew))
            have hsd : wr.drew.heap.size = wr.heap.size := rfl
            clear h110 hqm hz hv hval hsd
            go_wp2_with fail
            go_region_law (first | (go_simp; go_at_call 49; refine Calls.mono HV.out ?_; rintro e w7 ⟨rfl, hb7⟩; have HEJ7 := Lib.hid (HEJD.out.later hb7); have hs7 := hb7.size) | (go_simp; go_at_call 47; refine Calls.mono (HN.out _) ?_; rintro e w8 ⟨v8, rfl, ho8, hb8⟩; obtain ⟨A8, c8, rfl, hr8, hn8⟩ := ownB_rdv ho8; have HEJ8 := Lib.hid (HEJ7.out.later hb8); have hs8 := hb8.size) | (refine step_append_rowv elemB (by simp [Region.wanted]) (.tmp 55) (.tmp 62) (by rfl) w.heap.size _ pr.length (valsB pr) (by rfl) HEJ8.out.ei.own A8 _ c8 (valsB (cntN u)) (by rfl) hr8 (valsB_one _) hn8 (by unfold maxLen; omega) (by omega) (by have := HEJ8.out.ei.below.size; omega) ?_; intro v9 w9 hown9 hg9 hb9; have HEJ9 := Lib.hid (HEJ8.out.app hown9 rfl hg9)))
            all_goals
              clear hown9 hg9 hb9 hr8 ho8 hb8 hb7
              go_wp2_with fail
              go_roundw
              case rel => exact ⟨j + 1, by go_num, by omega, by rw [HTJ.out, ← List.append_assoc, ← HPR.out, HEL.out, Int.toNat_natCast]; exact HEJ9.out⟩
              case measure => simp [intOf]; omega
        · obtain rfl : j = m := by omega
          have HPE := Lib.hid (show pr = cntN fn ++ cntN n ++ encIs (l.take (k + 1)) by rw [HPR.out, HTK.out, HENC.out, ← List.append_assoc, ← List.append_assoc, ← HPRE.out, HM.out, List.take_length])
          clear q0 q1 q2 q3 q4 q5
          go_wp2_with fail
          go_roundw
          case rel => exact ⟨k + 1, by go_num, by omega, by rw [← HPE.out]; exact HEJ6.out.ei⟩
          case measure => simp [intOf]; omega
    · obtain rfl : k = n := by omega
      go_wp2_with fail
      go_ret
      refine ⟨_, rfl, ?_, HBR.out⟩
      have h := HEI.out.own
      rw [HPRE.out, ← HL.out, List.take_length] at h
      exact h
end Go.Proofs.YtkeckjgihjpfbaaDoor

/- What is read was written: the other way. -/
namespace Go.Proofs.YtkeckjgihjpfbaaDoor
set_option maxRecDepth 100000
open Go.RowKit

theorem rcount_ways (bs : List Nat) : rcount bs = (0, [], true) ∨ ∃ x rest, rcount bs = (x, rest, false) := rcnt_ways 10 0 0 bs
theorem rcount_empty : rcount [] = (0, [], true) := rfl
/-- From a bad state on all is bad, and nothing is left. -/
theorem fold_bad (cv : Nat → Int) : ∀ (ls : List Nat) (u : Ins), (ls.foldl (stepG cv) (u, [], true)).2 = ([], true)
  | [], _ => rfl
  | l :: ls, u => by
    rw [List.foldl_cons, show stepG cv (u, [], true) l = (u.set (offL l) (if l = 110 then unfoldN 0 else cv 0), [], true) from rfl]
    exact fold_bad cv ls _
theorem small_rest {bs rest : List Nat} {x : Nat} (hs : ∀ b ∈ bs, b < 256) (h : rcount bs = (x, rest, false)) : ∀ b ∈ rest, b < 256 := by
  have h1 := (rcount_yes hs h).1
  intro b hb
  exact hs b (by rw [h1]; exact List.mem_append_right _ hb)
/-- What was read letter by letter is what the letters' bytes are. -/
theorem fold_yes : ∀ (ls : List Nat) (u r : Ins) (bs rest : List Nat), (∀ b ∈ bs, b < 256) → (ls.map offL).Nodup → ls.foldl stepL (u, bs, false) = (r, rest, false) →
    (∀ l ∈ ls, l ≠ 110 → 0 ≤ r.get (offL l)) → (∀ l ∈ ls, l = 110 → offL l = 5) → encLs r ls ++ rest = bs ∧ (∀ k, 1 ≤ k ∧ k ≤ 5 → k ∉ ls.map offL → r.get k = u.get k) ∧ r.op = u.op
  | [], u, r, bs, rest, _, _, h, _, _ => by
    simp only [List.foldl_nil, Prod.mk.injEq] at h
    obtain ⟨rfl, rfl, _⟩ := h
    exact ⟨rfl, fun _ _ _ => rfl, rfl⟩
  | l :: ls, u, r, bs, rest, hs, hnd, h, h0, h5 => by
    rw [List.foldl_cons] at h
    rw [List.map_cons, List.nodup_cons] at hnd
    rcases rcount_ways bs with hb | ⟨x, bs', hb⟩
    · have e : stepL (u, bs, false) l = (u.set (offL l) (if l = 110 then unfoldN 0 else wrapI 0), [], true) := by unfold stepL; rw [hb]
      rw [e] at h
      have h2 := fold_bad wrapI ls (u.set (offL l) (if l = 110 then unfoldN 0 else wrapI 0))
      have h3 : (ls.foldl stepL (u.set (offL l) (if l = 110 then unfoldN 0 else wrapI 0), [], true)).2 = ([], true) := h2
      rw [h] at h3
      simp at h3
    · have e : stepL (u, bs, false) l = (u.set (offL l) (if l = 110 then unfoldN x else wrapI x), bs', false) := by unfold stepL; rw [hb]
      rw [e] at h
      have hs' := small_rest hs hb
      obtain ⟨h1, h2, h3⟩ := fold_yes ls _ r bs' rest hs' hnd.2 h (fun q hq => h0 q (List.mem_cons_of_mem _ hq)) (fun q hq => h5 q (List.mem_cons_of_mem _ hq))
      obtain ⟨hbs, hx⟩ := rcount_yes hs hb
      have hol := offL_le l
      have hg : r.get (offL l) = (if l = 110 then unfoldN x else wrapI x) := by
        rw [h2 _ hol hnd.1, get_set _ _ _ hol]
      have hel : encL r l = cntN x := by
        unfold encL
        by_cases h110 : l = 110
        · rw [if_pos h110]
          rw [if_pos h110, h5 l (List.mem_cons_self ..) h110] at hg
          have hg' : r.n = unfoldN x := hg
          rw [hg']
          congr 1
          unfold foldN unfoldN
          split <;> split <;> omega
        · rw [if_neg h110, hg, if_neg h110]
          have hnn := h0 l (List.mem_cons_self ..) h110
          rw [hg, if_neg h110] at hnn
          congr 1
          unfold wrapI at hnn ⊢
          rw [IntKind.wrap_i64] at hnn ⊢
          omega
      refine ⟨?_, fun k hk hnk => ?_, ?_⟩
      · rw [show encLs r (l :: ls) = encL r l ++ encLs r ls from rfl, List.append_assoc, h1, hel, hbs]
      · rw [List.map_cons, List.mem_cons, not_or] at hnk
        rw [h2 k hk hnk.2, get_set_ne _ _ _ _ hol hk hnk.1]
      · rw [h3, set_op]
theorem fold_op : ∀ (ls : List Nat) (s : Ins × List Nat × Bool), (ls.foldl stepL s).1.op = s.1.op
  | [], _ => rfl
  | l :: ls, s => by
    rw [List.foldl_cons, fold_op ls]
    exact set_op _ _ _
theorem shapeL_nodup (op : Int) : ((shapeL op).map offL).Nodup := by
  unfold shapeL
  repeat' split
  all_goals decide
theorem offL_n (l : Nat) (h : l = 110) : offL l = 5 := by subst h; rfl
theorem take_yes {bs rest : List Nat} {x : Ins} (hs : ∀ b ∈ bs, b < 256) (h : takeI bs false = (x, rest, false)) (h0 : ∀ l ∈ shapeL x.op, l ≠ 110 → 0 ≤ x.get (offL l)) : encI x ++ rest = bs := by
  unfold takeI startI at h
  rcases bs with _ | ⟨b, t⟩
  · have h2 := fold_bad wrapI (shapeL ((byteT [] : Nat) : Int)) { Ins.zero with op := ((byteT [] : Nat) : Int) }
    have h3 : ((shapeL ((byteT [] : Nat) : Int)).foldl stepL ({ Ins.zero with op := ((byteT [] : Nat) : Int) }, ([] : List Nat).drop 1, false || decide (([] : List Nat).length = 0))).2 = ([], true) := h2
    rw [h] at h3
    simp at h3
  · have e : (false || decide ((b :: t).length = 0)) = false := by simp
    rw [e] at h
    have hop : x.op = (b : Int) := by
      · have := fold_op (shapeL ((byteT (b :: t) : Nat) : Int)) ({ Ins.zero with op := ((byteT (b :: t) : Nat) : Int) }, (b :: t).drop 1, false)
        rw [h] at this
        exact this
    have h1 := fold_yes (shapeL ((byteT (b :: t) : Nat) : Int)) _ x ((b :: t).drop 1) rest (fun q hq => hs q (List.mem_cons_of_mem _ hq)) (shapeL_nodup _) h (by rw [show ((byteT (b :: t) : Nat) : Int) = x.op from hop.symm]; exact h0) (fun l _ => offL_n l)
    have h2 : encLs x (shapeL (b : Int)) ++ rest = t := h1.1
    unfold encI
    rw [hop, Int.toNat_natCast, List.cons_append, h2]
theorem takeN_bad (k : Nat) : (takeN k [] true).2 = ([], true) := by
  induction k with
  | zero => rfl
  | succ k ih =>
    rw [takeN]
    simp only []
    rw [ih]
    exact fold_bad wrapI _ _
theorem takeI_bad (_ : List Nat) : (takeI [] true).2 = ([], true) := fold_bad wrapI _ _
theorem fold_ways : ∀ (ls : List Nat) (u : Ins) (bs : List Nat), (∃ r, ls.foldl stepL (u, bs, false) = (r, [], true)) ∨ ∃ r rest, ls.foldl stepL (u, bs, false) = (r, rest, false)
  | [], u, bs => .inr ⟨u, bs, rfl⟩
  | l :: ls, u, bs => by
    rw [List.foldl_cons]
    rcases rcount_ways bs with hb | ⟨x, bs', hb⟩
    · have e : stepL (u, bs, false) l = (u.set (offL l) (if l = 110 then unfoldN 0 else wrapI 0), [], true) := by unfold stepL; rw [hb]
      rw [e]
      exact .inl ⟨_, Prod.ext rfl (fold_bad wrapI ls _)⟩
    · have e : stepL (u, bs, false) l = (u.set (offL l) (if l = 110 then unfoldN x else wrapI x), bs', false) := by unfold stepL; rw [hb]
      rw [e]
      exact fold_ways ls _ bs'
theorem take_ways (bs : List Nat) : (∃ r, takeI bs false = (r, [], true)) ∨ ∃ r rest, takeI bs false = (r, rest, false) := by
  rcases bs with _ | ⟨b, t⟩
  · exact .inl ⟨_, Prod.ext rfl (fold_bad wrapI _ _)⟩
  · exact fold_ways _ _ _
theorem takeN_ways (k : Nat) (bs : List Nat) : (∃ r, takeN k bs false = (r, [], true)) ∨ ∃ r rest, takeN k bs false = (r, rest, false) := by
  induction k with
  | zero => exact .inr ⟨[], bs, rfl⟩
  | succ k ih =>
    rw [takeN]
    rcases ih with ⟨r, h⟩ | ⟨r, rest, h⟩
    · rw [h]
      exact .inl ⟨_, Prod.ext rfl (takeI_bad bs)⟩
    · rw [h]
      rcases take_ways rest with ⟨x, hx⟩ | ⟨x, rest', hx⟩
      · simp only [hx]; exact .inl ⟨_, rfl⟩
      · simp only [hx]; exact .inr ⟨_, _, rfl⟩
def Plain (x : Ins) : Prop := ∀ l ∈ shapeL x.op, l ≠ 110 → 0 ≤ x.get (offL l)
theorem takes_yes (bs : List Nat) (hs : ∀ b ∈ bs, b < 256) : ∀ (k : Nat) (l : List Ins) (rest : List Nat), takeN k bs false = (l, rest, false) → (∀ x ∈ l, Plain x) → encIs l ++ rest = bs ∧ ∀ b ∈ rest, b < 256
  | 0, l, rest, h, _ => by
    rw [takeN] at h
    simp only [Prod.mk.injEq] at h
    obtain ⟨rfl, rfl, _⟩ := h
    exact ⟨rfl, hs⟩
  | k + 1, l, rest, h, hp => by
    rw [takeN] at h
    rcases takeN_ways k bs with ⟨r, hk⟩ | ⟨r, mid, hk⟩
    · rw [hk] at h
      have h2 := congrArg (·.2) h
      simp only [] at h2
      rw [takeI_bad bs] at h2
      simp at h2
    · rw [hk] at h
      rcases take_ways mid with ⟨x, hx⟩ | ⟨x, rest', hx⟩
      · simp only [hx] at h
        simp at h
      · simp only [hx, Prod.mk.injEq] at h
        obtain ⟨rfl, rfl, _⟩ := h
        obtain ⟨h1, h2⟩ := takes_yes bs hs k r mid hk (fun y hy => hp y (List.mem_append_left _ hy))
        have h3 := take_yes h2 hx (hp x (List.mem_append_right _ (List.mem_singleton.2 rfl)))
        refine ⟨?_, fun b hb => h2 b (by rw [← h3]; exact List.mem_append_right _ hb)⟩
        rw [show encIs (r ++ [x]) = encIs r ++ encI x by unfold encIs; rw [List.flatMap_append, List.flatMap_singleton], List.append_assoc, h3, h1]
theorem good_plain {f : Int} {l : List Ins} (h : chk f l = -2) : ∀ x ∈ l, Plain x := by
  obtain ⟨hh, hall⟩ := chk_good h
  intro x hx q hq h110
  obtain ⟨k, hk, rfl⟩ := List.getElem_of_mem hx
  have h1 := hall k hk
  unfold goodAt goodI at h1
  rw [List.getD_eq_getElem?_getD, List.getElem?_eq_getElem hk] at h1
  simp only [Option.getD_some, Bool.and_eq_true, List.all_eq_true, decide_eq_true_iff] at h1
  have h3 := h1.2.1 q hq
  unfold inB at h3
  rw [decide_eq_false h110, Bool.false_or, decide_eq_true_iff] at h3
  have := loL_ge q
  omega
theorem wrapI_back {n : Nat} (h : n < 18446744073709551616) {z : Int} (hz : wrapI n = z) (h0 : 0 ≤ z) : n = z.toNat := by
  unfold wrapI at hz
  rw [IntKind.wrap_i64] at hz
  omega
/-- What is decoded was encoded. -/
theorem dec_yes {xs : List Nat} (hs : ∀ b ∈ xs, b < 256) (h : decOk xs = true) : xs = encP (readP xs).1.toNat (readP xs).2.1 ∧ chk (readP xs).1 (readP xs).2.1 = -2 := by
  unfold decOk at h
  simp only [Bool.and_eq_true, decide_eq_true_iff] at h
  obtain ⟨⟨hb, hr⟩, hc⟩ := h
  refine ⟨?_, hc⟩
  obtain ⟨hh, _⟩ := chk_good hc
  have hp := good_plain hc
  rcases rcount_ways xs with h1 | ⟨u, bs1, h1⟩
  · unfold readP at hb
    rw [h1] at hb
    simp only [rcount_empty] at hb
    rw [takeN_bad] at hb
    cases hb
  · obtain ⟨e1, hu⟩ := rcount_yes hs h1
    have hs1 := small_rest hs h1
    rcases rcount_ways bs1 with h2 | ⟨u2, bs2, h2⟩
    · unfold readP at hb
      rw [h1] at hb
      simp only [h2] at hb
      rw [takeN_bad] at hb
      cases hb
    · obtain ⟨e2, hu2⟩ := rcount_yes hs1 h2
      have hs2 := small_rest hs1 h2
      have er : readP xs = (wrapI u, takeN (min u2 33) bs2 false) := by unfold readP; rw [h1]; simp only [h2]
      rw [er] at hb hr hc hh hp ⊢
      simp only [] at hb hr hc hh hp ⊢
      have hlen := takeN_len (min u2 33) bs2 false
      generalize hT : takeN (min u2 33) bs2 false = T at hb hr hc hh hp hlen ⊢
      obtain ⟨l, rest, bad⟩ := T
      simp only [] at hb hr hc hh hp hlen ⊢
      subst hb hr
      obtain ⟨h3, _⟩ := takes_yes bs2 hs2 _ l [] hT hp
      rw [List.append_nil] at h3
      have hf := wrapI_back hu rfl (show 0 ≤ wrapI u by omega)
      have hl : u2 = l.length := by omega
      unfold encP
      rw [e1, e2, ← hf, ← hl, h3, List.append_assoc]
end Go.Proofs.YtkeckjgihjpfbaaDoor

/- The contract of prog.Decode: the walk. -/
namespace Go.Proofs.YtkeckjgihjpfbaaDoor
set_option maxRecDepth 100000
open Go.RowKit
attribute [local go_sem ↓] Go.wp_at_zero Go.wp_at_succ

theorem takeN_succ (k : Nat) (bs : List Nat) (bad : Bool) : takeN (k + 1) bs bad = ((takeN k bs bad).1 ++ [(takeI (takeN k bs bad).2.1 (takeN k bs bad).2.2).1], (takeI (takeN k bs bad).2.1 (takeN k bs bad).2.2).2) := rfl
theorem Rdr.drew {w : World} {B : Nat → Prop} {V : Value} {bs : List Nat} {bad : Bool} (h : Rdr w B V bs bad) : Rdr w.drew B V bs bad := h.stays (Nat.le_refl _) (fun _ _ _ => rfl)
theorem DI.drew {w wr : World} {q hi : Nat} {B : Nat → Prop} {g : Nat} {f : Int} {v : Value} {s : List Ins × List Nat × Bool} (h : DI w q hi wr B g f v s) : DI w q hi wr.drew B g f v s :=
  ⟨h.rdr.drew, h.below.drew, h.out, h.cur, h.own, h.away, h.lo, h.hiq, h.lt⟩
theorem DI.later {w wr w2 : World} {q hi : Nat} {B : Nat → Prop} {g : Nat} {f : Int} {v : Value} {s : List Ins × List Nat × Bool} (h : DI w q hi wr B g f v s) (hb : Below wr.heap.size wr w2) : DI w q hi w2 B g f v s :=
  ⟨h.rdr.stays hb.size (fun k hk _ => hb.block k hk), h.below.trans (hb.mono h.below.size), (hb.block _ (by have := h.lt; have := h.lo; omega)).trans h.out, (hb.block _ (by have := h.lt; omega)).trans h.cur, own_keep h.own fun b cur _ e => hb.block b (Array.getElem?_eq_some_iff.1 e).1, h.away, h.lo, h.hiq, Nat.le_trans h.lt hb.size⟩
/-- The answer stored. -/
theorem DI.fin {w wr : World} {q hi : Nat} {B : Nat → Prop} {g : Nat} {f : Int} {v : Value} {s : List Ins × List Nat × Bool} (h : DI w q hi wr B g f v s) (z : Int) (u : Value) :
    ((wr.setCell ⟨w.heap.size, 0, none⟩ (.int .i64 z)).setCell ⟨w.heap.size, 1, none⟩ u).heap[w.heap.size]? = some (.cells #[.int .i64 z, u] 24 (0, 0)) ∧
    ((wr.setCell ⟨w.heap.size, 0, none⟩ (.int .i64 z)).setCell ⟨w.heap.size, 1, none⟩ u).ownsRow w.heap.size 43 6 v s.1.length (insV s.1) ∧
    Below w.heap.size w ((wr.setCell ⟨w.heap.size, 0, none⟩ (.int .i64 z)).setCell ⟨w.heap.size, 1, none⟩ u) := by
  refine ⟨heap_at (heap_at h.out 0 _) 1 u, own_keep h.own fun b cur _ e => ?_, (h.below.setCell (by show w.heap.size ≤ w.heap.size; omega) _).setCell (by show w.heap.size ≤ w.heap.size; omega) _⟩
  have hne : b ≠ w.heap.size := fun e2 => by subst e2; rw [h.out] at e; cases e
  exact (Deep.blk_setCell_other _ _ _ b hne).trans (Deep.blk_setCell_other _ _ _ b hne)
theorem codes_of_own {w : World} {B n c : Nat} {A : Option Addr} {l : List Ins} (h : w.ownsRow B 43 6 (.slice A n c) n (insV l)) (hl : l.length = n) : Codes w A n l := by
  obtain ⟨_, _, e, hr, _, _⟩ := rdv_own h
  injection e with e1 _ e2
  subst e1 e2
  exact ⟨hl, hr⟩
set_option maxHeartbeats 8000000 in
theorem decode_any (A : Option Addr) (n c : Nat) (xs : List Nat) (w : World) (hT : Tab w) (hr : Rdv w A n 1 (valsB xs)) (hnil : A = none → c = 0 ∧ n = 0) (hn : n ≤ 140737488355328) (hs : ∀ x ∈ xs, x < 256) :
    Calls Tryd.prog 19 #[.slice A n c] w fun e w' => DecE xs w w' e ∧ Below w.heap.size w w' := by
  have hb0 := (Below.refl w.heap.size w).alloc (Nat.le_refl _) (.cells #[.int .i64 0, .slice none 0 0] 24)
  have HB0 := Lib.hid hb0
  have HT := Lib.hid hT
  have HN := Lib.hid (newReader_any A n c xs _ (hr.ext (stays_b hb0)) hnil hn hs)
  have htz := tab_size hT
  obtain ⟨R, hR⟩ : ∃ R, R = readP xs := ⟨_, rfl⟩
  have HR := Lib.hid hR
  have HDE := Lib.hid (show decOk xs = (decide (R.2.2.2 = false ∧ R.2.2.1 = []) && decide (chk R.1 R.2.1 = -2)) by rw [hR]; rfl)
  have HNEW := Lib.hid (heap_alloc_new w (.cells #[.int .i64 0, .slice none 0 0] 24))
  clear hT hr hnil hn hs hb0 hR
  go_enter Tryd.func19, Tryd.ntmps19
  go_wp2_with fail
  refine Calls.mono HN.out ?_
  rintro e w1 ⟨g, rfl, hrd, hb1⟩
  have HRD := Lib.hid hrd
  have hgl := (rdr_block hrd).1
  have hs1 := hb1.size
  rw [World.size_alloc] at hs1 hgl
  have HB1 := Lib.hid (HB0.out.trans (hb1.mono HB0.out.size))
  have HOUT1 := Lib.hid ((hb1.block _ (by rw [World.size_alloc]; omega)).trans HNEW.out)
  have HBB := Lib.hid (fun k (hk : (fun k => (w.alloc (.cells #[.int .i64 0, .slice none 0 0] 24)).heap.size ≤ k ∧ k < w1.heap.size) k) => (by have h2 := hk.1; rw [World.size_alloc] at h2; exact ⟨by omega, hk.2⟩ : w.heap.size < k ∧ k < w1.heap.size))
  have HC1 := Lib.hid (rcount_any _ _ xs false w1 hrd)
  have hul := rcount_lt xs hrd.small'
  clear hrd hb1
  obtain ⟨u, hu⟩ : ∃ u, u = (rcount xs).1 := ⟨_, rfl⟩
  obtain ⟨f, hf⟩ : ∃ f, f = wrapI (rcount xs).1 := ⟨_, rfl⟩
  have hwf : IntKind.i64.wrap (u : Int) = f := by rw [hf, hu]; rfl
  rw [← hu] at HC1 hul
  have HF := Lib.hid hf
  clear hu hf
  go_wp2_with fail
  refine Calls.mono HC1.out ?_
  rintro e w2 ⟨rfl, hr2, ho2⟩
  have hs2 := ho2.size
  have HR2 := Lib.hid (hr2.alloc (.cells #[.int .i64 f, .slice none 0 0] 24))
  have hout2 : w2.heap[w.heap.size]? = some (.cells #[.int .i64 0, .slice none 0 0] 24 (0, 0)) := (ho2.block _ (by omega) (fun e => by injection e with e; injection e with e; injection e with e; omega)).trans HOUT1.out
  have HB2 := Lib.hid (show Below w.heap.size w w2 from ⟨ho2.os.trans HB1.out.os, ho2.tape.trans HB1.out.tape, ho2.output.trans HB1.out.output, Nat.le_trans HB1.out.size ho2.size, fun k hk => (ho2.block k (by omega) (fun e => by injection e with e; injection e with e; injection e with e; omega)).trans (HB1.out.block k hk)⟩)
  have HDI := Lib.hid (show DI w w2.heap.size w1.heap.size (w2.alloc (.cells #[.int .i64 f, .slice none 0 0] 24)) (fun k => (w.alloc (.cells #[.int .i64 0, .slice none 0 0] 24)).heap.size ≤ k ∧ k < w1.heap.size) g f (.slice none 0 0) ([], (rcount xs).2.1, (rcount xs).2.2) from
    ⟨HR2.out, HB2.out.alloc HB2.out.size _, (heap_alloc_old w2 _ (by omega)).trans hout2, heap_alloc_new w2 _, ⟨rfl, .inl ⟨rfl, rfl⟩⟩, (fun b e => by cases e), by omega, hs2, by rw [World.size_alloc]; exact Nat.le_refl _⟩)
  have HC2 := Lib.hid (rcount_any _ _ _ _ _ HR2.out)
  have hul2 := rcount_lt _ HR2.out.small'
  obtain ⟨u2, hu2⟩ : ∃ u2, u2 = (rcount (rcount xs).2.1).1 := ⟨_, rfl⟩
  rw [← hu2] at HC2 hul2
  have HU2 := Lib.hid hu2
  clear hr2 ho2 hout2 hu2
  go_wp2_with fail
  refine Calls.mono HC2.out ?_
  rintro e w3 ⟨rfl, hr3, ho3⟩
  have hdi3 := HDI.out.step HBB.out hr3 ho3
  have HDI3 := Lib.hid hdi3
  clear hr3 ho3 hdi3
  obtain ⟨m, hm⟩ : ∃ m, m = min u2 33 := ⟨_, rfl⟩
  have hmin : min (u2 : Int) 33 = (m : Int) := by omega
  have hm33 : m ≤ 33 := by omega
  have HM := Lib.hid hm
  clear hm
  obtain ⟨BS2, hBS2⟩ : ∃ b, b = (rcount (rcount xs).2.1).2.1 := ⟨_, rfl⟩
  obtain ⟨BD2, hBD2⟩ : ∃ b, b = (rcount (rcount xs).2.1).2.2 := ⟨_, rfl⟩
  have HREQ := Lib.hid (show R = (f, takeN m BS2 BD2) by rw [HR.out]; unfold readP; rw [← HF.out, HM.out, HU2.out, hBS2, hBD2])
  rw [← hBS2, ← hBD2] at HDI3
  clear hBS2 hBD2
  go_wp2_with fail
  clear hmin
  go_loopw [15] (fun i wr => ∃ (k : Nat) (v : Value), i = .int .u64 (k : Int) ∧ k ≤ m ∧ DI w w2.heap.size w1.heap.size wr (fun k => (w.alloc (.cells #[.int .i64 0, .slice none 0 0] 24)).heap.size ≤ k ∧ k < w1.heap.size) g f v (takeN k BS2 BD2)) (fun i _ => m - (intOf i).toNat)
  case atStart => exact ⟨0, _, rfl, by omega, HDI3.out⟩
  case round =>
    obtain ⟨k, v, rfl, hk, hdi⟩ := hrel
    have hlen := takeN_len k BS2 BD2
    have HTS := Lib.hid (takeN_succ k BS2 BD2)
    obtain ⟨S, hS⟩ : ∃ S, S = takeN k BS2 BD2 := ⟨_, rfl⟩
    rw [← hS] at hdi hlen HTS
    have HS := Lib.hid hS
    obtain ⟨l, bs, bad⟩ := S
    have hll : l.length = k := hlen
    have hlt2 := hdi.lt
    have hlk : l.length ≤ 33 := by omega
    have HLL := Lib.hid hll
    obtain ⟨A3, c3, rfl, _, _, _⟩ := rdv_own hdi.own
    have HDI4 := Lib.hid hdi.drew
    have HDI5 := Lib.hid hdi
    have c1 : wr.cell? ⟨w2.heap.size, 1, none⟩ = some (.slice A3 l.length c3) := cell_of_row wr _ 1 _ 24 (0, 0) hdi.cur
    have hbe := hdi.below
    have HBE := Lib.hid hbe
    clear hS hdi hlen hll
    by_cases hlt : k < m
    · have htk := takeI_any (fun k => (w.alloc (.cells #[.int .i64 0, .slice none 0 0] 24)).heap.size ≤ k ∧ k < w1.heap.size) (.pointer (some ⟨g, 0, none⟩)) bs bad wr.drew (HT.out.ext HBE.out.drew) HDI4.out.rdr (fun e => by injection e with e; injection e with e; injection e with e; omega) (fun k hk => by have := (HBB.out k hk).2; show k < wr.heap.size; omega)
      obtain ⟨x, hx⟩ : ∃ x, x = (takeI bs bad).1 := ⟨_, rfl⟩
      rw [← hx] at htk
      unfold Ins.val at htk
      have HTK := Lib.hid htk
      have HX := Lib.hid hx
      clear hx htk hbe
      go_wp2_with fail
      go_region_law (first | (go_simp; go_at_call 45; refine Calls.mono HTK.out ?_; rintro e w5 ⟨rfl, hr5, ho5⟩; have h5 := HDI4.out.step HBB.out hr5 ho5; have d1 : w5.cell? ⟨w2.heap.size, 1, none⟩ = some (.slice A3 l.length c3) := cell_of_row w5 _ 1 _ 24 (0, 0) h5.cur; have d2 := (World.cell?_alloc_lt w5 (.cells #[.int .i64 x.op, .int .i64 x.a, .int .i64 x.b, .int .i64 x.c, .int .i64 x.t, .int .i64 x.n] 43) ⟨w2.heap.size, 1, none⟩ (World.block_lt_of_cell? _ _ d1)).trans d1) | (refine step_append_rowv elemC (by simp [Region.wanted]) (.tmp 18) (.tmp 21) (by rfl) w.heap.size (.slice A3 l.length c3) l.length (insV l) (by rfl) (h5.own.alloc _) (some ⟨w5.heap.size, 0, none⟩) 1 1 (insV [x]) (by rfl) (rdv_ins w5 x) (insV_one _) (by intro h; cases h) (by unfold maxLen; omega) (by omega) (by have := h5.below.size; rw [World.size_alloc]; omega) ?_; intro v6 w6 hown6 hg6 hb6; obtain ⟨A6, c6, rfl, _, _, _⟩ := rdv_own hown6; obtain ⟨hq6, hdi6⟩ := DI.push h5 HBB.out hown6 hg6 hb6; have e1 : w6.cell? ⟨w2.heap.size, 1, none⟩ = some (.slice A3 l.length c3) := cell_of_row w6 _ 1 _ 24 (0, 0) hq6; have f1 : w6.frozen? ⟨w2.heap.size, 1, none⟩ = false := by simp [World.frozen?, hq6]))
      all_goals
        have HDI6 := Lib.hid hdi6
        clear hdi6 hq6 h5 hr5 ho5 hown6 hg6 hb6 d1 d2 e1 f1
        go_wp2_with fail
        go_roundw
        case rel => exact ⟨k + 1, _, by go_num, by omega, by rw [HTS.out, ← HX.out]; exact HDI6.out⟩
        case measure => simp [intOf]; omega
    · obtain rfl : k = m := by omega
      have HRE := Lib.hid (show R = (f, l, bs, bad) by rw [HREQ.out, ← HS.out])
      have HDD := Lib.hid (show decOk xs = (decide (bad = false ∧ bs = []) && decide (chk f l = -2)) by rw [HDE.out, HRE.out])
      have HEN := Lib.hid (end_any _ _ bs bad wr (HDI5.out.rdr))
      have z0 : wr.cell? ⟨w.heap.size, 0, none⟩ = some (.int .i64 0) := cell_of_row wr _ 0 _ 24 (0, 0) HDI5.out.out
      have z1 : wr.cell? ⟨w.heap.size, 1, none⟩ = some (.slice none 0 0) := cell_of_row wr _ 1 _ 24 (0, 0) HDI5.out.out
      have f0 : wr.frozen? ⟨w.heap.size, 0, none⟩ = false := by simp [World.frozen?, HDI5.out.out]
      have f1 : wr.frozen? ⟨w.heap.size, 1, none⟩ = false := by simp [World.frozen?, HDI5.out.out]
      have c0 : wr.cell? ⟨w2.heap.size, 0, none⟩ = some (.int .i64 f) := cell_of_row wr _ 0 _ 24 (0, 0) HDI5.out.cur
      clear hbe
      by_cases hok : bad = false ∧ bs = []
      · have hev : endV bs bad = .nilIface := if_pos hok
        rw [hev] at HEN
        have HDD2 := Lib.hid (show decOk xs = decide (chk f l = -2) by rw [HDD.out, decide_eq_true hok, Bool.true_and])
        have HCK := Lib.hid (check_any f A3 l.length c3 l wr (HT.out.ext HBE.out) (codes_of_own HDI5.out.own rfl) (by omega))
        clear hok hev
        go_wp2_with fail
        refine Calls.mono HEN.out ?_
        rintro e w6 ⟨v, rfl, rfl, rfl⟩
        go_wp2_with fail
        refine Calls.mono HCK.out ?_
        rintro e w7 ⟨he, hb7⟩
        have h7 := HDI5.out.later hb7
        have H7 := Lib.hid h7
        have y0 : w7.cell? ⟨w.heap.size, 0, none⟩ = some (.int .i64 0) := cell_of_row w7 _ 0 _ 24 (0, 0) h7.out
        have y1 : w7.cell? ⟨w.heap.size, 1, none⟩ = some (.slice none 0 0) := cell_of_row w7 _ 1 _ 24 (0, 0) h7.out
        have g0 : w7.frozen? ⟨w.heap.size, 0, none⟩ = false := by simp [World.frozen?, h7.out]
        have g1 : w7.frozen? ⟨w.heap.size, 1, none⟩ = false := by simp [World.frozen?, h7.out]
        have d0 : w7.cell? ⟨w2.heap.size, 0, none⟩ = some (.int .i64 f) := cell_of_row w7 _ 0 _ 24 (0, 0) h7.cur
        have d1 : w7.cell? ⟨w2.heap.size, 1, none⟩ = some (.slice A3 l.length c3) := cell_of_row w7 _ 1 _ 24 (0, 0) h7.cur
        clear hb7 h7
        rcases he with ⟨hck, rfl⟩ | ⟨hck, b, rfl, _, _⟩
        · have HDT := Lib.hid (show decOk xs = true by rw [HDD2.out, decide_eq_true hck])
          clear hck
          go_wp2_with fail
          obtain ⟨r1, r2, r3⟩ := H7.out.fin f (.slice A3 l.length c3)
          refine bodyPost_ret (results19 _ _ f A3 l.length c3 .nilIface r1 _ rfl rfl) rfl ⟨.inl ⟨HDT.out, ?_⟩, r3⟩
          rw [← HR.out, HRE.out]
          exact ⟨A3, c3, rfl, codes_of_own r2 rfl, r2⟩
        · have HDT := Lib.hid (show decOk xs = false by rw [HDD2.out, decide_eq_false hck])
          clear hck
          go_wp2_with fail
          obtain ⟨r1, r2, r3⟩ := H7.out.fin 0 (.slice none 0 0)
          exact bodyPost_ret (results19 _ _ 0 none 0 0 (.iface 36 (.int .i64 2)) r1 _ rfl rfl) rfl ⟨.inr ⟨HDT.out, rfl⟩, r3⟩
      · have hev : endV bs bad = .iface 36 (.int .i64 2) := if_neg hok
        rw [hev] at HEN
        have HDT := Lib.hid (show decOk xs = false by rw [HDD.out, decide_eq_false hok, Bool.false_and])
        clear hok hev
        go_wp2_with fail
        refine Calls.mono HEN.out ?_
        rintro e w6 ⟨v, rfl, rfl, rfl⟩
        go_wp2_with fail
        obtain ⟨r1, r2, r3⟩ := HDI5.out.fin 0 (.slice none 0 0)
        exact bodyPost_ret (results19 _ _ 0 none 0 0 (.iface 36 (.int .i64 2)) r1 _ rfl rfl) rfl ⟨.inr ⟨HDT.out, rfl⟩, r3⟩
end Go.Proofs.YtkeckjgihjpfbaaDoor

/- ProgEncodes answers true of whatever program: the walk. -/
namespace Go.Proofs.YtkeckjgihjpfbaaDoor
set_option maxRecDepth 100000
open Go.RowKit

theorem encL_small (x : Ins) (l : Nat) : ∀ b ∈ encL x l, b < 256 := by
  unfold encL
  split <;> exact cntN_small_all _
theorem encI_small {x : Ins} (h : x.Small) : ∀ b ∈ encI x, b < 256 := by
  intro b hb
  unfold encI at hb
  rcases List.mem_cons.1 hb with rfl | hb
  · have := h.op; omega
  · unfold encLs at hb
    obtain ⟨l, _, hl⟩ := List.mem_flatMap.1 hb
    exact encL_small x l b hl
theorem encP_small {f : Nat} {l : List Ins} (h : ∀ x ∈ l, x.Small) : ∀ b ∈ encP f l, b < 256 := by
  intro b hb
  unfold encP at hb
  rcases List.mem_append.1 hb with hb | hb
  · rcases List.mem_append.1 hb with hb | hb
    · exact cntN_small_all _ b hb
    · exact cntN_small_all _ b hb
  · unfold encIs at hb
    obtain ⟨x, hx, hb⟩ := List.mem_flatMap.1 hb
    exact encI_small (h x hx) b hb
theorem encP_len {f : Nat} {l : List Ins} (h : ∀ x ∈ l, x.Small) (hf : f ≤ 1000) (hl : l.length ≤ 32) : (encP f l).length ≤ 2000 := by
  have h1 := encIs_len l (fun x hx => (h x hx).enc)
  have h2 := cntN_len f (by omega)
  have h3 := cntN_len l.length (by omega)
  unfold encP
  rw [List.length_append, List.length_append]
  omega
theorem NewAt.nil {w w' : World} {A : Option Addr} {n c : Nat} (h : NewAt w w' A n c) : A = none → c = 0 ∧ n = 0 := by
  intro hA
  rcases h with ⟨_, h1, h2⟩ | ⟨b, e, _⟩
  · exact ⟨h2, h1⟩
  · rw [hA] at e; cases e
theorem fault_later {w w2 : World} {b : Nat} {v : Int} (h : FaultAt w b v) (hb : Below w.heap.size w w2) : FaultAt w2 b v := (hb.block b (Array.getElem?_eq_some_iff.1 h).1).trans h
theorem box_later {w w2 : World} {b : Nat} {o : Obj} (h : w.heap[b]? = some o) (hb : Below w.heap.size w w2) : w2.heap[b]? = some o := (hb.block b (Array.getElem?_eq_some_iff.1 h).1).trans h
theorem sameP_self' (f : Int) (l : List Ins) : sameP f f l l = true := by simp [sameP]
theorem dec_good {f : Int} {l : List Ins} (h : chk f l = -2) (hn : ∀ x ∈ l, Fits x.n) {w w' : World} {e : Ending} (hd : DecE (encP f.toNat l) w w' e) :
    ∃ A c, e = .returned (.tuple #[.agg #[.int .i64 f, .slice A l.length c], .nilIface]) ∧ Codes w' A l.length l ∧ w'.ownsRow w.heap.size 43 6 (.slice A l.length c) l.length (insV l) := by
  have h1 := dec_back h hn
  have h2 := read_back h hn
  rcases hd with ⟨_, A, c, h3⟩ | ⟨h3, _⟩
  · rw [h2] at h3
    exact ⟨A, c, h3⟩
  · rw [h1] at h3; cases h3
set_option maxHeartbeats 16000000 in
theorem encodes_law (f : Int) (A : Option Addr) (n c : Nat) (l : List Ins) (w : World) (hT : Tab w) (h1 : Codes w A n l) (hn : n ≤ 9223372036854775807) (hnil : A = none → c = 0) (hok : ∀ x ∈ l, Ins.Ok x) :
    Calls Tryd.prog 3 #[.agg #[.int .i64 f, .slice A n c]] w fun e w' => e = .returned (.bool true) ∧ Below w.heap.size w w' := by
  have hb0 := (Below.refl w.heap.size w).alloc (Nat.le_refl _) (.cells #[.int .i64 f, .slice A n c] 24)
  have HAL := Lib.hid (alive_any _ (hT.ext hb0))
  have HB0 := Lib.hid hb0
  have HN0 := Lib.hid (one_new w (.cells #[.int .i64 f, .slice A n c] 24))
  have HT := Lib.hid hT
  have H1 := Lib.hid h1
  have HL := Lib.hid h1.len
  have HFN := Lib.hid (fun x hx => (hok x hx).n)
  clear hb0 hT h1 hok
  go_enter Tryd.func3, Tryd.ntmps3
  go_wp2_with fail
  refine Calls.mono HAL.out ?_
  rintro e w1 ⟨rfl, hb1⟩
  have HB1 := Lib.hid (HB0.out.trans (hb1.mono HB0.out.size))
  have HX1 := Lib.hid (box_later HN0.out hb1)
  have x0 : w1.cell? ⟨w.heap.size, 0, none⟩ = some (.int .i64 f) := cell_of_row w1 _ 0 _ 24 (0, 0) HX1.out
  have x1 : w1.cell? ⟨w.heap.size, 1, none⟩ = some (.slice A n c) := cell_of_row w1 _ 1 _ 24 (0, 0) HX1.out
  have HLA := Lib.hid (large_any f A n c w1)
  clear hb1
  by_cases hl : 100 < n
  · have d1 : decide ((100 : Int) < (n : Int)) = true := decide_eq_true (by omega)
    rw [d1] at HLA
    clear d1
    go_wp2_with fail
    refine Calls.mono HLA.out ?_
    rintro e w2 ⟨rfl, hb2⟩
    have HB2 := Lib.hid (HB1.out.trans (hb2.mono HB1.out.size))
    clear hb2
    go_wp2_with fail
    go_ret
    exact ⟨rfl, HB2.out⟩
  have d1 : decide ((100 : Int) < (n : Int)) = false := decide_eq_false (by omega)
  rw [d1] at HLA
  clear d1
  go_wp2_with fail
  refine Calls.mono HLA.out ?_
  rintro e w2 ⟨rfl, hb2⟩
  have HB2 := Lib.hid (HB1.out.trans (hb2.mono HB1.out.size))
  have HX2 := Lib.hid (box_later HX1.out hb2)
  clear x0 x1 hb2
  have x0 : w2.cell? ⟨w.heap.size, 0, none⟩ = some (.int .i64 f) := cell_of_row w2 _ 0 _ 24 (0, 0) HX2.out
  have x1 : w2.cell? ⟨w.heap.size, 1, none⟩ = some (.slice A n c) := cell_of_row w2 _ 1 _ 24 (0, 0) HX2.out
  have HCP := Lib.hid (copies_any f A n c l w2 (H1.out.ext (stays_b HB2.out)) hnil (by omega))
  go_wp2_with fail
  refine Calls.mono HCP.out ?_
  rintro e w3 ⟨A', c', rfl, hcd, hown, hb3⟩
  clear x0 x1
  have hb3a : Below w2.heap.size w2 (w3.alloc (.cells #[.int .i64 f, .slice A' n c'] 24)) := hb3.alloc hb3.size _
  have HB3 := Lib.hid (HB2.out.trans (hb3a.mono HB2.out.size))
  have HX3 := Lib.hid (box_later HX2.out hb3a)
  have HY3 := Lib.hid (one_new w3 (.cells #[.int .i64 f, .slice A' n c'] 24))
  have HCD := Lib.hid (hcd.ext (stays_b ((Below.refl _ w3).alloc (Nat.le_refl _) (.cells #[.int .i64 f, .slice A' n c'] 24))))
  have HEN := Lib.hid (encode_any f A' n c' l _ (HT.out.ext HB3.out) HCD.out hn HFN.out)
  have hq : w.heap.size < w3.heap.size := by have := (Array.getElem?_eq_some_iff.1 HX2.out).1; have := hb3.size; omega
  clear hcd hown hb3 hb3a
  go_wp2_with fail
  refine Calls.mono HEN.out ?_
  rintro e w4 ⟨he, hb4⟩
  have HB4 := Lib.hid (HB3.out.trans (hb4.mono HB3.out.size))
  have HX4 := Lib.hid (box_later HX3.out hb4)
  have HY4 := Lib.hid (box_later HY3.out hb4)
  have HC4 := Lib.hid (HCD.out.ext (stays_b hb4))
  have HC4p := Lib.hid (H1.out.ext (stays_b HB4.out))
  have x0 : w4.cell? ⟨w.heap.size, 0, none⟩ = some (.int .i64 f) := cell_of_row w4 _ 0 _ 24 (0, 0) HX4.out
  have x1 : w4.cell? ⟨w.heap.size, 1, none⟩ = some (.slice A n c) := cell_of_row w4 _ 1 _ 24 (0, 0) HX4.out
  have y0 : w4.cell? ⟨w3.heap.size, 0, none⟩ = some (.int .i64 f) := cell_of_row w4 _ 0 _ 24 (0, 0) HY4.out
  have y1 : w4.cell? ⟨w3.heap.size, 1, none⟩ = some (.slice A' n c') := cell_of_row w4 _ 1 _ 24 (0, 0) HY4.out
  have hpg := programs_any f f A' A n n c' c l l w4 HC4.out HC4p.out hn hn
  rw [show sameP f f l l = true by simp [sameP]] at hpg
  have HPG := Lib.hid hpg
  clear hb4 hpg
  rcases he with ⟨hck, Ab, cb, rfl, hrb, hnab⟩ | ⟨hck, b, rfl, _, hfa⟩
  · obtain ⟨hh, _⟩ := chk_good hck
    obtain ⟨fn, rfl⟩ := Int.eq_ofNat_of_zero_le (show 0 ≤ f by omega)
    have hfn : fn ≤ 1000 := by omega
    have hn32 : n ≤ 32 := by have := HL.out; omega
    have hn1 : 1 ≤ n := by have := HL.out; omega
    have hsm := good_small hck HFN.out
    have HSM := Lib.hid hsm
    have HEL := Lib.hid (show (encP ((fn : Int).toNat) l).length ≤ 2000 from encP_len hsm (by omega) (by omega))
    have HES := Lib.hid (show ∀ b ∈ encP ((fn : Int).toNat) l, b < 256 from encP_small hsm)
    have HDG := Lib.hid (fun (w w' : World) (e : Ending) (h : DecE (encP ((fn : Int).toNat) l) w w' e) => dec_good hck HFN.out h)
    have HNIL := Lib.hid hnab.nil
    have HRB := Lib.hid hrb
    have HRCK := Lib.hid (fun W (h : Codes W A n l) => (by have h2 := refcheck_any (fn : Int) A n c l W h hn; rw [hck] at h2; exact h2 : Calls Tryd.prog 16 #[.agg #[.int .i64 (fn : Int), .slice A n c]] W fun e w' => e = .returned (.int .i64 (-2)) ∧ Below W.heap.size W w'))
    have HRE := Lib.hid (fun W (h : Codes W A n l) => refenc_any fn A n c l W h hsm hfn hn32)
    obtain ⟨L, hL⟩ : ∃ L, L = encP ((fn : Int).toNat) l := ⟨_, rfl⟩
    have HLE := Lib.hid (show encP fn l = L by rw [hL]; rfl)
    rw [← hL] at HEL HES HDG HNIL HRB ⊢
    clear hL hck hh hsm hrb hnab
    go_wp2_with fail
    refine Calls.mono HPG.out ?_
    rintro e w5 ⟨rfl, hb5⟩
    have HB5 := Lib.hid (HB4.out.trans (hb5.mono HB4.out.size))
    have HX5 := Lib.hid (box_later HX4.out hb5)
    have HY5 := Lib.hid (box_later HY4.out hb5)
    have HC5 := Lib.hid (HC4.out.ext (stays_b hb5))
    have HRB5 := Lib.hid (HRB.out.ext (stays_b hb5))
    clear x0 x1 y0 y1 hb5
    have x0 : w5.cell? ⟨w.heap.size, 0, none⟩ = some (.int .i64 (fn : Int)) := cell_of_row w5 _ 0 _ 24 (0, 0) HX5.out
    have x1 : w5.cell? ⟨w.heap.size, 1, none⟩ = some (.slice A n c) := cell_of_row w5 _ 1 _ 24 (0, 0) HX5.out
    have HRC := Lib.hid (HRCK.out w5 (H1.out.ext (stays_b HB5.out)))
    go_wp2_with fail
    refine Calls.mono HRC.out ?_
    rintro e w6 ⟨rfl, hb6⟩
    have HB6 := Lib.hid (HB5.out.trans (hb6.mono HB5.out.size))
    have HX6 := Lib.hid (box_later HX5.out hb6)
    have HY6 := Lib.hid (box_later HY5.out hb6)
    have HC6 := Lib.hid (HC5.out.ext (stays_b hb6))
    have HRB6 := Lib.hid (HRB5.out.ext (stays_b hb6))
    have HDE := Lib.hid (decode_any Ab L.length cb L w6 (HT.out.ext HB6.out) HRB6.out HNIL.out (by have := HEL.out; omega) HES.out)
    clear x0 x1 hb6
    go_wp2_with fail
    refine Calls.mono HDE.out ?_
    rintro e w7 ⟨he7, hb7⟩
    obtain ⟨A2, c2, rfl, hc7, ho7⟩ := HDG.out _ _ _ he7
    have hb7b := hb7
    have hb7a : Below w6.heap.size w6 (w7.alloc (.cells #[.int .i64 (fn : Int), .slice A2 l.length c2] 24)) := hb7.alloc hb7.size _
    have HB7 := Lib.hid (HB6.out.trans (hb7a.mono HB6.out.size))
    have HX7 := Lib.hid (box_later HX6.out hb7a)
    have HY7 := Lib.hid (box_later HY6.out hb7a)
    have HC7 := Lib.hid (HC6.out.ext (stays_b hb7a))
    have HRB7 := Lib.hid (HRB6.out.ext (stays_b hb7a))
    have hbz : Below w7.heap.size w7 (w7.alloc (.cells #[.int .i64 (fn : Int), .slice A2 l.length c2] 24)) := (Below.refl _ w7).alloc (Nat.le_refl _) _
    have HZ7 := Lib.hid (one_new w7 (.cells #[.int .i64 (fn : Int), .slice A2 l.length c2] 24))
    have HCX7 := Lib.hid (hc7.ext (stays_b hbz))
    have HOW7 := Lib.hid (own_keep ho7 fun b _ _ e => hbz.block b (Array.getElem?_eq_some_iff.1 e).1)
    have HZ := Lib.hid (show w6.heap.size ≤ w7.heap.size from hb7.size)
    have HLL := Lib.hid (show l.length = n from HL.out)
    obtain ⟨W, hW⟩ : ∃ W, W = w7.alloc (.cells #[.int .i64 (fn : Int), .slice A2 l.length c2] 24) := ⟨_, rfl⟩
    have HBW67 := Lib.hid hb7a
    clear he7 hb7 hb7a hb7b hc7 ho7 hbz
    go_upto_region 13 with fail
    rw [← hW] at HB7 HX7 HY7 HC7 HRB7 HZ7 HCX7 HOW7 HBW67 ⊢
    clear hW
    have x0 : W.cell? ⟨w.heap.size, 0, none⟩ = some (.int .i64 (fn : Int)) := cell_of_row W _ 0 _ 24 (0, 0) HX7.out
    have x1 : W.cell? ⟨w.heap.size, 1, none⟩ = some (.slice A n c) := cell_of_row W _ 1 _ 24 (0, 0) HX7.out
    have HRE7 := Lib.hid (HRE.out W (H1.out.ext (stays_b HB7.out)))
    go_wp2_with fail
    refine Calls.mono HRE7.out ?_
    rintro e w8 ⟨v8, rfl, ho8, hb8⟩
    rw [HLE.out] at ho8
    obtain ⟨A8, c8, rfl, hr8, _⟩ := ownB_rdv ho8
    have HB8 := Lib.hid (HB7.out.trans (hb8.mono HB7.out.size))
    have HX8 := Lib.hid (box_later HX7.out hb8)
    have HBW68 := Lib.hid (HBW67.out.trans (hb8.mono HBW67.out.size))
    have HY8 := Lib.hid (box_later HY7.out hb8)
    have HZ8 := Lib.hid (box_later HZ7.out hb8)
    have HC8 := Lib.hid (HC7.out.ext (stays_b hb8))
    have HCX8 := Lib.hid (HCX7.out.ext (stays_b hb8))
    have HOW8 := Lib.hid (own_keep HOW7.out fun b _ _ e => hb8.block b (Array.getElem?_eq_some_iff.1 e).1)
    have hsm8 := same_any Ab A8 L.length cb L.length c8 L L w8 (HRB7.out.ext (stays_b hb8)) hr8 HES.out HES.out
    rw [decide_eq_true rfl] at hsm8
    have HSM8 := Lib.hid hsm8
    clear x0 x1 ho8 hr8 hb8 hsm8
    go_wp2_with fail
    refine Calls.mono HSM8.out ?_
    rintro e w9 ⟨rfl, rfl⟩
    have x0 : w8.cell? ⟨w.heap.size, 0, none⟩ = some (.int .i64 (fn : Int)) := cell_of_row w8 _ 0 _ 24 (0, 0) HX8.out
    have x1 : w8.cell? ⟨w.heap.size, 1, none⟩ = some (.slice A n c) := cell_of_row w8 _ 1 _ 24 (0, 0) HX8.out
    have z0 : w8.cell? ⟨w7.heap.size, 0, none⟩ = some (.int .i64 (fn : Int)) := cell_of_row w8 _ 0 _ 24 (0, 0) HZ8.out
    have z1 : w8.cell? ⟨w7.heap.size, 1, none⟩ = some (.slice A2 l.length c2) := cell_of_row w8 _ 1 _ 24 (0, 0) HZ8.out
    have hp9 := programs_any (fn : Int) (fn : Int) A2 A l.length n c2 c l l w8 HCX8.out (H1.out.ext (stays_b HB8.out)) (by have := HLL.out; omega) hn
    rw [sameP_self'] at hp9
    have HP9 := Lib.hid hp9
    clear hp9
    go_wp2_with fail
    refine Calls.mono HP9.out ?_
    rintro e w9 ⟨rfl, hb9⟩
    have HB9 := Lib.hid (HB8.out.trans (hb9.mono HB8.out.size))
    have HX9 := Lib.hid (box_later HX8.out hb9)
    have HBW69 := Lib.hid (HBW68.out.trans (hb9.mono HBW68.out.size))
    have HY9 := Lib.hid (box_later HY8.out hb9)
    have HZ9 := Lib.hid (box_later HZ8.out hb9)
    have HC9 := Lib.hid (HC8.out.ext (stays_b hb9))
    have HOW9 := Lib.hid (own_keep HOW8.out fun b _ _ e => hb9.block b (Array.getElem?_eq_some_iff.1 e).1)
    clear x0 x1 z0 z1 hb9
    have z1 : w9.cell? ⟨w7.heap.size, 1, none⟩ = some (.slice A2 l.length c2) := cell_of_row w9 _ 1 _ 24 (0, 0) HZ9.out
    go_wp2_with fail
    have hln : l.length = n := HLL.out
    obtain ⟨g, cs0, hg0, hcs0, rfl⟩ : ∃ g cs, w9.heap[g]? = some (.cells cs 43 (0, 0)) ∧ n * 6 ≤ cs.size ∧ A2 = some ⟨g, 0, none⟩ := by
      rcases HOW9.out.2 with ⟨_, h0⟩ | ⟨g, cap, cur, e, _, h2, h3, _, h4, _⟩
      · omega
      · injection e with e1 _ e3
        exact ⟨g, cur, h2, by rw [h4]; have := Nat.mul_le_mul_right 6 h3; omega, e1⟩
    have hgw6 : w6.heap.size ≤ g := by obtain ⟨h, _⟩ := own_cells HOW9.out g rfl; exact h
    have HG0 := Lib.hid hg0
    have hl2 : l.length ≤ 32 := by omega
    have HLN := Lib.hid hln
    clear z1 hln hg0
    go_loopw [69] (fun i wr => ∃ (k : Nat) (cs : Array Value), i = .int .i64 (k : Int) ∧ k ≤ l.length ∧ Below w6.heap.size w9 wr ∧ wr.heap[g]? = some (.cells cs 43 (0, 0)) ∧ n * 6 ≤ cs.size ∧ wr.heap[w7.heap.size]? = some (.cells #[.int .i64 (fn : Int), .slice (some ⟨g, 0, none⟩) l.length c2] 24 (0, 0))) (fun i _ => l.length - (intOf i).toNat)
    case atStart => exact ⟨0, cs0, rfl, by omega, Below.refl _ _, HG0.out, hcs0, HZ9.out⟩
    case round =>
      obtain ⟨k, cs, rfl, hk, hb, hg, hcs, hz⟩ := hrel
      have HBK := Lib.hid hb
      have HGK := Lib.hid hg
      have HZK := Lib.hid hz
      have z1 : wr.cell? ⟨w7.heap.size, 1, none⟩ = some (.slice (some ⟨g, 0, none⟩) l.length c2) := cell_of_row wr _ 1 _ 24 (0, 0) hz
      clear hb hg hz
      by_cases hlt : k < l.length
      · have ha : ∀ j, j < 6 → ∃ v, wr.cell? ⟨g, k * 6 + j, none⟩ = some v := fun j hj => by
          rw [cell_of_row wr _ _ _ 43 (0, 0) HGK.out]
          have h : k * 6 + j < cs.size := by have := HLN.out; omega
          exact ⟨cs[k * 6 + j], Array.getElem?_eq_getElem h⟩
        obtain ⟨v0, a0⟩ := ha 0 (by omega)
        obtain ⟨v1, a1⟩ := ha 1 (by omega)
        obtain ⟨v2, a2⟩ := ha 2 (by omega)
        obtain ⟨v3, a3⟩ := ha 3 (by omega)
        obtain ⟨v4, a4⟩ := ha 4 (by omega)
        obtain ⟨v5, a5⟩ := ha 5 (by omega)
        rw [Nat.add_zero] at a0
        have fz : ∀ o, wr.frozen? ⟨g, o, none⟩ = false := fun o => by simp [World.frozen?, HGK.out]
        have f0 := fz (k * 6)
        have f1 := fz (k * 6 + 1)
        have f2 := fz (k * 6 + 2)
        have f3 := fz (k * 6 + 3)
        have f4 := fz (k * 6 + 4)
        have f5 := fz (k * 6 + 5)
        have hne : w7.heap.size ≠ g := fun e => by have h := HGK.out; rw [← e, HZK.out] at h; cases h
        have HNE := Lib.hid hne
        clear ha fz hne
        go_wp2_with fail
        go_roundw
        case rel => exact ⟨k + 1, _, by go_num, by omega, (((((HBK.out.setCell hgw6 _).setCell hgw6 _).setCell hgw6 _).setCell hgw6 _).setCell hgw6 _).setCell hgw6 _, heap_at (heap_at (heap_at (heap_at (heap_at (heap_at HGK.out _ _) _ _) _ _) _ _) _ _) _ _, by simp; exact hcs, ((((((Deep.blk_setCell_other _ _ _ _ HNE.out).trans (Deep.blk_setCell_other _ _ _ _ HNE.out)).trans (Deep.blk_setCell_other _ _ _ _ HNE.out)).trans (Deep.blk_setCell_other _ _ _ _ HNE.out)).trans (Deep.blk_setCell_other _ _ _ _ HNE.out)).trans (Deep.blk_setCell_other _ _ _ _ HNE.out)).trans HZK.out⟩
        case measure => simp [intOf]; omega
      · have HX10 := Lib.hid ((HBK.out.block w.heap.size (Array.getElem?_eq_some_iff.1 HX6.out).1).trans HX9.out)
        have HY10 := Lib.hid ((HBK.out.block w3.heap.size (Array.getElem?_eq_some_iff.1 HY6.out).1).trans HY9.out)
        have x0 : wr.cell? ⟨w.heap.size, 0, none⟩ = some (.int .i64 (fn : Int)) := cell_of_row wr _ 0 _ 24 (0, 0) HX10.out
        have x1 : wr.cell? ⟨w.heap.size, 1, none⟩ = some (.slice A n c) := cell_of_row wr _ 1 _ 24 (0, 0) HX10.out
        have y0 : wr.cell? ⟨w3.heap.size, 0, none⟩ = some (.int .i64 (fn : Int)) := cell_of_row wr _ 0 _ 24 (0, 0) HY10.out
        have y1 : wr.cell? ⟨w3.heap.size, 1, none⟩ = some (.slice A' n c') := cell_of_row wr _ 1 _ 24 (0, 0) HY10.out
        have hB10 : Below w.heap.size w wr := HB9.out.trans (HBK.out.mono (by have := HB6.out.size; omega))
        have hk69 : ∀ p : Addr, p.block < w6.heap.size → wr.cell? p = w6.cell? p := fun p hp => (HBK.out.cell hp).trans (HBW69.out.cell hp)
        have hp10 := programs_any (fn : Int) (fn : Int) A' A n n c' c l l wr (HC6.out.ext hk69) (H1.out.ext (stays_b hB10)) hn hn
        rw [sameP_self'] at hp10
        have HP10 := Lib.hid hp10
        have HB10 := Lib.hid hB10
        clear hB10 hk69 hp10 z1
        go_wp2_with fail
        refine Calls.mono HP10.out ?_
        rintro e w11 ⟨rfl, hb11⟩
        have HB11 := Lib.hid (HB10.out.trans (hb11.mono HB10.out.size))
        clear hb11
        go_wp2_with fail
        go_ret
        exact ⟨rfl, HB11.out⟩
  · have HFA := Lib.hid hfa
    have HCK := Lib.hid hck
    clear hck hfa
    go_wp2_with fail
    refine Calls.mono HPG.out ?_
    rintro e w5 ⟨rfl, hb5⟩
    have HB5 := Lib.hid (HB4.out.trans (hb5.mono HB4.out.size))
    have HX5 := Lib.hid (box_later HX4.out hb5)
    have HF5 := Lib.hid (fault_later HFA.out hb5)
    clear x0 x1 y0 y1 hb5
    have x0 : w5.cell? ⟨w.heap.size, 0, none⟩ = some (.int .i64 f) := cell_of_row w5 _ 0 _ 24 (0, 0) HX5.out
    have x1 : w5.cell? ⟨w.heap.size, 1, none⟩ = some (.slice A n c) := cell_of_row w5 _ 1 _ 24 (0, 0) HX5.out
    have HRC := Lib.hid (refcheck_any f A n c l w5 (H1.out.ext (stays_b HB5.out)) hn)
    obtain ⟨ck, hck⟩ : ∃ ck, ck = chk f l := ⟨_, rfl⟩
    rw [← hck] at HRC HF5 HCK
    have d2 : (ck != -2) = true := by rw [bne_iff_ne]; exact HCK.out
    have d3 : (ck == ck) = true := by simp
    clear hck
    go_wp2_with fail
    refine Calls.mono HRC.out ?_
    rintro e w6 ⟨rfl, hb6⟩
    have HB6 := Lib.hid (HB5.out.trans (hb6.mono HB5.out.size))
    have HF6 := Lib.hid (fault_later HF5.out hb6)
    have HIS := Lib.hid (is_fault b ck w6 HF6.out)
    have HAT := Lib.hid (at_fault b ck w6 HF6.out)
    clear hb6
    go_wp2_with fail
    refine Calls.mono HIS.out ?_
    rintro e w7 ⟨rfl, rfl⟩
    go_wp2_with fail
    refine Calls.mono HAT.out ?_
    rintro e w7 ⟨rfl, rfl⟩
    go_wp2_with fail
    go_ret
    exact ⟨rfl, HB6.out⟩
end Go.Proofs.YtkeckjgihjpfbaaDoor
