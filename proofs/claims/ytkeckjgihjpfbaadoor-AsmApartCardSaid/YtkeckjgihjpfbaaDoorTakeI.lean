/- The contract of prog.take: an instruction that is read. -/
import Derived.Test.YtkeckjgihjpfbaaDoorPut
import Derived.Test.YtkeckjgihjpfbaaDoorStr
namespace Go.Proofs.YtkeckjgihjpfbaaDoor
set_option maxRecDepth 100000
open Go.RowKit

def wrapI (n : Nat) : Int := IntKind.i64.wrap (n : Int)
theorem wrapI_fits (n : Nat) : Fits (wrapI n) := by unfold wrapI Fits; rw [IntKind.wrap_i64]; omega
theorem wrapI_small (n : Nat) (h : n ≤ 9223372036854775807) : wrapI n = (n : Int) := by unfold wrapI; rw [IntKind.wrap_i64]; omega
theorem unfoldN_fits (n : Nat) (h : n < 18446744073709551616) : Fits (unfoldN n) := by unfold unfoldN Fits; split <;> omega
def stepL (s : Ins × List Nat × Bool) (l : Nat) : Ins × List Nat × Bool := (s.1.set (offL l) (if l = 110 then unfoldN (rcount s.2.1).1 else wrapI (rcount s.2.1).1), (rcount s.2.1).2.1, (rcount s.2.1).2.2)
def startI (bs : List Nat) (bad : Bool) : Ins × List Nat × Bool := ({ Ins.zero with op := (byteT bs : Int) }, bs.drop 1, bad || decide (bs.length = 0))
/-- An instruction that is read. -/
def takeI (bs : List Nat) (bad : Bool) : Ins × List Nat × Bool := (shapeL (byteT bs : Int)).foldl stepL (startI bs bad)
def takeL (bs : List Nat) (bad : Bool) (k : Nat) : Ins × List Nat × Bool := ((shapeL (byteT bs : Int)).take k).foldl stepL (startI bs bad)
theorem takeL_succ (bs : List Nat) (bad : Bool) (k : Nat) (hk : k < (shapeL (byteT bs : Int)).length) : takeL bs bad (k + 1) = stepL (takeL bs bad k) (shapeL (byteT bs : Int))[k] := by
  unfold takeL
  rw [List.take_succ_eq_append_getElem hk, List.foldl_append]
  rfl
theorem takeL_all (bs : List Nat) (bad : Bool) (k : Nat) (hk : (shapeL (byteT bs : Int)).length = k) : takeL bs bad k = takeI bs bad := by
  unfold takeL takeI
  rw [← hk, List.take_length]
theorem Rdr.alloc {w : World} {B : Nat → Prop} {V : Value} {bs : List Nat} {bad : Bool} (h : Rdr w B V bs bad) (o : Obj) : Rdr (w.alloc o) B V bs bad := h.stays (by simp) (fun k hk _ => heap_alloc_old w o hk)
theorem Only.alloc (w : World) (o : Obj) (V : Value) : Only w (w.alloc o) V := Only.of_below ((Below.refl _ w).alloc (Nat.le_refl _) o)
theorem Rdr.lt {w : World} {B : Nat → Prop} {V : Value} {bs : List Nat} {bad : Bool} (h : Rdr w B V bs bad) : ∀ k, V = .pointer (Option.some ⟨k, 0, Option.none⟩) → k < w.heap.size := by
  cases h with
  | none => intro k hk; cases hk
  | some g _ _ _ _ _ _ block => intro k hk; injection hk with hk; injection hk with hk; injection hk with hk; rw [← hk]; exact (Array.getElem?_eq_some_iff.1 block).1
theorem Rdr.setNew {w : World} {B : Nat → Prop} {V : Value} {bs : List Nat} {bad : Bool} (h : Rdr w B V bs bad) (g o : Nat) (u : Value) (hg : ¬ B g) : Rdr (w.setCell ⟨g, o, Option.none⟩ u) B V bs bad :=
  h.stays (by rw [World.size_setCell]; exact Nat.le_refl _) (fun k _ hk => Deep.blk_setCell_other w ⟨g, o, Option.none⟩ u k (fun e => hg (by have : k = g := e; rw [← this]; exact hk)))
/-- Nothing but what V points at is changed of what stood in w. -/
theorem Only.setNew {w w1 : World} {V : Value} (h : Only w w1 V) (g o : Nat) (u : Value) (hg : w.heap.size ≤ g) : Only w (w1.setCell ⟨g, o, none⟩ u) V :=
  ⟨h.os, h.tape, h.output, by rw [World.size_setCell]; exact h.size, fun k hk hv => (Deep.blk_setCell_other w1 ⟨g, o, none⟩ u k (by show k ≠ g; omega)).trans (h.block k hk hv)⟩
theorem Tab.only {w w' : World} {V : Value} (h : Tab w) (k : Only w w' V) (hV : V ≠ .pointer (some ⟨0, 0, none⟩)) : Tab w' := fun i hi => by
  rw [← h i hi]
  exact World.cell?_of_block (k.block 0 (tab_size h) hV)
theorem byteT_lt {bs : List Nat} (h : ∀ x ∈ bs, x < 256) : byteT bs < 256 := by
  cases bs with
  | nil => decide
  | cons x t => exact h x (List.mem_cons_self ..)
def zeroArr : Array Value := #[.int .i64 0, .int .i64 0, .int .i64 0, .int .i64 0, .int .i64 0, .int .i64 0]
theorem results45 (w : World) (g : Nat) (x : Ins) (h : w.heap[g]? = some (.cells x.vals.toArray 43 (0, 0))) (tmps : Array Value) (h2 : tmps.getD 2 undef = .pointer (some ⟨g, 0, none⟩)) :
    (results Tryd.f45 tmps).run Tryd.prog w = .ok x.val w := by
  have h2' : tmps[2]?.getD undef = .pointer (some ⟨g, 0, none⟩) := by simpa using h2
  have c0 : w.cell? ⟨g, 0, none⟩ = some (.int .i64 x.op) := cell_of_row w g 0 _ 43 (0, 0) h
  have c1 : w.cell? ⟨g, 1, none⟩ = some (.int .i64 x.a) := cell_of_row w g 1 _ 43 (0, 0) h
  have c2 : w.cell? ⟨g, 2, none⟩ = some (.int .i64 x.b) := cell_of_row w g 2 _ 43 (0, 0) h
  have c3 : w.cell? ⟨g, 3, none⟩ = some (.int .i64 x.c) := cell_of_row w g 3 _ 43 (0, 0) h
  have c4 : w.cell? ⟨g, 4, none⟩ = some (.int .i64 x.t) := cell_of_row w g 4 _ 43 (0, 0) h
  have c5 : w.cell? ⟨g, 5, none⟩ = some (.int .i64 x.n) := cell_of_row w g 5 _ 43 (0, 0) h
  have e : Tryd.f45.results = #[.cell 2 43] := Tryd.results45
  have hl : (loadVar 43 ⟨g, 0, none⟩).run Tryd.prog w = .ok x.val w := by simp [go_sem, c0, c1, c2, c3, c4, c5, Ins.val]
  simp only [results, e]
  simp [asAddr, h2', hl]
theorem heap_at {w : World} {g : Nat} {cs : Array Value} {t : TypeId} (h : w.heap[g]? = some (.cells cs t (0, 0))) (k : Nat) (v : Value) : (w.setCell ⟨g, k, none⟩ v).heap[g]? = some (.cells (cs.setIfInBounds k v) t (0, 0)) := by
  simp [World.setCell, Array.getElem?_modify, h]
/-- Six cells stored. -/
def set6 (w : World) (g : Nat) (x : Ins) : World := (((((w.setCell ⟨g, 0, none⟩ (.int .i64 x.op)).setCell ⟨g, 1, none⟩ (.int .i64 x.a)).setCell ⟨g, 2, none⟩ (.int .i64 x.b)).setCell ⟨g, 3, none⟩ (.int .i64 x.c)).setCell ⟨g, 4, none⟩ (.int .i64 x.t)).setCell ⟨g, 5, none⟩ (.int .i64 x.n)
theorem set6_at {w : World} {g : Nat} {y : Ins} (h : w.heap[g]? = some (.cells y.vals.toArray 43 (0, 0))) (x : Ins) : (set6 w g x).heap[g]? = some (.cells x.vals.toArray 43 (0, 0)) := by
  unfold set6
  have h0 := heap_at h 0 (.int .i64 x.op)
  have h1 := heap_at h0 1 (.int .i64 x.a)
  have h2 := heap_at h1 2 (.int .i64 x.b)
  have h3 := heap_at h2 3 (.int .i64 x.c)
  have h4 := heap_at h3 4 (.int .i64 x.t)
  exact heap_at h4 5 (.int .i64 x.n)
theorem set6_only {w w1 : World} {V : Value} (h : Only w w1 V) (g : Nat) (x : Ins) (hg : w.heap.size ≤ g) : Only w (set6 w1 g x) V :=
  (((((h.setNew g 0 _ hg).setNew g 1 _ hg).setNew g 2 _ hg).setNew g 3 _ hg).setNew g 4 _ hg).setNew g 5 _ hg
theorem set6_rdr {w : World} {B : Nat → Prop} {V : Value} {bs : List Nat} {bad : Bool} (h : Rdr w B V bs bad) (g : Nat) (x : Ins) (hg : ¬ B g) : Rdr (set6 w g x) B V bs bad :=
  (((((h.setNew g 0 _ hg).setNew g 1 _ hg).setNew g 2 _ hg).setNew g 3 _ hg).setNew g 4 _ hg).setNew g 5 _ hg
/-- What stands in take's round. -/
structure TI (w : World) (q : Nat) (wr : World) (B : Nat → Prop) (V : Value) (s : Ins × List Nat × Bool) : Prop where
  rdr : Rdr wr B V s.2.1 s.2.2
  only : Only w wr V
  out : wr.heap[w.heap.size]? = some (.cells zeroArr 43 (0, 0))
  cur : wr.heap[q]? = some (.cells s.1.vals.toArray 43 (0, 0))
  lo : w.heap.size + 1 ≤ q
  lt : q + 1 ≤ wr.heap.size
theorem TI.step {w wr w2 : World} {q : Nat} {B : Nat → Prop} {V : Value} {s : Ins × List Nat × Bool} {bs : List Nat} {bad : Bool} (h : TI w q wr B V s) (hV : ∀ k, V = .pointer (some ⟨k, 0, none⟩) → k < w.heap.size) (hr : Rdr w2 B V bs bad) (ho : Only wr w2 V) : TI w q w2 B V (s.1, bs, bad) :=
  ⟨hr, h.only.trans ho, (ho.block _ (by have := h.lt; have := h.lo; omega) (fun e => by have := hV _ e; omega)).trans h.out, (ho.block _ (by have := h.lt; omega) (fun e => by have := hV _ e; have := h.lo; omega)).trans h.cur, h.lo, Nat.le_trans h.lt ho.size⟩
theorem TI.put {w wr : World} {q : Nat} {B : Nat → Prop} {V : Value} {s : Ins × List Nat × Bool} (h : TI w q wr B V s) (hB : ∀ k, B k → k < w.heap.size) (o : Nat) (ho : 1 ≤ o ∧ o ≤ 5) (v : Int) : TI w q (wr.setCell ⟨q, o, none⟩ (.int .i64 v)) B V (s.1.set o v, s.2) :=
  ⟨h.rdr.setNew q o _ (fun e => by have := hB _ e; have := h.lo; omega), h.only.setNew _ _ _ (by have := h.lo; omega), (Deep.blk_setCell_other wr _ _ _ (by show w.heap.size ≠ q; have := h.lo; omega)).trans h.out, heap_set h.cur ho v, h.lo, by rw [World.size_setCell]; exact h.lt⟩
theorem TI.start {w w1 : World} {B : Nat → Prop} {V : Value} {bs : List Nat} {bad : Bool} (b : Nat) (hr : Rdr w1 B V bs bad) (ho : Only (w.alloc (.cells #[.int .i64 0, .int .i64 0, .int .i64 0, .int .i64 0, .int .i64 0, .int .i64 0] 43)) w1 V) (hV : ∀ k, V = .pointer (some ⟨k, 0, none⟩) → k < w.heap.size) :
    TI w w1.heap.size (w1.alloc (.cells #[.int .i64 (b : Int), .int .i64 0, .int .i64 0, .int .i64 0, .int .i64 0, .int .i64 0] 43)) B V ({ Ins.zero with op := (b : Int) }, bs, bad) := by
  have hl := ho.size
  rw [World.size_alloc] at hl
  refine ⟨hr.alloc _, ((Only.alloc w _ V).trans ho).trans (Only.alloc w1 _ V), ?_, heap_alloc_new w1 _, hl, by rw [World.size_alloc]; exact Nat.le_refl _⟩
  exact (heap_alloc_old w1 _ (by omega)).trans ((ho.block _ (by rw [World.size_alloc]; omega) (fun e => by have := hV _ e; omega)).trans (heap_alloc_new w _))
theorem TI.fin {w wr : World} {q : Nat} {B : Nat → Prop} {V : Value} {s : Ins × List Nat × Bool} (h : TI w q wr B V s) (hB : ∀ k, B k → k < w.heap.size) :
    Rdr (set6 wr w.heap.size s.1) B V s.2.1 s.2.2 ∧ Only w (set6 wr w.heap.size s.1) V ∧ (set6 wr w.heap.size s.1).heap[w.heap.size]? = some (.cells s.1.vals.toArray 43 (0, 0)) :=
  ⟨set6_rdr h.rdr _ _ (fun e => by have := hB _ e; omega), set6_only h.only _ _ (Nat.le_refl _), set6_at (y := Ins.zero) h.out s.1⟩
set_option maxHeartbeats 4000000 in
theorem takeI_any (B : Nat → Prop) (V : Value) (bs : List Nat) (bad : Bool) (w : World) (hT : Tab w) (h : Rdr w B V bs bad) (hV : V ≠ .pointer (some ⟨0, 0, none⟩)) (hB : ∀ k, B k → k < w.heap.size) :
    Calls Tryd.prog 45 #[V] w fun e w' => e = .returned (takeI bs bad).1.val ∧ Rdr w' B V (takeI bs bad).2.1 (takeI bs bad).2.2 ∧ Only w w' V := by
  have HVL := Lib.hid h.lt
  have HB := Lib.hid hB
  have HT := Lib.hid hT
  have HV := Lib.hid hV
  have hb256 := byteT_lt h.small'
  have HY := Lib.hid (rbyte_any B V bs bad (w.alloc (.cells #[.int .i64 0, .int .i64 0, .int .i64 0, .int .i64 0, .int .i64 0, .int .i64 0] 43)) (h.alloc _))
  have HS0 := Lib.hid (show startI bs bad = ({ Ins.zero with op := (byteT bs : Int) }, bs.drop 1, bad || decide (bs.length = 0)) from rfl)
  have HTL := Lib.hid (takeL_succ bs bad)
  have HTA := Lib.hid (takeL_all bs bad)
  have HT0 := Lib.hid (show takeL bs bad 0 = startI bs bad from rfl)
  obtain ⟨ls, hls⟩ : ∃ ls, ls = shapeL (byteT bs : Int) := ⟨_, rfl⟩
  have HSM := Lib.hid (show ∀ y ∈ ls, y < 256 by rw [hls]; exact shapeL_small _)
  have hlen : ls.length ≤ 5 := by rw [hls]; exact shapeL_len _
  have HSH := Lib.hid (fun W (h : Tab W) => (by have h1 := shape_any (byteT bs : Int) W h; rw [← hls] at h1; exact h1 : Calls Tryd.prog 25 #[.int .i64 (byteT bs : Int)] W fun e w' => e = .returned (.tuple #[.string (strN ls), .bool (okOp (byteT bs : Int))]) ∧ W = w'))
  rw [← hls] at HTL HTA
  obtain ⟨b, hb⟩ : ∃ b, b = byteT bs := ⟨_, rfl⟩
  rw [← hb] at hb256 HY HS0 HSH
  obtain ⟨s, hs⟩ : ∃ s, s = strN ls := ⟨_, rfl⟩
  obtain ⟨m, hm⟩ : ∃ m, m = ls.length := ⟨_, rfl⟩
  have hsz : s.size = m := by rw [hs, strN_size, hm]
  have HIX := Lib.hid (fun k (hk : k < ls.length) w => (by rw [hs]; exact idx_str ls HSM.out k hk w : (Instr.index 9 (.string s) (.int .i64 (k : Int))).run Tryd.prog w = .ok (.int .u8 ((ls[k] : Nat) : Int)) w))
  rw [← hs] at HSH
  have HM := Lib.hid hm
  rw [← hm] at hlen
  have e1 : IntKind.i64.wrap (b : Int) = ((b : Nat) : Int) := by rw [IntKind.wrap_i64]; omega
  clear h hV hB hT hls hb hs hm
  go_enter Tryd.func45, Tryd.ntmps45
  go_wp2_with fail
  refine Calls.mono HY.out ?_
  rintro e w1 ⟨rfl, hr1, ho1⟩
  have HR1 := Lib.hid hr1
  have HO1 := Lib.hid ho1
  have hl1 := ho1.size
  rw [World.size_alloc] at hl1
  clear hr1 ho1
  go_wp2_with fail
  have HTI0 := Lib.hid (TI.start b HR1.out HO1.out HVL.out)
  have HT1 := Lib.hid (HT.out.only HTI0.out.only HV.out)
  refine Calls.mono (HSH.out _ HT1.out) ?_
  rintro e w2 ⟨rfl, rfl⟩
  go_wp2_with fail
  go_loopw [19] (fun i wr => ∃ k : Nat, i = .int .i64 (k : Int) ∧ k ≤ m ∧ TI w w1.heap.size wr B V (takeL bs bad k)) (fun i _ => m - (intOf i).toNat)
  case atStart => exact ⟨0, rfl, by omega, by rw [HT0.out, HS0.out]; exact HTI0.out⟩
  case round =>
    obtain ⟨k, rfl, hk, hti⟩ := hrel
    obtain ⟨S, hS⟩ : ∃ S, S = takeL bs bad k := ⟨_, rfl⟩
    rw [← hS] at hti
    obtain ⟨x, bs', bad'⟩ := S
    have HS := Lib.hid hS
    have HTI := Lib.hid hti
    have hlo := hti.lo
    have hlt2 := hti.lt
    clear hti hS
    by_cases hlt : k < m
    · have hkl : k < ls.length := by rw [← HM.out]; exact hlt
      have hix := HIX.out k hkl
      have hnx := HTL.out k hkl
      rw [← HS.out] at hnx
      obtain ⟨l, hl⟩ : ∃ l, l = ls[k] := ⟨_, rfl⟩
      rw [← hl] at hix hnx
      have HNX := Lib.hid hnx
      have hl256 : l < 256 := by rw [hl]; exact HSM.out _ (List.getElem_mem hkl)
      clear hl hnx
      by_cases h110 : l = 110
      · have d1 : ((l : Int) == 110) = true := by rw [beq_iff_eq]; omega
        have HN := Lib.hid (rnum_any B V bs' bad' wr HTI.out.rdr)
        have HNY := Lib.hid (show takeL bs bad (k + 1) = (x.set 5 (unfoldN (rcount bs').1), (rcount bs').2.1, (rcount bs').2.2) by rw [HNX.out, h110]; rfl)
        clear h110
        go_wp2_with fail
        refine Calls.mono HN.out ?_
        rintro e w2 ⟨rfl, hr2, ho2⟩
        have h2 := HTI.out.step HVL.out hr2 ho2
        have H2 := Lib.hid h2
        have c5 : w2.cell? ⟨w1.heap.size, 5, none⟩ = some (.int .i64 x.n) := cell_of_row w2 _ 5 _ 43 (0, 0) h2.cur
        have f5 : w2.frozen? ⟨w1.heap.size, 5, none⟩ = false := by simp [World.frozen?, h2.cur]
        clear hr2 ho2 h2
        go_wp2_with fail
        go_roundw
        case rel => exact ⟨k + 1, by go_num, by omega, by rw [HNY.out]; exact H2.out.put HB.out 5 (by decide) _⟩
        case measure => simp [intOf]; omega
      · have d1 : ((l : Int) == 110) = false := by rw [beq_eq_false_iff_ne]; omega
        obtain ⟨o, ho⟩ : ∃ o, o = offL l := ⟨_, rfl⟩
        have hol := offL_le l
        have HF := Lib.hid (field_any w1.heap.size l wr)
        have HN := Lib.hid (rcount_any B V bs' bad' wr HTI.out.rdr)
        have HNY := Lib.hid (show takeL bs bad (k + 1) = (x.set o (wrapI (rcount bs').1), (rcount bs').2.1, (rcount bs').2.2) by rw [HNX.out, ho]; unfold stepL; rw [if_neg h110])
        rw [← ho] at HF hol
        obtain ⟨z, hz⟩ : ∃ z, z = wrapI (rcount bs').1 := ⟨_, rfl⟩
        have hw : IntKind.i64.wrap ((rcount bs').1 : Int) = z := by rw [hz]; rfl
        rw [← hz] at HNY
        obtain ⟨u, hu⟩ : ∃ u, u = (rcount bs').1 := ⟨_, rfl⟩
        have hult := rcount_lt bs' HTI.out.rdr.small'
        rw [← hu] at hw HN hult
        clear h110 ho hz hu
        have HOL := Lib.hid hol
        clear hol
        go_wp2_with fail
        refine Calls.mono HF.out ?_
        rintro e w2 ⟨rfl, rfl⟩
        go_wp2_with fail
        refine Calls.mono HN.out ?_
        rintro e w2 ⟨rfl, hr2, ho2⟩
        have h2 := HTI.out.step HVL.out hr2 ho2
        have H2 := Lib.hid h2
        obtain ⟨y, hy⟩ : ∃ y, x.vals.toArray[o]? = some (.int .i64 y) := ⟨_, get_at _ o HOL.out⟩
        have c5 : w2.cell? ⟨w1.heap.size, o, none⟩ = some (.int .i64 y) := (cell_of_row w2 _ o _ 43 (0, 0) h2.cur).trans hy
        have f5 : w2.frozen? ⟨w1.heap.size, o, none⟩ = false := by simp [World.frozen?, h2.cur]
        clear hr2 ho2 h2 hy
        go_wp2_with fail
        go_roundw
        case rel => exact ⟨k + 1, by go_num, by omega, by rw [HNY.out]; exact H2.out.put HB.out o HOL.out _⟩
        case measure => simp [intOf]; omega
    · obtain rfl : k = m := by omega
      have hcu := HTI.out.cur
      have hou := HTI.out.out
      have g0 : wr.cell? ⟨w1.heap.size, 0, none⟩ = some (.int .i64 x.op) := cell_of_row wr _ 0 _ 43 (0, 0) hcu
      have g1 : wr.cell? ⟨w1.heap.size, 1, none⟩ = some (.int .i64 x.a) := cell_of_row wr _ 1 _ 43 (0, 0) hcu
      have g2 : wr.cell? ⟨w1.heap.size, 2, none⟩ = some (.int .i64 x.b) := cell_of_row wr _ 2 _ 43 (0, 0) hcu
      have g3 : wr.cell? ⟨w1.heap.size, 3, none⟩ = some (.int .i64 x.c) := cell_of_row wr _ 3 _ 43 (0, 0) hcu
      have g4 : wr.cell? ⟨w1.heap.size, 4, none⟩ = some (.int .i64 x.t) := cell_of_row wr _ 4 _ 43 (0, 0) hcu
      have g5 : wr.cell? ⟨w1.heap.size, 5, none⟩ = some (.int .i64 x.n) := cell_of_row wr _ 5 _ 43 (0, 0) hcu
      have z0 : wr.cell? ⟨w.heap.size, 0, none⟩ = some (.int .i64 0) := cell_of_row wr _ 0 _ 43 (0, 0) hou
      have z1 : wr.cell? ⟨w.heap.size, 1, none⟩ = some (.int .i64 0) := cell_of_row wr _ 1 _ 43 (0, 0) hou
      have z2 : wr.cell? ⟨w.heap.size, 2, none⟩ = some (.int .i64 0) := cell_of_row wr _ 2 _ 43 (0, 0) hou
      have z3 : wr.cell? ⟨w.heap.size, 3, none⟩ = some (.int .i64 0) := cell_of_row wr _ 3 _ 43 (0, 0) hou
      have z4 : wr.cell? ⟨w.heap.size, 4, none⟩ = some (.int .i64 0) := cell_of_row wr _ 4 _ 43 (0, 0) hou
      have z5 : wr.cell? ⟨w.heap.size, 5, none⟩ = some (.int .i64 0) := cell_of_row wr _ 5 _ 43 (0, 0) hou
      have fz : ∀ o, wr.frozen? ⟨w.heap.size, o, none⟩ = false := fun o => by simp [World.frozen?, hou]
      have f0 := fz 0
      have f1 := fz 1
      have f2 := fz 2
      have f3 := fz 3
      have f4 := fz 4
      have f5 := fz 5
      have HEND := Lib.hid (HTA.out k HM.out.symm)
      clear hcu hou fz
      go_wp2_with fail
      obtain ⟨r1, r2, r3⟩ := HTI.out.fin HB.out
      refine bodyPost_ret (results45 _ _ x r3 _ rfl) rfl ?_
      rw [← HEND.out, ← HS.out]
      exact ⟨rfl, r1, r2⟩
end Go.Proofs.YtkeckjgihjpfbaaDoor
