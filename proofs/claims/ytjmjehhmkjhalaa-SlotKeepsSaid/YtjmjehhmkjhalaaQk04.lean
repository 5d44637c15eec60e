/- SlLong, DOpenK, SlOpO: put together. -/
import Derived.Test.YtjmjehhmkjhalaaQk02
import Derived.Test.YtjmjehhmkjhalaaQk03
import Derived.Test.YtjmjehhmkjhalaaQb34
import Derived.Test.YtjmjehhmkjhalaaQb17
import Derived.Test.YtjmjehhmkjhalaaQb22
import Derived.Test.YtjmjehhmkjhalaaQb30
/- An act as it lies; whether there is more than is played. -/
namespace Go.Proofs.Ytjmjehhmkjhalaa
set_option maxRecDepth 100000
open Go.RowKit

/-- An act, as it lies: m with its heads at A, a sector, k kept ones at B. -/
structure O15 where
  kind : Int
  n : Int
  m : Mf
  A : Option Addr
  c : Nat
  x : Sx
  B : Option Addr
  k : Nat
  d : Nat
def O15.vals (o : O15) : List Value := .int .i64 o.kind :: .int .i64 o.n :: .int .i64 o.m.gen :: .int .i64 o.m.epoch :: .int .i64 o.m.base :: .int .i64 o.m.area :: .int .i64 o.m.len :: .slice o.A o.m.heads.length o.c :: (o.x.vals ++ [.slice o.B o.k o.d])
def O15.arr (o : O15) : Array Value := o.vals.toArray
theorem O15.vlen (o : O15) : o.vals.length = 73 := by unfold O15.vals; simp [o.x.vlen]
theorem O15.size (o : O15) : o.arr.size = 73 := by unfold O15.arr; rw [List.size_toArray, o.vlen]
theorem O15.toList (o : O15) : o.arr.toList = o.vals := by simp [O15.arr]
theorem O15.last (o : O15) : o.vals[72]? = some (.slice o.B o.k o.d) := by
  unfold O15.vals
  show (o.x.vals ++ [.slice o.B o.k o.d])[64]? = _
  rw [List.getElem?_append_right (by rw [o.x.vlen]; decide), o.x.vlen]
  rfl
theorem O15.one (o : O15) : ∀ u ∈ o.vals, u.oneCell' = true := by
  intro u hu
  unfold O15.vals at hu
  simp only [List.mem_cons, List.mem_append, List.not_mem_nil, or_false] at hu
  rcases hu with rfl | rfl | rfl | rfl | rfl | rfl | rfl | rfl | hu | rfl
  · rfl
  · rfl
  · rfl
  · rfl
  · rfl
  · rfl
  · rfl
  · rfl
  · exact o.x.one u hu
  · rfl
theorem O15.all_one (o : O15) : o.arr.all (·.oneCell') = true := by
  rw [Array.all_eq_true]
  intro i hi
  exact o.one (o.arr[i]) (by rw [← o.toList]; exact Array.getElem_mem_toList ..)
def O15.zero : O15 := ⟨0, 0, mf0, none, 0, Sx.zero, none, 0, 0⟩
theorem zero_o15 : (#[.int .i64 0, .int .i64 0, .int .i64 0, .int .i64 0, .int .i64 0, .int .i64 0, .int .i64 0, .slice none 0 0, .int .u8 0, .int .u8 0, .int .u8 0, .int .u8 0, .int .u8 0, .int .u8 0, .int .u8 0, .int .u8 0, .int .u8 0, .int .u8 0, .int .u8 0, .int .u8 0, .int .u8 0, .int .u8 0, .int .u8 0, .int .u8 0, .int .u8 0, .int .u8 0, .int .u8 0, .int .u8 0, .int .u8 0, .int .u8 0, .int .u8 0, .int .u8 0, .int .u8 0, .int .u8 0, .int .u8 0, .int .u8 0, .int .u8 0, .int .u8 0, .int .u8 0, .int .u8 0, .int .u8 0, .int .u8 0, .int .u8 0, .int .u8 0, .int .u8 0, .int .u8 0, .int .u8 0, .int .u8 0, .int .u8 0, .int .u8 0, .int .u8 0, .int .u8 0, .int .u8 0, .int .u8 0, .int .u8 0, .int .u8 0, .int .u8 0, .int .u8 0, .int .u8 0, .int .u8 0, .int .u8 0, .int .u8 0, .int .u8 0, .int .u8 0, .int .u8 0, .int .u8 0, .int .u8 0, .int .u8 0, .int .u8 0, .int .u8 0, .int .u8 0, .int .u8 0, .slice none 0 0] : Array Value) = O15.zero.arr := rfl
theorem zeroOp (w : World) : (zeroValue 108).run Try.prog w = .ok (.agg O15.zero.arr) w := by
  rw [← zero_o15]
  kernel_rfl
theorem infoOp : (Try.prog.info? 108).map (·.size) = some 73 := by kernel_rfl
theorem storeVar_op (w1 : World) (o : O15) : (storeVar 108 ⟨w1.heap.size, 0, none⟩ (.agg o.arr)).run Try.prog (w1.alloc (.cells O15.zero.arr 108)) = .ok () (w1.alloc (.cells o.arr 108)) := by
  have h2 := run_storeCells_new (P := Try.prog) w1 108 O15.zero.arr o.arr (by rw [o.size]; exact infoOp) (by rw [o.size, O15.size]) o.all_one
  cases hq : Try.prog.info? 108 with
  | none => have := infoOp; rw [hq] at this; cases this
  | some i =>
    have hs : i.size = 73 := by have := infoOp; rw [hq] at this; simpa using this
    simp [storeVar, sizeOf, typeInfo, hq, Value.cells, hs, o.size]
    exact h2
abbrev O15s (w : World) (A : Option Addr) (l : List O15) : Prop := RowAt O15.vals 73 w A l.length l
theorem O15s.at {w : World} {A : Option Addr} {l : List O15} (h : O15s w A l) (hn : 0 < l.length) : ∃ b off, A = some ⟨b, off, none⟩ ∧ ∀ q (hq : q < l.length), At w b (off + q * 73) l[q].vals := by
  obtain ⟨b, off, e, hc⟩ := RowAt.cells h O15.vlen hn
  refine ⟨b, off, e, fun q hq r u hr => hc q hq r u ?_ hr⟩
  have := (List.getElem?_eq_some_iff.1 hr).1
  rwa [O15.vlen] at this
theorem load_op {w : World} {b off : Nat} {o : O15} (h : At w b off o.vals) : (loadVar 108 ⟨b, off, none⟩).run Try.prog w = .ok (.agg o.arr) w :=
  run_loadVar_at 108 _ o.arr (by rw [o.toList]; exact h) Try.underlying108 rfl (by rw [o.size]; exact infoOp)
/-- What an act's block holds. -/
theorem op_cells {w : World} {b : Nat} {o : O15} (h : w.heap[b]? = some (.cells o.arr 108 (0, 0))) :
    w.cell? ⟨b, 0, none⟩ = some (.int .i64 o.kind) ∧ w.cell? ⟨b, 1, none⟩ = some (.int .i64 o.n) ∧ w.cell? ⟨b, 2, none⟩ = some (.int .i64 o.m.gen) ∧ w.cell? ⟨b, 3, none⟩ = some (.int .i64 o.m.epoch) ∧ w.cell? ⟨b, 4, none⟩ = some (.int .i64 o.m.base) ∧ w.cell? ⟨b, 5, none⟩ = some (.int .i64 o.m.area) ∧ w.cell? ⟨b, 6, none⟩ = some (.int .i64 o.m.len) ∧ w.cell? ⟨b, 7, none⟩ = some (.slice o.A o.m.heads.length o.c) ∧ w.cell? ⟨b, 72, none⟩ = some (.slice o.B o.k o.d) := by
  have key : At w b 0 o.vals := by rw [← o.toList]; exact At.of_block h
  have k : ∀ j u, o.vals[j]? = some u → w.cell? ⟨b, j, none⟩ = some u := fun j u hj => by
    have := key j u hj
    rwa [Nat.zero_add] at this
  exact ⟨k 0 _ rfl, k 1 _ rfl, k 2 _ rfl, k 3 _ rfl, k 4 _ rfl, k 5 _ rfl, k 6 _ rfl, k 7 _ rfl, k 72 _ o.last⟩
/-- Neither many acts nor many heads nor much kept. -/
def Short15 (l : List O15) : Prop := l.length ≤ 41 ∧ ∀ o ∈ l, o.m.heads.length ≤ 20 ∧ o.k ≤ 40
set_option maxHeartbeats 4000000 in
theorem long15_any (A : Option Addr) (c : Nat) (l : List O15) (w : World) (h : O15s w A l) (hl : l.length ≤ 9223372036854775807) :
    Calls Try.prog 57 #[.slice A l.length c] w fun e w' => ∃ r, e = .returned (.bool r) ∧ (r = false → Short15 l) ∧ Below w.heap.size w w' := by
  obtain ⟨n, hn⟩ : ∃ n, n = l.length := ⟨_, rfl⟩
  have HN := Lib.hid hn
  have HH := Lib.hid h
  rw [← hn] at hl ⊢
  clear h hn
  go_enter Try.func57, Try.ntmps57
  go_wp2_with fail
  go_loopw [3, 4, 7] (fun _ _ i wr => ∃ q : Nat, i = .int .i64 (q : Int) ∧ q ≤ n ∧ q ≤ 41 ∧ Hid (∀ i (hi : i < l.length), i < q → l[i].m.heads.length ≤ 20 ∧ l[i].k ≤ 40) ∧ Below w.heap.size w wr) (fun _ _ i _ => n - (intOf i).toNat)
  case atStart => exact ⟨0, rfl, by omega, by omega, Lib.hid (fun i _ h => absurd h (Nat.not_lt_zero _)), Below.refl _ _⟩
  case round =>
    obtain ⟨q, rfl, hq, hq41, hk, hbr⟩ := hrel
    have HBR := Lib.hid hbr
    have HK := Lib.hid hk
    by_cases hlt : q < n
    · have hql : q < l.length := by rw [← HN.out]; exact hlt
      obtain ⟨b, off, rfl, hc⟩ := O15s.at (RowAt.below HH.out hbr) (by omega)
      have hat := hc q hql
      obtain ⟨o, ho⟩ : ∃ o, o = l[q] := ⟨_, rfl⟩
      have HO := Lib.hid ho
      rw [← ho] at hat
      have HLD := Lib.hid (load_op hat)
      have HST := Lib.hid (storeVar_op wr o)
      have hz := zeroOp wr
      clear hc ho hbr hk hat
      go_upto_region 4 with (first | (refine wpList_load_val rfl (.tmp 10) rfl rfl (.agg o.arr) HLD.out ?_) | (refine wpList_store_val rfl (.tmp 4) (.tmp 11) rfl rfl (.agg o.arr) rfl HST.out ?_))
      have HB1 := Lib.hid (HBR.out.alloc HBR.out.size (.cells o.arr 108))
      have hbk := heap_alloc_new wr (.cells o.arr 108)
      clear hz HLD HST
      obtain ⟨w1, hw1⟩ : ∃ w1, w1 = wr.alloc (.cells o.arr 108) := ⟨_, rfl⟩
      obtain ⟨z, hzz⟩ : ∃ z, z = wr.heap.size := ⟨_, rfl⟩
      rw [← hw1] at HB1 hbk ⊢
      rw [← hzz] at hbk ⊢
      have HBK := Lib.hid hbk
      obtain ⟨k0, k1, k2, k3, k4, k5, k6, k7, k8⟩ := op_cells hbk
      have HLG := Lib.hid (large15_any o.m o.A o.c w1)
      unfold mfC at HLG
      clear hw1 hzz hbk
      by_cases h41 : 40 < q
      · have g1 : decide (40 < (q : Int)) = true := by rw [decide_eq_true_iff]; omega
        go_wp2_with fail
        go_ret
        exact ⟨true, rfl, (fun h => by cases h), HB1.out⟩
      have g1 : decide (40 < (q : Int)) = false := by rw [decide_eq_false_iff_not]; omega
      by_cases h20 : 20 < o.m.heads.length
      · rw [decide_eq_true h20] at HLG
        clear h20
        go_wp2_with fail
        refine Calls.mono HLG.out ?_
        rintro e w2 ⟨rfl, hb2⟩
        have HB2 := Lib.hid (HB1.out.trans (hb2.mono HB1.out.size))
        clear hb2
        go_wp2_with fail
        go_ret
        exact ⟨true, rfl, (fun h => by cases h), HB2.out⟩
      have H20 := Lib.hid (show o.m.heads.length ≤ 20 by omega)
      rw [decide_eq_false h20] at HLG
      clear h20
      by_cases h40 : 40 < o.k
      · have g2 : decide (40 < (o.k : Int)) = true := by rw [decide_eq_true_iff]; omega
        go_wp2_with fail
        refine Calls.mono HLG.out ?_
        rintro e w2 ⟨rfl, hb2⟩
        have HB2 := Lib.hid (HB1.out.trans (hb2.mono HB1.out.size))
        have k9 := (hb2.cell (p := ⟨z, 72, none⟩) (World.block_lt_of_cell? _ _ k8)).trans k8
        clear hb2 k0 k1 k2 k3 k4 k5 k6 k7 k8
        go_wp2_with fail
        go_ret
        exact ⟨true, rfl, (fun h => by cases h), HB2.out⟩
      have g2 : decide (40 < (o.k : Int)) = false := by rw [decide_eq_false_iff_not]; omega
      go_wp2_with fail
      refine Calls.mono HLG.out ?_
      rintro e w2 ⟨rfl, hb2⟩
      have HB2 := Lib.hid (HB1.out.trans (hb2.mono HB1.out.size))
      have k9 := (hb2.cell (p := ⟨z, 72, none⟩) (World.block_lt_of_cell? _ _ k8)).trans k8
      clear hb2 k0 k1 k2 k3 k4 k5 k6 k7 k8
      go_wp2_with fail
      go_roundw
      case rel =>
        refine ⟨q + 1, by go_num, by omega, by omega, Lib.hid (fun i hi h => ?_), HB2.out⟩
        by_cases e : i = q
        · subst e
          rw [← HO.out]
          exact ⟨H20.out, by omega⟩
        · exact HK.out.out i hi (by omega)
      case measure => simp [intOf]; omega
    · obtain rfl : q = n := by omega
      clear hbr hk
      go_wp2_with fail
      go_ret
      refine ⟨false, rfl, fun _ => ⟨by rw [← HN.out]; exact hq41, fun o ho => ?_⟩, HBR.out⟩
      obtain ⟨i, hi, rfl⟩ := List.getElem_of_mem ho
      exact HK.out.out i hi (by rw [HN.out]; exact hi)
end Go.Proofs.Ytjmjehhmkjhalaa

/- What is kept, opened. -/
namespace Go.Proofs.Ytjmjehhmkjhalaa
set_option maxRecDepth 100000
open Go.ChangeShapes Go.WideShapes Go.ChangeAt Go.RowKit

theorem kpCells : Try.prog.cellsOf 200 = 3 := by kernel_rfl
section
variable {H : Type} {enc : TypeId × Value → H} {W : World} {sp : Nat → Bool}
theorem kp_struct3 {P : Program} {base : Nat} {held : Bool} {t : TypeId} {f0 f1 f2 : Field} {fuel : Nat} {cs : List Value} {x : DataW H × List MemPlace} (ht : P.underlying t = some (.struct #[f0, f1, f2])) (h : DataW.trod enc P W base sp held fuel t cs = some x) :
    ∃ y0 y1 y2 n, x = (.agg [y0.1, y1.1, y2.1], y0.2 ++ (y1.2 ++ y2.2)) ∧ cs.length = P.cellsOf t ∧ DataW.trod enc P W base sp held n f0.type ((cs.drop f0.offset).take (P.cellsOf f0.type)) = some y0 ∧
      DataW.trod enc P W base sp held n f1.type ((cs.drop f1.offset).take (P.cellsOf f1.type)) = some y1 ∧ DataW.trod enc P W base sp held n f2.type ((cs.drop f2.offset).take (P.cellsOf f2.type)) = some y2 := by
  obtain ⟨xs, n, _, rfl, hl, hlen, hf⟩ := DataW.trod_struct ht h
  match xs, hlen with
  | [y0, y1, y2], _ => exact ⟨y0, y1, y2, n, by simp, hl, by simpa using hf 0 f0 rfl, by simpa using hf 1 f1 rfl, by simpa using hf 2 f2 rfl⟩
theorem kp_open {fuel : Nat} {cs : List Value} {x : DataW H × List MemPlace} (hf : DataW.trod enc Try.prog W 0 sp true fuel 200 cs = some x) : ∃ q : Kp, cs = q.vals ∧ True := by
  obtain ⟨y0, y1, y2, n, _, hl, g0, g1, g2⟩ := kp_struct3 Try.underlying200 hf
  rw [kpCells] at hl
  match cs, hl with
  | [v0, v1, v2], _ =>
    simp [cells3] at g0 g1 g2
    obtain ⟨a0, e0, _⟩ := DataW.trod_int Try.underlying3 g0
    obtain ⟨a1, e1, _⟩ := DataW.trod_int Try.underlying3 g1
    obtain ⟨a2, e2, _⟩ := DataW.trod_int Try.underlying3 g2
    injection e0 with e0
    injection e1 with e1
    injection e2 with e2
    exact ⟨⟨a0, a1, a2⟩, by rw [e0, e1, e2]; rfl, trivial⟩
end
end Go.Proofs.Ytjmjehhmkjhalaa

/- Acts of layer 15, opened. -/
namespace Go.Proofs.Ytjmjehhmkjhalaa
set_option maxRecDepth 100000
open Go.ChangeShapes Go.WideShapes Go.ChangeAt Go.RowKit

/-- An act whose manifest's heads and kept row lie in memory. -/
def OpOk15 (W : World) (o : O15) : Prop := o.n ≤ 9223372036854775807 ∧ Zs W o.A o.m.heads ∧ (o.A = none → o.c = 0) ∧ ∃ kl, Kps W o.B kl ∧ kl.length = o.k
theorem cellsSec : Try.prog.cellsOf 75 = 64 := by kernel_rfl
theorem cellsO15 : Try.prog.cellsOf 108 = 73 := by kernel_rfl
theorem split73 {cs : List Value} (h : cs.length = 73) : cs = cs.take 1 ++ ((cs.drop 1).take 1 ++ ((cs.drop 2).take 6 ++ ((cs.drop 8).take 64 ++ (cs.drop 72).take 1))) := by
  have e1 := List.take_append_drop 1 cs
  have e2 := List.take_append_drop 1 (cs.drop 1)
  have e3 := List.take_append_drop 6 (cs.drop 2)
  have e4 := List.take_append_drop 64 (cs.drop 8)
  have e5 : (cs.drop 72).take 1 = cs.drop 72 := List.take_of_length_le (by rw [List.length_drop]; omega)
  rw [List.drop_drop] at e2 e3 e4
  rw [e5]
  simp only [Nat.reduceAdd] at e2 e3 e4
  rw [e4, e3, e2, e1]
section
variable {H : Type} {enc : TypeId × Value → H} {W : World} {sp : Nat → Bool}
theorem open_sx {fuel : Nat} {cs : List Value} {x : DataW H × List MemPlace} (hf : DataW.trod enc Try.prog W 0 sp true fuel 75 cs = some x) : ∃ s : Sx, cs = s.vals := by
  obtain ⟨xs, m, _, _, hl, hx, hall⟩ := DataW.trod_array Try.underlying75 hf
  rw [cellsSec] at hl
  have key : ∀ i (hi : i < cs.length), cs[i] = .int .u8 ((natIn cs[i] : Nat) : Int) ∧ natIn cs[i] < 256 := by
    intro i hi
    have h1 := hall i (by omega)
    rw [cellsB, Nat.mul_one, List.getElem?_eq_getElem (by omega)] at h1
    have e : (cs.drop i).take 1 = [cs[i]] := by rw [List.drop_eq_getElem_cons hi]; rfl
    rw [e] at h1
    obtain ⟨a, e1, _, wf⟩ := DataW.trod_int Try.underlying5 h1
    injection e1 with e1
    have b := bounds_u8 wf
    rw [e1]
    simp only [natIn]
    exact ⟨by rw [Int.toNat_of_nonneg b.1], by omega⟩
  refine ⟨⟨cs.map natIn, by simp [hl], fun y hy => ?_⟩, ?_⟩
  · obtain ⟨v, hv, rfl⟩ := List.mem_map.1 hy
    obtain ⟨i, hi, rfl⟩ := List.getElem_of_mem hv
    exact (key i hi).2
  · unfold Sx.vals valsB
    apply List.ext_getElem
    · simp
    · intro i h1 h2
      simp only [List.getElem_map]
      exact (key i h1).1
theorem open_o15 {fuel : Nat} {cs : List Value} {x : DataW H × List MemPlace} (hf : DataW.trod enc Try.prog W 0 sp true fuel 108 cs = some x) : ∃ q : O15, cs = q.vals ∧ OpOk15 W q := by
  obtain ⟨y0, y1, y2, y3, y4, n, _, hl, g0, g1, g2, g3, g4⟩ := trod_struct5 Try.underlying108 hf
  rw [cellsO15] at hl
  simp only [cells3, cellsMf, cellsSec, cellsKs, List.drop_zero] at g0 g1 g2 g3 g4
  obtain ⟨a0, e0, _⟩ := DataW.trod_int Try.underlying3 g0
  obtain ⟨a1, e1, _, w1⟩ := DataW.trod_int Try.underlying3 g1
  obtain ⟨m, A, c, e2, hz, _, hn⟩ := open_mf g2
  obtain ⟨s, e3⟩ := open_sx g3
  obtain ⟨v4, e4⟩ : ∃ v, (cs.drop 72).take 1 = [v] := by
    have h1 : ((cs.drop 72).take 1).length = 1 := by rw [List.length_take, List.length_drop]; omega
    match h : (cs.drop 72).take 1, h1 with
    | [v], _ => exact ⟨v, rfl⟩
  rw [e4] at g4
  obtain ⟨B, k, d, kl, rfl, h1, _, _, _⟩ := open_rowat (f := Kp.vals) (k := 3) (fun _ : Kp => True) (fun _ => rfl) (by decide) Try.underlying52 kpCells ⟨0, 0, 0⟩ kp_open g4
  have b1 := bounds_i64 w1
  refine ⟨⟨a0, a1, m, A, c, s, B, k, d⟩, ?_, b1.2, hz, hn, kl, ?_, h1.len⟩
  · rw [split73 hl, e0, e1, e2, e3, e4]
    rfl
  · obtain rfl := h1.len
    exact h1
theorem open_o15s {v : Value} {base : Nat} {r : Reach} {x : DataW H × List MemPlace} (hv : Value.okWide Try.prog W r base 105 v) (h : ∃ fuel, DataW.trod enc Try.prog W 0 sp true fuel 105 v.cells.toList = some x) :
    ∃ A c l, v = .slice A (List.length l) c ∧ O15s W A l ∧ l.length ≤ 9223372036854775807 ∧ ∀ o ∈ l, OpOk15 W o := by
  obtain ⟨B, len, cap, rfl⟩ := okWide_slice Try.underlying105 hv
  obtain ⟨fuel, hf⟩ := h
  obtain ⟨A, n, c, l, e, h1, h2, _, h4⟩ := open_rowat (OpOk15 W) O15.vlen (by decide) Try.underlying105 cellsO15 ⟨0, 0, ⟨0, 0, 0, 0, 0, []⟩, none, 0, Sx.zero, none, 0, 0⟩ open_o15 (by simpa [Value.cells] using hf)
  obtain rfl := h1.len
  exact ⟨A, c, l, e, h1, h2, h4⟩
end
end Go.Proofs.Ytjmjehhmkjhalaa
