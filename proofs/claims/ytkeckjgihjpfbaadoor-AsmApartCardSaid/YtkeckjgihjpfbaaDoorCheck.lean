/- The contract of prog.Check. -/
import Derived.Test.YtkeckjgihjpfbaaDoorGood
namespace Go.Proofs.YtkeckjgihjpfbaaDoor
set_option maxRecDepth 100000
open Go.RowKit

def goodAt (l : List Ins) (i : Nat) : Bool := goodI (l.getD i Ins.zero) ((l.length : Int) - 1 - (i : Int))
def firstBad (l : List Ins) : Option Nat := (List.range l.length).find? fun i => !goodAt l i
/-- Where a program isn't good. -/
def chk (f : Int) (l : List Ins) : Int := if f < 1 ∨ 1000 < f ∨ l.length < 1 ∨ 32 < l.length then -1 else match firstBad l with
  | some i => (i : Int)
  | none => -2
theorem chk_head {f : Int} {l : List Ins} (h : f < 1 ∨ 1000 < f ∨ l.length < 1 ∨ 32 < l.length) : chk f l = -1 := if_pos h
theorem chk_at {f : Int} {l : List Ins} (h : ¬ (f < 1 ∨ 1000 < f ∨ l.length < 1 ∨ 32 < l.length)) (k : Nat) (hk : k < l.length) (hall : ∀ j, j < k → goodAt l j = true) (hb : goodAt l k = false) : chk f l = (k : Int) := by
  unfold chk
  rw [if_neg h]
  have : firstBad l = some k := by
    unfold firstBad
    rw [List.find?_range_eq_some]
    exact ⟨by simp [hb], List.mem_range.2 hk, fun j hj => by simp [hall j hj]⟩
  rw [this]
theorem chk_all {f : Int} {l : List Ins} (h : ¬ (f < 1 ∨ 1000 < f ∨ l.length < 1 ∨ 32 < l.length)) (hall : ∀ j, j < l.length → goodAt l j = true) : chk f l = -2 := by
  unfold chk
  rw [if_neg h]
  have : firstBad l = none := by
    unfold firstBad
    rw [List.find?_eq_none]
    intro j hj
    simp [hall j (List.mem_range.1 hj)]
  rw [this]
theorem chk_good {f : Int} {l : List Ins} (h : chk f l = -2) : (1 ≤ f ∧ f ≤ 1000 ∧ 1 ≤ l.length ∧ l.length ≤ 32) ∧ ∀ j, j < l.length → goodAt l j = true := by
  unfold chk at h
  by_cases hh : f < 1 ∨ 1000 < f ∨ l.length < 1 ∨ 32 < l.length
  · rw [if_pos hh] at h; omega
  · rw [if_neg hh] at h
    refine ⟨by omega, fun j hj => ?_⟩
    cases hb : firstBad l with
    | some i => rw [hb] at h; have : ((i : Nat) : Int) = -2 := h; omega
    | none =>
      unfold firstBad at hb
      rw [List.find?_eq_none] at hb
      have := hb j (List.mem_range.2 hj)
      simpa using this
/-- A fault in memory. -/
def FaultAt (w : World) (b : Nat) (v : Int) : Prop := w.heap[b]? = some (.cells #[.int .i64 v, .iface 36 (.int .i64 5)] 75 (0, 0))
def ChkE (v : Int) (w0 w' : World) (e : Ending) : Prop := (v = -2 ∧ e = .returned .nilIface) ∨ (v ≠ -2 ∧ ∃ b, e = .returned (.iface 72 (.pointer (some ⟨b, 0, none⟩))) ∧ w0.heap.size ≤ b ∧ FaultAt w' b v)
theorem chk_ne (f : Int) (l : List Ins) (v : Int) (h : -1 ≤ v) (e : chk f l = v) : chk f l ≠ -2 := by omega
theorem one_new (w : World) (o : Obj) : (w.alloc o).heap[w.heap.size]? = some o := heap_alloc_new w o
set_option maxHeartbeats 4000000 in
theorem check_any (f : Int) (A : Option Addr) (n c : Nat) (l : List Ins) (w : World) (hT : Tab w) (hC : Codes w A n l) (hn : n ≤ 9223372036854775807) :
    Calls Tryd.prog 37 #[.agg #[.int .i64 f, .slice A n c]] w fun e w' => ChkE (chk f l) w w' e ∧ Below w.heap.size w w' := by
  have hln := hC.len
  have HT := Lib.hid hT
  have HC := Lib.hid hC
  have HL := Lib.hid hln
  have HB1 := Lib.hid ((Below.refl w.heap.size w).alloc (Nat.le_refl _) (.cells #[.int .i64 f, .slice A n c] 24))
  have HN1 := Lib.hid (one_new w (.cells #[.int .i64 f, .slice A n c] 24))
  clear hT hC
  by_cases hh : f < 1 ∨ 1000 < f ∨ l.length < 1 ∨ 32 < l.length
  · have HE := Lib.hid (chk_head hh)
    have hw : decide (f < 1) = true ∨ (decide (f < 1) = false ∧ decide ((1000 : Int) < f) = true) ∨ (decide (f < 1) = false ∧ decide ((1000 : Int) < f) = false ∧ decide ((n : Int) < 1) = true) ∨ (decide (f < 1) = false ∧ decide ((1000 : Int) < f) = false ∧ decide ((n : Int) < 1) = false ∧ decide ((32 : Int) < (n : Int)) = true) := by
      simp only [decide_eq_true_eq, decide_eq_false_iff_not]
      omega
    clear hh hln
    have fin : ∀ W : World, Below w.heap.size w W → ChkE (chk f l) w (W.alloc (.cells #[.int .i64 (-1), .iface 36 (.int .i64 5)] 75)) (.returned (.iface 72 (.pointer (some ⟨W.heap.size, 0, none⟩)))) ∧ Below w.heap.size w (W.alloc (.cells #[.int .i64 (-1), .iface 36 (.int .i64 5)] 75)) := fun W hb =>
      ⟨.inr ⟨by rw [HE.out]; decide, _, rfl, hb.size, by rw [HE.out]; exact one_new W _⟩, hb.alloc hb.size _⟩
    have hfin := fin _ HB1.out
    rw [World.size_alloc] at hfin
    have FIN := Lib.hid hfin
    clear fin hfin
    rcases hw with d1 | ⟨d1, d2⟩ | ⟨d1, d2, d3⟩ | ⟨d1, d2, d3, d4⟩
    all_goals
      go_enter Tryd.func37, Tryd.ntmps37
      go_wp2_with fail
      go_ret
      exact FIN.out
  · have d1 : decide (f < 1) = false := decide_eq_false (by omega)
    have d2 : decide ((1000 : Int) < f) = false := decide_eq_false (by omega)
    have d3 : decide ((n : Int) < 1) = false := decide_eq_false (by omega)
    have d4 : decide ((32 : Int) < (n : Int)) = false := decide_eq_false (by omega)
    have hn32 : n ≤ 32 := by omega
    have HH := Lib.hid hh
    clear hh hln
    go_enter Tryd.func37, Tryd.ntmps37
    go_wp2_with fail
    clear d1 d2 d3 d4
    go_loopw [32] (fun i wr => ∃ k : Nat, i = .int .i64 (k : Int) ∧ k ≤ n ∧ Below w.heap.size w wr ∧ wr.heap[w.heap.size]? = some (.cells #[.int .i64 f, .slice A n c] 24 (0, 0)) ∧ (∀ j, j < k → goodAt l j = true)) (fun i _ => n - (intOf i).toNat)
    case atStart => exact ⟨0, rfl, by omega, HB1.out, HN1.out, fun j h => absurd h (by omega)⟩
    case round =>
      obtain ⟨k, rfl, hk, hb, hg, hall⟩ := hrel
      have HBR := Lib.hid hb
      have HGR := Lib.hid hg
      have HALL := Lib.hid hall
      have hsz2 := hb.size
      have g0 : wr.cell? ⟨w.heap.size, 0, none⟩ = some (.int .i64 f) := cell_of_row wr _ 0 _ 24 (0, 0) hg
      have g1 : wr.cell? ⟨w.heap.size, 1, none⟩ = some (.slice A n c) := cell_of_row wr _ 1 _ 24 (0, 0) hg
      have hgl := (Array.getElem?_eq_some_iff.1 hg).1
      clear hb hg hall
      by_cases hlt : k < n
      · have hkl : k < l.length := by rw [HL.out]; exact hlt
        obtain ⟨b, off, rfl, hc⟩ := (HC.out.ext (stays_b HBR.out)).cells (by omega)
        obtain ⟨c0, c1, c2, c3, c4, c5⟩ := hc k hkl
        obtain ⟨x, hx⟩ : ∃ x, x = l[k] := ⟨_, rfl⟩
        rw [← hx] at c0 c1 c2 c3 c4 c5
        have HGA := Lib.hid (show goodAt l k = goodI x ((n : Int) - 1 - (k : Int)) by unfold goodAt; rw [HL.out, List.getD_eq_getElem?_getD, List.getElem?_eq_getElem hkl, hx]; rfl)
        have hbw : Below w.heap.size w (wr.alloc (.cells #[.int .i64 x.op, .int .i64 x.a, .int .i64 x.b, .int .i64 x.c, .int .i64 x.t, .int .i64 x.n] 43)) := HBR.out.alloc hsz2 _
        have HBW := Lib.hid hbw
        have hgd := good_any x ((n : Int) - 1 - (k : Int)) (wr.alloc (.cells #[.int .i64 x.op, .int .i64 x.a, .int .i64 x.b, .int .i64 x.c, .int .i64 x.t, .int .i64 x.n] 43)) (HT.out.ext hbw)
        unfold Ins.val at hgd
        have HGD := Lib.hid hgd
        have HGR2 := Lib.hid ((heap_alloc_old wr (.cells #[.int .i64 x.op, .int .i64 x.a, .int .i64 x.b, .int .i64 x.c, .int .i64 x.t, .int .i64 x.n] 43) hgl).trans HGR.out)
        clear hc hx hbw hgd
        go_wp2_with fail
        refine Calls.mono HGD.out ?_
        rintro e w2 ⟨rfl, hb2⟩
        have HB2 := Lib.hid (HBW.out.trans (hb2.mono HBW.out.size))
        have HG2 := Lib.hid ((hb2.block _ (by rw [World.size_alloc]; omega)).trans HGR2.out)
        clear hb2
        obtain ⟨r, hr⟩ : ∃ r, r = goodI x ((n : Int) - 1 - (k : Int)) := ⟨_, rfl⟩
        rw [← hr] at HGA ⊢
        clear hr
        cases r with
        | true =>
          go_wp2_with fail
          go_roundw
          case rel => exact ⟨k + 1, by go_num, by omega, HB2.out, HG2.out, fun j hj => by
            rcases Nat.lt_or_ge j k with h | h
            · exact HALL.out j h
            · obtain rfl : j = k := by omega
              exact HGA.out⟩
          case measure => simp [intOf]; omega
        | false =>
          have HE := Lib.hid (chk_at HH.out k hkl HALL.out HGA.out)
          go_wp2_with fail
          go_ret
          exact ⟨.inr ⟨by rw [HE.out]; omega, _, rfl, HB2.out.size, by rw [HE.out]; exact one_new w2 _⟩, HB2.out.alloc HB2.out.size _⟩
      · obtain rfl : k = n := by omega
        have HE := Lib.hid (chk_all HH.out (fun j hj => HALL.out j (by rw [← HL.out]; exact hj)))
        go_wp2_with fail
        go_ret
        exact ⟨.inl ⟨HE.out, rfl⟩, HBR.out⟩
end Go.Proofs.YtkeckjgihjpfbaaDoor
