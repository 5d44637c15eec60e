/- SRef, SRefR, SRefM, SRefC: put together. -/
import Derived.Test.YtgdkgoiagjjccaaSReady
import Derived.Test.YtgdkgoiagjjccaaSLarge
import Derived.Test.YtgdkgoiagjjccaaSOnceM
import Derived.Deep.CutRange
import Derived.Deep.QuietTactic
import Derived.BigQuiet
import Derived.Test.YtgdkgoiagjjccaaReg
import Derived.Test.YtgdkgoiagjjccaaZB
/- The document's plan in memory: who holds a task, how many are left, which are ready. -/
namespace Go.Proofs.Ytgdkgoiagjjccaa
set_option maxRecDepth 100000
open Go.RowKit

def enL (s : PS) : List Bool := (List.range s.n).map fun i => decide (s.kd i = 3)
def haL (s : PS) : List Int := (List.range s.m).map s.ws
def ranB (s : PS) (w : Nat) : Bool := !decide (s.ws w = -1) && decide (s.kd (s.ws w).toNat = 2)
def raL (s : PS) : List Bool := (List.range s.m).map (ranB s)
theorem enL_at (s : PS) (i : Nat) (h : i < s.n) : (enL s).getD i false = decide (s.kd i = 3) := by simp [enL, List.getD_eq_getElem?_getD, h]
theorem haL_at (s : PS) (i : Nat) (h : i < s.m) : (haL s).getD i 0 = s.ws i := by simp [haL, List.getD_eq_getElem?_getD, h]
theorem raL_at (s : PS) (i : Nat) (h : i < s.m) : (raL s).getD i false = ranB s i := by simp [raL, List.getD_eq_getElem?_getD, h]
def refC (A : Option Addr) (n c : Nat) (A2 : Option Addr) (c2 : Nat) (A3 : Option Addr) (m c3 : Nat) (A4 : Option Addr) (c4 : Nat) (p : Int) : Array Value := #[.slice A n c, .slice A2 n c2, .slice A3 m c3, .slice A4 m c4, .int .i64 p]
def refV (A : Option Addr) (n c : Nat) (A2 : Option Addr) (c2 : Nat) (A3 : Option Addr) (m c3 : Nat) (A4 : Option Addr) (c4 : Nat) (p : Int) : Value := .agg (refC A n c A2 c2 A3 m c3 A4 c4 p)
/-- The document's plan that a plan is. -/
structure RefR (W : World) (A A2 A3 A4 : Option Addr) (ls : List (List Int)) (s : PS) : Prop where
  leans : Rws W A s.n ls
  ended : Bls W A2 s.n (enL s)
  has : Nums W A3 s.m (haL s)
  ran : Bls W A4 s.m (raL s)
theorem RefR.ext {W W' : World} {A A2 A3 A4 : Option Addr} {ls : List (List Int)} {s : PS} (h : RefR W A A2 A3 A4 ls s) (hs : ∀ p : Addr, p.block < W.heap.size → W'.cell? p = W.cell? p) : RefR W' A A2 A3 A4 ls s :=
  ⟨h.leans.ext hs, h.ended.ext hs, h.has.ext hs, h.ran.ext hs⟩
theorem RefR.below {W W' : World} {A A2 A3 A4 : Option Addr} {ls : List (List Int)} {s : PS} (h : RefR W A A2 A3 A4 ls s) (hb : Below W.heap.size W W') : RefR W' A A2 A3 A4 ls s := h.ext fun _ hp => hb.cell hp
/-- Who holds a task. -/
theorem holder_wk {ls : List (List Int)} {s : PS} (h : Inv ls s) {i : Nat} (hi : i < s.n) : idx s.m (fun w => decide (s.ws w = (i : Int))) = s.wk i := by
  by_cases hk : s.wk i = -1
  · rw [hk]
    refine idx_miss fun w hw => decide_eq_false fun e => ?_
    obtain ⟨_, _, c⟩ := h.ws w hw (by omega)
    rw [e, Int.toNat_natCast] at c
    omega
  · obtain ⟨a, b, c⟩ := h.wk i hi hk
    obtain ⟨v, hv⟩ : ∃ v : Nat, s.wk i = (v : Int) := ⟨(s.wk i).toNat, by omega⟩
    rw [hv, Int.toNat_natCast] at c
    rw [hv]
    refine idx_hit (by omega) (decide_eq_true c) fun w hw => decide_eq_false fun e => ?_
    obtain ⟨_, _, c2⟩ := h.ws w (by omega) (by omega)
    rw [e, Int.toNat_natCast] at c2
    omega
set_option maxHeartbeats 1000000 in
theorem holder_any (A : Option Addr) (c : Nat) (A2 : Option Addr) (c2 : Nat) (A3 : Option Addr) (c3 : Nat) (A4 : Option Addr) (c4 : Nat) (p : Int) (ls : List (List Int)) (s : PS) (i : Nat) (w : World) (h : RefR w A A2 A3 A4 ls s) (hI : Inv ls s) (hi : i < s.n) (hm : s.m ≤ 1000000) :
    Calls Try.prog 75 #[refV A s.n c A2 c2 A3 s.m c3 A4 c4 p, .int .i64 (i : Int)] w fun e w' => e = .returned (.int .i64 (s.wk i)) ∧ Below w.heap.size w w' := by
  have hb := (Below.refl _ w).alloc (Nat.le_refl _) (.cells (refC A s.n c A2 c2 A3 s.m c3 A4 c4 p) 74)
  have HB := Lib.hid hb
  have HH := Lib.hid h.has
  have HX := Lib.hid (show ∀ k, k < s.m → s.ws k = (i : Int) → (∀ j, j < k → s.ws j ≠ (i : Int)) → s.wk i = (k : Int) from fun k hk h1 h2 => by
    rw [← holder_wk hI hi]
    exact idx_hit hk (decide_eq_true h1) fun j hj => decide_eq_false (h2 j hj))
  have HY := Lib.hid (show (∀ j, j < s.m → s.ws j ≠ (i : Int)) → s.wk i = -1 from fun h2 => by
    rw [← holder_wk hI hi]
    exact idx_miss fun j hj => decide_eq_false (h2 j hj))
  have HAT := Lib.hid (haL_at s)
  obtain ⟨R, hR⟩ : ∃ R, R = s.wk i := ⟨_, rfl⟩
  rw [← hR] at HX HY ⊢
  obtain ⟨m, hm'⟩ : ∃ m, m = s.m := ⟨_, rfl⟩
  obtain ⟨n, hn'⟩ : ∃ n, n = s.n := ⟨_, rfl⟩
  rw [← hm'] at HH HX HY HAT HB hm ⊢
  rw [← hn'] at HB ⊢
  unfold refV refC at *
  clear h hI hi hb hR hm' hn'
  go_enter Try.func75, Try.ntmps75
  go_wp2_with fail
  go_loop [5] (fun x => ∃ k : Nat, x = .int .i64 (k : Int) ∧ k ≤ m ∧ Hid (∀ j, j < k → s.ws j ≠ (i : Int))) (fun x => m - (intOf x).toNat)
  case atStart => exact ⟨0, rfl, by omega, fun j hj => by omega⟩
  case round =>
    obtain ⟨k, rfl, hk, hno⟩ := hrel
    by_cases hlt : k < m
    · obtain ⟨b, off, rfl, hc⟩ := HH.out.2.2 (by omega)
      have c1 := hc k hlt
      rw [HAT.out k hlt] at c1
      have hbl : b < w.heap.size := World.block_lt_of_cell? _ _ c1
      have HXk := Lib.hid (HX.out k hlt)
      obtain ⟨z, hz⟩ : ∃ z, z = s.ws k := ⟨_, rfl⟩
      rw [← hz] at c1 HXk
      have HZ := Lib.hid hz
      clear hc hz
      by_cases he : z = (i : Int)
      · subst he
        go_wp2_with fail
        go_ret
        exact ⟨by rw [HXk.out (by first | exact rfl | trivial) hno.out]; rfl, HB.out⟩
      · have e1 : (z == (i : Int)) = false := beq_eq_false_iff_ne.2 he
        have HNE := Lib.hid he
        clear he
        go_wp2_with fail
        go_round
        case rel =>
          refine ⟨k + 1, by go_num, by omega, fun j hj => ?_⟩
          rcases Nat.lt_succ_iff_lt_or_eq.1 hj with h1 | h1
          · exact hno.out j h1
          · rw [h1, ← HZ.out]; exact HNE.out
        case measure => simp [intOf]; omega
    · obtain rfl : k = m := by omega
      go_wp2_with fail
      go_ret
      exact ⟨by rw [HY.out hno.out]; rfl, HB.out⟩
/-- How many of the first are left. -/
def leftTo (s : PS) (k : Nat) : Int := (((List.range k).filter fun i => !decide (s.kd i = 3)).length : Nat)
theorem leftTo_succ (s : PS) (k : Nat) : leftTo s (k + 1) = leftTo s k + if s.kd k = 3 then 0 else 1 := by
  unfold leftTo
  rw [List.range_succ, List.filter_append, List.length_append]
  by_cases h : s.kd k = 3 <;> simp [h]
theorem leftTo_le (s : PS) (k : Nat) : 0 ≤ leftTo s k ∧ leftTo s k ≤ k := by
  unfold leftTo
  have := List.length_filter_le (fun i => !decide (s.kd i = 3)) (List.range k)
  rw [List.length_range] at this
  omega
set_option maxHeartbeats 1000000 in
theorem refleft_any (A : Option Addr) (c : Nat) (A2 : Option Addr) (c2 : Nat) (A3 : Option Addr) (c3 : Nat) (A4 : Option Addr) (c4 : Nat) (p : Int) (ls : List (List Int)) (s : PS) (w : World) (h : RefR w A A2 A3 A4 ls s) (hI : Inv ls s) (hn : s.n ≤ 1000000) :
    Calls Try.prog 73 #[refV A s.n c A2 c2 A3 s.m c3 A4 c4 p] w fun e w' => e = .returned (.int .i64 s.left) ∧ Below w.heap.size w w' := by
  have hb := (Below.refl _ w).alloc (Nat.le_refl _) (.cells (refC A s.n c A2 c2 A3 s.m c3 A4 c4 p) 74)
  have HB := Lib.hid hb
  have HH := Lib.hid h.ended
  have HAT := Lib.hid (enL_at s)
  have HE := Lib.hid (show leftTo s s.n = s.left from hI.left.symm)
  obtain ⟨R, hR⟩ : ∃ R, R = s.left := ⟨_, rfl⟩
  rw [← hR] at HE ⊢
  obtain ⟨m, hm'⟩ : ∃ m, m = s.m := ⟨_, rfl⟩
  obtain ⟨n, hn'⟩ : ∃ n, n = s.n := ⟨_, rfl⟩
  rw [← hm'] at HB ⊢
  rw [← hn'] at HH HAT HB HE hn ⊢
  unfold refV refC at *
  clear h hI hb hR hm' hn'
  go_enter Try.func73, Try.ntmps73
  go_wp2_with fail
  go_loop [3, 4] (fun v x => ∃ k : Nat, x = .int .i64 (k : Int) ∧ k ≤ n ∧ v = .int .i64 (leftTo s k)) (fun _ x => n - (intOf x).toNat)
  case atStart => exact ⟨0, rfl, by omega, rfl⟩
  case round =>
    obtain ⟨k, rfl, hk, rfl⟩ := hrel
    by_cases hlt : k < n
    · obtain ⟨b, off, rfl, hc⟩ := HH.out.2.2 (by omega)
      have c1 := hc k hlt
      rw [HAT.out k hlt] at c1
      have hbl : b < w.heap.size := World.block_lt_of_cell? _ _ c1
      have hs := leftTo_succ s k
      have hle := leftTo_le s k
      obtain ⟨z, hz⟩ : ∃ z, z = leftTo s k := ⟨_, rfl⟩
      rw [← hz] at hs hle ⊢
      by_cases he : s.kd k = 3
      · rw [decide_eq_true he] at c1
        rw [if_pos he] at hs
        have HS := Lib.hid (show leftTo s (k + 1) = z by omega)
        clear hc hs he hz
        go_wp2_with fail
        go_round
        case rel => exact ⟨k + 1, by go_num, by omega, by rw [HS.out]⟩
        case measure => simp [intOf]; omega
      · rw [decide_eq_false he] at c1
        rw [if_neg he] at hs
        have HS := Lib.hid hs
        clear hc hs he hz
        go_wp2_with fail
        go_round
        case rel => exact ⟨k + 1, by go_num, by omega, by rw [HS.out]⟩
        case measure => simp [intOf]; omega
    · obtain rfl : k = n := by omega
      rw [HE.out]
      go_wp2_with fail
      go_ret
      exact ⟨rfl, HB.out⟩
end Go.Proofs.Ytgdkgoiagjjccaa

/- The document's ready tasks. -/
namespace Go.Proofs.Ytgdkgoiagjjccaa
set_option maxRecDepth 100000
open Go.RowKit

/-- Has a task no worker, and isn't it done? -/
def freeB (s : PS) (i : Nat) : Bool := !decide (s.kd i = 3) && decide (s.wk i = -1)
/-- So far as the first of those on which it leans are done. -/
def okB (ls : List (List Int)) (s : PS) (i u : Nat) : Bool := freeB s i && ((ls.getD i []).take u).all fun j => decide (s.kd j.toNat = 3)
theorem okB_zero (ls : List (List Int)) (s : PS) (i : Nat) : okB ls s i 0 = freeB s i := by simp [okB]
theorem okB_succ (ls : List (List Int)) (s : PS) (i u : Nat) (hu : u < (ls.getD i []).length) : okB ls s i (u + 1) = (okB ls s i u && decide (s.kd ((ls.getD i []).getD u 0).toNat = 3)) := by
  have h1 : (ls.getD i [])[u]? = some ((ls.getD i []).getD u 0) := getD_some hu
  unfold okB
  rw [List.take_add_one, h1, List.all_append, Bool.and_assoc]
  simp
theorem okB_rdy {ls : List (List Int)} {s : PS} (h : Inv ls s) {i : Nat} (hi : i < s.n) : okB ls s i (ls.getD i []).length = s.rdy i := by
  rw [Bool.eq_iff_iff, h.ready hi]
  unfold okB freeB
  rw [List.take_length]
  simp only [Bool.and_eq_true, Bool.not_eq_true', decide_eq_false_iff_not, decide_eq_true_eq, List.all_eq_true]
  have := h.has i hi
  constructor
  · rintro ⟨⟨h1, h2⟩, h3⟩
    exact ⟨(this.1 h2).resolve_right h1, h3⟩
  · rintro ⟨h1, h3⟩
    exact ⟨⟨by omega, this.2 (.inl h1)⟩, h3⟩
set_option maxHeartbeats 4000000 in
theorem refready_any (A : Option Addr) (c : Nat) (A2 : Option Addr) (c2 : Nat) (A3 : Option Addr) (c3 : Nat) (A4 : Option Addr) (c4 : Nat) (p : Int) (ls : List (List Int)) (s : PS) (w : World) (h : RefR w A A2 A3 A4 ls s) (hI : Inv ls s) (hn : s.n ≤ 1000000) (hm : s.m ≤ 1000000) :
    Calls Try.prog 74 #[refV A s.n c A2 c2 A3 s.m c3 A4 c4 p] w fun e W' => ∃ v, e = .returned v ∧ ∃ A c, v = .slice A (rdyTo s s.n).length c ∧ Nums W' A (rdyTo s s.n).length (rdyTo s s.n) ∧ (∀ a, A = some a → w.heap.size ≤ a.block) ∧ Below w.heap.size w W' := by
  have hb := (Below.refl _ w).alloc (Nat.le_refl _) (.cells (refC A s.n c A2 c2 A3 s.m c3 A4 c4 p) 74)
  have HB := Lib.hid hb
  have HH := Lib.hid h
  have HI := Lib.hid hI
  have HBX := Lib.hid (heap_alloc_new w (.cells (refC A s.n c A2 c2 A3 s.m c3 A4 c4 p) 74))
  have HC := Lib.hid (fun i w' (hi : i < s.n) (hb : Below w.heap.size w w') => holder_any A c A2 c2 A3 c3 A4 c4 p ls s i w' (h.below hb) hI hi hm)
  obtain ⟨m, hm'⟩ : ∃ m, m = s.m := ⟨_, rfl⟩
  obtain ⟨n, hn'⟩ : ∃ n, n = s.n := ⟨_, rfl⟩
  have HN := Lib.hid hn'
  rw [← hn'] at hn
  unfold refV refC at *
  rw [← hm'] at HB HBX HC ⊢
  rw [← hn'] at HB HBX HC ⊢
  clear h hI hb hn' hm'
  go_enter Try.func74, Try.ntmps74
  go_wp2_with fail
  go_loopw [3, 4, 5, 6] (fun v x _ _ wr => ∃ k : Nat, x = .int .i64 (k : Int) ∧ k ≤ n ∧ wr.ownsRow (w.heap.size + 1) 3 1 v (rdyTo s k).length (valsZ (rdyTo s k)) ∧ wr.heap[w.heap.size]? = some (.cells #[.slice A n c, .slice A2 n c2, .slice A3 m c3, .slice A4 m c4, .int .i64 p] 74 (0, 0)) ∧ Below w.heap.size w wr) (fun _ x _ _ _ => n - (intOf x).toNat)
  case atStart => exact ⟨0, rfl, by omega, World.ownsRow_nil _ _ _ _, HBX.out, HB.out⟩
  case round =>
    obtain ⟨k, rfl, hk, hown, hbx, hbr⟩ := hrel
    by_cases hlt : k < n
    · obtain ⟨b, off, rfl, hrow⟩ := (HH.out.leans.ext (stays_w hbr)).2.2 (by rw [← HN.out]; omega)
      obtain ⟨A', c', hc1, hnums, hLb⟩ := hrow k (by rw [← HN.out]; exact hlt)
      obtain ⟨b2, off2, rfl, hen⟩ := (HH.out.ended.ext (stays_w hbr)).2.2 (by rw [← HN.out]; omega)
      have e1 := hen k (by rw [← HN.out]; exact hlt)
      rw [enL_at s k (by rw [← HN.out]; exact hlt)] at e1
      have y0 := cell_of_row wr _ 0 _ 74 (0, 0) hbx
      have y1 := cell_of_row wr _ 1 _ 74 (0, 0) hbx
      have y2 := cell_of_row wr _ 2 _ 74 (0, 0) hbx
      have y3 := cell_of_row wr _ 3 _ 74 (0, 0) hbx
      have y4 := cell_of_row wr _ 4 _ 74 (0, 0) hbx
      simp only [List.getElem?_toArray, List.getElem?_cons_zero, List.getElem?_cons_succ] at y0 y1 y2 y3 y4
      have HEN := Lib.hid hen
      have HNU := Lib.hid hnums
      have HO := Lib.hid hown
      have HBXX := Lib.hid hbx
      have HBR := Lib.hid hbr
      have HCK := Lib.hid (HC.out k wr hlt hbr)
      have C1 := Lib.hid hc1
      clear hrow hen hnums hown hbx hbr
      go_upto_region 5 with fail
      go_cut [5] from 14 to 25 (fun v wx => v = .bool (freeB s k) ∧ Below wr.heap.size wr wx)
      case first =>
        by_cases he : s.kd k = 3
        · rw [decide_eq_true he] at e1
          have HF := Lib.hid (show freeB s k = false from by simp [freeB, he])
          clear he
          go_wp2_with fail
          go_meet
          case rel => exact ⟨by rw [HF.out], Below.refl _ _⟩
        · rw [decide_eq_false he] at e1
          have HF := Lib.hid (show freeB s k = decide (s.wk k = -1) from by simp [freeB, he])
          have hwk : s.wk k = -1 ∨ 0 ≤ s.wk k := by
            by_cases h1 : s.wk k = -1
            · exact .inl h1
            · exact .inr (HI.out.wk k (by rw [← HN.out]; exact hlt) h1).1
          obtain ⟨z, hz⟩ : ∃ z, z = s.wk k := ⟨_, rfl⟩
          rw [← hz] at HCK HF hwk
          clear he hz
          go_wp2_with fail
          refine Calls.mono HCK.out ?_
          rintro e w2 ⟨rfl, hb2⟩
          have HB2 := Lib.hid hb2
          clear hb2
          rcases hwk with rfl | hwk
          · go_wp2_with fail
            go_meet
            case rel => exact ⟨by rw [HF.out]; rfl, HB2.out⟩
          · have hz2 : ¬ z < 0 := by omega
            have HZ := Lib.hid (show decide (z = -1) = false from decide_eq_false (by omega))
            go_wp2_with fail
            go_meet
            case rel => exact ⟨by rw [HF.out, HZ.out, decide_eq_false (by omega)], HB2.out⟩
      case rest =>
        obtain ⟨rfl, hb2⟩ := hcut
        have HB2 := Lib.hid hb2
        have HO2 := Lib.hid (ownsRow_ext HO.out hb2)
        have HBX2 := Lib.hid ((hb2.block _ (Array.getElem?_eq_some_iff.1 HBXX.out).1).trans HBXX.out)
        have HBR2 := Lib.hid (HBR.out.trans (hb2.mono HBR.out.size))
        obtain ⟨ok, hok⟩ : ∃ b, b = freeB s k := ⟨_, rfl⟩
        have HOK := Lib.hid (show okB ls s k 0 = ok by rw [okB_zero, hok])
        rw [← hok]
        clear hb2 hok y0 y1 y2 y3 y4 e1 HCK HO HBXX HBR hc1
        obtain ⟨L, hL⟩ : ∃ L, L = (ls.getD k []).length := ⟨_, rfl⟩
        rw [← hL] at C1 HNU hLb
        have HL := Lib.hid hL
        clear hL
        go_wp2_with fail
        go_loopw [5, 6] (fun b x wx => ∃ u : Nat, x = .int .i64 (u : Int) ∧ u ≤ L ∧ b = .bool (okB ls s k u) ∧ Below wc.heap.size wc wx) (fun _ x _ => L - (intOf x).toNat)
        case atStart => exact ⟨0, rfl, by omega, by rw [HOK.out], Below.refl _ _⟩
        case round =>
          obtain ⟨u, rfl, hu, rfl, hbx⟩ := hrel
          have HBY := Lib.hid hbx
          have hy := (hbx.block _ (Array.getElem?_eq_some_iff.1 HBX2.out).1).trans HBX2.out
          have y0 := cell_of_row wr _ 0 _ 74 (0, 0) hy
          have y1 := cell_of_row wr _ 1 _ 74 (0, 0) hy
          simp only [List.getElem?_toArray, List.getElem?_cons_zero, List.getElem?_cons_succ] at y0 y1
          have hbw := HBR2.out.trans (hbx.mono HBR2.out.size)
          have c1 := (HB2.out.trans (hbx.mono HB2.out.size)).cell (p := ⟨b, off + k, none⟩) (World.block_lt_of_cell? _ _ C1.out)
          rw [C1.out] at c1
          clear hbx hy
          by_cases hul : u < L
          · have hs := okB_succ ls s k u (by rw [← HL.out]; exact hul)
            have hx := HI.out.good.mem (getD_mem (by rw [← HL.out]; exact hul))
            obtain ⟨j, hj⟩ : ∃ j : Nat, (ls.getD k []).getD u 0 = (j : Int) := ⟨((ls.getD k []).getD u 0).toNat, by omega⟩
            obtain ⟨b3, off3, rfl, hc3⟩ := (HNU.out.ext (stays_w (HB2.out.trans (HBY.out.mono HB2.out.size)))).2.2 (by omega)
            have c3 := hc3 u hul
            rw [hj] at hs hx c3
            rw [Int.toNat_natCast] at hs
            have e3 := (HH.out.ended.ext (stays_w hbw)).2.2 (by rw [← HN.out]; omega)
            obtain ⟨b4, off4, e4, hen⟩ := e3
            injection e4 with e4
            injection e4 with e4 e5
            subst e4 e5
            have e5 := hen j (by rw [← HN.out]; omega)
            rw [enL_at s j (by rw [← HN.out]; omega)] at e5
            obtain ⟨ej, hej⟩ : ∃ e, e = decide (s.kd j = 3) := ⟨_, rfl⟩
            rw [← hej] at hs e5
            have j0 : (0 : Int) ≤ (j : Int) := by omega
            have j1 : (j : Int) < (n : Int) := by omega
            have k0 : (0 : Int) ≤ (k : Int) := by omega
            have k1 : (k : Int) < (n : Int) := by omega
            have u0 : (0 : Int) ≤ (u : Int) := by omega
            have u1 : (u : Int) < (L : Int) := by omega
            obtain ⟨o, ho⟩ : ∃ o, o = okB ls s k u := ⟨_, rfl⟩
            rw [← ho] at hs ⊢
            have HS := Lib.hid hs
            clear hc3 hen hej hs ho hbw hj hx
            cases o with
            | true =>
              go_wp2_with fail
              go_quiet (fail)
              have HBZ : Hid (Below wc.heap.size wc (wr.drewN nq)) := ⟨HBY.out.os, HBY.out.tape, HBY.out.output, HBY.out.size, HBY.out.block⟩
              clear y0 y1 c1 c3 e5
              go_wp2_with fail
              go_roundw
              case rel => exact ⟨u + 1, by go_num, by omega, by rw [HS.out]; rfl, HBZ.out⟩
              case measure => simp [intOf]; omega
            | false =>
              go_wp2_with fail
              go_quiet (fail)
              have HBZ : Hid (Below wc.heap.size wc (wr.drewN nq)) := ⟨HBY.out.os, HBY.out.tape, HBY.out.output, HBY.out.size, HBY.out.block⟩
              clear y0 y1 c1 c3 e5
              go_wp2_with fail
              go_roundw
              case rel => exact ⟨u + 1, by go_num, by omega, by rw [HS.out]; rfl, HBZ.out⟩
              case measure => simp [intOf]; omega
          · obtain rfl : u = L := by omega
            have hr := okB_rdy HI.out (i := k) (by rw [← HN.out]; exact hlt)
            rw [← HL.out] at hr
            rw [hr]
            have hs := rdyTo_succ s k
            have hl := rdyTo_len s k
            have HO3 := Lib.hid (ownsRow_ext HO2.out (HBY.out.mono (Nat.le_refl _)))
            have HB3 := Lib.hid hbw
            have HY3 := Lib.hid ((HBY.out.block _ (Array.getElem?_eq_some_iff.1 HBX2.out).1).trans HBX2.out)
            obtain ⟨rd, hrd⟩ : ∃ r, r = s.rdy k := ⟨_, rfl⟩
            rw [← hrd] at hs ⊢
            have HRD := Lib.hid hrd
            clear hr hrd hbw
            cases rd with
            | true =>
              rw [if_pos rfl] at hs
              have HS := Lib.hid hs
              have HO4 := Lib.hid (HO3.out.alloc (.cells #[.int .i64 (k : Int)] 3))
              have HR4 := Lib.hid (show Rdv (wr.alloc (.cells #[.int .i64 (k : Int)] 3)) (some ⟨wr.heap.size, 0, none⟩) 1 1 [.int .i64 (k : Int)] from ⟨rfl, fun _ => ⟨_, _, rfl, fun j u hj => by
                rcases j with _ | j
                · simp at hj; subst hj; rw [cell_of_row _ _ _ _ _ (0, 0) (heap_alloc_new wr _)]; rfl
                · simp at hj⟩⟩)
              have HB4 := Lib.hid (HB3.out.alloc HB3.out.size (.cells #[.int .i64 (k : Int)] 3))
              have HY4 := Lib.hid ((Below.heap_alloc wr (.cells #[.int .i64 (k : Int)] 3) _ (Array.getElem?_eq_some_iff.1 HY3.out).1).trans HY3.out)
              have hsz := HB3.out.size
              clear hs
              go_wp2_with (at_builtin; refine wpList_append_rowv elem38 rfl (.tmp 52) (.tmp 54) rfl (w.heap.size + 1) _ (rdyTo s k).length _ rfl HO4.out (some ⟨wr.heap.size, 0, none⟩) 1 1 [.int .i64 (k : Int)] rfl HR4.out (by intro u hu; simp at hu; subst hu; rfl) (fun h => by cases h) (by unfold maxLen; omega) (by omega) (by rw [World.size_alloc]; omega) ?_; intro v3 w3 hown3 hb3)
              go_roundw
              case rel =>
                refine ⟨k + 1, by go_num, by omega, ?_, (hb3.block _ (by omega)).trans HY4.out, HB4.out.trans (hb3.mono (by omega))⟩
                rw [HS.out, List.length_append]
                have e : valsZ (rdyTo s k ++ [(k : Int)]) = valsZ (rdyTo s k) ++ [.int .i64 (k : Int)] := by simp [valsZ]
                rw [e]
                exact hown3
              case measure => simp [intOf]; omega
            | false =>
              rw [if_neg (by decide), List.append_nil] at hs
              have HS := Lib.hid hs
              clear hs
              go_wp2_with fail
              go_roundw
              case rel => exact ⟨k + 1, by go_num, by omega, by rw [HS.out]; exact HO3.out, HY3.out, HB3.out⟩
              case measure => simp [intOf]; omega
    · obtain rfl : k = n := by omega
      obtain ⟨A1, c1, hv1, hnum, _, _⟩ := nums_own hown (rdyTo_fits s k (by omega))
      subst hv1
      have HLT := Lib.hid (show ∀ a, A1 = some a → w.heap.size ≤ a.block from fun a ha => by
        have := (hown.lt a.block (by rw [ha]; rfl)).1
        omega)
      have HNN := Lib.hid hnum
      have HBB := Lib.hid hbr
      have y0 := cell_of_row wr _ 0 _ 74 (0, 0) hbx
      simp only [List.getElem?_toArray, List.getElem?_cons_zero] at y0
      clear hnum hbr hown hbx
      go_wp2_with fail
      go_ret
      exact ⟨_, rfl, A1, c1, rfl, HNN.out, HLT.out, HBB.out⟩
end Go.Proofs.Ytgdkgoiagjjccaa

/- What the document's pick comes to, as numbers: beside a plan's. -/
namespace Go.Proofs.Ytgdkgoiagjjccaa

theorem map_set {α : Type} (n : Nat) (f : Nat → α) (i : Nat) (v : α) : ((List.range n).map f).set i v = (List.range n).map (upd f i v) := by
  apply List.ext_getElem
  · simp
  · intro j h1 h2
    simp only [List.getElem_set, List.getElem_map, List.getElem_range, upd]
    by_cases e : i = j
    · subst e; simp
    · have e2 : ¬ j = i := fun h => e h.symm
      simp [e, e2]
theorem map_eq {α : Type} {n : Nat} {f g : Nat → α} (h : ∀ i, i < n → f i = g i) : (List.range n).map f = (List.range n).map g :=
  List.map_congr_left fun x hx => h x (List.mem_range.1 hx)
theorem Inv.all_of_left {ls : List (List Int)} {s : PS} (h : Inv ls s) (h0 : s.left = 0) : ∀ i, i < s.n → s.kd i = 3 := by
  intro i hi
  have h1 := h.left
  have h2 : (List.range s.n).filter (fun i => !decide (s.kd i = 3)) = [] := List.eq_nil_of_length_eq_zero (by omega)
  have := (List.filter_eq_nil_iff.1 h2) i (List.mem_range.2 hi)
  simpa using this
theorem rdyTo_nil {s : PS} (h : ∀ j, j < s.n → s.rdy j = false) : rdyTo s s.n = [] := by
  unfold rdyTo
  rw [List.filter_eq_nil_iff.2 (by intro x hx; simp [h x (List.mem_range.1 hx)])]
  rfl
theorem rdyTo_cons {s : PS} {i : Nat} (hi : i < s.n) (hr : s.rdy i = true) (hno : ∀ j, j < i → s.rdy j = false) : ∃ t, rdyTo s s.n = (i : Int) :: t := by
  have h1 : ∀ m, i < m → ∃ t, rdyTo s m = (i : Int) :: t := by
    intro m
    induction m with
    | zero => intro h; omega
    | succ m ih =>
      intro hm
      rw [rdyTo_succ]
      rcases Nat.lt_succ_iff_lt_or_eq.1 hm with h2 | h2
      · obtain ⟨t, ht⟩ := ih h2
        exact ⟨t ++ _, by rw [ht]; rfl⟩
      · subst h2
        have h3 : rdyTo s i = [] := by
          unfold rdyTo
          rw [List.filter_eq_nil_iff.2 (by intro x hx; simp [hno x (List.mem_range.1 hx)])]
          rfl
        exact ⟨[], by rw [h3, hr]; rfl⟩
  exact h1 s.n hi
/-- Who is helped: seen from the end. -/
def whoS (s : PS) (w : Int) : Nat → Int
  | 0 => w
  | t + 1 => if s.wk (s.n - 1 - t) = -1 then whoS s w t else s.wk (s.n - 1 - t)
theorem whoS_at {s : PS} {w : Int} {i : Nat} (hi : i < s.n) (hk : s.wk i ≠ -1) (hno : ∀ j, j < i → s.wk j = -1) : whoS s w s.n = s.wk i := by
  have h1 : ∀ t, s.n - i ≤ t → t ≤ s.n → whoS s w t = s.wk i := by
    intro t
    induction t with
    | zero => intro h; omega
    | succ t ih =>
      intro h1 h2
      unfold whoS
      by_cases e : s.n - 1 - t = i
      · rw [e, if_neg hk]
      · rw [if_pos (hno _ (by omega))]
        exact ih (by omega) (by omega)
  exact h1 s.n (by omega) (Nat.le_refl _)
/-- What a pick comes to. -/
inductive Way (ls : List (List Int)) (s : PS) (k : Nat) : PS × PS.Out → Prop where
  | ended (h0 : s.left = 0) : Way ls s k (s, .ended)
  | has (i : Nat) (hl : s.left ≠ 0) (hi : i < s.n) (hw : s.ws k = (i : Int)) (hk : s.wk i = (k : Int)) (h12 : s.kd i = 1 ∨ s.kd i = 2) : Way ls s k (s.act i)
  | took (i : Nat) (t : List Int) (hl : s.left ≠ 0) (hi : i < s.n) (hw : s.ws k = -1) (hr : rdyTo s s.n = (i : Int) :: t) (hk : s.kd i = 0) (hwk : s.wk i = -1) : Way ls s k ((s.took i k).act i)
  | help (i v : Nat) (hl : s.left ≠ 0) (hi : i < s.n) (hw : s.ws k = -1) (hr : rdyTo s s.n = []) (hwho : whoS s (k : Int) s.n = (v : Int)) (hv : v < s.m) (hws : s.ws v = (i : Int)) (hk : s.wk i = (v : Int)) (h12 : s.kd i = 1 ∨ s.kd i = 2) : Way ls s k (s.act i)
theorem way {ls : List (List Int)} {s : PS} (h : Inv ls s) (k : Nat) (hk : k < s.m) : Way ls s k (s.pick k) := by
  have old : ∀ i, i < s.n → s.wk i ≠ -1 → s.left ≠ 0 ∧ (s.kd i = 1 ∨ s.kd i = 2) := by
    intro i hi hw
    have h1 := h.kd i hi
    have h2 := h.has i hi
    have h3 : s.kd i ≠ 3 := fun e => hw (h2.2 (.inr e))
    have h4 : s.kd i ≠ 0 := fun e => hw (h2.2 (.inl e))
    exact ⟨fun e => h3 (h.all_of_left e i hi), by omega⟩
  unfold PS.pick
  rw [if_neg (by omega), Int.toNat_natCast]
  by_cases h1 : s.ws k ≠ -1
  · rw [if_pos h1]
    obtain ⟨a, b, c⟩ := h.ws k hk h1
    obtain ⟨i, hi⟩ : ∃ i : Nat, s.ws k = (i : Int) := ⟨(s.ws k).toNat, by omega⟩
    rw [hi, Int.toNat_natCast] at c ⊢
    obtain ⟨o1, o2⟩ := old i (by omega) (by omega)
    exact .has i o1 (by omega) hi c o2
  rw [if_neg h1]
  have h1' : s.ws k = -1 := by omega
  rcases idx_cases s.n s.rdy with ⟨i, hi, he, hr, hno⟩ | ⟨he, hnr⟩
  · rw [he, if_pos (by omega), Int.toNat_natCast]
    obtain ⟨h0, _⟩ := (h.ready hi).1 hr
    obtain ⟨t, ht⟩ := rdyTo_cons hi hr hno
    exact .took i t (fun e => by have := h.all_of_left e i hi; omega) hi h1' ht h0 ((h.has i hi).2 (.inl h0))
  · rw [if_neg (by omega)]
    rcases idx_cases s.n s.had with ⟨i, hi, he2, hr, hno⟩ | ⟨he2, hnh⟩
    · rw [he2, if_pos (by omega), Int.toNat_natCast]
      have hw : s.wk i ≠ -1 := by simpa [PS.had] using hr
      obtain ⟨o1, o2⟩ := old i hi hw
      obtain ⟨a, b, c⟩ := h.wk i hi hw
      have hv : s.wk i = ((s.wk i).toNat : Int) := by omega
      refine .help i (s.wk i).toNat o1 hi h1' (rdyTo_nil hnr) ?_ (by omega) c hv o2
      rw [← hv]
      exact whoS_at hi hw fun j hj => by simpa [PS.had] using hno j hj
    · rw [if_neg (by omega)]
      refine .ended (h.left_end fun i hi => ?_)
      apply Classical.byContradiction
      intro hc
      obtain ⟨j, hj, hjr⟩ := h.some hi hc hnh
      rw [hnr j hj] at hjr; cases hjr
theorem act1_enL {s : PS} {i : Nat} (h : s.kd i = 1) : enL (s.step i) = enL s := by
  unfold PS.step
  rw [if_neg (by omega), h]
  refine map_eq (n := s.n) fun j _ => ?_
  show decide (upd s.kd i (1 + 1) j = 3) = _
  by_cases e : j = i
  · subst e; rw [upd_same, h]; decide
  · rw [upd_other _ _ e]
theorem act1_haL {s : PS} {i : Nat} (h : s.kd i = 1) : haL (s.step i) = haL s := by
  unfold PS.step
  rw [if_neg (by omega)]
  rfl
theorem act1_raL {ls : List (List Int)} {s : PS} (hI : Inv ls s) {i v : Nat} (h : s.kd i = 1) (hw : s.ws v = (i : Int)) (hk : s.wk i = (v : Int)) : raL (s.step i) = (raL s).set v true := by
  unfold raL
  rw [map_set]
  unfold PS.step
  rw [if_neg (by omega), h]
  refine map_eq (n := s.m) fun j hj => ?_
  show (!decide (s.ws j = -1) && decide (upd s.kd i (1 + 1) (s.ws j).toNat = 2)) = upd (ranB s) v true j
  by_cases e : j = v
  · subst e; rw [upd_same, hw, Int.toNat_natCast, upd_same]; simp
  · rw [upd_other _ _ e]
    unfold ranB
    by_cases h1 : s.ws j = -1
    · simp [h1]
    · obtain ⟨a, b, c⟩ := hI.ws j hj h1
      rw [upd_other _ _ (fun e2 => by rw [e2] at c; omega)]
theorem act2_enL {s : PS} {i : Nat} (h : s.kd i = 2) : enL (s.step i) = (enL s).set i true := by
  unfold enL
  rw [map_set]
  unfold PS.step
  rw [if_pos (by omega), h]
  refine map_eq (n := s.n) fun j _ => ?_
  show decide (upd s.kd i (2 + 1) j = 3) = upd (fun i => decide (s.kd i = 3)) i true j
  by_cases e : j = i
  · subst e; rw [upd_same, upd_same]; decide
  · rw [upd_other _ _ e, upd_other _ _ e]
theorem act2_haL {s : PS} {i v : Nat} (h : s.kd i = 2) (hk : s.wk i = (v : Int)) : haL (s.step i) = (haL s).set v (-1) := by
  unfold haL
  rw [map_set]
  unfold PS.step
  rw [if_pos (by omega), hk, Int.toNat_natCast]
theorem act2_raL {ls : List (List Int)} {s : PS} (hI : Inv ls s) {i v : Nat} (h : s.kd i = 2) (hk : s.wk i = (v : Int)) : raL (s.step i) = (raL s).set v false := by
  unfold raL
  rw [map_set]
  unfold PS.step
  rw [if_pos (by omega), h, hk, Int.toNat_natCast]
  refine map_eq (n := s.m) fun j hj => ?_
  show (!decide (upd s.ws v (-1) j = -1) && decide (upd s.kd i (2 + 1) (upd s.ws v (-1) j).toNat = 2)) = upd (ranB s) v false j
  by_cases e : j = v
  · subst e; rw [upd_same, upd_same]; simp
  · rw [upd_other _ _ e, upd_other _ _ e]
    unfold ranB
    by_cases h1 : s.ws j = -1
    · simp [h1]
    · obtain ⟨a, b, c⟩ := hI.ws j hj h1
      rw [upd_other _ _ (fun e2 => by rw [e2] at c; omega)]
theorem took_enL {s : PS} {i k : Nat} (h : s.kd i = 0) : enL ((s.took i k).step i) = enL s := by
  unfold PS.step
  rw [if_neg (by show ¬ s.kd i + 1 = 3; omega)]
  refine map_eq (n := s.n) fun j _ => ?_
  show decide (upd s.kd i (s.kd i + 1) j = 3) = _
  by_cases e : j = i
  · subst e; rw [upd_same, h]; decide
  · rw [upd_other _ _ e]
theorem took_haL {s : PS} {i k : Nat} (h : s.kd i = 0) : haL ((s.took i k).step i) = (haL s).set k i := by
  unfold haL
  rw [map_set]
  unfold PS.step
  rw [if_neg (by show ¬ s.kd i + 1 = 3; omega)]
  rfl
theorem took_raL {ls : List (List Int)} {s : PS} (hI : Inv ls s) {i k : Nat} (h : s.kd i = 0) (hwk : s.wk i = -1) : raL ((s.took i k).step i) = (raL s).set k false := by
  unfold raL
  rw [map_set]
  unfold PS.step
  rw [if_neg (by show ¬ s.kd i + 1 = 3; omega)]
  refine map_eq (n := s.m) fun j hj => ?_
  show (!decide (upd s.ws k (i : Int) j = -1) && decide (upd s.kd i (s.kd i + 1) (upd s.ws k (i : Int) j).toNat = 2)) = upd (ranB s) k false j
  by_cases e : j = k
  · subst e; rw [upd_same, upd_same, Int.toNat_natCast, upd_same, h]; simp
  · rw [upd_other _ _ e, upd_other _ _ e]
    unfold ranB
    by_cases h1 : s.ws j = -1
    · simp [h1]
    · obtain ⟨a, b, c⟩ := hI.ws j hj h1
      rw [upd_other _ _ (fun e2 => by rw [e2] at c; omega)]
end Go.Proofs.Ytgdkgoiagjjccaa

/- The document's plan copied. -/
namespace Go.Proofs.Ytgdkgoiagjjccaa
set_option maxRecDepth 100000
open Go.RowKit

/-- A row that was made anew. -/
def Row (w w' : World) (v : Value) (n : Nat) (ys : List Value) : Prop :=
  ∃ A c, v = .slice A n c ∧ Rdv w' A n 1 ys ∧ (0 < n → ∃ g, A = some ⟨g, 0, none⟩ ∧ w.heap.size ≤ g ∧ g < w'.heap.size ∧ ∀ o, w'.frozen? ⟨g, o, none⟩ = false)
theorem run_append_fresh {P : Program} {t e : TypeId} {bytes : Nat} (E : ElemT P t e 1 bytes) (w : World) (ty : TypeId) (p : Addr)
    (A : Option Addr) (m c : Nat) (ys : List Value) (hr : Rdv w A m 1 ys) (hnil : A = none → c = 0) (hmx : m ≤ maxLen) (hby : m * bytes ≤ 140737488355328) :
    ∃ v w', (Builtin.append_ #[t, t] ty #[.slice (some p) 0 0, .slice A m c]).run P w = .ok v w' ∧ Row w w' v m ys ∧ Below w.heap.size w w' ∧ ∃ ad c', v = .slice (some ad) m c' := by
  obtain ⟨ht, hinfo, ⟨i, z, hi, hz, hzs⟩, hpos⟩ := E
  rw [hi] at hinfo
  simp at hinfo
  obtain ⟨hl, hc⟩ := hr
  by_cases hm : m = 0
  · subst hm
    have hy : ys = [] := List.eq_nil_of_length_eq_zero (by simp [hl])
    subst hy
    refine ⟨.slice (some p) 0 0, w, ?_, ⟨some p, 0, rfl, ⟨by simp, fun h => absurd h (by omega)⟩, fun h => absurd h (by omega)⟩, Below.refl _ _, _, _, rfl⟩
    rcases A with _ | ad
    · simp [Builtin.append_, run_underlying ht, sizeOf, typeInfo, hi, Builtin.lenOf, Builtin.firstCells, loadCells, loadCellsFrom, storeCells, hnil rfl]
    · simp [Builtin.append_, run_underlying ht, sizeOf, typeInfo, hi, Builtin.lenOf, Builtin.firstCells, loadCells, loadCellsFrom, storeCells]
  · obtain ⟨b, off, rfl, h5⟩ := hc (by omega)
    have hnews : ∀ j u, ys[j]? = some u → w.cell? ((⟨b, off, none⟩ : Addr).add j) = some u := fun j u hj => by rw [addr_plus]; exact h5 j u hj
    have hrun := run_append_grow (P := P) w t ty e i z ht hi hz p 0 0 [] (by simp) (fun j u hj => by simp at hj) ⟨b, off, none⟩ m c ys (by rw [hl, hinfo.1]) hnews (by omega) (by unfold maxLen at hmx; omega) (growslice_fits (by unfold maxLen at hmx; omega) (by rw [hinfo.2, Nat.zero_add]; exact hby))
    rw [Nat.zero_add] at hrun
    have hg : (w.drew.alloc (.cells (#[] ++ ys.toArray ++ Builtin.zeroCells z.cells (grownCap w m 0 e - m)) e)).heap[w.heap.size]? = some (.cells (#[] ++ ys.toArray ++ Builtin.zeroCells z.cells (grownCap w m 0 e - m)) e (0, 0)) := heap_alloc_new w.drew _
    refine ⟨_, _, hrun, ⟨_, _, rfl, ⟨hl, fun _ => ⟨_, _, rfl, fun j u hj => ?_⟩⟩, fun _ => ⟨_, rfl, Nat.le_refl _, (Array.getElem?_eq_some_iff.1 hg).1, fun o => frozen_of_row _ _ _ _ _ hg⟩⟩, ((Below.refl _ w).drew).alloc (Nat.le_refl _) _, _, _, rfl⟩
    rw [Nat.zero_add, cell_of_row _ _ j _ e (0, 0) hg]
    have hlt : j < ys.length := by
      rcases Nat.lt_or_ge j ys.length with h' | h'
      · exact h'
      · rw [List.getElem?_eq_none h'] at hj; cases hj
    have e1 : #[] ++ ys.toArray = ys.toArray := by simp
    rw [e1, Array.getElem?_append_left (by simpa using hlt)]
    simpa using hj
theorem does_append_fresh {P : Program} {t e : TypeId} {bytes : Nat} (E : ElemT P t e 1 bytes) {ops : Array Oper} {Q : Exit → Act → World → Prop} {o : Oper} {a : Act} {w : World} (hgd : o.guard = none) (s x : Operand)
    (ho : o.op = .call { callee := .builtin .append, args := #[s, x], argTypes := #[t, t] }) (p : Addr) (hs : a.eval s = .slice (some p) 0 0)
    (A : Option Addr) (m c : Nat) (ys : List Value) (hx : a.eval x = .slice A m c) (hr : Rdv w A m 1 ys) (hnil : A = none → c = 0) (hmx : m ≤ maxLen) (hby : m * bytes ≤ 140737488355328) {F : Fact} {d : List Past}
    (hF : ∀ v w', Row w w' v m ys → F d v w w') : Does P ops Q o F w d a := by
  intro K hK
  rw [if_pos (by simp [Region.wanted, hgd])]
  obtain ⟨v, w', hrun, h2, h3, _⟩ := run_append_fresh E w o.type p A m c ys hr hnil hmx hby
  have h6 := hK v w' (hF _ _ h2) h3
  unfold Oper.wp
  simp [execOp, ho, resolve, invoke, builtin, hs, hx, hrun, Result.andThen]
  exact h6
theorem elem67 : ElemT Try.prog 67 4 1 1 :=
  ⟨Try.underlying67, by kernel_rfl, by
    obtain ⟨i, hi, hz, h1, _⟩ := info_parts (show (Try.prog.info? 4).map (fun i => (i.zero, i.size, i.bytes)) = some (some (.bool false), 1, 1) by kernel_rfl)
    exact ⟨i, _, hi, hz, rfl⟩, by decide⟩
def valsB (xs : List Bool) : List Value := xs.map Value.bool
theorem rdv_bls {w : World} {A : Option Addr} {n : Nat} {bs : List Bool} (h : Bls w A n bs) : Rdv w A n 1 (valsB bs) := by
  refine ⟨by simp [valsB, h.1], fun hn => ?_⟩
  obtain ⟨b, off, e, hc⟩ := h.2.2 hn
  refine ⟨b, off, e, fun j u hj => ?_⟩
  have hl : j < bs.length := by
    rcases Nat.lt_or_ge j bs.length with h' | h'
    · exact h'
    · rw [List.getElem?_eq_none (by simp [valsB]; exact h')] at hj; cases hj
  rw [hc j (by rw [← h.1]; exact hl)]
  simp [valsB, hl] at hj
  rw [← hj]
  simp [List.getD_eq_getElem?_getD, hl]
theorem bls_rdv {w : World} {A : Option Addr} {n : Nat} {bs : List Bool} (h : Rdv w A n 1 (valsB bs)) (hn : n ≤ 9223372036854775807) : Bls w A n bs := by
  have hl : bs.length = n := by have := h.1; simpa [valsB] using this
  refine ⟨hl, hn, fun hn => ?_⟩
  obtain ⟨b, off, e, hc⟩ := h.2 hn
  refine ⟨b, off, e, fun j hj => hc j _ ?_⟩
  simp [valsB, List.getD_eq_getElem?_getD, show j < bs.length by omega]


/-- A plan that was copied; beside it the results' blocks. -/
structure Cpy (w : World) (B : Nat) (W : World) (g b2 b3 b4 : Nat) (A : Option Addr) (n c c2 m c3 c4 : Nat) (p : Int) (en : List Bool) (ha : List Int) (ra : List Bool) : Prop where
  below : Below w.heap.size w W
  low : w.heap.size + 3 ≤ B ∧ B ≤ g ∧ B ≤ b2 ∧ B ≤ b3 ∧ B ≤ b4
  hi : g < W.heap.size ∧ b2 < W.heap.size ∧ b3 < W.heap.size ∧ b4 < W.heap.size
  ne : g ≠ b2 ∧ g ≠ b3 ∧ g ≠ b4 ∧ b2 ≠ b3 ∧ b2 ≠ b4 ∧ b3 ≠ b4
  box : W.heap[g]? = some (.cells #[.slice A n c, .slice (some ⟨b2, 0, none⟩) n c2, .slice (some ⟨b3, 0, none⟩) m c3, .slice (some ⟨b4, 0, none⟩) m c4, .int .i64 p] 74 (0, 0))
  len : en.length = n ∧ ha.length = m ∧ ra.length = m
  en : ∀ j, j < n → W.cell? ⟨b2, j, none⟩ = some (.bool (en.getD j false))
  ha : ∀ j, j < m → W.cell? ⟨b3, j, none⟩ = some (.int .i64 (ha.getD j 0))
  ra : ∀ j, j < m → W.cell? ⟨b4, j, none⟩ = some (.bool (ra.getD j false))
  fr : (∀ o, W.frozen? ⟨b2, o, none⟩ = false) ∧ (∀ o, W.frozen? ⟨b3, o, none⟩ = false) ∧ ∀ o, W.frozen? ⟨b4, o, none⟩ = false
  r4 : W.heap[w.heap.size + 1]? = some (.cells #[.slice none 0 0, .slice none 0 0, .slice none 0 0, .slice none 0 0, .int .i64 0] 74 (0, 0))
  r5 : W.heap[w.heap.size + 1 + 1]? = some (.cells #[.int .i64 0, .int .i64 0, .int .i64 0] 81 (0, 0))
section
variable {w W : World} {B g b2 b3 b4 n c c2 m c3 c4 : Nat} {A : Option Addr} {p : Int} {en : List Bool} {ha : List Int} {ra : List Bool}
theorem Cpy.ext {W' : World} (h : Cpy w B W g b2 b3 b4 A n c c2 m c3 c4 p en ha ra) (hb : Below W.heap.size W W') : Cpy w B W' g b2 b3 b4 A n c c2 m c3 c4 p en ha ra := by
  obtain ⟨h1, h2, h3, h4⟩ := h.hi
  obtain ⟨p1, p2⟩ := cell_frozen (hb.block b2 h2)
  obtain ⟨t1, t2⟩ := cell_frozen (hb.block b3 h3)
  obtain ⟨u1, u2⟩ := cell_frozen (hb.block b4 h4)
  have hz := hb.size
  refine ⟨h.below.trans (hb.mono h.below.size), h.low, ⟨by omega, by omega, by omega, by omega⟩, h.ne, (hb.block g h1).trans h.box, h.len, fun j hj => (p1 j).trans (h.en j hj), fun j hj => (t1 j).trans (h.ha j hj), fun j hj => (u1 j).trans (h.ra j hj), ⟨fun o => (p2 o).trans (h.fr.1 o), fun o => (t2 o).trans (h.fr.2.1 o), fun o => (u2 o).trans (h.fr.2.2 o)⟩, (hb.block _ (Array.getElem?_eq_some_iff.1 h.r4).1).trans h.r4, (hb.block _ (Array.getElem?_eq_some_iff.1 h.r5).1).trans h.r5⟩
theorem getD_set {α : Type} (l : List α) (i j : Nat) (v d : α) (hi : i < l.length) : (l.set i v).getD j d = if j = i then v else l.getD j d := by
  simp only [List.getD_eq_getElem?_getD, List.getElem?_set]
  by_cases e : i = j
  · subst e; simp [hi]
  · have e2 : ¬ j = i := fun h => e h.symm
    simp [e, e2]
theorem Cpy.setEn (h : Cpy w B W g b2 b3 b4 A n c c2 m c3 c4 p en ha ra) (i : Nat) (hi : i < n) (v : Bool) : Cpy w B (W.setCell ⟨b2, i, none⟩ (.bool v)) g b2 b3 b4 A n c c2 m c3 c4 p (en.set i v) ha ra := by
  obtain ⟨l0, l1, l2, l3, l4⟩ := h.low
  obtain ⟨n1, n2, n3, n4, n5, n6⟩ := h.ne
  refine ⟨h.below.setCell (p := ⟨b2, i, none⟩) (by show w.heap.size ≤ b2; omega) _, h.low, by simp only [World.size_setCell]; exact h.hi, h.ne, (Below.heap_setCell _ _ _ _ (by show g ≠ b2; omega)).trans h.box, by rw [List.length_set]; exact h.len, fun j hj => ?_, fun j hj => by rw [set_blk n4]; exact h.ha j hj, fun j hj => by rw [set_blk n5]; exact h.ra j hj,
    ⟨fun o => by rw [World.frozen?_setCell]; exact h.fr.1 o, fun o => by rw [World.frozen?_setCell]; exact h.fr.2.1 o, fun o => by rw [World.frozen?_setCell]; exact h.fr.2.2 o⟩, (Below.heap_setCell _ _ _ _ (by show w.heap.size + 1 ≠ b2; omega)).trans h.r4, (Below.heap_setCell _ _ _ _ (by show w.heap.size + 1 + 1 ≠ b2; omega)).trans h.r5⟩
  rw [getD_set _ _ _ _ _ (by rw [h.len.1]; exact hi)]
  by_cases e : j = i
  · subst e; rw [if_pos rfl]; exact set_same (h.en j hj)
  · rw [if_neg e, set_off e]; exact h.en j hj
theorem Cpy.setHa (h : Cpy w B W g b2 b3 b4 A n c c2 m c3 c4 p en ha ra) (i : Nat) (hi : i < m) (v : Int) : Cpy w B (W.setCell ⟨b3, i, none⟩ (.int .i64 v)) g b2 b3 b4 A n c c2 m c3 c4 p en (ha.set i v) ra := by
  obtain ⟨l0, l1, l2, l3, l4⟩ := h.low
  obtain ⟨n1, n2, n3, n4, n5, n6⟩ := h.ne
  refine ⟨h.below.setCell (p := ⟨b3, i, none⟩) (by show w.heap.size ≤ b3; omega) _, h.low, by simp only [World.size_setCell]; exact h.hi, h.ne, (Below.heap_setCell _ _ _ _ (by show g ≠ b3; omega)).trans h.box, by rw [List.length_set]; exact h.len, fun j hj => by rw [set_blk n4.symm]; exact h.en j hj, fun j hj => ?_, fun j hj => by rw [set_blk n6]; exact h.ra j hj,
    ⟨fun o => by rw [World.frozen?_setCell]; exact h.fr.1 o, fun o => by rw [World.frozen?_setCell]; exact h.fr.2.1 o, fun o => by rw [World.frozen?_setCell]; exact h.fr.2.2 o⟩, (Below.heap_setCell _ _ _ _ (by show w.heap.size + 1 ≠ b3; omega)).trans h.r4, (Below.heap_setCell _ _ _ _ (by show w.heap.size + 1 + 1 ≠ b3; omega)).trans h.r5⟩
  rw [getD_set _ _ _ _ _ (by rw [h.len.2.1]; exact hi)]
  by_cases e : j = i
  · subst e; rw [if_pos rfl]; exact set_same (h.ha j hj)
  · rw [if_neg e, set_off e]; exact h.ha j hj
theorem Cpy.setRa (h : Cpy w B W g b2 b3 b4 A n c c2 m c3 c4 p en ha ra) (i : Nat) (hi : i < m) (v : Bool) : Cpy w B (W.setCell ⟨b4, i, none⟩ (.bool v)) g b2 b3 b4 A n c c2 m c3 c4 p en ha (ra.set i v) := by
  obtain ⟨l0, l1, l2, l3, l4⟩ := h.low
  obtain ⟨n1, n2, n3, n4, n5, n6⟩ := h.ne
  refine ⟨h.below.setCell (p := ⟨b4, i, none⟩) (by show w.heap.size ≤ b4; omega) _, h.low, by simp only [World.size_setCell]; exact h.hi, h.ne, (Below.heap_setCell _ _ _ _ (by show g ≠ b4; omega)).trans h.box, by rw [List.length_set]; exact h.len, fun j hj => by rw [set_blk n5.symm]; exact h.en j hj, fun j hj => by rw [set_blk n6.symm]; exact h.ha j hj, fun j hj => ?_,
    ⟨fun o => by rw [World.frozen?_setCell]; exact h.fr.1 o, fun o => by rw [World.frozen?_setCell]; exact h.fr.2.1 o, fun o => by rw [World.frozen?_setCell]; exact h.fr.2.2 o⟩, (Below.heap_setCell _ _ _ _ (by show w.heap.size + 1 ≠ b4; omega)).trans h.r4, (Below.heap_setCell _ _ _ _ (by show w.heap.size + 1 + 1 ≠ b4; omega)).trans h.r5⟩
  rw [getD_set _ _ _ _ _ (by rw [h.len.2.2]; exact hi)]
  by_cases e : j = i
  · subst e; rw [if_pos rfl]; exact set_same (h.ra j hj)
  · rw [if_neg e, set_off e]; exact h.ra j hj
theorem Cpy.refR (h : Cpy w B W g b2 b3 b4 A n c c2 m c3 c4 p en ha ra) {ls : List (List Int)} {s : PS} (hl : Rws W A n ls) (hn : s.n = n) (hm : s.m = m) (he : enL s = en) (hh : haL s = ha) (hr : raL s = ra) (hf : ∀ x ∈ ha, Fits x) (h1 : n ≤ 9223372036854775807) (h2 : m ≤ 9223372036854775807) :
    RefR W A (some ⟨b2, 0, none⟩) (some ⟨b3, 0, none⟩) (some ⟨b4, 0, none⟩) ls s := by
  subst hn hm he hh hr
  refine ⟨hl, ⟨h.len.1, h1, fun _ => ⟨_, _, rfl, fun j hj => by rw [Nat.zero_add]; exact h.en j hj⟩⟩, ⟨h.len.2.1, hf, fun _ => ⟨_, _, rfl, fun j hj => by rw [Nat.zero_add]; exact h.ha j hj⟩⟩, ⟨h.len.2.2, h2, fun _ => ⟨_, _, rfl, fun j hj => by rw [Nat.zero_add]; exact h.ra j hj⟩⟩⟩
theorem q_set {W : World} {g : Nat} {x0 x1 x2 x3 x4 a b c d e : Value} (h : W.heap[g]? = some (.cells #[x0, x1, x2, x3, x4] 74 (0, 0))) :
    (((((W.setCell ⟨g, 0, none⟩ a).setCell ⟨g, 1, none⟩ b).setCell ⟨g, 2, none⟩ c).setCell ⟨g, 3, none⟩ d).setCell ⟨g, 4, none⟩ e).heap[g]? = some (.cells #[a, b, c, d, e] 74 (0, 0)) :=
  Go.heap_setCell_same _ g 4 _ 74 e (Go.heap_setCell_same _ g 3 _ 74 d (Go.heap_setCell_same _ g 2 _ 74 c (Go.heap_setCell_same _ g 1 _ 74 b (Go.heap_setCell_same _ g 0 _ 74 a h))))
theorem e_set {W : World} {g : Nat} {x y z a b c : Value} (h : W.heap[g]? = some (.cells #[x, y, z] 81 (0, 0))) :
    (((W.setCell ⟨g, 0, none⟩ a).setCell ⟨g, 1, none⟩ b).setCell ⟨g, 2, none⟩ c).heap[g]? = some (.cells #[a, b, c] 81 (0, 0)) :=
  Go.heap_setCell_same _ g 2 _ 81 c (Go.heap_setCell_same _ g 1 _ 81 b (Go.heap_setCell_same _ g 0 _ 81 a h))
end
end Go.Proofs.Ytgdkgoiagjjccaa
