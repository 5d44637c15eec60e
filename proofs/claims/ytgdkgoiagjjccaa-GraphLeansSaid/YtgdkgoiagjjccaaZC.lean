/- SFst, SPlan, SFur, SPick, SGood, SPush: put together. -/
import Derived.Test.YtgdkgoiagjjccaaZB
import Derived.Test.YtgdkgoiagjjccaaZA
import Derived.Shelf.GgClosure.Gives
import Derived.Deep.RegionHeld3
import Derived.Deep.DrawnRows
import Derived.BigRegion
import Derived.Deep.AppendLies
/- Tasks in memory; which is the first one of which it is so. -/
namespace Go.Proofs.Ytgdkgoiagjjccaa
set_option maxRecDepth 100000
open Go.RowKit Go.Shelf

/-- Tasks: of each three numbers and a slice. -/
def Tks (W : World) (bt n : Nat) (kd wk wt : Nat → Int) (sa : Nat → Option Addr) (sn sc : Nat → Nat) : Prop :=
  ∀ i, i < n → W.cell? ⟨bt, i * 4, none⟩ = some (.int .i64 (kd i)) ∧ W.cell? ⟨bt, i * 4 + 1, none⟩ = some (.int .i64 (wk i)) ∧ W.cell? ⟨bt, i * 4 + 2, none⟩ = some (.int .i64 (wt i)) ∧ W.cell? ⟨bt, i * 4 + 3, none⟩ = some (.slice (sa i) (sn i) (sc i))
theorem Tks.below {W W' : World} {bt n : Nat} {kd wk wt : Nat → Int} {sa : Nat → Option Addr} {sn sc : Nat → Nat} (h : Tks W bt n kd wk wt sa sn sc) (hb : Below W.heap.size W W') : Tks W' bt n kd wk wt sa sn sc := fun i hi => by
  obtain ⟨a, b, c, d⟩ := h i hi
  exact ⟨(hb.cell (World.block_lt_of_cell? _ _ a)).trans a, (hb.cell (World.block_lt_of_cell? _ _ b)).trans b, (hb.cell (World.block_lt_of_cell? _ _ c)).trans c, (hb.cell (World.block_lt_of_cell? _ _ d)).trans d⟩
def taskV (k w t : Int) (A : Option Addr) (n c : Nat) : Value := .agg #[.int .i64 k, .int .i64 w, .int .i64 t, .slice A n c]

set_option maxHeartbeats 400000 in
theorem ready_any (k w t : Int) (A : Option Addr) (n c : Nat) (W : World) : Calls Try.prog 70 #[taskV k w t A n c] W fun e W' => e = .returned (.bool (decide (k = 0) && decide (t = 0))) ∧ Below W.heap.size W W' := by
  have HB := Lib.hid (show Below W.heap.size W (W.alloc (.cells #[.int .i64 k, .int .i64 w, .int .i64 t, .slice A n c] 127)) from (Below.refl _ W).alloc (Nat.le_refl _) _)
  unfold taskV
  by_cases h1 : k = 0
  · subst h1
    by_cases h2 : t = 0
    · subst h2
      go_enter Try.func70, Try.ntmps70
      go_wp2_with fail
      go_ret
      exact ⟨rfl, HB.out⟩
    · have e2 : (t == 0) = false := beq_eq_false_iff_ne.2 h2
      go_enter Try.func70, Try.ntmps70
      go_wp2_with fail
      go_ret
      exact ⟨by simp [h2], HB.out⟩
  · have e1 : (k == 0) = false := beq_eq_false_iff_ne.2 h1
    go_enter Try.func70, Try.ntmps70
    go_wp2_with fail
    go_ret
    exact ⟨by simp [h1], HB.out⟩
set_option maxHeartbeats 400000 in
theorem had_any (k w t : Int) (A : Option Addr) (n c : Nat) (W : World) : Calls Try.prog 71 #[taskV k w t A n c] W fun e W' => e = .returned (.bool (!decide (w = -1))) ∧ Below W.heap.size W W' := by
  have HB := Lib.hid (show Below W.heap.size W (W.alloc (.cells #[.int .i64 k, .int .i64 w, .int .i64 t, .slice A n c] 127)) from (Below.refl _ W).alloc (Nat.le_refl _) _)
  unfold taskV
  by_cases h1 : w = -1
  · subst h1
    go_enter Try.func71, Try.ntmps71
    go_wp2_with fail
    go_ret
    exact ⟨rfl, HB.out⟩
  · have e1 : (w != -1) = true := by simp [h1]
    go_enter Try.func71, Try.ntmps71
    go_wp2_with fail
    go_ret
    exact ⟨by simp [h1], HB.out⟩

set_option maxHeartbeats 1000000 in
theorem index_task (g : Nat) (p : Int → Int → Int → Bool) (hp : ∀ k w t A n c W, Calls Try.prog g #[taskV k w t A n c] W fun e W' => e = .returned (.bool (p k w t)) ∧ Below W.heap.size W W')
    (eg : ∀ args w, (callFunc g args).run Try.prog w = .ok (.enter g args) w) (bt n c : Nat) (kd wk wt : Nat → Int) (sa : Nat → Option Addr) (sn sc : Nat → Nat) (w : World) (h : Tks w bt n kd wk wt sa sn sc) (hn : n ≤ 9223372036854775807) :
    Calls Try.prog 89 #[.slice (some ⟨bt, 0, none⟩) n c, .func (.func g) #[] #[]] w fun e w' => e = .returned (.int .i64 (idx n fun i => p (kd i) (wk i) (wt i))) ∧ Below w.heap.size w w' := by
  have HH := Lib.hid h
  have HP := Lib.hid hp
  have HX := Lib.hid (show (∀ k, k < n → p (kd k) (wk k) (wt k) = true → (∀ j, j < k → p (kd j) (wk j) (wt j) = false) → idx n (fun i => p (kd i) (wk i) (wt i)) = (k : Int)) from fun k hk h1 h2 => idx_hit hk h1 h2)
  have HY := Lib.hid (show ((∀ j, j < n → p (kd j) (wk j) (wt j) = false) → idx n (fun i => p (kd i) (wk i) (wt i)) = -1) from fun h => idx_miss h)
  obtain ⟨R, hR⟩ : ∃ R, R = idx n (fun i => p (kd i) (wk i) (wt i)) := ⟨_, rfl⟩
  rw [← hR] at HX HY ⊢
  clear h hp hR
  go_enter Try.func89, Try.ntmps89
  go_wp2_with fail
  go_loopw [5, 8] (fun _ i wr => ∃ k : Nat, i = .int .i64 (k : Int) ∧ k ≤ n ∧ (∀ j, j < k → p (kd j) (wk j) (wt j) = false) ∧ Below w.heap.size w wr) (fun _ i _ => n - (intOf i).toNat)
  case atStart => exact ⟨0, rfl, by omega, fun j hj => by omega, Below.refl _ _⟩
  case round =>
    obtain ⟨k, rfl, hk, hno, hbr⟩ := hrel
    have HN := Lib.hid hno
    have HR := Lib.hid hbr
    clear hno hbr
    by_cases hlt : k < n
    · obtain ⟨c0, c1, c2, c3⟩ := (HH.out.below HR.out) k hlt
      have C := HP.out (kd k) (wk k) (wt k) (sa k) (sn k) (sc k) wr
      unfold taskV at C
      have HC := Lib.hid C
      have HK := Lib.hid (HX.out k hlt)
      clear C HX HH HP
      cases hq : p (kd k) (wk k) (wt k) with
      | true =>
        have C := HC.out
        rw [hq] at C
        have HC := Lib.hid C
        have HQ := Lib.hid hq
        clear C hq
        go_wp2_with fail
        refine Calls.mono HC.out ?_
        rintro e w2 ⟨rfl, hb⟩
        have HB := Lib.hid (HR.out.trans (hb.mono HR.out.size))
        clear hb
        go_wp2_with fail
        go_ret
        exact ⟨by rw [HK.out HQ.out HN.out]; rfl, HB.out⟩
      | false =>
        have C := HC.out
        rw [hq] at C
        have HC := Lib.hid C
        have HQ := Lib.hid hq
        clear C hq
        go_wp2_with fail
        refine Calls.mono HC.out ?_
        rintro e w2 ⟨rfl, hb⟩
        have HB := Lib.hid (HR.out.trans (hb.mono HR.out.size))
        clear hb
        go_wp2_with fail
        go_roundw
        case rel =>
          refine ⟨k + 1, by go_num, by omega, fun j hj => ?_, HB.out⟩
          rcases Nat.lt_succ_iff_lt_or_eq.1 hj with h1 | h1
          · exact HN.out j h1
          · rw [h1]; exact HQ.out
        case measure => simp [intOf]; omega
    · obtain rfl : k = n := by omega
      go_wp2_with fail
      go_ret
      exact ⟨by rw [HY.out HN.out]; rfl, HR.out⟩
end Go.Proofs.Ytgdkgoiagjjccaa

/- A plan in memory; what a store into it comes to. -/
namespace Go.Proofs.Ytgdkgoiagjjccaa
set_option maxRecDepth 100000
open Go.RowKit

/-- All blocks but some are as they were. -/
structure Fr (bs : List Nat) (w w' : World) : Prop where
  os : w'.os = w.os
  tape : w'.tape = w.tape
  output : w'.output = w.output
  size : w.heap.size ≤ w'.heap.size
  block : ∀ k, k < w.heap.size → k ∉ bs → w'.heap[k]? = w.heap[k]?
theorem Fr.refl (bs : List Nat) (w : World) : Fr bs w w := ⟨rfl, rfl, rfl, Nat.le_refl _, fun _ _ _ => rfl⟩
theorem Fr.trans {bs : List Nat} {a b c : World} (h : Fr bs a b) (k : Fr bs b c) : Fr bs a c :=
  ⟨k.os.trans h.os, k.tape.trans h.tape, k.output.trans h.output, Nat.le_trans h.size k.size, fun i hi hn => (k.block i (Nat.lt_of_lt_of_le hi h.size) hn).trans (h.block i hi hn)⟩
theorem Fr.of {bs : List Nat} {w w' : World} (h : Below w.heap.size w w') : Fr bs w w' := ⟨h.os, h.tape, h.output, h.size, fun k hk _ => h.block k hk⟩
theorem Fr.set {bs : List Nat} {a w : World} (h : Fr bs a w) (p : Addr) (u : Value) (hp : p.block ∈ bs) : Fr bs a (w.setCell p u) :=
  h.trans ⟨rfl, rfl, rfl, by simp [World.setCell], fun k _ hn => Below.heap_setCell _ _ _ _ (fun e => hn (e ▸ hp))⟩
theorem Fr.alloc {bs : List Nat} {a w : World} (h : Fr bs a w) (o : Obj) : Fr bs a (w.alloc o) := h.trans (Fr.of ((Below.refl _ w).alloc (Nat.le_refl _) o))
theorem Fr.drew {bs : List Nat} {a w : World} (h : Fr bs a w) : Fr bs a w.drew := ⟨h.os, h.tape, h.output, h.size, h.block⟩
theorem Fr.drewN {bs : List Nat} {a w : World} (h : Fr bs a w) (n : Nat) : Fr bs a (w.drewN n) := ⟨h.os, h.tape, h.output, h.size, h.block⟩
theorem Fr.new {bs : List Nat} {a w : World} (h : Fr bs a w) (p : Addr) (u : Value) (hp : a.heap.size ≤ p.block) : Fr bs a (w.setCell p u) :=
  ⟨h.os, h.tape, h.output, by simpa [World.setCell] using h.size, fun k hk hn => (Below.heap_setCell _ _ _ _ (by omega)).trans (h.block k hk hn)⟩
theorem Fr.below {bs : List Nat} {B : Nat} {w0 w w' : World} (hb : Below B w0 w) (h : Fr bs w w') (hB : B ≤ w.heap.size) (hs : ∀ b ∈ bs, B ≤ b) : Below B w0 w' :=
  hb.trans ⟨h.os, h.tape, h.output, h.size, fun k hk => h.block k (by omega) (fun hm => by have := hs k hm; omega)⟩
theorem Fr.cell {bs : List Nat} {w w' : World} (h : Fr bs w w') {p : Addr} {v : Value} (hp : w.cell? p = some v) (hn : p.block ∉ bs) : w'.cell? p = some v :=
  (World.cell?_of_block (h.block p.block (World.block_lt_of_cell? _ _ hp) hn)).trans hp

structure PlanAt (B : Nat) (W : World) (bp bt bw : Nat) (s : PS) (sa : Nat → Option Addr) (sc : Nat → Nat) : Prop where
  lo : B ≤ bp ∧ B ≤ bt ∧ B ≤ bw
  ap : bp ≠ bt ∧ bp ≠ bw ∧ bt ≠ bw
  hi : bp < W.heap.size ∧ bt < W.heap.size ∧ bw < W.heap.size
  big : s.n ≤ 1000000 ∧ s.m ≤ 1000000
  pl : W.cell? ⟨bp, 0, none⟩ = some (.slice (some ⟨bt, 0, none⟩) s.n s.n) ∧ W.cell? ⟨bp, 1, none⟩ = some (.slice (some ⟨bw, 0, none⟩) s.m s.m) ∧ W.cell? ⟨bp, 2, none⟩ = some (.int .i64 s.picks) ∧ W.cell? ⟨bp, 3, none⟩ = some (.int .i64 s.left)
  pf : ∀ o, W.frozen? ⟨bp, o, none⟩ = false
  tk : Tks W bt s.n s.kd s.wk s.wt sa (fun i => (s.ln i).length) sc
  tf : ∀ o, W.frozen? ⟨bt, o, none⟩ = false
  wr : ∀ i, i < s.m → W.cell? ⟨bw, i, none⟩ = some (.int .i64 (s.ws i))
  wf : ∀ o, W.frozen? ⟨bw, o, none⟩ = false
  own : ∀ i, i < s.n → W.ownsRow B 3 1 (.slice (sa i) (s.ln i).length (sc i)) (s.ln i).length (valsZ (s.ln i))
  away : ∀ i, i < s.n → ∀ a, sa i = some a → a.block ≠ bp ∧ a.block ≠ bt ∧ a.block ≠ bw
  apart : ∀ i j, i < s.n → j < s.n → i ≠ j → ∀ a b, sa i = some a → sa j = some b → a.block ≠ b.block

theorem own_kept {w w' : World} {B e size n c m : Nat} {A : Option Addr} {xs : List Value} (h : w.ownsRow B e size (.slice A m c) n xs) (hs : ∀ a, A = some a → w'.heap[a.block]? = w.heap[a.block]?) : w'.ownsRow B e size (.slice A m c) n xs := by
  refine ⟨h.1, ?_⟩
  rcases h.2 with h0 | ⟨g, cap, cur, hv, hB, hg, hrest⟩
  · exact .inl h0
  · injection hv with hv
    subst hv
    exact .inr ⟨g, cap, cur, by simp_all, hB, (hs _ rfl).trans hg, hrest⟩
theorem cell_frozen {w w' : World} {b : Nat} (h : w'.heap[b]? = w.heap[b]?) : (∀ o, w'.cell? ⟨b, o, none⟩ = w.cell? ⟨b, o, none⟩) ∧ ∀ o, w'.frozen? ⟨b, o, none⟩ = w.frozen? ⟨b, o, none⟩ :=
  ⟨fun _ => World.cell?_of_block h, fun _ => World.frozen?_of_block h⟩
/-- A plan stands in each world that keeps its blocks. -/
theorem PlanAt.ext {B : Nat} {W W' : World} {bp bt bw : Nat} {s : PS} {sa : Nat → Option Addr} {sc : Nat → Nat} (h : PlanAt B W bp bt bw s sa sc) (hb : ∀ k, B ≤ k → k < W.heap.size → W'.heap[k]? = W.heap[k]?) (hz : W.heap.size ≤ W'.heap.size) : PlanAt B W' bp bt bw s sa sc := by
  obtain ⟨p1, p2⟩ := cell_frozen (hb bp h.lo.1 h.hi.1)
  obtain ⟨t1, t2⟩ := cell_frozen (hb bt h.lo.2.1 h.hi.2.1)
  obtain ⟨w1, w2⟩ := cell_frozen (hb bw h.lo.2.2 h.hi.2.2)
  refine ⟨h.lo, h.ap, ⟨Nat.lt_of_lt_of_le h.hi.1 hz, Nat.lt_of_lt_of_le h.hi.2.1 hz, Nat.lt_of_lt_of_le h.hi.2.2 hz⟩, h.big, ?_, fun o => (p2 o).trans (h.pf o), fun i hi => ?_, fun o => (t2 o).trans (h.tf o), fun i hi => (w1 i).trans (h.wr i hi), fun o => (w2 o).trans (h.wf o), fun i hi => ?_, h.away, h.apart⟩
  · rw [p1, p1, p1, p1]; exact h.pl
  · rw [t1, t1, t1, t1]; exact h.tk i hi
  · refine own_kept (h.own i hi) fun a ha => hb _ ?_ ?_
    · have := (h.own i hi).lt a.block (by rw [ha]; rfl); exact this.1
    · have := (h.own i hi).lt a.block (by rw [ha]; rfl); exact this.2
theorem PlanAt.below {B : Nat} {W W' : World} {bp bt bw : Nat} {s : PS} {sa : Nat → Option Addr} {sc : Nat → Nat} (h : PlanAt B W bp bt bw s sa sc) (hb : Below W.heap.size W W') : PlanAt B W' bp bt bw s sa sc :=
  h.ext (fun k _ hk => hb.block k hk) hb.size
theorem PlanAt.drew {B : Nat} {W : World} {bp bt bw : Nat} {s : PS} {sa : Nat → Option Addr} {sc : Nat → Nat} (h : PlanAt B W bp bt bw s sa sc) : PlanAt B W.drew bp bt bw s sa sc := h.ext (fun _ _ _ => rfl) (Nat.le_refl _)
theorem PlanAt.drewN {B : Nat} {W : World} {bp bt bw : Nat} {s : PS} {sa : Nat → Option Addr} {sc : Nat → Nat} (h : PlanAt B W bp bt bw s sa sc) (q : Nat) : PlanAt B (W.drewN q) bp bt bw s sa sc := h.ext (fun _ _ _ => rfl) (Nat.le_refl _)
theorem PlanAt.alloc {B : Nat} {W : World} {bp bt bw : Nat} {s : PS} {sa : Nat → Option Addr} {sc : Nat → Nat} (h : PlanAt B W bp bt bw s sa sc) (o : Obj) : PlanAt B (W.alloc o) bp bt bw s sa sc := h.below ((Below.refl _ W).alloc (Nat.le_refl _) o)
theorem set_same {W : World} {b o : Nat} {u v : Value} (h : W.cell? ⟨b, o, none⟩ = some u) : (W.setCell ⟨b, o, none⟩ v).cell? ⟨b, o, none⟩ = some v := World.cell?_setCell_same _ _ _ h
theorem set_off {W : World} {b o q : Nat} {v : Value} (h : q ≠ o) : (W.setCell ⟨b, o, none⟩ v).cell? ⟨b, q, none⟩ = W.cell? ⟨b, q, none⟩ := World.cell?_setCell_other _ _ _ _ (fun e => h (by injection e with _ e2; exact e2.symm))
theorem set_blk {W : World} {b o c q : Nat} {v : Value} (h : b ≠ c) : (W.setCell ⟨b, o, none⟩ v).cell? ⟨c, q, none⟩ = W.cell? ⟨c, q, none⟩ := World.cell?_setCell_other _ _ _ _ (fun e => h (by injection e))
/-- What a store into one of a plan's blocks leaves. -/
theorem PlanAt.store {B : Nat} {W : World} {bp bt bw : Nat} {s s' : PS} {sa : Nat → Option Addr} {sc : Nat → Nat} (h : PlanAt B W bp bt bw s sa sc) {g o : Nat} {v : Value} (hg : g = bp ∨ g = bt ∨ g = bw) (hn : s'.n = s.n) (hm : s'.m = s.m) (hl : s'.ln = s.ln)
    (pl : (W.setCell ⟨g, o, none⟩ v).cell? ⟨bp, 0, none⟩ = some (.slice (some ⟨bt, 0, none⟩) s.n s.n) ∧ (W.setCell ⟨g, o, none⟩ v).cell? ⟨bp, 1, none⟩ = some (.slice (some ⟨bw, 0, none⟩) s.m s.m) ∧ (W.setCell ⟨g, o, none⟩ v).cell? ⟨bp, 2, none⟩ = some (.int .i64 s'.picks) ∧ (W.setCell ⟨g, o, none⟩ v).cell? ⟨bp, 3, none⟩ = some (.int .i64 s'.left))
    (tk : Tks (W.setCell ⟨g, o, none⟩ v) bt s.n s'.kd s'.wk s'.wt sa (fun i => (s.ln i).length) sc) (wr : ∀ i, i < s.m → (W.setCell ⟨g, o, none⟩ v).cell? ⟨bw, i, none⟩ = some (.int .i64 (s'.ws i))) : PlanAt B (W.setCell ⟨g, o, none⟩ v) bp bt bw s' sa sc := by
  refine ⟨h.lo, h.ap, ⟨by rw [World.size_setCell]; exact h.hi.1, by rw [World.size_setCell]; exact h.hi.2.1, by rw [World.size_setCell]; exact h.hi.2.2⟩, by rw [hn, hm]; exact h.big, by rw [hn, hm]; exact pl, fun q => by rw [World.frozen?_setCell]; exact h.pf q, by rw [hn, hl]; exact tk, fun q => by rw [World.frozen?_setCell]; exact h.tf q, by rw [hm]; exact wr,
    fun q => by rw [World.frozen?_setCell]; exact h.wf q, fun i hi => ?_, by rw [hn]; exact h.away, by rw [hn]; exact h.apart⟩
  rw [hn] at hi
  rw [hl]
  refine own_kept (h.own i hi) fun a ha => Below.heap_setCell _ _ _ _ ?_
  have := h.away i hi a ha
  rcases hg with rfl | rfl | rfl
  · exact this.1
  · exact this.2.1
  · exact this.2.2
theorem PlanAt.setPicks {B : Nat} {W : World} {bp bt bw : Nat} {s : PS} {sa : Nat → Option Addr} {sc : Nat → Nat} (h : PlanAt B W bp bt bw s sa sc) (z : Int) : PlanAt B (W.setCell ⟨bp, 2, none⟩ (.int .i64 z)) bp bt bw { s with picks := z } sa sc := by
  refine h.store (.inl rfl) rfl rfl rfl ⟨?_, ?_, ?_, ?_⟩ (fun i hi => ?_) (fun i hi => ?_)
  · rw [set_off (by decide)]; exact h.pl.1
  · rw [set_off (by decide)]; exact h.pl.2.1
  · exact set_same h.pl.2.2.1
  · rw [set_off (by decide)]; exact h.pl.2.2.2
  · rw [set_blk h.ap.1, set_blk h.ap.1, set_blk h.ap.1, set_blk h.ap.1]; exact h.tk i hi
  · rw [set_blk h.ap.2.1]; exact h.wr i hi
theorem PlanAt.setLeft {B : Nat} {W : World} {bp bt bw : Nat} {s : PS} {sa : Nat → Option Addr} {sc : Nat → Nat} (h : PlanAt B W bp bt bw s sa sc) (z : Int) : PlanAt B (W.setCell ⟨bp, 3, none⟩ (.int .i64 z)) bp bt bw { s with left := z } sa sc := by
  refine h.store (.inl rfl) rfl rfl rfl ⟨?_, ?_, ?_, ?_⟩ (fun i hi => ?_) (fun i hi => ?_)
  · rw [set_off (by decide)]; exact h.pl.1
  · rw [set_off (by decide)]; exact h.pl.2.1
  · rw [set_off (by decide)]; exact h.pl.2.2.1
  · exact set_same h.pl.2.2.2
  · rw [set_blk h.ap.1, set_blk h.ap.1, set_blk h.ap.1, set_blk h.ap.1]; exact h.tk i hi
  · rw [set_blk h.ap.2.1]; exact h.wr i hi
theorem PlanAt.setWs {B : Nat} {W : World} {bp bt bw : Nat} {s : PS} {sa : Nat → Option Addr} {sc : Nat → Nat} (h : PlanAt B W bp bt bw s sa sc) (k : Nat) (hk : k < s.m) (z : Int) : PlanAt B (W.setCell ⟨bw, k, none⟩ (.int .i64 z)) bp bt bw { s with ws := upd s.ws k z } sa sc := by
  refine h.store (.inr (.inr rfl)) rfl rfl rfl ⟨?_, ?_, ?_, ?_⟩ (fun i hi => ?_) (fun i hi => ?_)
  · rw [set_blk h.ap.2.1.symm]; exact h.pl.1
  · rw [set_blk h.ap.2.1.symm]; exact h.pl.2.1
  · rw [set_blk h.ap.2.1.symm]; exact h.pl.2.2.1
  · rw [set_blk h.ap.2.1.symm]; exact h.pl.2.2.2
  · rw [set_blk h.ap.2.2.symm, set_blk h.ap.2.2.symm, set_blk h.ap.2.2.symm, set_blk h.ap.2.2.symm]; exact h.tk i hi
  · show _ = some (Value.int .i64 (upd s.ws k z i))
    by_cases e : i = k
    · subst e; rw [upd_same]; exact set_same (h.wr i hi)
    · rw [upd_other _ _ e, set_off e]; exact h.wr i hi
theorem PlanAt.setKd {B : Nat} {W : World} {bp bt bw : Nat} {s : PS} {sa : Nat → Option Addr} {sc : Nat → Nat} (h : PlanAt B W bp bt bw s sa sc) (k : Nat) (hk : k < s.n) (z : Int) : PlanAt B (W.setCell ⟨bt, k * 4, none⟩ (.int .i64 z)) bp bt bw { s with kd := upd s.kd k z } sa sc := by
  refine h.store (.inr (.inl rfl)) rfl rfl rfl ⟨?_, ?_, ?_, ?_⟩ (fun i hi => ?_) (fun i hi => ?_)
  · rw [set_blk h.ap.1.symm]; exact h.pl.1
  · rw [set_blk h.ap.1.symm]; exact h.pl.2.1
  · rw [set_blk h.ap.1.symm]; exact h.pl.2.2.1
  · rw [set_blk h.ap.1.symm]; exact h.pl.2.2.2
  · obtain ⟨a, b, c, d⟩ := h.tk i hi
    refine ⟨?_, by rw [set_off (by omega)]; exact b, by rw [set_off (by omega)]; exact c, by rw [set_off (by omega)]; exact d⟩
    show _ = some (Value.int .i64 (upd s.kd k z i))
    by_cases e : i = k
    · subst e; rw [upd_same]; exact set_same a
    · rw [upd_other _ _ e, set_off (by omega)]; exact a
  · rw [set_blk h.ap.2.2]; exact h.wr i hi
theorem PlanAt.setWk {B : Nat} {W : World} {bp bt bw : Nat} {s : PS} {sa : Nat → Option Addr} {sc : Nat → Nat} (h : PlanAt B W bp bt bw s sa sc) (k : Nat) (hk : k < s.n) (z : Int) : PlanAt B (W.setCell ⟨bt, k * 4 + 1, none⟩ (.int .i64 z)) bp bt bw { s with wk := upd s.wk k z } sa sc := by
  refine h.store (.inr (.inl rfl)) rfl rfl rfl ⟨?_, ?_, ?_, ?_⟩ (fun i hi => ?_) (fun i hi => ?_)
  · rw [set_blk h.ap.1.symm]; exact h.pl.1
  · rw [set_blk h.ap.1.symm]; exact h.pl.2.1
  · rw [set_blk h.ap.1.symm]; exact h.pl.2.2.1
  · rw [set_blk h.ap.1.symm]; exact h.pl.2.2.2
  · obtain ⟨a, b, c, d⟩ := h.tk i hi
    refine ⟨by rw [set_off (by omega)]; exact a, ?_, by rw [set_off (by omega)]; exact c, by rw [set_off (by omega)]; exact d⟩
    show _ = some (Value.int .i64 (upd s.wk k z i))
    by_cases e : i = k
    · subst e; rw [upd_same]; exact set_same b
    · rw [upd_other _ _ e, set_off (by omega)]; exact b
  · rw [set_blk h.ap.2.2]; exact h.wr i hi
theorem PlanAt.setWt {B : Nat} {W : World} {bp bt bw : Nat} {s : PS} {sa : Nat → Option Addr} {sc : Nat → Nat} (h : PlanAt B W bp bt bw s sa sc) (k : Nat) (hk : k < s.n) (z : Int) : PlanAt B (W.setCell ⟨bt, k * 4 + 2, none⟩ (.int .i64 z)) bp bt bw { s with wt := upd s.wt k z } sa sc := by
  refine h.store (.inr (.inl rfl)) rfl rfl rfl ⟨?_, ?_, ?_, ?_⟩ (fun i hi => ?_) (fun i hi => ?_)
  · rw [set_blk h.ap.1.symm]; exact h.pl.1
  · rw [set_blk h.ap.1.symm]; exact h.pl.2.1
  · rw [set_blk h.ap.1.symm]; exact h.pl.2.2.1
  · rw [set_blk h.ap.1.symm]; exact h.pl.2.2.2
  · obtain ⟨a, b, c, d⟩ := h.tk i hi
    refine ⟨by rw [set_off (by omega)]; exact a, by rw [set_off (by omega)]; exact b, ?_, by rw [set_off (by omega)]; exact d⟩
    show _ = some (Value.int .i64 (upd s.wt k z i))
    by_cases e : i = k
    · subst e; rw [upd_same]; exact set_same c
    · rw [upd_other _ _ e, set_off (by omega)]; exact c
  · rw [set_blk h.ap.2.2]; exact h.wr i hi
/-- A store elsewhere. -/
theorem PlanAt.setOut {B : Nat} {W : World} {bp bt bw : Nat} {s : PS} {sa : Nat → Option Addr} {sc : Nat → Nat} (h : PlanAt B W bp bt bw s sa sc) {g : Nat} {cs : Array Value} {T : TypeId} {fr : Nat × Nat} (hg : W.heap[g]? = some (.cells cs T fr)) (hT : T ≠ 3)
    (hn : g ≠ bp ∧ g ≠ bt ∧ g ≠ bw) (o : Nat) (v : Value) : PlanAt B (W.setCell ⟨g, o, none⟩ v) bp bt bw s sa sc := by
  refine ⟨h.lo, h.ap, ⟨by rw [World.size_setCell]; exact h.hi.1, by rw [World.size_setCell]; exact h.hi.2.1, by rw [World.size_setCell]; exact h.hi.2.2⟩, h.big, ?_, fun q => by rw [World.frozen?_setCell]; exact h.pf q, fun i hi => ?_, fun q => by rw [World.frozen?_setCell]; exact h.tf q, fun i hi => ?_,
    fun q => by rw [World.frozen?_setCell]; exact h.wf q, fun i hi => ?_, h.away, h.apart⟩
  · rw [set_blk hn.1, set_blk hn.1, set_blk hn.1, set_blk hn.1]; exact h.pl
  · rw [set_blk hn.2.1, set_blk hn.2.1, set_blk hn.2.1, set_blk hn.2.1]; exact h.tk i hi
  · rw [set_blk hn.2.2]; exact h.wr i hi
  · refine own_kept (h.own i hi) fun a ha => Below.heap_setCell _ _ _ _ fun e => ?_
    rcases (h.own i hi).2 with h0 | ⟨g', cap, cur, hv, hB, hg', hrest⟩
    · rw [ha] at h0; simp at h0
    · injection hv with hv
      rw [ha] at hv
      injection hv with hv
      rw [hv] at e
      change g' = g at e
      rw [e, hg] at hg'
      injection hg' with hg'
      injection hg' with _ hg'
      exact hT hg'
theorem ev_set {W : World} {g : Nat} {x y z a b c : Value} (h : W.heap[g]? = some (.cells #[x, y, z] 78 (0, 0))) :
    (((W.setCell ⟨g, 0, none⟩ a).setCell ⟨g, 1, none⟩ b).setCell ⟨g, 2, none⟩ c).heap[g]? = some (.cells #[a, b, c] 78 (0, 0)) :=
  Go.heap_setCell_same _ g 2 _ 78 c (Go.heap_setCell_same _ g 1 _ 78 b (Go.heap_setCell_same _ g 0 _ 78 a h))
theorem PlanAt.setEv {B : Nat} {W : World} {bp bt bw : Nat} {s : PS} {sa : Nat → Option Addr} {sc : Nat → Nat} (h : PlanAt B W bp bt bw s sa sc) {g : Nat} {x y z : Value} (hg : W.heap[g]? = some (.cells #[x, y, z] 78 (0, 0)))
    (hn : g ≠ bp ∧ g ≠ bt ∧ g ≠ bw) (a b c : Value) : PlanAt B (((W.setCell ⟨g, 0, none⟩ a).setCell ⟨g, 1, none⟩ b).setCell ⟨g, 2, none⟩ c) bp bt bw s sa sc :=
  ((h.setOut hg (by decide) hn 0 a).setOut (Go.heap_setCell_same _ g 0 _ 78 a hg) (by decide) hn 1 b).setOut (Go.heap_setCell_same _ g 1 _ 78 b (Go.heap_setCell_same _ g 0 _ 78 a hg)) (by decide) hn 2 c
theorem PlanAt.leaner {B : Nat} {W : World} {bp bt bw : Nat} {s : PS} {sa : Nat → Option Addr} {sc : Nat → Nat} (h : PlanAt B W bp bt bw s sa sc) {i k : Nat} (hi : i < s.n) (hk : k < (s.ln i).length) :
    ∃ g, sa i = some ⟨g, 0, none⟩ ∧ W.cell? ⟨g, k, none⟩ = some (.int .i64 (s.ln i)[k]) := by
  have ho := h.own i hi
  rcases ho.2 with ⟨_, h0⟩ | ⟨g, cap, cur, hv, _, _, _, _⟩
  · omega
  · injection hv with hv
    refine ⟨g, hv, ?_⟩
    have hc := ho.cells (g := g) (by rw [hv]; rfl) k (.int .i64 (s.ln i)[k]) (by simp [valsZ, hk])
    rw [addr_plus, Nat.zero_add] at hc
    exact hc
theorem info78 : (Try.prog.info? 78).map (·.size) = some 3 := by kernel_rfl
end Go.Proofs.Ytgdkgoiagjjccaa

/- A step further with a task. -/
namespace Go.Proofs.Ytgdkgoiagjjccaa
set_option maxRecDepth 100000
open Go.RowKit

def ptr (b : Nat) : Value := .pointer (some ⟨b, 0, none⟩)
def evV (k t w : Int) : Value := .agg #[.int .i64 k, .int .i64 t, .int .i64 w]
set_option maxHeartbeats 1000000 in
theorem further_mid {B : Nat} {W : World} {bp bt bw : Nat} {s : PS} {sa : Nat → Option Addr} {sc : Nat → Nat} (h : PlanAt B W bp bt bw s sa sc) (i : Nat) (hi : i < s.n) (h3 : s.kd i + 1 ≠ 3) (hk : 0 ≤ s.kd i ∧ s.kd i ≤ 3) (hp : 0 ≤ s.picks ∧ s.picks ≤ 1000000000) :
    Calls Try.prog 72 #[ptr bp, .int .i64 (i : Int)] W fun e W' => e = .returned (evV (s.kd i + 1) i (s.wk i)) ∧ PlanAt B W' bp bt bw (s.step i) sa sc ∧ Fr [bp, bt, bw] W W' := by
  unfold ptr evV
  have HH := Lib.hid h
  obtain ⟨p0, p1, p2, p3⟩ := h.pl
  obtain ⟨t0, t1, t2, t3⟩ := h.tk i hi
  have pf0 := h.pf 2
  have tf0 := h.tf (i * 4)
  obtain ⟨a1, a2, a3⟩ := h.ap
  obtain ⟨l1, l2, l3⟩ := h.hi
  have hb := h.big
  obtain ⟨k, hkk⟩ : ∃ k, k = s.kd i := ⟨_, rfl⟩
  obtain ⟨v, hv⟩ : ∃ v, v = s.wk i := ⟨_, rfl⟩
  obtain ⟨q, hq⟩ : ∃ q, q = s.picks := ⟨_, rfl⟩
  rw [← hkk] at t0 h3 hk ⊢
  rw [← hv] at t1 ⊢
  rw [← hq] at p2 hp
  have e3 : (k + 1 == 3) = false := beq_eq_false_iff_ne.2 h3
  have HKK := Lib.hid hkk
  have HV := Lib.hid hv
  have HQ := Lib.hid hq
  clear h hkk hv hq h3
  go_enter Try.func72, Try.ntmps72
  go_wp2_with fail
  generalize hW1 : World.alloc (World.setCell (World.setCell W _ _) _ _) _ = W1
  have P1 : PlanAt B W1 bp bt bw { s with picks := q + 1, kd := upd s.kd i (k + 1) } sa sc := by
    rw [← hW1]
    exact (((HH.out.setPicks (q + 1)).setKd i hi (k + 1)).alloc _)
  have F1 : Fr [bp, bt, bw] W W1 := by
    rw [← hW1]
    exact (((Fr.refl _ W).set _ _ (by simp)).set _ _ (by simp)).alloc _
  have R1 : W1.heap[W.heap.size]? = some (.cells #[.int .i64 0, .int .i64 0, .int .i64 0] 78 (0, 0)) := by
    rw [← hW1]
    have := heap_alloc_new (World.setCell (World.setCell W ⟨bp, 2, none⟩ (.int .i64 (q + 1))) ⟨bt, i * 4, none⟩ (.int .i64 (k + 1))) (.cells #[.int .i64 0, .int .i64 0, .int .i64 0] 78)
    simpa only [World.size_setCell] using this
  have HP := Lib.hid P1
  have HF := Lib.hid F1
  have HR := Lib.hid R1
  have hz : W.heap.size < W1.heap.size := (Array.getElem?_eq_some_iff.1 R1).1
  clear hW1 R1 F1 p0 p1 p2 p3 t0 t1 t2 t3 pf0 tf0
  obtain ⟨t0, t1, t2, t3⟩ := P1.tk i hi
  rw [show (PS.kd { s with picks := q + 1, kd := upd s.kd i (k + 1) }) i = k + 1 from upd_same _ _ _] at t0
  rw [show (PS.wk { s with picks := q + 1, kd := upd s.kd i (k + 1) }) i = v from HV.out.symm] at t1
  have l4 : bt < W1.heap.size := P1.hi.2.1
  clear P1 t2 t3
  go_region_held3 (fun w' => w'.cell? ⟨bt, i * 4, none⟩ = some (.int .i64 (k + 1)) ∧ w'.cell? ⟨bt, i * 4 + 1, none⟩ = some (.int .i64 v)) (go_keep) (fail)
  clear t0 t1
  generalize hW2 : World.drew (World.alloc W1 _) = W2
  have P2 : PlanAt B W2 bp bt bw { s with picks := q + 1, kd := upd s.kd i (k + 1) } sa sc := by
    rw [← hW2]; exact (HP.out.alloc _).drew
  have F2 : Fr [bp, bt, bw] W W2 := by
    rw [← hW2]; exact (HF.out.alloc _).drew
  have R2 : W2.heap[W.heap.size]? = some (.cells #[.int .i64 0, .int .i64 0, .int .i64 0] 78 (0, 0)) := by
    rw [← hW2]; exact (Below.heap_alloc _ _ _ hz).trans HR.out
  have R3 : W2.heap[W1.heap.size]? = some (.cells #[.int .i64 (k + 1), .int .i64 (i : Int), .int .i64 v] 78 (0, 0)) := by
    rw [← hW2]; exact heap_alloc_new W1 _
  have HP2 := Lib.hid P2
  have HF2 := Lib.hid F2
  have r0 := cell_of_row W2 _ 0 _ 78 (0, 0) R3
  have r1 := cell_of_row W2 _ 1 _ 78 (0, 0) R3
  have r2 := cell_of_row W2 _ 2 _ 78 (0, 0) R3
  have q0 := cell_of_row W2 _ 0 _ 78 (0, 0) R2
  have q1 := cell_of_row W2 _ 1 _ 78 (0, 0) R2
  have q2 := cell_of_row W2 _ 2 _ 78 (0, 0) R2
  have f0 : W2.frozen? ⟨W.heap.size, 0, none⟩ = false := frozen_of_row W2 _ 0 _ 78 R2
  have f1 : W2.frozen? ⟨W.heap.size, 1, none⟩ = false := frozen_of_row W2 _ 1 _ 78 R2
  have f2 : W2.frozen? ⟨W.heap.size, 2, none⟩ = false := frozen_of_row W2 _ 2 _ 78 R2
  simp only [List.getElem?_toArray, List.getElem?_cons_zero, List.getElem?_cons_succ] at r0 r1 r2 q0 q1 q2
  obtain ⟨t0, _, _, _⟩ := P2.tk i hi
  rw [show (PS.kd { s with picks := q + 1, kd := upd s.kd i (k + 1) }) i = k + 1 from upd_same _ _ _] at t0
  have HE := Lib.hid (ev_set (a := .int .i64 (k + 1)) (b := .int .i64 (i : Int)) (c := .int .i64 v) R2)
  have HPE := Lib.hid (P2.setEv R2 ⟨by omega, by omega, by omega⟩ (.int .i64 (k + 1)) (.int .i64 (i : Int)) (.int .i64 v))
  have HFE := Lib.hid (((F2.new ⟨W.heap.size, 0, none⟩ (.int .i64 (k + 1)) (Nat.le_refl _)).new ⟨W.heap.size, 1, none⟩ (.int .i64 (i : Int)) (Nat.le_refl _)).new ⟨W.heap.size, 2, none⟩ (.int .i64 v) (Nat.le_refl _))
  clear P2 F2 R2 R3 hW2 hz
  have e3' : s.kd i + 1 ≠ 3 := by rw [← HKK.out]; exact beq_eq_false_iff_ne.1 e3
  have HS := Lib.hid (show ({ s with picks := q + 1, kd := upd s.kd i (k + 1) } : PS) = s.step i by
    unfold PS.step
    rw [if_neg e3', HKK.out, HQ.out])
  clear e3'
  go_wp2_with fail
  refine bodyPost_ret (v := .agg #[.int .i64 (k + 1), .int .i64 (i : Int), .int .i64 v]) ?_ rfl ?_
  · exact results_cell_row rfl _ _ W.heap.size 78 _ (0, 0) _ rfl HE.out Try.underlying78 rfl info78
  · refine ⟨rfl, ?_, HFE.out⟩
    rw [← HS.out]
    exact HPE.out
set_option maxHeartbeats 1000000 in
theorem further_end {B : Nat} {W : World} {bp bt bw : Nat} {s : PS} {sa : Nat → Option Addr} {sc : Nat → Nat} (h : PlanAt B W bp bt bw s sa sc) (i : Nat) (hi : i < s.n) (h3 : s.kd i + 1 = 3) (hp : 0 ≤ s.picks ∧ s.picks ≤ 1000000000) (hlf : -1000000 ≤ s.left ∧ s.left ≤ 1000000) (hwk : 0 ≤ s.wk i ∧ s.wk i < (s.m : Int))
    (hwt : ∀ x, x < s.n → -1000000 ≤ s.wt x ∧ s.wt x ≤ 1000000) (hln : ∀ x ∈ s.ln i, 0 ≤ x ∧ x < (s.n : Int)) (hll : (s.ln i).length ≤ 1000000) :
    Calls Try.prog 72 #[ptr bp, .int .i64 (i : Int)] W fun e W' => e = .returned (evV (s.kd i + 1) i (s.wk i)) ∧ PlanAt B W' bp bt bw (s.step i) sa sc ∧ Fr [bp, bt, bw] W W' := by
  unfold ptr evV
  have HH := Lib.hid h
  obtain ⟨p0, p1, p2, p3⟩ := h.pl
  obtain ⟨t0, t1, t2, t3⟩ := h.tk i hi
  have pf0 := h.pf 2
  have tf0 := h.tf (i * 4)
  obtain ⟨a1, a2, a3⟩ := h.ap
  obtain ⟨l1, l2, l3⟩ := h.hi
  have hb := h.big
  obtain ⟨k, hkk⟩ : ∃ k, k = s.kd i := ⟨_, rfl⟩
  obtain ⟨v, hv⟩ : ∃ v : Nat, (v : Int) = s.wk i := ⟨(s.wk i).toNat, by omega⟩
  obtain ⟨q, hq⟩ : ∃ q, q = s.picks := ⟨_, rfl⟩
  rw [← hkk] at t0 h3 ⊢
  rw [← hv] at t1 hwk ⊢
  rw [← hq] at p2 hp
  obtain rfl : k = 2 := by omega
  have HWT := Lib.hid hwt
  have HLN := Lib.hid hln
  have HKK := Lib.hid hkk
  have HV := Lib.hid hv
  have HQ := Lib.hid hq
  clear h hkk hv hq h3 hwt hln
  go_enter Try.func72, Try.ntmps72
  go_wp2_with fail
  generalize hW1 : World.alloc (World.setCell (World.setCell W _ _) _ _) _ = W1
  have P1 : PlanAt B W1 bp bt bw { s with picks := q + 1, kd := upd s.kd i 3 } sa sc := by
    rw [← hW1]
    exact (((HH.out.setPicks (q + 1)).setKd i hi 3).alloc _)
  have F1 : Fr [bp, bt, bw] W W1 := by
    rw [← hW1]
    exact (((Fr.refl _ W).set _ _ (by simp)).set _ _ (by simp)).alloc _
  have R1 : W1.heap[W.heap.size]? = some (.cells #[.int .i64 0, .int .i64 0, .int .i64 0] 78 (0, 0)) := by
    rw [← hW1]
    have := heap_alloc_new (World.setCell (World.setCell W ⟨bp, 2, none⟩ (.int .i64 (q + 1))) ⟨bt, i * 4, none⟩ (.int .i64 3)) (.cells #[.int .i64 0, .int .i64 0, .int .i64 0] 78)
    simpa only [World.size_setCell] using this
  have HP := Lib.hid P1
  have HF := Lib.hid F1
  have HR := Lib.hid R1
  have hz : W.heap.size < W1.heap.size := (Array.getElem?_eq_some_iff.1 R1).1
  clear hW1 R1 F1 p0 p1 p2 p3 t0 t1 t2 t3 pf0 tf0
  obtain ⟨t0, t1, t2, t3⟩ := P1.tk i hi
  rw [show (PS.kd { s with picks := q + 1, kd := upd s.kd i 3 }) i = 3 from upd_same _ _ _] at t0
  rw [show (PS.wk { s with picks := q + 1, kd := upd s.kd i 3 }) i = (v : Int) from HV.out.symm] at t1
  have l4 : bt < W1.heap.size := P1.hi.2.1
  clear P1 t2 t3
  go_region_held3 (fun w' => w'.cell? ⟨bt, i * 4, none⟩ = some (.int .i64 3) ∧ w'.cell? ⟨bt, i * 4 + 1, none⟩ = some (.int .i64 (v : Int))) (go_keep) (fail)
  clear t0 t1
  generalize hW2 : World.drew (World.alloc W1 _) = W2
  have P2 : PlanAt B W2 bp bt bw { s with picks := q + 1, kd := upd s.kd i 3 } sa sc := by
    rw [← hW2]; exact (HP.out.alloc _).drew
  have F2 : Fr [bp, bt, bw] W W2 := by
    rw [← hW2]; exact (HF.out.alloc _).drew
  have R2 : W2.heap[W.heap.size]? = some (.cells #[.int .i64 0, .int .i64 0, .int .i64 0] 78 (0, 0)) := by
    rw [← hW2]; exact (Below.heap_alloc _ _ _ hz).trans HR.out
  have R3 : W2.heap[W1.heap.size]? = some (.cells #[.int .i64 3, .int .i64 (i : Int), .int .i64 (v : Int)] 78 (0, 0)) := by
    rw [← hW2]; exact heap_alloc_new W1 _
  have HP2 := Lib.hid P2
  have HF2 := Lib.hid F2
  have r0 := cell_of_row W2 _ 0 _ 78 (0, 0) R3
  have r1 := cell_of_row W2 _ 1 _ 78 (0, 0) R3
  have r2 := cell_of_row W2 _ 2 _ 78 (0, 0) R3
  have q0 := cell_of_row W2 _ 0 _ 78 (0, 0) R2
  have q1 := cell_of_row W2 _ 1 _ 78 (0, 0) R2
  have q2 := cell_of_row W2 _ 2 _ 78 (0, 0) R2
  have f0 : W2.frozen? ⟨W.heap.size, 0, none⟩ = false := frozen_of_row W2 _ 0 _ 78 R2
  have f1 : W2.frozen? ⟨W.heap.size, 1, none⟩ = false := frozen_of_row W2 _ 1 _ 78 R2
  have f2 : W2.frozen? ⟨W.heap.size, 2, none⟩ = false := frozen_of_row W2 _ 2 _ 78 R2
  simp only [List.getElem?_toArray, List.getElem?_cons_zero, List.getElem?_cons_succ] at r0 r1 r2 q0 q1 q2
  obtain ⟨t0, t1, t2, t3⟩ := P2.tk i hi
  obtain ⟨p0, p1, p2, p3⟩ := P2.pl
  rw [show (PS.kd { s with picks := q + 1, kd := upd s.kd i 3 }) i = 3 from upd_same _ _ _] at t0
  rw [show (PS.wk { s with picks := q + 1, kd := upd s.kd i 3 }) i = (v : Int) from HV.out.symm] at t1
  have pf3 := P2.pf 3
  have hz2 : W.heap.size < W2.heap.size := (Array.getElem?_eq_some_iff.1 R2).1
  have HR2 := Lib.hid R2
  have HR3 := Lib.hid R3
  have hz3 := hz
  have a4 : bw ≠ bp := fun e => a2 e.symm
  have a5 : bw ≠ bt := fun e => a3 e.symm
  have a6 : bt ≠ bp := fun e => a1 e.symm
  obtain ⟨lf, hlf2⟩ : ∃ lf, lf = s.left := ⟨_, rfl⟩
  rw [← hlf2] at hlf
  rw [show (PS.left { s with picks := q + 1, kd := upd s.kd i 3 }) = lf from hlf2.symm] at p3
  have HLF := Lib.hid hlf2
  clear P2 F2 R2 R3 hW2 hz hlf2
  go_wp2_with fail
  have P3 : PlanAt B (W2.setCell ⟨bp, 3, none⟩ (.int .i64 (lf - 1))) bp bt bw ⟨s.n, s.m, upd s.kd i 3, s.wk, s.wt, s.ln, s.ws, q + 1, lf - 1⟩ sa sc := HP2.out.setLeft (lf - 1)
  have F3 : Fr [bp, bt, bw] W (W2.setCell ⟨bp, 3, none⟩ (.int .i64 (lf - 1))) := HF2.out.set _ _ (by simp)
  have E3 : (W2.setCell ⟨bp, 3, none⟩ (.int .i64 (lf - 1))).heap[W1.heap.size]? = some (.cells #[.int .i64 3, .int .i64 (i : Int), .int .i64 (v : Int)] 78 (0, 0)) :=
    (Below.heap_setCell _ _ _ _ (show W1.heap.size ≠ bp by omega)).trans HR3.out
  have G3 : (W2.setCell ⟨bp, 3, none⟩ (.int .i64 (lf - 1))).heap[W.heap.size]? = some (.cells #[.int .i64 0, .int .i64 0, .int .i64 0] 78 (0, 0)) :=
    (Below.heap_setCell _ _ _ _ (show W.heap.size ≠ bp by omega)).trans HR2.out
  clear f0 f1 f2 r0 r1 r2 q0 q1 q2 t0 t1 t2 t3 p0 p1 p2 p3 pf3
  revert P3 F3 E3 G3
  generalize World.setCell W2 _ _ = W3
  intro P3 F3 E3 G3
  obtain ⟨t0, t1, t2, t3⟩ := P3.tk i hi
  obtain ⟨p0, p1, p2, p3⟩ := P3.pl
  rw [show (PS.wk ⟨s.n, s.m, upd s.kd i 3, s.wk, s.wt, s.ln, s.ws, q + 1, lf - 1⟩) i = (v : Int) from HV.out.symm] at t1
  have hvm : v < s.m := by omega
  have w0 := P3.wr v hvm
  have wf0 := P3.wf v
  have l5 : bt < W3.heap.size := P3.hi.2.1
  have l6 : bp < W3.heap.size := P3.hi.1
  have b1 : (0 : Int) ≤ (v : Int) := by omega
  have b2 : (v : Int) < (s.m : Int) := by omega
  have HP3 := Lib.hid P3
  have HF3 := Lib.hid F3
  have HE3 := Lib.hid E3
  have HG3 := Lib.hid G3
  clear P3 F3 E3 G3 p2 p3 t0 t2 t3 HP2 HF2 HR2
  go_region_held3 (fun w' => w'.cell? ⟨bp, 1, none⟩ = some (.slice (some ⟨bw, 0, none⟩) s.m s.m) ∧ w'.cell? ⟨bt, i * 4 + 1, none⟩ = some (.int .i64 (v : Int))) (go_keep) (fail)
  rename_i hHeld
  have P4 : PlanAt B (W3.setCell ⟨bw, v, none⟩ (.int .i64 (-1))).drew bp bt bw ⟨s.n, s.m, upd s.kd i 3, s.wk, s.wt, s.ln, upd s.ws v (-1), q + 1, lf - 1⟩ sa sc := (HP3.out.setWs v hvm (-1)).drew
  have F4 : Fr [bp, bt, bw] W (W3.setCell ⟨bw, v, none⟩ (.int .i64 (-1))).drew := (HF3.out.set _ _ (by simp)).drew
  have E4 : (W3.setCell ⟨bw, v, none⟩ (.int .i64 (-1))).drew.heap[W1.heap.size]? = some (.cells #[.int .i64 3, .int .i64 (i : Int), .int .i64 (v : Int)] 78 (0, 0)) :=
    (Below.heap_setCell _ _ _ _ (show W1.heap.size ≠ bw by omega)).trans HE3.out
  have G4 : (W3.setCell ⟨bw, v, none⟩ (.int .i64 (-1))).drew.heap[W.heap.size]? = some (.cells #[.int .i64 0, .int .i64 0, .int .i64 0] 78 (0, 0)) :=
    (Below.heap_setCell _ _ _ _ (show W.heap.size ≠ bw by omega)).trans HG3.out
  revert P4 F4 E4 G4
  generalize World.drew (World.setCell W3 _ _) = W4
  intro P4 F4 E4 G4
  obtain ⟨t0, t1, t2, t3⟩ := P4.tk i hi
  have tf1 := P4.tf (i * 4 + 1)
  have HP4 := Lib.hid P4
  have HF4 := Lib.hid F4
  have HE4 := Lib.hid E4
  have HG4 := Lib.hid G4
  have l7 : bt < W4.heap.size := P4.hi.2.1
  clear P4 F4 E4 G4 p0 p1 t0 t2 w0 wf0 HP3 HF3 HE3 HG3
  go_wp2_with fail
  have P5 : PlanAt B (W4.setCell ⟨bt, i * 4 + 1, none⟩ (.int .i64 (-1))) bp bt bw ⟨s.n, s.m, upd s.kd i 3, upd s.wk i (-1), s.wt, s.ln, upd s.ws v (-1), q + 1, lf - 1⟩ sa sc := HP4.out.setWk i hi (-1)
  have F5 : Fr [bp, bt, bw] W (W4.setCell ⟨bt, i * 4 + 1, none⟩ (.int .i64 (-1))) := (HF4.out.set _ _ (by simp))
  have E5 : (W4.setCell ⟨bt, i * 4 + 1, none⟩ (.int .i64 (-1))).heap[W1.heap.size]? = some (.cells #[.int .i64 3, .int .i64 (i : Int), .int .i64 (v : Int)] 78 (0, 0)) :=
    (Below.heap_setCell _ _ _ _ (show W1.heap.size ≠ bt by omega)).trans HE4.out
  have G5 : (W4.setCell ⟨bt, i * 4 + 1, none⟩ (.int .i64 (-1))).heap[W.heap.size]? = some (.cells #[.int .i64 0, .int .i64 0, .int .i64 0] 78 (0, 0)) :=
    (Below.heap_setCell _ _ _ _ (show W.heap.size ≠ bt by omega)).trans HG4.out
  revert P5 F5 E5 G5
  generalize World.setCell W4 _ _ = W5
  intro P5 F5 E5 G5
  have HP5 := Lib.hid P5
  have HF5 := Lib.hid F5
  have HE5 := Lib.hid E5
  have HG5 := Lib.hid G5
  clear P5 F5 E5 G5 t1 t3 tf1 l7 HP4 HF4 HE4 HG4
  go_loopw [8, 68] (fun _ x wr => ∃ k : Nat, x = .int .i64 (k : Int) ∧ k ≤ (s.ln i).length ∧ PlanAt B wr bp bt bw ⟨s.n, s.m, upd s.kd i 3, upd s.wk i (-1), decs ((s.ln i).take k) s.wt, s.ln, upd s.ws v (-1), q + 1, lf - 1⟩ sa sc ∧ Fr [bp, bt, bw] W wr ∧
    wr.heap[W1.heap.size]? = some (.cells #[.int .i64 3, .int .i64 (i : Int), .int .i64 (v : Int)] 78 (0, 0)) ∧ wr.heap[W.heap.size]? = some (.cells #[.int .i64 0, .int .i64 0, .int .i64 0] 78 (0, 0))) (fun _ x _ => (s.ln i).length - (intOf x).toNat)
  case atStart => exact ⟨0, rfl, by omega, HP5.out, HF5.out, HE5.out, HG5.out⟩
  case round =>
    obtain ⟨k, rfl, hk, P6, F6, E6, G6⟩ := hrel
    clear HP5 HF5 HE5 HG5
    have HE := Lib.hid E6
    have HG := Lib.hid G6
    have HP := Lib.hid P6
    have HF := Lib.hid F6
    by_cases hlt : k < (s.ln i).length
    · obtain ⟨g, hg, hc⟩ := P6.leaner hi hlt
      change wr.cell? ⟨g, k, none⟩ = some (.int .i64 (s.ln i)[k]) at hc
      have hx := HLN.out (s.ln i)[k] (List.getElem_mem hlt)
      obtain ⟨j, hj⟩ : ∃ j : Nat, (j : Int) = (s.ln i)[k] := ⟨(s.ln i)[k].toNat, by omega⟩
      have hjn : j < s.n := by omega
      obtain ⟨_, _, t2, _⟩ := P6.tk j hjn
      obtain ⟨p0, _, _, _⟩ := P6.pl
      have tf2 := P6.tf (j * 4 + 2)
      have hw := HWT.out j hjn
      have hd : decs ((s.ln i).take k) s.wt j = s.wt j - (((s.ln i).take k).count (j : Int) : Nat) := decs_at _ (fun y hy => (HLN.out y (List.mem_of_mem_take hy)).1) _ _
      have hcn : ((s.ln i).take k).count (j : Int) ≤ ((s.ln i).take k).length := List.count_le_length
      have hlk : ((s.ln i).take k).length ≤ k := List.length_take_le _ _
      obtain ⟨d, hdd⟩ : ∃ d, d = decs ((s.ln i).take k) s.wt j := ⟨_, rfl⟩
      have hd1 : -3000000 ≤ d := by omega
      have hd2 : d ≤ 3000000 := by omega
      change wr.cell? ⟨bt, j * 4 + 2, none⟩ = some (.int .i64 (decs ((s.ln i).take k) s.wt j)) at t2
      rw [← hdd] at t2
      rw [← hj] at hc
      have hnext : upd (decs ((s.ln i).take k) s.wt) j (d - 1) = decs ((s.ln i).take (k + 1)) s.wt := by
        rw [List.take_succ_eq_append_getElem hlt, decs_snoc, ← hj, hdd]; rfl
      have P7 : PlanAt B (wr.setCell ⟨bt, j * 4 + 2, none⟩ (.int .i64 (d - 1))) bp bt bw ⟨s.n, s.m, upd s.kd i 3, upd s.wk i (-1), decs ((s.ln i).take (k + 1)) s.wt, s.ln, upd s.ws v (-1), q + 1, lf - 1⟩ sa sc := by
        rw [← hnext]; exact P6.setWt j hjn (d - 1)
      have HP7 := Lib.hid P7
      have HF7 := Lib.hid (HF.out.set ⟨bt, j * 4 + 2, none⟩ (.int .i64 (d - 1)) (by simp))
      have HE7 := Lib.hid ((Below.heap_setCell wr ⟨bt, j * 4 + 2, none⟩ (.int .i64 (d - 1)) W1.heap.size (by show W1.heap.size ≠ bt; omega)).trans HE.out)
      have HG7 := Lib.hid ((Below.heap_setCell wr ⟨bt, j * 4 + 2, none⟩ (.int .i64 (d - 1)) W.heap.size (by show W.heap.size ≠ bt; omega)).trans HG.out)
      clear P6 F6 E6 G6 P7 hnext hd hdd hj hx hw hcn hlk HWT HLN t1 hHeld
      go_wp2_with fail
      go_roundw
      case rel => exact ⟨k + 1, by go_num, by omega, HP7.out, HF7.out, HE7.out, HG7.out⟩
      case measure => simp [intOf]; omega
    · obtain rfl : k = (s.ln i).length := by omega
      rw [List.take_length] at HP
      have r0 := cell_of_row wr _ 0 _ 78 (0, 0) E6
      have r1 := cell_of_row wr _ 1 _ 78 (0, 0) E6
      have r2 := cell_of_row wr _ 2 _ 78 (0, 0) E6
      have q0 := cell_of_row wr _ 0 _ 78 (0, 0) G6
      have q1 := cell_of_row wr _ 1 _ 78 (0, 0) G6
      have q2 := cell_of_row wr _ 2 _ 78 (0, 0) G6
      have f0 : wr.frozen? ⟨W.heap.size, 0, none⟩ = false := frozen_of_row wr _ 0 _ 78 G6
      have f1 : wr.frozen? ⟨W.heap.size, 1, none⟩ = false := frozen_of_row wr _ 1 _ 78 G6
      have f2 : wr.frozen? ⟨W.heap.size, 2, none⟩ = false := frozen_of_row wr _ 2 _ 78 G6
      simp only [List.getElem?_toArray, List.getElem?_cons_zero, List.getElem?_cons_succ] at r0 r1 r2 q0 q1 q2
      have HE2 := Lib.hid (ev_set (a := .int .i64 3) (b := .int .i64 (i : Int)) (c := .int .i64 (v : Int)) G6)
      have HPE := Lib.hid (HP.out.setEv G6 ⟨by omega, by omega, by omega⟩ (.int .i64 3) (.int .i64 (i : Int)) (.int .i64 (v : Int)))
      have HFE := Lib.hid (((F6.new ⟨W.heap.size, 0, none⟩ (.int .i64 3) (Nat.le_refl _)).new ⟨W.heap.size, 1, none⟩ (.int .i64 (i : Int)) (Nat.le_refl _)).new ⟨W.heap.size, 2, none⟩ (.int .i64 (v : Int)) (Nat.le_refl _))
      have e3' : s.kd i + 1 = 3 := by rw [← HKK.out]; rfl
      have HS := Lib.hid (show (⟨s.n, s.m, upd s.kd i 3, upd s.wk i (-1), decs (s.ln i) s.wt, s.ln, upd s.ws v (-1), q + 1, lf - 1⟩ : PS) = s.step i by
        unfold PS.step
        rw [if_pos e3', e3', HQ.out, HLF.out, ← HV.out]
        rfl)
      clear e3' P6 F6 E6 G6 t1 hHeld
      go_wp2_with fail
      refine bodyPost_ret (v := .agg #[.int .i64 3, .int .i64 (i : Int), .int .i64 (v : Int)]) ?_ rfl ?_
      · exact results_cell_row rfl _ _ W.heap.size 78 _ (0, 0) _ rfl HE2.out Try.underlying78 rfl info78
      · refine ⟨rfl, ?_, HFE.out⟩
        rw [← HS.out]
        exact HPE.out
end Go.Proofs.Ytgdkgoiagjjccaa

/- A pick. -/
namespace Go.Proofs.Ytgdkgoiagjjccaa
set_option maxRecDepth 100000
open Go.RowKit

theorem further_any {B : Nat} {W : World} {bp bt bw : Nat} {s : PS} {sa : Nat → Option Addr} {sc : Nat → Nat} (h : PlanAt B W bp bt bw s sa sc) (i : Nat) (hi : i < s.n) (hk : 0 ≤ s.kd i ∧ s.kd i ≤ 3) (hp : 0 ≤ s.picks ∧ s.picks ≤ 1000000000)
    (he : s.kd i + 1 = 3 → (-1000000 ≤ s.left ∧ s.left ≤ 1000000) ∧ (0 ≤ s.wk i ∧ s.wk i < (s.m : Int)) ∧ (∀ x, x < s.n → -1000000 ≤ s.wt x ∧ s.wt x ≤ 1000000) ∧ (∀ x ∈ s.ln i, 0 ≤ x ∧ x < (s.n : Int)) ∧ (s.ln i).length ≤ 1000000) :
    Calls Try.prog 72 #[ptr bp, .int .i64 (i : Int)] W fun e W' => e = .returned (evV (s.kd i + 1) i (s.wk i)) ∧ PlanAt B W' bp bt bw (s.step i) sa sc ∧ Fr [bp, bt, bw] W W' := by
  by_cases h3 : s.kd i + 1 = 3
  · obtain ⟨a, b, c, d, e⟩ := he h3
    exact further_end h i hi h3 hp a b c d e
  · exact further_mid h i hi h3 hk hp

set_option maxHeartbeats 400000 in
theorem first_any (g : Nat) (p : Int → Int → Int → Bool) (hp : ∀ k w t A n c W, Calls Try.prog g #[taskV k w t A n c] W fun e W' => e = .returned (.bool (p k w t)) ∧ Below W.heap.size W W')
    (eg : ∀ args w, (callFunc g args).run Try.prog w = .ok (.enter g args) w) {B : Nat} {W : World} {bp bt bw : Nat} {s : PS} {sa : Nat → Option Addr} {sc : Nat → Nat} (h : PlanAt B W bp bt bw s sa sc) :
    Calls Try.prog 69 #[ptr bp, .func (.func g) #[] #[]] W fun e W' => e = .returned (.int .i64 (idx s.n fun i => p (s.kd i) (s.wk i) (s.wt i))) ∧ Below W.heap.size W W' := by
  have C := index_task g p hp eg bt s.n s.n s.kd s.wk s.wt sa (fun i => (s.ln i).length) sc W h.tk (by have := h.big; omega)
  have HC := Lib.hid C
  obtain ⟨p0, _, _, _⟩ := h.pl
  obtain ⟨R, hR⟩ : ∃ R, R = idx s.n fun i => p (s.kd i) (s.wk i) (s.wt i) := ⟨_, rfl⟩
  rw [← hR] at HC ⊢
  unfold ptr
  clear C h hp hR
  go_enter Try.func69, Try.ntmps69
  go_wp2_with fail
  refine Calls.mono HC.out ?_
  rintro e w2 ⟨rfl, hb⟩
  have HB := Lib.hid hb
  clear hb
  go_wp2_with fail
  go_ret
  exact ⟨rfl, HB.out⟩
theorem first_rdy {B : Nat} {W : World} {bp bt bw : Nat} {s : PS} {sa : Nat → Option Addr} {sc : Nat → Nat} (h : PlanAt B W bp bt bw s sa sc) :
    Calls Try.prog 69 #[ptr bp, .func (.func 70) #[] #[]] W fun e W' => e = .returned (.int .i64 (idx s.n s.rdy)) ∧ Below W.heap.size W W' :=
  first_any 70 (fun k _ t => decide (k = 0) && decide (t = 0)) (fun k w t A n c W => ready_any k w t A n c W) (enters_of Try.func70 (by kernel_rfl) rfl) h
theorem first_had {B : Nat} {W : World} {bp bt bw : Nat} {s : PS} {sa : Nat → Option Addr} {sc : Nat → Nat} (h : PlanAt B W bp bt bw s sa sc) :
    Calls Try.prog 69 #[ptr bp, .func (.func 71) #[] #[]] W fun e W' => e = .returned (.int .i64 (idx s.n s.had)) ∧ Below W.heap.size W W' :=
  first_any 71 (fun _ w _ => !decide (w = -1)) (fun k w t A n c W => had_any k w t A n c W) (enters_of Try.func71 (by kernel_rfl) rfl) h

def errV (n : Int) : Value := .iface 34 (.int .i64 n)
def outV : PS.Out → Value
  | .ev k t w => .tuple #[evV k t w, .nilIface]
  | .range => .tuple #[evV 0 0 0, errV 1]
  | .ended => .tuple #[evV 0 0 0, errV 12]
theorem results_ev (tmps : Array Value) (w : World) (g : Nat) (cs : Array Value) (v : Value) (hp : tmps.getD 4 undef = .pointer (some ⟨g, 0, none⟩)) (hq : tmps.getD 5 undef = v) (hg : w.heap[g]? = some (.cells cs 78 (0, 0))) (hs : cs.size = 3) :
    (results Try.f44 tmps).run Try.prog w = .ok (.tuple #[.agg cs, v]) w := by
  have hp' : tmps[4]?.getD undef = .pointer (some ⟨g, 0, none⟩) := by simpa using hp
  have hq' : tmps[5]?.getD undef = v := by simpa using hq
  simp [results, Try.results44, hp', hq', asAddr, run_loadVar_row w g 78 78 cs (0, 0) _ hg Try.underlying78 rfl (by rw [hs]; exact info78)]

set_option maxHeartbeats 400000 in
theorem pick_range {B : Nat} {W : World} {bp bt bw : Nat} {s : PS} {sa : Nat → Option Addr} {sc : Nat → Nat} (h : PlanAt B W bp bt bw s sa sc) (w : Int) (hw : w < 0 ∨ (s.m : Int) ≤ w) :
    Calls Try.prog 44 #[ptr bp, .int .i64 w] W fun e W' => e = .returned (.tuple #[evV 0 0 0, errV 1]) ∧ PlanAt B W' bp bt bw s sa sc ∧ Fr [bp, bt, bw] W W' := by
  unfold ptr evV errV
  obtain ⟨_, p1, _, _⟩ := h.pl
  have HG := Lib.hid (heap_alloc_new W (.cells #[.int .i64 0, .int .i64 0, .int .i64 0] 78))
  obtain ⟨l1, l2, l3⟩ := h.hi
  have HP := Lib.hid (h.alloc (.cells #[.int .i64 0, .int .i64 0, .int .i64 0] 78))
  have HF := Lib.hid ((Fr.refl [bp, bt, bw] W).alloc (.cells #[.int .i64 0, .int .i64 0, .int .i64 0] 78))
  clear h
  by_cases h0 : w < 0
  · go_enter Try.func44, Try.ntmps44
    go_wp2_with fail
    refine bodyPost_ret (v := .tuple #[.agg #[.int .i64 0, .int .i64 0, .int .i64 0], .iface 34 (.int .i64 1)]) ?_ rfl ?_
    · exact results_ev _ _ W.heap.size _ _ rfl rfl HG.out rfl
    · exact ⟨rfl, HP.out, HF.out⟩
  · have h1 : (s.m : Int) ≤ w := by omega
    go_enter Try.func44, Try.ntmps44
    go_wp2_with fail
    refine bodyPost_ret (v := .tuple #[.agg #[.int .i64 0, .int .i64 0, .int .i64 0], .iface 34 (.int .i64 1)]) ?_ rfl ?_
    · exact results_ev _ _ W.heap.size _ _ rfl rfl HG.out rfl
    · exact ⟨rfl, HP.out, HF.out⟩
set_option maxHeartbeats 1000000 in
theorem pick_has {B : Nat} {W : World} {bp bt bw : Nat} {s : PS} {sa : Nat → Option Addr} {sc : Nat → Nat} (h : PlanAt B W bp bt bw s sa sc) (w i : Nat) (hw : w < s.m) (hws : s.ws w = (i : Int)) (hi : i < s.n) (hk : 0 ≤ s.kd i ∧ s.kd i ≤ 3) (hp : 0 ≤ s.picks ∧ s.picks ≤ 1000000000)
    (he : s.kd i + 1 = 3 → (-1000000 ≤ s.left ∧ s.left ≤ 1000000) ∧ (0 ≤ s.wk i ∧ s.wk i < (s.m : Int)) ∧ (∀ x, x < s.n → -1000000 ≤ s.wt x ∧ s.wt x ≤ 1000000) ∧ (∀ x ∈ s.ln i, 0 ≤ x ∧ x < (s.n : Int)) ∧ (s.ln i).length ≤ 1000000) :
    Calls Try.prog 44 #[ptr bp, .int .i64 (w : Int)] W fun e W' => e = .returned (.tuple #[evV (s.kd i + 1) i (s.wk i), .nilIface]) ∧ PlanAt B W' bp bt bw (s.step i) sa sc ∧ Fr [bp, bt, bw] W W' := by
  have C := further_any (h.alloc (.cells #[.int .i64 0, .int .i64 0, .int .i64 0] 78)) i hi hk hp he
  unfold ptr evV at C
  unfold ptr evV
  obtain ⟨ka, hka⟩ : ∃ k, k = s.kd i + 1 := ⟨_, rfl⟩
  obtain ⟨va, hva⟩ : ∃ v, v = s.wk i := ⟨_, rfl⟩
  rw [← hka, ← hva] at C ⊢
  have HC := Lib.hid C
  obtain ⟨_, p1, _, _⟩ := h.pl
  have w0 := h.wr w hw
  rw [hws] at w0
  have hb := h.big
  have HG := Lib.hid (heap_alloc_new W (.cells #[.int .i64 0, .int .i64 0, .int .i64 0] 78))
  obtain ⟨l1, l2, l3⟩ := h.hi
  have HF := Lib.hid ((Fr.refl [bp, bt, bw] W).alloc (.cells #[.int .i64 0, .int .i64 0, .int .i64 0] 78))
  have e1 : ((i : Int) == -1) = false := beq_eq_false_iff_ne.2 (by omega)
  clear h C hka hva he hk hp hws
  go_enter Try.func44, Try.ntmps44
  go_wp2_with fail
  refine Calls.mono HC.out ?_
  rintro e w2 ⟨rfl, hp2, hf2⟩
  have hl2 := hp2.hi
  have G2 : w2.heap[W.heap.size]? = some (.cells #[.int .i64 0, .int .i64 0, .int .i64 0] 78 (0, 0)) := (hf2.block W.heap.size (Array.getElem?_eq_some_iff.1 HG.out).1 (by simp; omega)).trans HG.out
  have q0 := cell_of_row w2 _ 0 _ 78 (0, 0) G2
  have q1 := cell_of_row w2 _ 1 _ 78 (0, 0) G2
  have q2 := cell_of_row w2 _ 2 _ 78 (0, 0) G2
  have f0 : w2.frozen? ⟨W.heap.size, 0, none⟩ = false := frozen_of_row w2 _ 0 _ 78 G2
  have f1 : w2.frozen? ⟨W.heap.size, 1, none⟩ = false := frozen_of_row w2 _ 1 _ 78 G2
  have f2 : w2.frozen? ⟨W.heap.size, 2, none⟩ = false := frozen_of_row w2 _ 2 _ 78 G2
  simp only [List.getElem?_toArray, List.getElem?_cons_zero, List.getElem?_cons_succ] at q0 q1 q2
  have HG2 := Lib.hid (ev_set (a := .int .i64 ka) (b := .int .i64 (i : Int)) (c := .int .i64 va) G2)
  have HP2 := Lib.hid (hp2.setEv G2 ⟨by omega, by omega, by omega⟩ (.int .i64 ka) (.int .i64 (i : Int)) (.int .i64 va))
  have HF2 := Lib.hid ((((HF.out.trans hf2).new ⟨W.heap.size, 0, none⟩ (.int .i64 ka) (Nat.le_refl _)).new ⟨W.heap.size, 1, none⟩ (.int .i64 (i : Int)) (Nat.le_refl _)).new ⟨W.heap.size, 2, none⟩ (.int .i64 va) (Nat.le_refl _))
  clear hp2 hf2 G2 hl2
  go_wp2_with fail
  refine bodyPost_ret (v := .tuple #[.agg #[.int .i64 ka, .int .i64 (i : Int), .int .i64 va], .nilIface]) ?_ rfl ?_
  · exact results_ev _ _ W.heap.size _ _ rfl rfl HG2.out rfl
  · exact ⟨rfl, HP2.out, HF2.out⟩
set_option maxHeartbeats 1000000 in
theorem pick_none {B : Nat} {W : World} {bp bt bw : Nat} {s : PS} {sa : Nat → Option Addr} {sc : Nat → Nat} (h : PlanAt B W bp bt bw s sa sc) (w : Nat) (hw : w < s.m) (hws : s.ws w = -1) (h1 : idx s.n s.rdy = -1) (h2 : idx s.n s.had = -1) :
    Calls Try.prog 44 #[ptr bp, .int .i64 (w : Int)] W fun e W' => e = .returned (.tuple #[evV 0 0 0, errV 12]) ∧ PlanAt B W' bp bt bw s sa sc ∧ Fr [bp, bt, bw] W W' := by
  have C1 := first_rdy (h.alloc (.cells #[.int .i64 0, .int .i64 0, .int .i64 0] 78))
  have C2 := fun W' (hb : Below (W.alloc (.cells #[.int .i64 0, .int .i64 0, .int .i64 0] 78)).heap.size (W.alloc (.cells #[.int .i64 0, .int .i64 0, .int .i64 0] 78)) W') => first_had ((h.alloc (.cells #[.int .i64 0, .int .i64 0, .int .i64 0] 78)).below hb)
  rw [h1] at C1
  simp only [h2] at C2
  unfold ptr at C1 C2
  unfold ptr evV errV
  have HC1 := Lib.hid C1
  have HC2 := Lib.hid C2
  have HH := Lib.hid h
  obtain ⟨_, p1, _, _⟩ := h.pl
  have w0 := h.wr w hw
  rw [hws] at w0
  have hb := h.big
  have HG := Lib.hid (heap_alloc_new W (.cells #[.int .i64 0, .int .i64 0, .int .i64 0] 78))
  obtain ⟨l1, l2, l3⟩ := h.hi
  have HF := Lib.hid ((Fr.refl [bp, bt, bw] W).alloc (.cells #[.int .i64 0, .int .i64 0, .int .i64 0] 78))
  clear h C1 C2 hws h1 h2
  go_enter Try.func44, Try.ntmps44
  go_wp2_with fail
  refine Calls.mono HC1.out ?_
  rintro e w2 ⟨rfl, hb2⟩
  have HB2 := Lib.hid hb2
  clear hb2
  go_wp2_with fail
  refine Calls.mono (HC2.out _ HB2.out) ?_
  rintro e w3 ⟨rfl, hb3⟩
  have hb4 := HB2.out.trans (hb3.mono HB2.out.size)
  have HP4 := Lib.hid ((HH.out.alloc (.cells #[.int .i64 0, .int .i64 0, .int .i64 0] 78)).below hb4)
  have HF4 := Lib.hid (HF.out.trans (Fr.of hb4))
  have G2 := (hb4.block W.heap.size (Array.getElem?_eq_some_iff.1 HG.out).1).trans HG.out
  have q0 := cell_of_row w3 _ 0 _ 78 (0, 0) G2
  have q1 := cell_of_row w3 _ 1 _ 78 (0, 0) G2
  have q2 := cell_of_row w3 _ 2 _ 78 (0, 0) G2
  have f0 : w3.frozen? ⟨W.heap.size, 0, none⟩ = false := frozen_of_row w3 _ 0 _ 78 G2
  have f1 : w3.frozen? ⟨W.heap.size, 1, none⟩ = false := frozen_of_row w3 _ 1 _ 78 G2
  have f2 : w3.frozen? ⟨W.heap.size, 2, none⟩ = false := frozen_of_row w3 _ 2 _ 78 G2
  simp only [List.getElem?_toArray, List.getElem?_cons_zero, List.getElem?_cons_succ] at q0 q1 q2
  have HG2 := Lib.hid (ev_set (a := .int .i64 0) (b := .int .i64 0) (c := .int .i64 0) G2)
  have HP2 := Lib.hid (HP4.out.setEv G2 ⟨by omega, by omega, by omega⟩ (.int .i64 0) (.int .i64 0) (.int .i64 0))
  have HF2 := Lib.hid (((HF4.out.new ⟨W.heap.size, 0, none⟩ (.int .i64 0) (Nat.le_refl _)).new ⟨W.heap.size, 1, none⟩ (.int .i64 0) (Nat.le_refl _)).new ⟨W.heap.size, 2, none⟩ (.int .i64 0) (Nat.le_refl _))
  clear hb3 hb4 G2
  go_wp2_with fail
  refine bodyPost_ret (v := .tuple #[.agg #[.int .i64 0, .int .i64 0, .int .i64 0], .iface 34 (.int .i64 12)]) ?_ rfl ?_
  · exact results_ev _ _ W.heap.size _ _ rfl rfl HG2.out rfl
  · exact ⟨rfl, HP2.out, HF2.out⟩
set_option maxHeartbeats 1000000 in
theorem pick_help {B : Nat} {W : World} {bp bt bw : Nat} {s : PS} {sa : Nat → Option Addr} {sc : Nat → Nat} (h : PlanAt B W bp bt bw s sa sc) (w i : Nat) (hw : w < s.m) (hws : s.ws w = -1) (h1 : idx s.n s.rdy = -1) (h2 : idx s.n s.had = (i : Int)) (hi : i < s.n) (hk : 0 ≤ s.kd i ∧ s.kd i ≤ 3) (hp : 0 ≤ s.picks ∧ s.picks ≤ 1000000000)
    (he : s.kd i + 1 = 3 → (-1000000 ≤ s.left ∧ s.left ≤ 1000000) ∧ (0 ≤ s.wk i ∧ s.wk i < (s.m : Int)) ∧ (∀ x, x < s.n → -1000000 ≤ s.wt x ∧ s.wt x ≤ 1000000) ∧ (∀ x ∈ s.ln i, 0 ≤ x ∧ x < (s.n : Int)) ∧ (s.ln i).length ≤ 1000000) :
    Calls Try.prog 44 #[ptr bp, .int .i64 (w : Int)] W fun e W' => e = .returned (.tuple #[evV (s.kd i + 1) i (s.wk i), .nilIface]) ∧ PlanAt B W' bp bt bw (s.step i) sa sc ∧ Fr [bp, bt, bw] W W' := by
  have C1 := first_rdy (h.alloc (.cells #[.int .i64 0, .int .i64 0, .int .i64 0] 78))
  have C2 := fun W' (hb : Below (W.alloc (.cells #[.int .i64 0, .int .i64 0, .int .i64 0] 78)).heap.size (W.alloc (.cells #[.int .i64 0, .int .i64 0, .int .i64 0] 78)) W') => first_had ((h.alloc (.cells #[.int .i64 0, .int .i64 0, .int .i64 0] 78)).below hb)
  have C3 := fun W' (hb : Below (W.alloc (.cells #[.int .i64 0, .int .i64 0, .int .i64 0] 78)).heap.size (W.alloc (.cells #[.int .i64 0, .int .i64 0, .int .i64 0] 78)) W') => further_any ((h.alloc (.cells #[.int .i64 0, .int .i64 0, .int .i64 0] 78)).below hb) i hi hk hp he
  rw [h1] at C1
  simp only [h2] at C2
  obtain ⟨ka, hka⟩ : ∃ k, k = s.kd i + 1 := ⟨_, rfl⟩
  obtain ⟨va, hva⟩ : ∃ v, v = s.wk i := ⟨_, rfl⟩
  rw [← hka, ← hva] at C3 ⊢
  unfold ptr at C1 C2 C3
  unfold evV at C3
  unfold ptr evV
  have HC1 := Lib.hid C1
  have HC2 := Lib.hid C2
  have HC3 := Lib.hid C3
  obtain ⟨_, p1, _, _⟩ := h.pl
  have w0 := h.wr w hw
  rw [hws] at w0
  have hb := h.big
  have HG0 := Lib.hid (heap_alloc_new W (.cells #[.int .i64 0, .int .i64 0, .int .i64 0] 78))
  obtain ⟨l1, l2, l3⟩ := h.hi
  have HF0 := Lib.hid ((Fr.refl [bp, bt, bw] W).alloc (.cells #[.int .i64 0, .int .i64 0, .int .i64 0] 78))
  have e1 : ((i : Int) == -1) = false := beq_eq_false_iff_ne.2 (by omega)
  clear h C1 C2 C3 hws h1 h2 hka hva he hk hp
  go_enter Try.func44, Try.ntmps44
  go_wp2_with fail
  refine Calls.mono HC1.out ?_
  rintro e w2 ⟨rfl, hb2⟩
  have HB2 := Lib.hid hb2
  clear hb2
  go_wp2_with fail
  refine Calls.mono (HC2.out _ HB2.out) ?_
  rintro e w3 ⟨rfl, hb3⟩
  have hb4 := HB2.out.trans (hb3.mono HB2.out.size)
  have HF := Lib.hid (HF0.out.trans (Fr.of hb4))
  have HG := Lib.hid ((hb4.block W.heap.size (Array.getElem?_eq_some_iff.1 HG0.out).1).trans HG0.out)
  have HB4 := Lib.hid hb4
  clear hb3 hb4
  go_wp2_with fail
  refine Calls.mono (HC3.out _ HB4.out) ?_
  rintro e w4 ⟨rfl, hp2, hf2⟩
  have hl2 := hp2.hi
  have G2 : w4.heap[W.heap.size]? = some (.cells #[.int .i64 0, .int .i64 0, .int .i64 0] 78 (0, 0)) := (hf2.block W.heap.size (Array.getElem?_eq_some_iff.1 HG.out).1 (by simp; omega)).trans HG.out
  have q0 := cell_of_row w4 _ 0 _ 78 (0, 0) G2
  have q1 := cell_of_row w4 _ 1 _ 78 (0, 0) G2
  have q2 := cell_of_row w4 _ 2 _ 78 (0, 0) G2
  have f0 : w4.frozen? ⟨W.heap.size, 0, none⟩ = false := frozen_of_row w4 _ 0 _ 78 G2
  have f1 : w4.frozen? ⟨W.heap.size, 1, none⟩ = false := frozen_of_row w4 _ 1 _ 78 G2
  have f2 : w4.frozen? ⟨W.heap.size, 2, none⟩ = false := frozen_of_row w4 _ 2 _ 78 G2
  simp only [List.getElem?_toArray, List.getElem?_cons_zero, List.getElem?_cons_succ] at q0 q1 q2
  have HG2 := Lib.hid (ev_set (a := .int .i64 ka) (b := .int .i64 (i : Int)) (c := .int .i64 va) G2)
  have HP2 := Lib.hid (hp2.setEv G2 ⟨by omega, by omega, by omega⟩ (.int .i64 ka) (.int .i64 (i : Int)) (.int .i64 va))
  have HF2 := Lib.hid ((((HF.out.trans hf2).new ⟨W.heap.size, 0, none⟩ (.int .i64 ka) (Nat.le_refl _)).new ⟨W.heap.size, 1, none⟩ (.int .i64 (i : Int)) (Nat.le_refl _)).new ⟨W.heap.size, 2, none⟩ (.int .i64 va) (Nat.le_refl _))
  clear hp2 hf2 G2 hl2
  go_wp2_with fail
  refine bodyPost_ret (v := .tuple #[.agg #[.int .i64 ka, .int .i64 (i : Int), .int .i64 va], .nilIface]) ?_ rfl ?_
  · exact results_ev _ _ W.heap.size _ _ rfl rfl HG2.out rfl
  · exact ⟨rfl, HP2.out, HF2.out⟩
set_option maxHeartbeats 2000000 in
theorem pick_new {B : Nat} {W : World} {bp bt bw : Nat} {s : PS} {sa : Nat → Option Addr} {sc : Nat → Nat} (h : PlanAt B W bp bt bw s sa sc) (w i : Nat) (hw : w < s.m) (hws : s.ws w = -1) (h1 : idx s.n s.rdy = (i : Int)) (hi : i < s.n) (hk : s.kd i = 0) (hp : 0 ≤ s.picks ∧ s.picks ≤ 1000000000) :
    Calls Try.prog 44 #[ptr bp, .int .i64 (w : Int)] W fun e W' => e = .returned (.tuple #[evV 1 i w, .nilIface]) ∧ PlanAt B W' bp bt bw ((s.took i w).step i) sa sc ∧ Fr [bp, bt, bw] W W' := by
  have C1 := first_rdy (h.alloc (.cells #[.int .i64 0, .int .i64 0, .int .i64 0] 78))
  have C3 := fun W' (hp' : PlanAt B W' bp bt bw (s.took i w) sa sc) => further_any hp' i hi (by show 0 ≤ s.kd i ∧ s.kd i ≤ 3; omega) hp (fun e => by change s.kd i + 1 = 3 at e; omega)
  rw [h1] at C1
  have hka : (s.took i w).kd i + 1 = 1 := by show s.kd i + 1 = 1; omega
  have hva : (s.took i w).wk i = (w : Int) := upd_same _ _ _
  simp only [hka, hva] at C3
  unfold ptr at C1 C3
  unfold evV at C3
  unfold ptr evV
  have HC1 := Lib.hid C1
  have HC3 := Lib.hid C3
  have HH := Lib.hid h
  obtain ⟨_, p1, _, _⟩ := h.pl
  have w0 := h.wr w hw
  rw [hws] at w0
  have hb := h.big
  have HG0 := Lib.hid (heap_alloc_new W (.cells #[.int .i64 0, .int .i64 0, .int .i64 0] 78))
  obtain ⟨l1, l2, l3⟩ := h.hi
  have HF0 := Lib.hid ((Fr.refl [bp, bt, bw] W).alloc (.cells #[.int .i64 0, .int .i64 0, .int .i64 0] 78))
  have e1 : ((i : Int) != -1) = true := by simp
  have e2 : ((i : Int) == -1) = false := beq_eq_false_iff_ne.2 (by omega)
  clear h C1 C3 hws h1 hka hva hk hp
  go_enter Try.func44, Try.ntmps44
  go_wp2_with fail
  refine Calls.mono HC1.out ?_
  rintro e w2 ⟨rfl, hb2⟩
  have HB2 := Lib.hid hb2
  have P2 := (HH.out.alloc (.cells #[.int .i64 0, .int .i64 0, .int .i64 0] 78)).below hb2
  have HF2 := Lib.hid (HF0.out.trans (Fr.of hb2))
  have HG2 := Lib.hid ((hb2.block W.heap.size (Array.getElem?_eq_some_iff.1 HG0.out).1).trans HG0.out)
  obtain ⟨p0, p1', _, _⟩ := P2.pl
  obtain ⟨_, t1, _, _⟩ := P2.tk i hi
  have w1 := P2.wr w hw
  have tf1 := P2.tf (i * 4 + 1)
  have wf1 := P2.wf w
  obtain ⟨a1, a2, a3⟩ := P2.ap
  have a4 : bw ≠ bp := fun e => a2 e.symm
  have a5 : bw ≠ bt := fun e => a3 e.symm
  have a6 : bt ≠ bp := fun e => a1 e.symm
  obtain ⟨m1, m2, m3⟩ := P2.hi
  have b1 : (0 : Int) ≤ (w : Int) := by omega
  have b2 : (w : Int) < (s.m : Int) := by omega
  have b3 : (0 : Int) ≤ (i : Int) := by omega
  have b4 : (i : Int) < (s.n : Int) := by omega
  have HP2 := Lib.hid P2
  clear hb2 P2
  go_wp2_with fail
  go_region_held3 (fun w' => w'.cell? ⟨bp, 0, none⟩ = some (.slice (some ⟨bt, 0, none⟩) s.n s.n) ∧ w'.cell? ⟨bp, 1, none⟩ = some (.slice (some ⟨bw, 0, none⟩) s.m s.m)) (go_keep) (fail)
  rename_i hHeld
  have P3 : PlanAt B ((w2.setCell ⟨bt, i * 4 + 1, none⟩ (.int .i64 (w : Int))).setCell ⟨bw, w, none⟩ (.int .i64 (i : Int))).drew bp bt bw (s.took i w) sa sc := ((HP2.out.setWk i hi w).setWs w hw i).drew
  have F3 : Fr [bp, bt, bw] W ((w2.setCell ⟨bt, i * 4 + 1, none⟩ (.int .i64 (w : Int))).setCell ⟨bw, w, none⟩ (.int .i64 (i : Int))).drew := ((HF2.out.set _ _ (by simp)).set _ _ (by simp)).drew
  have G3 : ((w2.setCell ⟨bt, i * 4 + 1, none⟩ (.int .i64 (w : Int))).setCell ⟨bw, w, none⟩ (.int .i64 (i : Int))).drew.heap[W.heap.size]? = some (.cells #[.int .i64 0, .int .i64 0, .int .i64 0] 78 (0, 0)) :=
    (Below.heap_setCell _ _ _ _ (show W.heap.size ≠ bw by omega)).trans ((Below.heap_setCell _ _ _ _ (show W.heap.size ≠ bt by omega)).trans HG2.out)
  clear hHeld
  revert P3 F3 G3
  generalize World.drew (World.setCell (World.setCell w2 _ _) _ _) = w3
  intro P3 F3 G3
  have HP3 := Lib.hid P3
  have HF := Lib.hid F3
  have HG := Lib.hid G3
  clear P3 F3 G3 p0 p1' t1 w1 tf1 wf1 HP2 HF2 HG2
  go_wp2_with fail
  refine Calls.mono (HC3.out _ HP3.out) ?_
  rintro e w4 ⟨rfl, hp2, hf2⟩
  have hl2 := hp2.hi
  have G2 : w4.heap[W.heap.size]? = some (.cells #[.int .i64 0, .int .i64 0, .int .i64 0] 78 (0, 0)) := (hf2.block W.heap.size (Array.getElem?_eq_some_iff.1 HG.out).1 (by simp; omega)).trans HG.out
  have q0 := cell_of_row w4 _ 0 _ 78 (0, 0) G2
  have q1 := cell_of_row w4 _ 1 _ 78 (0, 0) G2
  have q2 := cell_of_row w4 _ 2 _ 78 (0, 0) G2
  have f0 : w4.frozen? ⟨W.heap.size, 0, none⟩ = false := frozen_of_row w4 _ 0 _ 78 G2
  have f1 : w4.frozen? ⟨W.heap.size, 1, none⟩ = false := frozen_of_row w4 _ 1 _ 78 G2
  have f2 : w4.frozen? ⟨W.heap.size, 2, none⟩ = false := frozen_of_row w4 _ 2 _ 78 G2
  simp only [List.getElem?_toArray, List.getElem?_cons_zero, List.getElem?_cons_succ] at q0 q1 q2
  have HG2 := Lib.hid (ev_set (a := .int .i64 1) (b := .int .i64 (i : Int)) (c := .int .i64 (w : Int)) G2)
  have HP2 := Lib.hid (hp2.setEv G2 ⟨by omega, by omega, by omega⟩ (.int .i64 1) (.int .i64 (i : Int)) (.int .i64 (w : Int)))
  have HF2 := Lib.hid ((((HF.out.trans hf2).new ⟨W.heap.size, 0, none⟩ (.int .i64 1) (Nat.le_refl _)).new ⟨W.heap.size, 1, none⟩ (.int .i64 (i : Int)) (Nat.le_refl _)).new ⟨W.heap.size, 2, none⟩ (.int .i64 (w : Int)) (Nat.le_refl _))
  clear hp2 hf2 G2 hl2
  go_wp2_with fail
  refine bodyPost_ret (v := .tuple #[.agg #[.int .i64 1, .int .i64 (i : Int), .int .i64 (w : Int)], .nilIface]) ?_ rfl ?_
  · exact results_ev _ _ W.heap.size _ _ rfl rfl HG2.out rfl
  · exact ⟨rfl, HP2.out, HF2.out⟩
/-- What always stands is small. -/
theorem Inv.small {ls : List (List Int)} {s : PS} (h : Inv ls s) (hS : ∀ i, (ls.getD i []).length ≤ 1000) (hn : s.n ≤ 1000000) {i : Nat} (hi : i < s.n) (hw : s.wk i ≠ -1) :
    (-1000000 ≤ s.left ∧ s.left ≤ 1000000) ∧ (0 ≤ s.wk i ∧ s.wk i < (s.m : Int)) ∧ (∀ x, x < s.n → -1000000 ≤ s.wt x ∧ s.wt x ≤ 1000000) ∧ (∀ x ∈ s.ln i, 0 ≤ x ∧ x < (s.n : Int)) ∧ (s.ln i).length ≤ 1000000 := by
  have h3 : s.kd i ≠ 3 := fun e => hw ((h.has i hi).2 (.inr e))
  refine ⟨?_, ⟨(h.wk i hi hw).1, (h.wk i hi hw).2.1⟩, fun x hx => ?_, ?_, ?_⟩
  · have := h.left
    have h2 := List.length_filter_le (fun i => !decide (s.kd i = 3)) (List.range s.n)
    rw [List.length_range] at h2
    omega
  · have := h.wt x hx
    have h2 := List.length_filter_le (fun j : Int => !decide (s.kd j.toNat = 3)) (ls.getD x [])
    have := hS x
    omega
  · rw [h.ln i hi h3]
    simp only [List.mem_map, List.mem_filter, List.mem_range]
    rintro x ⟨y, ⟨hy, _⟩, rfl⟩
    exact ⟨Int.natCast_nonneg y, by show (y : Int) < _; omega⟩
  · rw [h.ln i hi h3, List.length_map]
    have h2 := List.length_filter_le (fun k => decide ((i : Int) ∈ ls.getD k [])) (List.range s.n)
    rw [List.length_range] at h2
    omega
/-- A pick of a plan as it always stands. -/
theorem pick_any {B : Nat} {W : World} {bp bt bw : Nat} {s : PS} {sa : Nat → Option Addr} {sc : Nat → Nat} {ls : List (List Int)} (h : PlanAt B W bp bt bw s sa sc) (hI : Inv ls s) (hS : ∀ i, (ls.getD i []).length ≤ 1000) (hp : 0 ≤ s.picks ∧ s.picks ≤ 1000000000) (w : Int) :
    Calls Try.prog 44 #[ptr bp, .int .i64 w] W fun e W' => e = .returned (outV (s.pick w).2) ∧ PlanAt B W' bp bt bw (s.pick w).1 sa sc ∧ Fr [bp, bt, bw] W W' := by
  have hn := h.big.1
  unfold PS.pick
  by_cases h0 : w < 0 ∨ (s.m : Int) ≤ w
  · rw [if_pos h0]; exact pick_range h w h0
  rw [if_neg h0]
  obtain ⟨k, rfl⟩ : ∃ k : Nat, w = (k : Int) := ⟨w.toNat, by omega⟩
  have hk : k < s.m := by omega
  rw [Int.toNat_natCast]
  by_cases h1 : s.ws k ≠ -1
  · rw [if_pos h1]
    obtain ⟨a, b, c⟩ := hI.ws k hk h1
    obtain ⟨i, hi⟩ : ∃ i : Nat, s.ws k = (i : Int) := ⟨(s.ws k).toNat, by omega⟩
    rw [hi, Int.toNat_natCast] at c ⊢
    have hin : i < s.n := by omega
    exact pick_has h k i hk hi hin (hI.kd i hin) hp fun _ => hI.small hS hn hin (by omega)
  rw [if_neg h1]
  have h1' : s.ws k = -1 := by omega
  by_cases h2 : idx s.n s.rdy ≠ -1
  · rw [if_pos h2]
    rcases idx_cases s.n s.rdy with ⟨i, hi, he, hr, _⟩ | ⟨he, _⟩
    · have h0 := ((hI.ready hi).1 hr).1
      rw [he, Int.toNat_natCast]
      have C := pick_new h k i hk h1' he hi h0 hp
      unfold PS.act
      have e1 : (s.took i k).kd i + 1 = 1 := by show s.kd i + 1 = 1; omega
      have e2 : (s.took i k).wk i = (k : Int) := upd_same _ _ _
      rw [e1, e2]
      exact C
    · exact absurd he h2
  rw [if_neg h2]
  have h2' : idx s.n s.rdy = -1 := by omega
  by_cases h3 : idx s.n s.had ≠ -1
  · rw [if_pos h3]
    rcases idx_cases s.n s.had with ⟨i, hi, he, hr, _⟩ | ⟨he, _⟩
    · have hw : s.wk i ≠ -1 := by simpa [PS.had] using hr
      rw [he, Int.toNat_natCast]
      exact pick_help h k i hk h1' h2' he hi (hI.kd i hi) hp fun _ => hI.small hS hn hi hw
    · exact absurd he h3
  rw [if_neg h3]
  exact pick_none h k hk h1' h2' (by omega)
end Go.Proofs.Ytgdkgoiagjjccaa

/- Rows of numbers in memory; graph.Good. -/
namespace Go.Proofs.Ytgdkgoiagjjccaa
set_option maxRecDepth 100000
open Go.RowKit

/-- A slice that reads as rows of numbers. -/
def Rws (w : World) (A : Option Addr) (n : Nat) (ls : List (List Int)) : Prop :=
  ls.length = n ∧ n ≤ 9223372036854775807 ∧ (0 < n → ∃ b off, A = some ⟨b, off, none⟩ ∧ ∀ j, j < n → ∃ A' c', w.cell? ⟨b, off + j, none⟩ = some (.slice A' (ls.getD j []).length c') ∧ Nums w A' (ls.getD j []).length (ls.getD j []) ∧ (ls.getD j []).length ≤ 9223372036854775807)
theorem Rws.ext {w w' : World} {A : Option Addr} {n : Nat} {ls : List (List Int)} (h : Rws w A n ls) (hs : ∀ p : Addr, p.block < w.heap.size → w'.cell? p = w.cell? p) : Rws w' A n ls :=
  ⟨h.1, h.2.1, fun hn => by
    obtain ⟨b, off, e, hc⟩ := h.2.2 hn
    refine ⟨b, off, e, fun j hj => ?_⟩
    obtain ⟨A', c', h1, h2, h3⟩ := hc j hj
    exact ⟨A', c', (hs _ (World.block_lt_of_cell? _ _ h1)).trans h1, h2.ext hs, h3⟩⟩
theorem Rws.below {w w' : World} {A : Option Addr} {n : Nat} {ls : List (List Int)} (h : Rws w A n ls) (hb : Below w.heap.size w w') : Rws w' A n ls := h.ext fun _ hp => hb.cell hp

/-- The first rows are good. -/
def GoodTo (ls : List (List Int)) (k : Nat) : Prop := ∀ i, i < k → ∀ q : Nat, ∀ x, (ls.getD i [])[q]? = some x → 0 ≤ x ∧ x < (i : Int) ∧ ∀ y, 0 < q → (ls.getD i [])[q - 1]? = some y → y < x
theorem goodTo_all {ls : List (List Int)} : GoodL ls ↔ GoodTo ls ls.length := by
  constructor
  · intro h i hi q x hx
    have e2 : ls.getD i [] = ls[i] := by simp [List.getD_eq_getElem?_getD, hi]
    rw [e2] at hx ⊢
    exact h i _ (List.getElem?_eq_getElem hi) q x hx
  · intro h i l hl q x hx
    have hi : i < ls.length := by
      rcases Nat.lt_or_ge i ls.length with h1 | h1
      · exact h1
      · rw [List.getElem?_eq_none h1] at hl; cases hl
    have e2 : ls.getD i [] = l := by simp [List.getD_eq_getElem?_getD, hl]
    have := h i hi q x (by rw [e2]; exact hx)
    rw [e2] at this
    exact this
/-- The first numbers of a row are good. -/
def RowTo (l : List Int) (i k : Nat) : Prop := ∀ q : Nat, q < k → ∀ x, l[q]? = some x → 0 ≤ x ∧ x < (i : Int) ∧ ∀ y, 0 < q → l[q - 1]? = some y → y < x
/-- The number ahead of a place; -1: there is none. -/
def lastOf (l : List Int) (k : Nat) : Int := if k = 0 then -1 else l.getD (k - 1) 0
theorem rowTo_next {l : List Int} {i k : Nat} (h : RowTo l i k) (hk : k < l.length) (h1 : lastOf l k < l.getD k 0) (h2 : l.getD k 0 < (i : Int)) : RowTo l i (k + 1) := by
  intro q hq x hx
  rcases Nat.lt_succ_iff_lt_or_eq.1 hq with h3 | h3
  · exact h q h3 x hx
  · subst h3
    have ex : l.getD q 0 = x := by simp [List.getD_eq_getElem?_getD, hx]
    rw [ex] at h1 h2
    unfold lastOf at h1
    by_cases h0 : q = 0
    · rw [if_pos h0] at h1
      exact ⟨by omega, h2, fun y h4 => by omega⟩
    · rw [if_neg h0] at h1
      have hp := h (q - 1) (by omega) (l.getD (q - 1) 0) (by rw [List.getElem?_eq_getElem (by omega)]; simp [List.getD_eq_getElem?_getD, show q - 1 < l.length by omega])
      refine ⟨by omega, h2, fun y _ hy => ?_⟩
      have ey : l.getD (q - 1) 0 = y := by simp [List.getD_eq_getElem?_getD, hy]
      omega
theorem rowTo_bad {l : List Int} {i k : Nat} (hk : k < l.length) (h1 : ¬ (lastOf l k < l.getD k 0 ∧ l.getD k 0 < (i : Int))) (h0 : RowTo l i l.length) : False := by
  have hx : l[k]? = some (l.getD k 0) := by rw [List.getElem?_eq_getElem hk]; simp [List.getD_eq_getElem?_getD, hk]
  obtain ⟨a, b, c⟩ := h0 k hk _ hx
  apply h1
  refine ⟨?_, b⟩
  unfold lastOf
  by_cases h2 : k = 0
  · rw [if_pos h2]; omega
  · rw [if_neg h2]
    exact c _ (by omega) (by rw [List.getElem?_eq_getElem (by omega)]; simp [List.getD_eq_getElem?_getD, show k - 1 < l.length by omega])
theorem goodTo_row {ls : List (List Int)} {i : Nat} : GoodTo ls (i + 1) ↔ GoodTo ls i ∧ RowTo (ls.getD i []) i (ls.getD i []).length := by
  constructor
  · intro h
    exact ⟨fun j hj => h j (by omega), fun q _ x hx => h i (by omega) q x hx⟩
  · rintro ⟨h1, h2⟩ j hj q x hx
    rcases Nat.lt_succ_iff_lt_or_eq.1 hj with h3 | h3
    · exact h1 j h3 q x hx
    · subst h3
      have hq : q < (ls.getD j []).length := by
        rcases Nat.lt_or_ge q (ls.getD j []).length with h4 | h4
        · exact h4
        · rw [List.getElem?_eq_none h4] at hx; cases hx
      exact h2 q hq x hx
theorem goodTo_mono {ls : List (List Int)} {a b : Nat} (h : GoodTo ls b) (hab : a ≤ b) : GoodTo ls a := fun i hi => h i (by omega)

set_option maxHeartbeats 1000000 in
theorem goodg_any (A : Option Addr) (n c : Nat) (ls : List (List Int)) (w : World) (h : Rws w A n ls) :
    Calls Try.prog 31 #[.slice A n c] w fun e w' => e = .returned (.bool (decide (GoodL ls))) ∧ w = w' := by
  have HH := Lib.hid h
  have HL := Lib.hid h.1
  have hn := h.2.1
  have HT := Lib.hid (show GoodTo ls n → decide (GoodL ls) = true from fun h1 => decide_eq_true (goodTo_all.2 (by rw [h.1]; exact h1)))
  have HF := Lib.hid (show ∀ i k, i < n → k < (ls.getD i []).length → ¬ (lastOf (ls.getD i []) k < (ls.getD i []).getD k 0 ∧ (ls.getD i []).getD k 0 < (i : Int)) → decide (GoodL ls) = false from fun i k hi hk hno => decide_eq_false fun hg =>
    rowTo_bad hk hno (goodTo_row.1 (goodTo_mono (goodTo_all.1 hg) (by have := h.1; omega))).2)
  obtain ⟨R, hR⟩ : ∃ R, R = decide (GoodL ls) := ⟨_, rfl⟩
  rw [← hR] at HT HF ⊢
  clear h hR
  go_enter Try.func31, Try.ntmps31
  go_wp2_with fail
  go_loop [3, 4, 5, 7, 10] (fun _ _ _ _ i => ∃ k : Nat, i = .int .i64 (k : Int) ∧ k ≤ n ∧ Hid (GoodTo ls k)) (fun _ _ _ _ i => n - (intOf i).toNat)
  case atStart => exact ⟨0, rfl, by omega, fun i hi => by omega⟩
  case round =>
    obtain ⟨k, rfl, hk, hg⟩ := hrel
    by_cases hlt : k < n
    · obtain ⟨b, off, rfl, hc⟩ := HH.out.2.2 (by omega)
      obtain ⟨A', c', hc1, hnums, hm⟩ := hc k hlt
      obtain ⟨l, hl⟩ : ∃ l, l = ls.getD k [] := ⟨_, rfl⟩
      have HX := Lib.hid (show ∀ q, q < l.length → ¬ (lastOf l q < l.getD q 0 ∧ l.getD q 0 < (k : Int)) → R = false from fun q hq hno => HF.out k q hlt (by rw [← hl]; exact hq) (by rw [← hl]; exact hno))
      have HY := Lib.hid (show RowTo l k l.length → GoodTo ls (k + 1) from fun hr => goodTo_row.2 ⟨hg.out, by rw [← hl]; exact hr⟩)
      rw [← hl] at hc1 hnums hm
      have HN := Lib.hid hnums
      clear hc hl hnums HF HH
      go_wp2_with fail
      go_loop [5, 7, 17] (fun t _ j => ∃ q : Nat, j = .int .i64 (q : Int) ∧ q ≤ l.length ∧ t = .int .i64 (lastOf l q) ∧ Hid (RowTo l k q)) (fun _ _ j => l.length - (intOf j).toNat)
      case atStart => exact ⟨0, rfl, by omega, rfl, fun i hi => by omega⟩
      case round =>
        obtain ⟨q, rfl, hq, rfl, hr⟩ := hrel
        by_cases hql : q < l.length
        · obtain ⟨b2, off2, rfl, hc2⟩ := HN.out.2.2 (by omega)
          have c2 := hc2 q hql
          have HB := Lib.hid (HX.out q hql)
          have HA := Lib.hid (fun h1 h2 => rowTo_next hr.out hql h1 h2)
          have HS := Lib.hid (show lastOf l (q + 1) = l.getD q 0 from by simp [lastOf])
          obtain ⟨x, hx⟩ : ∃ x, x = l.getD q 0 := ⟨_, rfl⟩
          obtain ⟨y, hy⟩ : ∃ y, y = lastOf l q := ⟨_, rfl⟩
          rw [← hx] at c2 HB HA HS
          rw [← hy] at HB HA ⊢
          clear hc2 hx hy HX
          by_cases h1 : x ≤ y
          · go_wp2_with fail
            go_ret
            exact ⟨by rw [HB.out (by omega)]; rfl, rfl⟩
          by_cases h2 : (k : Int) ≤ x
          · go_wp2_with fail
            go_ret
            exact ⟨by rw [HB.out (by omega)]; rfl, rfl⟩
          · go_wp2_with fail
            go_round
            case rel => exact ⟨q + 1, by go_num, by omega, by rw [HS.out], HA.out (by omega) (by omega)⟩
            case measure => simp [intOf]; omega
        · obtain rfl : q = l.length := by omega
          go_wp2_with fail
          go_round
          case rel => exact ⟨k + 1, by go_num, by omega, HY.out hr.out⟩
          case measure => simp [intOf]; omega
    · obtain rfl : k = n := by omega
      go_wp2_with fail
      go_ret
      exact ⟨by rw [HT.out hg.out]; rfl, rfl⟩
end Go.Proofs.Ytgdkgoiagjjccaa

/- A number more in a task's row. -/
namespace Go.Proofs.Ytgdkgoiagjjccaa
set_option maxRecDepth 100000
open Go.RowKit

/-- A task's row has been appended to, but isn't stored yet. -/
structure Push (B : Nat) (W : World) (bp bt bw : Nat) (s : PS) (sa : Nat → Option Addr) (j g cap : Nat) (k : Int) (w1 : World) : Prop where
  size : W.heap.size ≤ w1.heap.size
  below : Below B W w1
  p : w1.heap[bp]? = W.heap[bp]?
  t : w1.heap[bt]? = W.heap[bt]?
  w : w1.heap[bw]? = W.heap[bw]?
  own : w1.ownsRow B 3 1 (.slice (some ⟨g, 0, none⟩) ((s.ln j).length + 1) cap) ((s.ln j).length + 1) (valsZ (s.ln j ++ [k]))
  rows : ∀ i, i < s.n → i ≠ j → ∀ a, sa i = some a → w1.heap[a.block]? = W.heap[a.block]?
  away : g ≠ bp ∧ g ≠ bt ∧ g ≠ bw
  apart : ∀ i, i < s.n → i ≠ j → ∀ a, sa i = some a → a.block ≠ g
theorem Push.cells {B : Nat} {W : World} {bp bt bw : Nat} {s : PS} {sa : Nat → Option Addr} {sc : Nat → Nat} {j g cap : Nat} {k : Int} {w1 : World} (h : PlanAt B W bp bt bw s sa sc) (hp : Push B W bp bt bw s sa j g cap k w1) (hj : j < s.n) :
    w1.cell? ⟨bp, 0, none⟩ = some (.slice (some ⟨bt, 0, none⟩) s.n s.n) ∧ w1.cell? ⟨bt, j * 4 + 3, none⟩ = some (.slice (sa j) (s.ln j).length (sc j)) ∧ w1.frozen? ⟨bt, j * 4 + 3, none⟩ = false :=
  ⟨((cell_frozen hp.p).1 0).trans h.pl.1, ((cell_frozen hp.t).1 _).trans (h.tk j hj).2.2.2, ((cell_frozen hp.t).2 _).trans (h.tf _)⟩
def PS.push (s : PS) (j : Nat) (k : Int) : PS := { s with ln := upd s.ln j (s.ln j ++ [k]) }
/-- It is stored. -/
theorem Push.stored {B : Nat} {W : World} {bp bt bw : Nat} {s : PS} {sa : Nat → Option Addr} {sc : Nat → Nat} {j g cap : Nat} {k : Int} {w1 : World} (h : PlanAt B W bp bt bw s sa sc) (hp : Push B W bp bt bw s sa j g cap k w1) (hj : j < s.n) :
    PlanAt B (w1.setCell ⟨bt, j * 4 + 3, none⟩ (.slice (some ⟨g, 0, none⟩) ((s.ln j).length + 1) cap)) bp bt bw (s.push j k) (upd sa j (some ⟨g, 0, none⟩)) (upd sc j cap) := by
  obtain ⟨p1, p2⟩ := cell_frozen hp.p
  obtain ⟨t1, t2⟩ := cell_frozen hp.t
  obtain ⟨w1', w2⟩ := cell_frozen hp.w
  have hz := hp.size
  refine ⟨h.lo, h.ap, ⟨by rw [World.size_setCell]; have := h.hi.1; omega, by rw [World.size_setCell]; have := h.hi.2.1; omega, by rw [World.size_setCell]; have := h.hi.2.2; omega⟩, h.big, ?_, fun q => by rw [World.frozen?_setCell, p2]; exact h.pf q, fun i hi => ?_, fun q => by rw [World.frozen?_setCell, t2]; exact h.tf q, fun i hi => ?_,
    fun q => by rw [World.frozen?_setCell, w2]; exact h.wf q, fun i hi => ?_, fun i hi a ha => ?_, fun x y hx hy hxy a b ha hb => ?_⟩
  · rw [set_blk h.ap.1.symm, set_blk h.ap.1.symm, set_blk h.ap.1.symm, set_blk h.ap.1.symm, p1, p1, p1, p1]; exact h.pl
  · obtain ⟨a, b, c, d⟩ := h.tk i hi
    refine ⟨by rw [set_off (by omega), t1]; exact a, by rw [set_off (by omega), t1]; exact b, by rw [set_off (by omega), t1]; exact c, ?_⟩
    show _ = some (Value.slice (upd sa j (some ⟨g, 0, none⟩) i) (upd s.ln j (s.ln j ++ [k]) i).length (upd sc j cap i))
    by_cases e : i = j
    · subst e
      rw [upd_same, upd_same, upd_same, List.length_append]
      exact set_same ((t1 _).trans d)
    · rw [upd_other _ _ e, upd_other _ _ e, upd_other _ _ e, set_off (by omega), t1]; exact d
  · rw [set_blk h.ap.2.2, w1']; exact h.wr i hi
  · show World.ownsRow _ B 3 1 (.slice (upd sa j (some ⟨g, 0, none⟩) i) (upd s.ln j (s.ln j ++ [k]) i).length (upd sc j cap i)) (upd s.ln j (s.ln j ++ [k]) i).length (valsZ (upd s.ln j (s.ln j ++ [k]) i))
    by_cases e : i = j
    · subst e
      rw [upd_same, upd_same, upd_same, List.length_append]
      exact own_kept hp.own fun a ha => Below.heap_setCell _ _ _ _ (by injection ha with ha; subst ha; exact hp.away.2.1)
    · rw [upd_other _ _ e, upd_other _ _ e, upd_other _ _ e]
      exact own_kept (h.own i hi) fun a ha => (Below.heap_setCell _ _ _ _ (h.away i hi a ha).2.1).trans (hp.rows i hi e a ha)
  · by_cases e : i = j
    · subst e
      rw [upd_same] at ha
      injection ha with ha
      subst ha
      exact hp.away
    · rw [upd_other _ _ e] at ha
      exact h.away i hi a ha
  · by_cases e : x = j
    · subst e
      rw [upd_same] at ha
      rw [upd_other _ _ (fun e => hxy e.symm)] at hb
      injection ha with ha
      subst ha
      exact fun e => hp.apart y hy (fun e => hxy e.symm) b hb e.symm
    · rw [upd_other _ _ e] at ha
      by_cases e2 : y = j
      · subst e2
        rw [upd_same] at hb
        injection hb with hb
        subst hb
        exact hp.apart x hx e a ha
      · rw [upd_other _ _ e2] at hb
        exact h.apart x y hx hy hxy a b ha hb
theorem Push.ext {B : Nat} {W : World} {bp bt bw : Nat} {s : PS} {sa : Nat → Option Addr} {j g cap : Nat} {k : Int} {w1 w2 : World} (hp : Push B W bp bt bw s sa j g cap k w1) (hs : w2.heap = w1.heap) (ho : w2.os = w1.os) (ht : w2.tape = w1.tape) (hu : w2.output = w1.output) : Push B W bp bt bw s sa j g cap k w2 :=
  ⟨by rw [hs]; exact hp.size, ⟨ho.trans hp.below.os, ht.trans hp.below.tape, hu.trans hp.below.output, by rw [hs]; exact hp.below.size, fun k hk => by rw [hs]; exact hp.below.block k hk⟩, by rw [hs]; exact hp.p, by rw [hs]; exact hp.t, by rw [hs]; exact hp.w, own_kept hp.own (fun a _ => by rw [hs]), fun i hi hn a ha => by rw [hs]; exact hp.rows i hi hn a ha, hp.away, hp.apart⟩
theorem Push.drew {B : Nat} {W : World} {bp bt bw : Nat} {s : PS} {sa : Nat → Option Addr} {j g cap : Nat} {k : Int} {w1 : World} (hp : Push B W bp bt bw s sa j g cap k w1) : Push B W bp bt bw s sa j g cap k w1.drew := hp.ext rfl rfl rfl rfl
theorem Push.next {B : Nat} {W : World} {bp bt bw : Nat} {s s' : PS} {sa : Nat → Option Addr} {sc : Nat → Nat} {j g cap : Nat} {k : Int} {w0 w1 : World} (h : PlanAt B W bp bt bw s sa sc) (hp : Push B W bp bt bw s sa j g cap k w1) (hj : j < s.n) (hs : s.push j k = s') {M : Nat} (hM : M = (s.ln j).length) (hb : Below B w0 W) :
    ∃ sa' sc', PlanAt B (w1.setCell ⟨bt, j * 4 + 3, none⟩ (.slice (some ⟨g, 0, none⟩) (M + 1) cap)) bp bt bw s' sa' sc' ∧ Below B w0 (w1.setCell ⟨bt, j * 4 + 3, none⟩ (.slice (some ⟨g, 0, none⟩) (M + 1) cap)) := by
  subst hs hM
  exact ⟨_, _, hp.stored h hj, (hb.trans hp.below).setCell (p := ⟨bt, j * 4 + 3, none⟩) h.lo.2.1 _⟩
theorem info3 : (Try.prog.info? 3).map (fun i => (i.zero, i.size, i.bytes)) = some (some (.int .i64 0), 1, 8) := by kernel_rfl
/-- The append of one number to a task's row, as a step of a region that draws. -/
theorem step_push {B : Nat} {W : World} {bp bt bw : Nat} {s : PS} {sa : Nat → Option Addr} {sc : Nat → Nat} (h : PlanAt B W bp bt bw s sa sc) {j : Nat} (hj : j < s.n) (hll : (s.ln j).length ≤ 1000000) (hB : B ≤ W.heap.size)
    {ops : Array Oper} {o : Oper} {a : Act} {w : World} {K : Act → World → Prop} {Q : Exit → Act → World → Prop} {E : Prop} (hgd : o.guard = none) (sv x : Operand)
    (ho : o.op = .call { callee := .builtin .append, args := #[sv, x], argTypes := #[38, 38] }) (hb : Below W.heap.size W w) (hs : a.eval sv = .slice (sa j) (s.ln j).length (sc j))
    (hg : Nat) (c : Nat) (k : Int) (hx : a.eval x = .slice (some ⟨hg, 0, none⟩) 1 c) (hc : w.cell? ⟨hg, 0, none⟩ = some (.int .i64 k))
    (hK : ∀ g cap w1, Push B W bp bt bw s sa j g cap k w1 → K (a.put o.dst (.slice (some ⟨g, 0, none⟩) ((s.ln j).length + 1) cap)) w1) :
    if Region.wanted o (yielded ops a.tmps) = true then Oper.wp Try.prog o a w K Q else E := by
  obtain ⟨i0, hi, hz0, hz1, hz2⟩ := info_parts info3
  have hP := h.below hb
  refine step_append_lies w hgd sv x 38 ho B 3 i0 (.int .i64 0) 1 8 Try.underlying38 hi hz0 hz1 hz2 rfl (by decide) _ (s.ln j).length _ hs (hP.own j hj) ⟨hg, 0, none⟩ 1 c [.int .i64 k] hx rfl ?_ (by intro u hu; simp at hu; subst hu; rfl) (by decide) (by unfold maxLen; omega) (by omega) (by have := hb.size; omega) w.heap.size rfl ?_
  · intro q u hq
    rcases q with _ | q
    · simp at hq
      subst hq
      rw [addr_plus]; exact hc
    · simp at hq
  · intro g cap w1 hown hgrow hat hlt
    refine hK g cap w1 ?_
    have hrow : ∀ b, Value.ownBlock (.slice (sa j) (s.ln j).length (sc j)) = some b → ∃ ad, sa j = some ad ∧ ad.block = b := by
      intro b hb
      cases hsa : sa j with
      | none => rw [hsa] at hb; cases hb
      | some ad => rw [hsa] at hb; injection hb with hb; exact ⟨ad, rfl, hb⟩
    have hne : ∀ q, (∀ ad, sa j = some ad → ad.block ≠ q) → some q ≠ Value.ownBlock (.slice (sa j) (s.ln j).length (sc j)) := fun q hq e => by
      obtain ⟨ad, h1, h2⟩ := hrow q e.symm
      exact hq ad h1 h2
    have hzw := hb.size
    have keep : ∀ q, q < W.heap.size → (∀ ad, sa j = some ad → ad.block ≠ q) → w1.heap[q]? = W.heap[q]? := fun q hq hn =>
      (hgrow.block q (by omega) (hne q hn)).trans (hb.block q hq)
    have hlo := h.lo
    have hhi := h.hi
    have hgne : ∀ q, q < W.heap.size → (∀ ad, sa j = some ad → ad.block ≠ q) → g ≠ q := fun q hq hn e => by
      rcases hat with h1 | h1
      · obtain ⟨ad, h2, h3⟩ := hrow g h1
        exact hn ad h2 (h3.trans e)
      · omega
    refine ⟨by have := hgrow.size; omega, ?_, keep bp hhi.1 (fun ad ha => (h.away j hj ad ha).1), keep bt hhi.2.1 (fun ad ha => (h.away j hj ad ha).2.1), keep bw hhi.2.2 (fun ad ha => (h.away j hj ad ha).2.2), ?_, fun i hin hij ad ha => ?_, ⟨hgne bp hhi.1 (fun ad ha => (h.away j hj ad ha).1), hgne bt hhi.2.1 (fun ad ha => (h.away j hj ad ha).2.1), hgne bw hhi.2.2 (fun ad ha => (h.away j hj ad ha).2.2)⟩, fun i hin hij ad ha => ?_⟩
    · refine (hb.mono hB).grown hgrow (by omega) fun q hq => ?_
      obtain ⟨ad, h1, h2⟩ := hrow q hq
      have := (h.own j hj).lt q hq
      exact this.1
    · have e : valsZ (s.ln j) ++ [Value.int .i64 k] = valsZ (s.ln j ++ [k]) := by simp [valsZ]
      rw [← e]; exact hown
    · exact keep _ ((h.own i hin).lt ad.block (by rw [ha]; rfl)).2 fun ad2 h2 => h.apart j i hj hin (fun e => hij e.symm) ad2 ad h2 ha
    · exact fun e => hgne ad.block ((h.own i hin).lt ad.block (by rw [ha]; rfl)).2 (fun ad2 h2 => h.apart j i hj hin (fun e => hij e.symm) ad2 ad h2 ha) e.symm
end Go.Proofs.Ytgdkgoiagjjccaa
