/- The document's Crash. -/
import Derived.Test.YthmebgpleegonaaDRefR
namespace Go.Proofs.Ythmebgpleegonaa
set_option maxRecDepth 100000
open Go.RowKit

theorem rowV_set1 {α : Type} {f : α → List Value} {k : Nat} (hf : ∀ x, (f x).length = k) (L : List α) (j r : Nat) (hj : j < L.length) (hr : r < k) (y : α) (u : Value) (hd : f y = (f L[j]).set r u) : (rowV f L).set (j * k + r) u = rowV f (L.set j y) := by
  have h1 := rowV_set hf (by omega) L j hj y
  rw [← h1]
  apply List.ext_getElem?
  intro i
  have hlen : j * k + k ≤ (rowV f L).length := by rw [rowV_length f k hf, ← Nat.succ_mul]; exact Nat.mul_le_mul_right k hj
  rw [setL_get _ _ _ _ (by rw [hf]; exact hlen), hf, hd]
  by_cases h : j * k ≤ i ∧ i < j * k + k
  · rw [if_pos h]
    have hg := rowV_get f k hf L j hj (i - j * k) (by omega)
    rw [show j * k + (i - j * k) = i by omega] at hg
    by_cases e : i = j * k + r
    · subst e
      rw [List.getElem?_set_self (by omega), show j * k + r - j * k = r by omega, List.getElem?_set_self (by rw [hf]; exact hr)]
    · rw [List.getElem?_set_ne (by omega), List.getElem?_set_ne (by omega), hg]
  · rw [if_neg h, List.getElem?_set_ne (by omega)]
theorem mix_step (x y : Sx) (b : Nat) (hb : b < 64) : (mixS x y (b + 1)).vals = (mixS x y b).vals.set b (.int .u8 ((y.l[b]'(by rw [y.len]; exact hb) : Nat) : Int)) := by
  have hy := y.len
  have hx := x.len
  have key : y.l.take (b + 1) ++ x.l.drop (b + 1) = (y.l.take b ++ x.l.drop b).set b (y.l[b]'(by omega)) := by
    apply List.ext_getElem?
    intro i
    by_cases e : i = b
    · subst e
      rw [List.getElem?_set_self (by rw [List.length_append, List.length_take, List.length_drop]; omega), List.getElem?_append_left (by rw [List.length_take]; omega), List.getElem?_take_of_lt (by omega), List.getElem?_eq_getElem (by omega)]
    · rw [List.getElem?_set_ne (by omega)]
      by_cases h : i < b
      · rw [List.getElem?_append_left (by rw [List.length_take]; omega), List.getElem?_append_left (by rw [List.length_take]; omega), List.getElem?_take_of_lt (by omega), List.getElem?_take_of_lt h]
      · rw [List.getElem?_append_right (by rw [List.length_take]; omega), List.getElem?_append_right (by rw [List.length_take]; omega), List.getElem?_drop, List.getElem?_drop, List.length_take, List.length_take]
        congr 1
        omega
  show valsB (y.l.take (b + 1) ++ x.l.drop (b + 1)) = (valsB (y.l.take b ++ x.l.drop b)).set b _
  rw [key]
  unfold valsB
  rw [List.map_set]
theorem mix_zero (x y : Sx) : mixS x y 0 = x := Sx.same (by simp [mixS])
theorem kept_first {l : List Kp} {d n : Int} {k : Nat} (hk : k < l.length) (hno : ∀ q (h : q < l.length), q < k → isK d n l[q] = false) (hy : isK d n l[k] = true) : keptM l d n = tornM l[k] := by
  have : l.find? (isK d n) = some l[k] := by
    rw [List.find?_eq_some_iff_getElem]
    exact ⟨hy, k, hk, rfl, fun j hj => by rw [hno j (by omega) hj]; rfl⟩
  unfold keptM
  rw [this]
theorem kept_none {l : List Kp} {d n : Int} (hno : ∀ q (h : q < l.length), isK d n l[q] = false) : keptM l d n = 0 := by
  have : l.find? (isK d n) = none := by
    rw [List.find?_eq_none]
    intro x hx
    obtain ⟨i, hi, rfl⟩ := List.getElem_of_mem hx
    rw [hno i hi]; decide
  unfold keptM
  rw [this]
theorem tornM_le (k : Kp) : 1 ≤ tornM k ∧ tornM k ≤ 64 := by
  unfold tornM
  split <;> omega
theorem Kps.grown {w w' : World} {A : Option Addr} {l : List Kp} (h : Kps w A l) (hb : Below w.heap.size w w') : Kps w' A l := RowAt.below h hb
/-- What the round of a device is in: the boxes. -/
structure CBox (w wr : World) (z : Nat) (s0 s1 : Array Value) (v st lf : Value) : Prop where
  bz : wr.heap[z]? = some (.cells s0 33 (0, 0))
  b1 : wr.heap[z + 1]? = some (.cells s1 33 (0, 0))
  b2 : wr.heap[z + 2]? = some (.cells #[v, st, lf, .bool false, .bool false] 33 (0, 0))
  bel : Below z w wr
theorem CBox.lt {w wr : World} {z : Nat} {s0 s1 : Array Value} {v st lf : Value} (h : CBox w wr z s0 s1 v st lf) : z + 2 < wr.heap.size := (Array.getElem?_eq_some_iff.1 h.b2).1
theorem CBox.keep {w wr wq : World} {z r : Nat} {s0 s1 : Array Value} {v st lf : Value} (h : CBox w wr z s0 s1 v st lf) (hg : wr.grownBy wq (some r)) (hr : z + 2 < r) : CBox w wq z s0 s1 v st lf := by
  have hl := h.lt
  have key : ∀ k, k < z + 3 → wq.heap[k]? = wr.heap[k]? := fun k hk => hg.block k (by omega) (by intro e; injection e; omega)
  exact ⟨(key _ (by omega)).trans h.bz, (key _ (by omega)).trans h.b1, (key _ (by omega)).trans h.b2, h.bel.trans ⟨hg.os, hg.tape, hg.output, hg.size, fun k hk => key k (by omega)⟩⟩
theorem CBox.below {w wr wq : World} {z : Nat} {s0 s1 : Array Value} {v st lf : Value} (h : CBox w wr z s0 s1 v st lf) (hb : Below wr.heap.size wr wq) : CBox w wq z s0 s1 v st lf := by
  have hl := h.lt
  exact ⟨(hb.block _ (by omega)).trans h.bz, (hb.block _ (by omega)).trans h.b1, (hb.block _ (by omega)).trans h.b2, h.bel.trans (hb.mono (by omega))⟩
/-- The devices that have crashed. -/
structure CDev (wr : World) (z q : Nat) (v : Value) (ds : List Dk) (X : Nat → Prop) (L : List RDx) : Prop where
  own : wr.ownsRow z 85 2 v q (rowV RDx.vals L)
  dks : L.map RDx.d = ds
  len : L.length = q
  ok : ∀ r ∈ L, RDok wr X r
  xb : ∀ k, X k → z ≤ k ∧ k < wr.heap.size
  ap : ∀ k, X k → v.ownBlock ≠ some k
theorem CDev.keep {wr wq : World} {z q : Nat} {v : Value} {ds : List Dk} {X : Nat → Prop} {L : List RDx} (h : CDev wr z q v ds X L) {r : Nat} (hg : wr.grownBy wq (some r)) (hr : wr.heap.size ≤ r) : CDev wq z q v ds X L := by
  have key : ∀ k, k < wr.heap.size → wq.heap[k]? = wr.heap[k]? := fun k hk => hg.block k hk (by intro e; injection e; omega)
  exact ⟨own_same h.own fun k e => key k (h.own.lt k e).2, h.dks, h.len, fun r hr => (h.ok r hr).keep fun k e => key k (h.xb k e).2, fun k e => ⟨(h.xb k e).1, Nat.lt_of_lt_of_le (h.xb k e).2 hg.size⟩, h.ap⟩
theorem CDev.same {wr wq : World} {z q : Nat} {v : Value} {ds : List Dk} {X : Nat → Prop} {L : List RDx} (h : CDev wr z q v ds X L) (hs : wr.heap.size ≤ wq.heap.size) (key : ∀ k, k < wr.heap.size → z ≤ k → wq.heap[k]? = wr.heap[k]?) : CDev wq z q v ds X L :=
  ⟨own_same h.own fun k e => key k (h.own.lt k e).2 (h.own.lt k e).1, h.dks, h.len, fun r hr => (h.ok r hr).keep fun k e => key k (h.xb k e).2 (h.xb k e).1, fun k e => ⟨(h.xb k e).1, Nat.lt_of_lt_of_le (h.xb k e).2 hs⟩, h.ap⟩
theorem CDev.below {wr wq : World} {z q : Nat} {v : Value} {ds : List Dk} {X : Nat → Prop} {L : List RDx} (h : CDev wr z q v ds X L) (hb : Below wr.heap.size wr wq) : CDev wq z q v ds X L :=
  ⟨own_same h.own fun k e => hb.block k (h.own.lt k e).2, h.dks, h.len, fun r hr => (h.ok r hr).keep fun k e => hb.block k (h.xb k e).2, fun k e => ⟨(h.xb k e).1, Nat.lt_of_lt_of_le (h.xb k e).2 hb.size⟩, h.ap⟩
theorem store_newWr (w1 : World) (y : Wx) : (storeCells ⟨w1.heap.size, 0, none⟩ y.arr.toList).run Try.prog (w1.alloc (.cells #[.int .i64 0, .int .u8 0, .int .u8 0, .int .u8 0, .int .u8 0, .int .u8 0, .int .u8 0, .int .u8 0, .int .u8 0, .int .u8 0, .int .u8 0, .int .u8 0, .int .u8 0, .int .u8 0, .int .u8 0, .int .u8 0, .int .u8 0, .int .u8 0, .int .u8 0, .int .u8 0, .int .u8 0, .int .u8 0, .int .u8 0, .int .u8 0, .int .u8 0, .int .u8 0, .int .u8 0, .int .u8 0, .int .u8 0, .int .u8 0, .int .u8 0, .int .u8 0, .int .u8 0, .int .u8 0, .int .u8 0, .int .u8 0, .int .u8 0, .int .u8 0, .int .u8 0, .int .u8 0, .int .u8 0, .int .u8 0, .int .u8 0, .int .u8 0, .int .u8 0, .int .u8 0, .int .u8 0, .int .u8 0, .int .u8 0, .int .u8 0, .int .u8 0, .int .u8 0, .int .u8 0, .int .u8 0, .int .u8 0, .int .u8 0, .int .u8 0, .int .u8 0, .int .u8 0, .int .u8 0, .int .u8 0, .int .u8 0, .int .u8 0, .int .u8 0, .int .u8 0] 110)) = .ok () (w1.alloc (.cells y.arr 110)) := by
  rw [zero_wx]
  exact run_storeCells_new w1 110 _ _ (by rw [y.size]; exact info110) (by rw [y.size, Wx.size]) y.all_one
theorem storeVar_wr (w1 : World) (y : Wx) : (storeVar 110 ⟨w1.heap.size, 0, none⟩ y.val).run Try.prog (w1.alloc (.cells (⟨0, Sx.zero⟩ : Wx).arr 110)) = .ok () (w1.alloc (.cells y.arr 110)) := by
  have h2 := store_newWr w1 y
  rw [zero_wx] at h2
  cases hq : Try.prog.info? 110 with
  | none => have := info110; rw [hq] at this; cases this
  | some i =>
    have hs : i.size = 65 := by have := info110; rw [hq] at this; simpa using this
    unfold Wx.val
    simp [storeVar, sizeOf, typeInfo, hq, Value.cells, hs, y.size]
    exact h2
theorem zero110 (w : World) : (zeroValue 110).run Try.prog w = .ok (.agg (⟨0, Sx.zero⟩ : Wx).arr) w := by
  rw [← zero_wx]
  kernel_rfl
theorem crashW_none (kf : Nat → Nat) (f : Int → Sx) (l : List Wx) (q : Nat) (h : kf q = 0) : crashW kf f l (q + 1) = crashW kf f l q := by
  show (if kf q = 0 then _ else _) = _
  rw [if_pos h]
theorem crashW_some (kf : Nat → Nat) (f : Int → Sx) (l : List Wx) (q m : Nat) (h : kf q = m) (hm : 0 < m) (y : Wx) (hy : l.getD q ⟨0, Sx.zero⟩ = y) : crashW kf f l (q + 1) = upd (crashW kf f l q) y.i (mixS (crashW kf f l q y.i) y.x m) := by
  show (if kf q = 0 then _ else _) = _
  rw [if_neg (by omega), hy, h]
set_option maxHeartbeats 16000000 in
theorem refcrash_any {w : World} {X : Nat → Prop} {A : Option Addr} {c : Nat} {ds : List Dk} (h : RSet w X A c ds) (p : Pw) (left : Int) (Ak : Option Addr) (ck : Nat) (l : List Kp) (hk : Kps w Ak l) (hll : l.length ≤ 1000000) (hl : ds.length ≤ 1000)
    (hwn : ∀ d ∈ ds, d.waits.length ≤ 1000000 ∧ 1 ≤ d.size ∧ d.size ≤ 4096 ∧ ∀ y ∈ d.waits, 0 ≤ y.i ∧ y.i < (d.size : Int)) :
    Calls Try.prog 32 #[rsV A c ds p left, .slice Ak l.length ck] w fun e w' => ∃ X' A' c', e = .returned (rsV A' c' (crashM l ds) ⟨p.steps, 0, false, false⟩ left) ∧ RSet w' X' A' c' (crashM l ds) ∧ (∀ k, X' k → w.heap.size ≤ k) ∧ Below w.heap.size w w' := by
  obtain ⟨k1, k2, k3, ks, hb3⟩ := three_blocks w (.cells #[.slice A ds.length c, .int .i64 (p.steps : Int), .int .i64 left, .bool p.ia, .bool p.gone] 33) (.cells #[.slice none 0 0, .int .i64 0, .int .i64 0, .bool false, .bool false] 33) (.cells #[.slice none 0 0, .int .i64 (p.steps : Int), .int .i64 left, .bool false, .bool false] 33)
  obtain ⟨N, hN⟩ : ∃ N, N = ds.length := ⟨_, rfl⟩
  obtain ⟨m, hm⟩ : ∃ m, m = l.length := ⟨_, rfl⟩
  obtain ⟨z, hz⟩ : ∃ z, z = w.heap.size := ⟨_, rfl⟩
  have HN := Lib.hid hN
  have HMM := Lib.hid hm
  have HZ := Lib.hid hz
  have H0 := Lib.hid h
  have HK := Lib.hid hk
  have HWN := Lib.hid hwn
  have HCB := Lib.hid (And.intro (CBox.mk (z := w.heap.size) (w := w) k1 k2 k3 hb3) ks)
  have hlc : (crashM l ds).length = N := by simp [crashM, hN]
  have HLC := Lib.hid hlc
  unfold rsV
  rw [hlc]
  rw [← hN, ← hz] at HCB
  rw [← hN, ← hm]
  rw [← hN] at hl
  rw [← hm] at hll
  clear k1 k2 k3 ks hb3 h hk hwn hN hm hlc
  rw [← hz]
  clear hz
  go_enter Try.func32, Try.ntmps32
  go_upto_region 2 with fail
  rw [← HZ.out]
  revert HCB
  generalize World.alloc _ _ = wb
  intro HCB
  go_wp2_with fail
  go_loopw [6] (fun i wr => ∃ (q : Nat) (v : Value) (X' : Nat → Prop) (L : List RDx), i = .int .i64 (q : Int) ∧ q ≤ N ∧ CBox w wr z #[.slice A N c, .int .i64 (p.steps : Int), .int .i64 left, .bool p.ia, .bool p.gone] #[.slice none 0 0, .int .i64 0, .int .i64 0, .bool false, .bool false] v (.int .i64 (p.steps : Int)) (.int .i64 left) ∧ CDev wr (z + 3) q v ((crashM l ds).take q) X' L) (fun i _ => N - (intOf i).toNat)
  case atStart => exact ⟨0, .slice none 0 0, fun _ => False, [], rfl, by omega, HCB.out.1, ⟨World.ownsRow_nil _ _ _ _, by simp, rfl, (fun r hr => by cases hr), (fun k e => e.elim), fun k e => e.elim⟩⟩
  case round =>
    obtain ⟨j, v, X', L, rfl, hq, hcb, hcd⟩ := hrel
    have hzl := hcb.lt
    have q0 := (cell_of_row _ _ 0 _ _ (0, 0) hcb.bz).trans rfl
    have HCB1 := Lib.hid hcb
    have HCD1 := Lib.hid hcd
    clear hcb hcd HCB
    by_cases hlt : j < N
    · have hj : j < ds.length := by have := HN.out; omega
      have hr1 := H0.out.below (by rw [← HZ.out]; exact HCB1.out.bel)
      obtain ⟨b, off, rfl, hc⟩ := hr1.cells (by omega)
      obtain ⟨A1, c1, A2, c2, m1, m2, hok⟩ := hc j hj
      have hwj := HWN.out _ (List.getElem_mem hj)
      have HCJ := Lib.hid (show crashDk l j ds[j] = (crashM l ds)[j]'(by rw [HLC.out]; exact hlt) from (crashM_get l ds j hj).symm)
      obtain ⟨dj, hdj⟩ : ∃ y, y = ds[j] := ⟨_, rfl⟩
      rw [← hdj] at m1 m2 hok hwj HCJ
      obtain ⟨sz, hsz⟩ : ∃ y, y = dj.size := ⟨_, rfl⟩
      obtain ⟨nw, hnw⟩ : ∃ y, y = dj.waits.length := ⟨_, rfl⟩
      have HWJ := Lib.hid hwj
      have hszb : sz ≤ 4096 := by rw [hsz]; exact hwj.2.2.1
      have hnwb : nw ≤ 1000000 := by rw [hnw]; exact hwj.1
      rw [← hsz] at m1
      rw [← hnw] at m2
      have HSZ := Lib.hid hsz
      have HNW := Lib.hid hnw
      obtain ⟨wA, hwA⟩ : ∃ wA : World, wA = wr := ⟨_, rfl⟩
      have hba : Below wr.heap.size wr (wr.alloc (.cells #[.slice A1 sz c1, .slice A2 nw c2] 85)) := (Below.refl _ _).alloc (Nat.le_refl _) _
      have HM := Lib.hid (And.intro (HCB1.out.below hba) (And.intro (HCD1.out.below hba) (And.intro (hok.keep (w' := wr.alloc (.cells #[.slice A1 sz c1, .slice A2 nw c2] 85)) fun q e => hba.block q (hr1.lt q e)) (And.intro (heap_alloc_new wr (.cells #[.slice A1 sz c1, .slice A2 nw c2] 85)) (show (wr.alloc (.cells #[.slice A1 sz c1, .slice A2 nw c2] 85)).heap.size = wr.heap.size + 1 by simp)))))
      have HXL := Lib.hid H0.out.lt
      clear hba hok hc hdj hsz hnw hr1 hwj hwA HCB1 HCD1
      go_upto_region 6 with fail
      clear m1 m2 q0
      obtain ⟨t, ht⟩ : ∃ y, y = wr.heap.size := ⟨_, rfl⟩
      rw [← ht] at HM hzl ⊢
      clear ht
      revert HM
      generalize World.alloc wr _ = wz
      intro HM
      obtain ⟨_, _, hok, t0, hs⟩ := HM.out
      have d0 := (cell_of_row _ _ 0 _ _ (0, 0) t0).trans rfl
      have HROW := Lib.hid (show Rdv wz A1 sz 64 (rowV Sx.vals (secs dj)) from by have := hok.sec.row; rw [HSZ.out]; exact this)
      have HNI1 := Lib.hid (show A1 = none → c1 = 0 from hok.n1)
      have htl : t < wz.heap.size := by omega
      clear hok t0 hs
      go_upto_region 7 with (refine wpList_append_copy elemRS rfl (.tmp 31) (.tmp 33) rfl rfl A1 sz c1 (rowV Sx.vals (secs dj)) rfl HROW.out (rowSx_one _) HNI1.out (by unfold maxLen; omega) (by omega) ?_; intro b1 c3 w5 hown hb1 hbl; have HOWN := Lib.hid hown; have HBL := Lib.hid hbl; clear hown hbl)
      clear d0
      go_wp2_with fail
      have HKY5 := Lib.hid (show ∀ wr : World, w5.grownBy wr (some b1) → ∀ k, k < wz.heap.size → wr.heap[k]? = wz.heap[k]? from fun wr hg k hk => (hg.block k (Nat.lt_of_lt_of_le hk HBL.out.size) (by intro e; injection e; omega)).trans (HBL.out.block k hk))
      go_loopw [9] (fun i wr => ∃ q : Nat, i = .int .i64 (q : Int) ∧ q ≤ nw ∧ wr.ownsRow wz.heap.size 50 64 (.slice (some ⟨b1, 0, none⟩) sz c3) sz (rowV Sx.vals (secsF (crashW (kfOf l j) dj.sure dj.waits q) sz)) ∧ w5.grownBy wr (some b1)) (fun i _ => nw - (intOf i).toNat)
      case atStart =>
        refine ⟨0, rfl, by omega, ?_, grown_refl _ _⟩
        have e : secsF (crashW (kfOf l j) dj.sure dj.waits 0) sz = secs dj := by rw [HSZ.out]; rfl
        rw [e]
        exact HOWN.out
      case round =>
        obtain ⟨q, rfl, hq2, ho, hg⟩ := hrel
        have t0 := (HKY5.out wr hg t htl).trans HM.out.2.2.2.1
        have d1 := (cell_of_row _ _ 1 _ _ (0, 0) t0).trans rfl
        obtain ⟨S, hS⟩ : ∃ S, S = secsF (crashW (kfOf l j) dj.sure dj.waits q) sz := ⟨_, rfl⟩
        rw [← hS] at ho
        have HS := Lib.hid hS
        have HSL := Lib.hid (show S.length = sz by rw [hS, secsF_length])
        have HO := Lib.hid ho
        have HG := Lib.hid hg
        clear t0 ho hg hS
        by_cases hlt2 : q < nw
        · go_wp2_with fail
          have HJ1 := Lib.hid hj
          go_loopw [10] (fun i wr => ∃ k : Nat, i = .int .i64 (k : Int) ∧ k ≤ m ∧ Hid (∀ r (h : r < l.length), r < k → isK (j : Int) (q : Int) l[r] = false) ∧ wr.ownsRow wz.heap.size 50 64 (.slice (some ⟨b1, 0, none⟩) sz c3) sz (rowV Sx.vals S) ∧ w5.grownBy wr (some b1)) (fun i _ => m - (intOf i).toNat)
          case atStart => exact ⟨0, rfl, by omega, Lib.hid (fun r _ h => absurd h (Nat.not_lt_zero _)), HO.out, HG.out⟩
          case round =>
            obtain ⟨k, rfl, hk3, hno, ho, hg⟩ := hrel
            have HNO := Lib.hid hno.out
            have HO3 := Lib.hid ho
            have HG3 := Lib.hid hg
            have hbl3 : Below z w wr := (HM.out.1.bel.trans (HBL.out.mono (by omega))).trans ⟨hg.os, hg.tape, hg.output, hg.size, fun r hr => hg.block r (by have := HBL.out.size; omega) (by intro e; injection e; omega)⟩
            have HB3 := Lib.hid hbl3
            clear ho hg hno hbl3
            by_cases hlt3 : k < m
            · have hkl : k < l.length := by have := HMM.out; omega
              have hkk := RowAt.below HK.out (by rw [← HZ.out]; exact HB3.out)
              obtain ⟨bk, ok, rfl, hck⟩ := Kps.cell hkk (by omega)
              obtain ⟨e0, e1, e2⟩ := hck k hkl
              obtain ⟨kp, hkp⟩ : ∃ y, y = l[k] := ⟨_, rfl⟩
              rw [← hkp] at e0 e1 e2
              have HKP := Lib.hid hkp
              obtain ⟨kd, kn, kt⟩ := kp
              simp only [] at e0 e1 e2
              clear hck hkk hkp
              by_cases hdv : kd = (j : Int)
              · by_cases hn : kn = (q : Int)
                · have g0 : (kd != (j : Int)) = false := by rw [hdv]; simp
                  have g1 : (kn != (q : Int)) = false := by rw [hn]; simp
                  have HIK := Lib.hid (show isK (j : Int) (q : Int) l[k] = true by rw [← HKP.out]; unfold isK; simp [hdv, hn])
                  have HTM := Lib.hid (kept_first hkl (fun r hr hrk => HNO.out r hr hrk) HIK.out)
                  rw [← HKP.out] at HTM
                  clear hdv hn HIK
                  have hql : q < dj.waits.length := by have := HNW.out; omega
                  obtain ⟨y, hy⟩ : ∃ y, y = dj.waits[q] := ⟨_, rfl⟩
                  have HY := Lib.hid (show dj.waits.getD q ⟨0, Sx.zero⟩ = y by rw [List.getD_eq_getElem?_getD, List.getElem?_eq_getElem hql, hy]; rfl)
                  have hyi := HWJ.out.2.2.2 y (by rw [hy]; exact List.getElem_mem hql)
                  obtain ⟨ky, hky⟩ : ∃ ky : Nat, y.i = (ky : Int) := ⟨y.i.toNat, by omega⟩
                  have hks : ky < sz := by have := HSZ.out; omega
                  have HKY := Lib.hid hky
                  have hwts : RowAt Wx.vals 65 wr A2 dj.waits.length dj.waits := RowAt.keep (X := fun r => r < wz.heap.size) HM.out.2.2.1.wts (fun a e => by have := HXL.out _ (HM.out.2.2.1.x2 a e); have := HZ.out; omega) (fun r hr => HKY5.out wr HG3.out r hr)
                  obtain ⟨bw, ow, rfl, hcw⟩ := hwts.row.2 (by omega)
                  have hld := at_row Wx.vlen hcw q hql
                  rw [← hy] at hld
                  have HLD := Lib.hid (load_wr hld)
                  have HST := Lib.hid (storeVar_wr wr y)
                  have hzr := zero110 wr
                  have d3 := (cell_of_row _ _ 1 _ _ (0, 0) ((HKY5.out wr HG3.out t htl).trans HM.out.2.2.2.1)).trans rfl
                  clear hy hyi hky hwts hcw hld
                  have hbk := World.block_lt_of_cell? _ _ e0
                  by_cases ht0 : 0 < kt
                  · have g2 : decide (0 < kt) = true := decide_eq_true ht0
                    by_cases ht1 : kt < 64
                    · obtain ⟨mo, rfl⟩ : ∃ mo : Nat, kt = (mo : Int) := ⟨kt.toNat, by omega⟩
                      have HMO := Lib.hid (show kfOf l j q = mo by
                        unfold kfOf
                        rw [HTM.out]
                        unfold tornM
                        rw [if_pos ⟨ht0, ht1⟩]
                        exact Int.toNat_natCast mo)
                      have g3 : decide ((mo : Int) < 64) = true := decide_eq_true ht1
                      have g2' : decide (0 < mo) = true := decide_eq_true (by omega)
                      have hm1 : 0 < mo := by omega
                      have hm2 : mo < 64 := by omega
                      clear ht0 ht1
                      go_wp2_with (first | (refine wpList_load_val rfl (.tmp 67) rfl rfl y.val HLD.out ?_) | (refine wpList_store_val rfl (.tmp 11) (.tmp 68) rfl rfl y.val rfl HST.out ?_))
                      have hba : Below wr.heap.size wr (wr.alloc (.cells y.arr 110)) := (Below.refl _ _).alloc (Nat.le_refl _) _
                      have HW6 := Lib.hid (And.intro (show At (wr.alloc (.cells y.arr 110)) wr.heap.size 0 y.vals from by
                        have := At.of_block (w := wr.alloc (.cells y.arr 110)) (heap_alloc_new wr _)
                        rwa [show y.arr.toList = y.vals by simp [Wx.arr]] at this) (And.intro (own_same (w' := wr.alloc (.cells y.arr 110)) HO3.out fun r e => hba.block r (HO3.out.lt r e).2) (And.intro (grown_trans HG3.out (grown_below hba _)) (show wr.heap.size < (wr.alloc (.cells y.arr 110)).heap.size ∧ b1 < wr.heap.size by simp; exact (own_lt HO3.out).2.1))))
                      obtain ⟨u, hu⟩ : ∃ u, u = wr.heap.size := ⟨_, rfl⟩
                      rw [← hu] at HW6 ⊢
                      clear hba hu e0 e1 e2 g0 g1 hzr hbk d3 HO3 HG3 HB3
                      revert HW6
                      generalize World.alloc wr _ = w6
                      intro HW6
                      have hkyS : ky < S.length := by rw [HSL.out]; exact hks
                      obtain ⟨x0, hx0⟩ : ∃ x, x = S[ky] := ⟨_, rfl⟩
                      have HX0 := Lib.hid hx0
                      clear hx0
                      go_loopw [13] (fun i wr => ∃ bb : Nat, i = .int .i64 (bb : Int) ∧ bb ≤ mo ∧ wr.ownsRow wz.heap.size 50 64 (.slice (some ⟨b1, 0, none⟩) sz c3) sz (rowV Sx.vals (S.set ky (mixS x0 y.x bb))) ∧ w6.grownBy wr (some b1)) (fun i _ => mo - (intOf i).toNat)
                      case atStart =>
                        refine ⟨0, rfl, by omega, ?_, grown_refl _ _⟩
                        rw [mix_zero, HX0.out, List.set_getElem_self]
                        exact HW6.out.2.1
                      case round =>
                        obtain ⟨bb, rfl, hbb, ho, hg⟩ := hrel
                        have HO7 := Lib.hid ho
                        have HG7 := Lib.hid hg
                        clear ho hg
                        by_cases hlt4 : bb < mo
                        · have hb64 : bb < 64 := by omega
                          have hbl : bb < y.x.l.length := by rw [y.x.len]; exact hb64
                          obtain ⟨by8, hby⟩ : ∃ n, n = y.x.l[bb] := ⟨_, rfl⟩
                          have HBY := Lib.hid hby
                          have HA := Lib.hid (show ∀ W2, Below wr.drew.heap.size wr.drew W2 → W2.cell? ⟨u, 0, none⟩ = some (.int .i64 (ky : Int)) ∧ W2.cell? ⟨u, 1 + bb, none⟩ = some (.int .u8 (by8 : Int)) from fun W2 hw => by
                            have hb2 : Below wr.heap.size wr W2 := (Below.refl _ wr).drew.trans hw
                            have hub : W2.heap[u]? = w6.heap[u]? := (hb2.block u (Nat.lt_of_lt_of_le HW6.out.2.2.2.1 HG7.out.size)).trans (HG7.out.block u HW6.out.2.2.2.1 (by have := HW6.out.2.2.2.2; intro e; injection e; omega))
                            have hat := HW6.out.1.keep hub
                            refine ⟨?_, ?_⟩
                            · have := hat 0 _ (show y.vals[0]? = some (.int .i64 y.i) from rfl)
                              rw [HKY.out] at this
                              exact this
                            · have h1 : y.vals[bb + 1]? = some (.int .u8 (by8 : Int)) := by
                                show (valsB y.x.l)[bb]? = _
                                rw [valsB_get, List.getElem?_eq_getElem hbl, HBY.out]
                                rfl
                              have := hat (bb + 1) _ h1
                              rwa [show 0 + (bb + 1) = 1 + bb by omega] at this)
                          have hks2 : (ky : Int) < (sz : Int) := by omega
                          have hb64i : (bb : Int) < 64 := by omega
                          have hd4 : decide ((bb : Int) < (mo : Int)) = true := decide_eq_true (by omega)
                          have hd5 : decide (bb < mo) = true := decide_eq_true hlt4
                          clear hby
                          go_upto_region 21 with fail
                          refine wp_region_noPanic ?_
                          refine wp_region_abs 10 111 [
                            .is (.slice (some ⟨b1, 0, none⟩) sz c3),
                            .is (.pointer (some ⟨u, 0, none⟩)),
                            .is (.int .i64 (ky : Int)),
                            .is (.int .i64 (bb : Int)),
                            .is (.int .i64 (bb : Int)),
                            .is (.pointer (some ⟨u, 1, none⟩)),
                            .is (.pointer (some ⟨u, 1 + bb, none⟩)),
                            .is (.int .u8 (by8 : Int)),
                            .is (.pointer (some ⟨b1, ky * 64, none⟩)),
                            .is (.pointer (some ⟨b1, ky * 64 + bb, none⟩))]
                            [93, 94, 95, 96, 97, 98, 99, 100, 101, 102]
                            [[], [], [1], [], [], [], [5, 4], [6], [0, 2], [8, 3]] (by kernel_rfl) (by rfl) rfl rfl (by kernel_rfl) (fun _ _ _ _ h => h.elim) ?_ ?_
                          · refine ⟨?_, ?_, ?_, ?_, ?_, ?_, ?_, ?_, ?_, ?_, trivial⟩
                            · intro W2 hw K hK
                              go_simp
                              exact hK _ _ rfl (Below.refl _ _)
                            · intro W2 hw K hK
                              go_simp
                              exact hK _ _ rfl (Below.refl _ _)
                            · intro W2 hw K hK
                              obtain ⟨a0, _⟩ := HA.out W2 hw
                              go_simp
                              exact hK _ _ rfl (Below.refl _ _)
                            · intro W2 hw K hK
                              go_simp
                              exact hK _ _ rfl (Below.refl _ _)
                            · intro W2 hw K hK
                              go_simp
                              exact hK _ _ rfl (Below.refl _ _)
                            · intro W2 hw K hK
                              go_simp
                              exact hK _ _ rfl (Below.refl _ _)
                            · intro W2 hw K hK
                              go_simp
                              exact hK _ _ rfl (Below.refl _ _)
                            · intro W2 hw K hK
                              obtain ⟨_, a0⟩ := HA.out W2 hw
                              go_simp
                              exact hK _ _ rfl (Below.refl _ _)
                            · intro W2 hw K hK
                              go_simp
                              exact hK _ _ rfl (Below.refl _ _)
                            · intro W2 hw K hK
                              go_simp
                              exact hK _ _ rfl (Below.refl _ _)
                          · intro W2 hw2
                            simp only [Behind, List.drop, Act.put, List.setIfInBounds_toArray, List.set_cons_zero, List.set_cons_succ]
                            have hb2 : Below wr.heap.size wr W2 := (Below.refl _ wr).drew.trans hw2
                            have hlt1 := (own_lt HO7.out).2.1
                            have ho2 := own_same (w' := W2) HO7.out (fun r e => by
                              have e2 : r = b1 := (Option.some.inj e).symm
                              rw [e2]
                              exact hb2.block _ hlt1)
                            have hrl : (rowV Sx.vals (S.set ky (mixS x0 y.x bb))).length = sz * 64 := by rw [rowV_length Sx.vals 64 Sx.vlen, List.length_set, HSL.out]
                            obtain ⟨v0, c0⟩ : ∃ v, W2.cell? ⟨b1, ky * 64 + bb, none⟩ = some v := ⟨_, own_cell ho2 (ky * 64 + bb) _ (List.getElem?_eq_getElem (by omega))⟩
                            have f0 := own_frozen ho2 (ky * 64 + bb)
                            have hlt2' := (own_lt ho2).2.1
                            have ho3 := own_set1 ho2 (ky * 64 + bb) (.int .u8 (by8 : Int))
                            rw [rowV_set1 Sx.vlen (S.set ky (mixS x0 y.x bb)) ky bb (by rw [List.length_set]; exact hkyS) hb64 (mixS x0 y.x (bb + 1)) (.int .u8 (by8 : Int)) (by rw [List.getElem_set_self, HBY.out]; exact mix_step x0 y.x bb hb64), List.set_set] at ho3
                            have HO9 := Lib.hid ho3
                            have HG9 := Lib.hid (grown_trans (grown_trans HG7.out (grown_below hb2 _)) (grown_setCell W2 b1 (ky * 64 + bb) (.int .u8 (by8 : Int))))
                            clear hw2 hb2 ho2 ho3 hrl HA hlt1
                            go_wp2_with fail
                            refine NoPanic.normal ?_
                            clear c0 f0
                            go_wp2_with fail
                            go_roundw
                            case rel => exact ⟨bb + 1, by go_num, by omega, HO9.out, HG9.out⟩
                            case measure => simp [intOf]; omega
                        · obtain rfl : bb = mo := by omega
                          have HO8 := Lib.hid (show wr.ownsRow wz.heap.size 50 64 (.slice (some ⟨b1, 0, none⟩) sz c3) sz (rowV Sx.vals (secsF (crashW (kfOf l j) dj.sure dj.waits (q + 1)) sz)) by
                            have e : x0 = crashW (kfOf l j) dj.sure dj.waits q (ky : Int) := by
                              rw [HX0.out]
                              have := HS.out
                              subst this
                              exact secsF_get _ _ _ _
                            rw [crashW_some _ _ _ _ _ HMO.out (by omega) y HY.out, HKY.out, secsF_upd, ← HS.out, ← e]
                            exact HO7.out)
                          have HG8 := Lib.hid (grown_trans HW6.out.2.2.1 HG7.out)
                          go_wp2_with fail
                          go_roundw
                          case rel => exact ⟨q + 1, by go_num, by omega, HO8.out, HG8.out⟩
                          case measure => simp [intOf]; omega
                    · have HMO := Lib.hid (show kfOf l j q = 64 by
                        unfold kfOf
                        rw [HTM.out]
                        unfold tornM
                        rw [if_neg (fun e => ht1 e.2)]
                        rfl)
                      have g3 : decide (kt < 64) = false := decide_eq_false ht1
                      go_wp2_with (first | (refine wpList_load_val rfl (.tmp 67) rfl rfl y.val HLD.out ?_) | (refine wpList_store_val rfl (.tmp 11) (.tmp 68) rfl rfl y.val rfl HST.out ?_))
                      have hba : Below wr.heap.size wr (wr.alloc (.cells y.arr 110)) := (Below.refl _ _).alloc (Nat.le_refl _) _
                      have HW6 := Lib.hid (And.intro (show At (wr.alloc (.cells y.arr 110)) wr.heap.size 0 y.vals from by
                        have := At.of_block (w := wr.alloc (.cells y.arr 110)) (heap_alloc_new wr _)
                        rwa [show y.arr.toList = y.vals by simp [Wx.arr]] at this) (And.intro (own_same (w' := wr.alloc (.cells y.arr 110)) HO3.out fun r e => hba.block r (HO3.out.lt r e).2) (And.intro (grown_trans HG3.out (grown_below hba _)) (show wr.heap.size < (wr.alloc (.cells y.arr 110)).heap.size ∧ b1 < wr.heap.size by simp; exact (own_lt HO3.out).2.1))))
                      obtain ⟨u, hu⟩ : ∃ u, u = wr.heap.size := ⟨_, rfl⟩
                      rw [← hu] at HW6 ⊢
                      clear hba hu e0 e1 e2 g0 g1 hzr hbk d3 HO3 HG3 HB3
                      revert HW6
                      generalize World.alloc wr _ = w6
                      intro HW6
                      have hkyS : ky < S.length := by rw [HSL.out]; exact hks
                      obtain ⟨x0, hx0⟩ : ∃ x, x = S[ky] := ⟨_, rfl⟩
                      have HX0 := Lib.hid hx0
                      clear hx0
                      go_loopw [13] (fun i wr => ∃ bb : Nat, i = .int .i64 (bb : Int) ∧ bb ≤ 64 ∧ wr.ownsRow wz.heap.size 50 64 (.slice (some ⟨b1, 0, none⟩) sz c3) sz (rowV Sx.vals (S.set ky (mixS x0 y.x bb))) ∧ w6.grownBy wr (some b1)) (fun i _ => 64 - (intOf i).toNat)
                      case atStart =>
                        refine ⟨0, rfl, by omega, ?_, grown_refl _ _⟩
                        rw [mix_zero, HX0.out, List.set_getElem_self]
                        exact HW6.out.2.1
                      case round =>
                        obtain ⟨bb, rfl, hbb, ho, hg⟩ := hrel
                        have HO7 := Lib.hid ho
                        have HG7 := Lib.hid hg
                        clear ho hg
                        by_cases hlt4 : bb < 64
                        · have hb64 : bb < 64 := by omega
                          have hbl : bb < y.x.l.length := by rw [y.x.len]; exact hb64
                          obtain ⟨by8, hby⟩ : ∃ n, n = y.x.l[bb] := ⟨_, rfl⟩
                          have HBY := Lib.hid hby
                          have HA := Lib.hid (show ∀ W2, Below wr.drew.heap.size wr.drew W2 → W2.cell? ⟨u, 0, none⟩ = some (.int .i64 (ky : Int)) ∧ W2.cell? ⟨u, 1 + bb, none⟩ = some (.int .u8 (by8 : Int)) from fun W2 hw => by
                            have hb2 : Below wr.heap.size wr W2 := (Below.refl _ wr).drew.trans hw
                            have hub : W2.heap[u]? = w6.heap[u]? := (hb2.block u (Nat.lt_of_lt_of_le HW6.out.2.2.2.1 HG7.out.size)).trans (HG7.out.block u HW6.out.2.2.2.1 (by have := HW6.out.2.2.2.2; intro e; injection e; omega))
                            have hat := HW6.out.1.keep hub
                            refine ⟨?_, ?_⟩
                            · have := hat 0 _ (show y.vals[0]? = some (.int .i64 y.i) from rfl)
                              rw [HKY.out] at this
                              exact this
                            · have h1 : y.vals[bb + 1]? = some (.int .u8 (by8 : Int)) := by
                                show (valsB y.x.l)[bb]? = _
                                rw [valsB_get, List.getElem?_eq_getElem hbl, HBY.out]
                                rfl
                              have := hat (bb + 1) _ h1
                              rwa [show 0 + (bb + 1) = 1 + bb by omega] at this)
                          have hks2 : (ky : Int) < (sz : Int) := by omega
                          have hb64i : (bb : Int) < 64 := by omega
                          have hd4 : decide ((bb : Int) < 64) = true := decide_eq_true (by omega)
                          have hd5 : decide (bb < 64) = true := decide_eq_true hlt4
                          clear hby
                          go_upto_region 21 with fail
                          refine wp_region_noPanic ?_
                          refine wp_region_abs 10 111 [
                            .is (.slice (some ⟨b1, 0, none⟩) sz c3),
                            .is (.pointer (some ⟨u, 0, none⟩)),
                            .is (.int .i64 (ky : Int)),
                            .is (.int .i64 (bb : Int)),
                            .is (.int .i64 (bb : Int)),
                            .is (.pointer (some ⟨u, 1, none⟩)),
                            .is (.pointer (some ⟨u, 1 + bb, none⟩)),
                            .is (.int .u8 (by8 : Int)),
                            .is (.pointer (some ⟨b1, ky * 64, none⟩)),
                            .is (.pointer (some ⟨b1, ky * 64 + bb, none⟩))]
                            [93, 94, 95, 96, 97, 98, 99, 100, 101, 102]
                            [[], [], [1], [], [], [], [5, 4], [6], [0, 2], [8, 3]] (by kernel_rfl) (by rfl) rfl rfl (by kernel_rfl) (fun _ _ _ _ h => h.elim) ?_ ?_
                          · refine ⟨?_, ?_, ?_, ?_, ?_, ?_, ?_, ?_, ?_, ?_, trivial⟩
                            · intro W2 hw K hK
                              go_simp
                              exact hK _ _ rfl (Below.refl _ _)
                            · intro W2 hw K hK
                              go_simp
                              exact hK _ _ rfl (Below.refl _ _)
                            · intro W2 hw K hK
                              obtain ⟨a0, _⟩ := HA.out W2 hw
                              go_simp
                              exact hK _ _ rfl (Below.refl _ _)
                            · intro W2 hw K hK
                              go_simp
                              exact hK _ _ rfl (Below.refl _ _)
                            · intro W2 hw K hK
                              go_simp
                              exact hK _ _ rfl (Below.refl _ _)
                            · intro W2 hw K hK
                              go_simp
                              exact hK _ _ rfl (Below.refl _ _)
                            · intro W2 hw K hK
                              go_simp
                              exact hK _ _ rfl (Below.refl _ _)
                            · intro W2 hw K hK
                              obtain ⟨_, a0⟩ := HA.out W2 hw
                              go_simp
                              exact hK _ _ rfl (Below.refl _ _)
                            · intro W2 hw K hK
                              go_simp
                              exact hK _ _ rfl (Below.refl _ _)
                            · intro W2 hw K hK
                              go_simp
                              exact hK _ _ rfl (Below.refl _ _)
                          · intro W2 hw2
                            simp only [Behind, List.drop, Act.put, List.setIfInBounds_toArray, List.set_cons_zero, List.set_cons_succ]
                            have hb2 : Below wr.heap.size wr W2 := (Below.refl _ wr).drew.trans hw2
                            have hlt1 := (own_lt HO7.out).2.1
                            have ho2 := own_same (w' := W2) HO7.out (fun r e => by
                              have e2 : r = b1 := (Option.some.inj e).symm
                              rw [e2]
                              exact hb2.block _ hlt1)
                            have hrl : (rowV Sx.vals (S.set ky (mixS x0 y.x bb))).length = sz * 64 := by rw [rowV_length Sx.vals 64 Sx.vlen, List.length_set, HSL.out]
                            obtain ⟨v0, c0⟩ : ∃ v, W2.cell? ⟨b1, ky * 64 + bb, none⟩ = some v := ⟨_, own_cell ho2 (ky * 64 + bb) _ (List.getElem?_eq_getElem (by omega))⟩
                            have f0 := own_frozen ho2 (ky * 64 + bb)
                            have hlt2' := (own_lt ho2).2.1
                            have ho3 := own_set1 ho2 (ky * 64 + bb) (.int .u8 (by8 : Int))
                            rw [rowV_set1 Sx.vlen (S.set ky (mixS x0 y.x bb)) ky bb (by rw [List.length_set]; exact hkyS) hb64 (mixS x0 y.x (bb + 1)) (.int .u8 (by8 : Int)) (by rw [List.getElem_set_self, HBY.out]; exact mix_step x0 y.x bb hb64), List.set_set] at ho3
                            have HO9 := Lib.hid ho3
                            have HG9 := Lib.hid (grown_trans (grown_trans HG7.out (grown_below hb2 _)) (grown_setCell W2 b1 (ky * 64 + bb) (.int .u8 (by8 : Int))))
                            clear hw2 hb2 ho2 ho3 hrl HA hlt1
                            go_wp2_with fail
                            refine NoPanic.normal ?_
                            clear c0 f0
                            go_wp2_with fail
                            go_roundw
                            case rel => exact ⟨bb + 1, by go_num, by omega, HO9.out, HG9.out⟩
                            case measure => simp [intOf]; omega
                        · obtain rfl : bb = 64 := by omega
                          have HO8 := Lib.hid (show wr.ownsRow wz.heap.size 50 64 (.slice (some ⟨b1, 0, none⟩) sz c3) sz (rowV Sx.vals (secsF (crashW (kfOf l j) dj.sure dj.waits (q + 1)) sz)) by
                            have e : x0 = crashW (kfOf l j) dj.sure dj.waits q (ky : Int) := by
                              rw [HX0.out]
                              have := HS.out
                              subst this
                              exact secsF_get _ _ _ _
                            rw [crashW_some _ _ _ _ _ HMO.out (by omega) y HY.out, HKY.out, secsF_upd, ← HS.out, ← e]
                            exact HO7.out)
                          have HG8 := Lib.hid (grown_trans HW6.out.2.2.1 HG7.out)
                          go_wp2_with fail
                          go_roundw
                          case rel => exact ⟨q + 1, by go_num, by omega, HO8.out, HG8.out⟩
                          case measure => simp [intOf]; omega
                  · have HMO := Lib.hid (show kfOf l j q = 64 by
                      unfold kfOf
                      rw [HTM.out]
                      unfold tornM
                      rw [if_neg (fun e => ht0 e.1)]
                      rfl)
                    have g2 : decide (0 < kt) = false := decide_eq_false ht0
                    go_wp2_with (first | (refine wpList_load_val rfl (.tmp 67) rfl rfl y.val HLD.out ?_) | (refine wpList_store_val rfl (.tmp 11) (.tmp 68) rfl rfl y.val rfl HST.out ?_))
                    have hba : Below wr.heap.size wr (wr.alloc (.cells y.arr 110)) := (Below.refl _ _).alloc (Nat.le_refl _) _
                    have HW6 := Lib.hid (And.intro (show At (wr.alloc (.cells y.arr 110)) wr.heap.size 0 y.vals from by
                      have := At.of_block (w := wr.alloc (.cells y.arr 110)) (heap_alloc_new wr _)
                      rwa [show y.arr.toList = y.vals by simp [Wx.arr]] at this) (And.intro (own_same (w' := wr.alloc (.cells y.arr 110)) HO3.out fun r e => hba.block r (HO3.out.lt r e).2) (And.intro (grown_trans HG3.out (grown_below hba _)) (show wr.heap.size < (wr.alloc (.cells y.arr 110)).heap.size ∧ b1 < wr.heap.size by simp; exact (own_lt HO3.out).2.1))))
                    obtain ⟨u, hu⟩ : ∃ u, u = wr.heap.size := ⟨_, rfl⟩
                    rw [← hu] at HW6 ⊢
                    clear hba hu e0 e1 e2 g0 g1 hzr hbk d3 HO3 HG3 HB3
                    revert HW6
                    generalize World.alloc wr _ = w6
                    intro HW6
                    have hkyS : ky < S.length := by rw [HSL.out]; exact hks
                    obtain ⟨x0, hx0⟩ : ∃ x, x = S[ky] := ⟨_, rfl⟩
                    have HX0 := Lib.hid hx0
                    clear hx0
                    go_loopw [13] (fun i wr => ∃ bb : Nat, i = .int .i64 (bb : Int) ∧ bb ≤ 64 ∧ wr.ownsRow wz.heap.size 50 64 (.slice (some ⟨b1, 0, none⟩) sz c3) sz (rowV Sx.vals (S.set ky (mixS x0 y.x bb))) ∧ w6.grownBy wr (some b1)) (fun i _ => 64 - (intOf i).toNat)
                    case atStart =>
                      refine ⟨0, rfl, by omega, ?_, grown_refl _ _⟩
                      rw [mix_zero, HX0.out, List.set_getElem_self]
                      exact HW6.out.2.1
                    case round =>
                      obtain ⟨bb, rfl, hbb, ho, hg⟩ := hrel
                      have HO7 := Lib.hid ho
                      have HG7 := Lib.hid hg
                      clear ho hg
                      by_cases hlt4 : bb < 64
                      · have hb64 : bb < 64 := by omega
                        have hbl : bb < y.x.l.length := by rw [y.x.len]; exact hb64
                        obtain ⟨by8, hby⟩ : ∃ n, n = y.x.l[bb] := ⟨_, rfl⟩
                        have HBY := Lib.hid hby
                        have HA := Lib.hid (show ∀ W2, Below wr.drew.heap.size wr.drew W2 → W2.cell? ⟨u, 0, none⟩ = some (.int .i64 (ky : Int)) ∧ W2.cell? ⟨u, 1 + bb, none⟩ = some (.int .u8 (by8 : Int)) from fun W2 hw => by
                          have hb2 : Below wr.heap.size wr W2 := (Below.refl _ wr).drew.trans hw
                          have hub : W2.heap[u]? = w6.heap[u]? := (hb2.block u (Nat.lt_of_lt_of_le HW6.out.2.2.2.1 HG7.out.size)).trans (HG7.out.block u HW6.out.2.2.2.1 (by have := HW6.out.2.2.2.2; intro e; injection e; omega))
                          have hat := HW6.out.1.keep hub
                          refine ⟨?_, ?_⟩
                          · have := hat 0 _ (show y.vals[0]? = some (.int .i64 y.i) from rfl)
                            rw [HKY.out] at this
                            exact this
                          · have h1 : y.vals[bb + 1]? = some (.int .u8 (by8 : Int)) := by
                              show (valsB y.x.l)[bb]? = _
                              rw [valsB_get, List.getElem?_eq_getElem hbl, HBY.out]
                              rfl
                            have := hat (bb + 1) _ h1
                            rwa [show 0 + (bb + 1) = 1 + bb by omega] at this)
                        have hks2 : (ky : Int) < (sz : Int) := by omega
                        have hb64i : (bb : Int) < 64 := by omega
                        have hd4 : decide ((bb : Int) < 64) = true := decide_eq_true (by omega)
                        have hd5 : decide (bb < 64) = true := decide_eq_true hlt4
                        clear hby
                        go_upto_region 21 with fail
                        refine wp_region_noPanic ?_
                        refine wp_region_abs 10 111 [
                          .is (.slice (some ⟨b1, 0, none⟩) sz c3),
                          .is (.pointer (some ⟨u, 0, none⟩)),
                          .is (.int .i64 (ky : Int)),
                          .is (.int .i64 (bb : Int)),
                          .is (.int .i64 (bb : Int)),
                          .is (.pointer (some ⟨u, 1, none⟩)),
                          .is (.pointer (some ⟨u, 1 + bb, none⟩)),
                          .is (.int .u8 (by8 : Int)),
                          .is (.pointer (some ⟨b1, ky * 64, none⟩)),
                          .is (.pointer (some ⟨b1, ky * 64 + bb, none⟩))]
                          [93, 94, 95, 96, 97, 98, 99, 100, 101, 102]
                          [[], [], [1], [], [], [], [5, 4], [6], [0, 2], [8, 3]] (by kernel_rfl) (by rfl) rfl rfl (by kernel_rfl) (fun _ _ _ _ h => h.elim) ?_ ?_
                        · refine ⟨?_, ?_, ?_, ?_, ?_, ?_, ?_, ?_, ?_, ?_, trivial⟩
                          · intro W2 hw K hK
                            go_simp
                            exact hK _ _ rfl (Below.refl _ _)
                          · intro W2 hw K hK
                            go_simp
                            exact hK _ _ rfl (Below.refl _ _)
                          · intro W2 hw K hK
                            obtain ⟨a0, _⟩ := HA.out W2 hw
                            go_simp
                            exact hK _ _ rfl (Below.refl _ _)
                          · intro W2 hw K hK
                            go_simp
                            exact hK _ _ rfl (Below.refl _ _)
                          · intro W2 hw K hK
                            go_simp
                            exact hK _ _ rfl (Below.refl _ _)
                          · intro W2 hw K hK
                            go_simp
                            exact hK _ _ rfl (Below.refl _ _)
                          · intro W2 hw K hK
                            go_simp
                            exact hK _ _ rfl (Below.refl _ _)
                          · intro W2 hw K hK
                            obtain ⟨_, a0⟩ := HA.out W2 hw
                            go_simp
                            exact hK _ _ rfl (Below.refl _ _)
                          · intro W2 hw K hK
                            go_simp
                            exact hK _ _ rfl (Below.refl _ _)
                          · intro W2 hw K hK
                            go_simp
                            exact hK _ _ rfl (Below.refl _ _)
                        · intro W2 hw2
                          simp only [Behind, List.drop, Act.put, List.setIfInBounds_toArray, List.set_cons_zero, List.set_cons_succ]
                          have hb2 : Below wr.heap.size wr W2 := (Below.refl _ wr).drew.trans hw2
                          have hlt1 := (own_lt HO7.out).2.1
                          have ho2 := own_same (w' := W2) HO7.out (fun r e => by
                            have e2 : r = b1 := (Option.some.inj e).symm
                            rw [e2]
                            exact hb2.block _ hlt1)
                          have hrl : (rowV Sx.vals (S.set ky (mixS x0 y.x bb))).length = sz * 64 := by rw [rowV_length Sx.vals 64 Sx.vlen, List.length_set, HSL.out]
                          obtain ⟨v0, c0⟩ : ∃ v, W2.cell? ⟨b1, ky * 64 + bb, none⟩ = some v := ⟨_, own_cell ho2 (ky * 64 + bb) _ (List.getElem?_eq_getElem (by omega))⟩
                          have f0 := own_frozen ho2 (ky * 64 + bb)
                          have hlt2' := (own_lt ho2).2.1
                          have ho3 := own_set1 ho2 (ky * 64 + bb) (.int .u8 (by8 : Int))
                          rw [rowV_set1 Sx.vlen (S.set ky (mixS x0 y.x bb)) ky bb (by rw [List.length_set]; exact hkyS) hb64 (mixS x0 y.x (bb + 1)) (.int .u8 (by8 : Int)) (by rw [List.getElem_set_self, HBY.out]; exact mix_step x0 y.x bb hb64), List.set_set] at ho3
                          have HO9 := Lib.hid ho3
                          have HG9 := Lib.hid (grown_trans (grown_trans HG7.out (grown_below hb2 _)) (grown_setCell W2 b1 (ky * 64 + bb) (.int .u8 (by8 : Int))))
                          clear hw2 hb2 ho2 ho3 hrl HA hlt1
                          go_wp2_with fail
                          refine NoPanic.normal ?_
                          clear c0 f0
                          go_wp2_with fail
                          go_roundw
                          case rel => exact ⟨bb + 1, by go_num, by omega, HO9.out, HG9.out⟩
                          case measure => simp [intOf]; omega
                      · obtain rfl : bb = 64 := by omega
                        have HO8 := Lib.hid (show wr.ownsRow wz.heap.size 50 64 (.slice (some ⟨b1, 0, none⟩) sz c3) sz (rowV Sx.vals (secsF (crashW (kfOf l j) dj.sure dj.waits (q + 1)) sz)) by
                          have e : x0 = crashW (kfOf l j) dj.sure dj.waits q (ky : Int) := by
                            rw [HX0.out]
                            have := HS.out
                            subst this
                            exact secsF_get _ _ _ _
                          rw [crashW_some _ _ _ _ _ HMO.out (by omega) y HY.out, HKY.out, secsF_upd, ← HS.out, ← e]
                          exact HO7.out)
                        have HG8 := Lib.hid (grown_trans HW6.out.2.2.1 HG7.out)
                        go_wp2_with fail
                        go_roundw
                        case rel => exact ⟨q + 1, by go_num, by omega, HO8.out, HG8.out⟩
                        case measure => simp [intOf]; omega
                · have g0 : (kd != (j : Int)) = false := by rw [hdv]; simp
                  have g1 : (kn != (q : Int)) = true := by simpa using hn
                  have HNX := Lib.hid (show ∀ r (h : r < l.length), r < k + 1 → isK (j : Int) (q : Int) l[r] = false from fun r h hr => by
                    by_cases e : r = k
                    · subst e
                      rw [← HKP.out]
                      unfold isK
                      simp [hn]
                    · exact HNO.out r h (by omega))
                  clear hdv hn
                  go_wp2_with fail
                  go_roundw
                  case rel => exact ⟨k + 1, by go_num, by omega, HNX, HO3.out, HG3.out⟩
                  case measure => simp [intOf]; omega
              · have g0 : (kd != (j : Int)) = true := by simpa using hdv
                have HNX := Lib.hid (show ∀ r (h : r < l.length), r < k + 1 → isK (j : Int) (q : Int) l[r] = false from fun r h hr => by
                  by_cases e : r = k
                  · subst e
                    rw [← HKP.out]
                    unfold isK
                    simp [hdv]
                  · exact HNO.out r h (by omega))
                clear hdv
                go_wp2_with fail
                go_roundw
                case rel => exact ⟨k + 1, by go_num, by omega, HNX, HO3.out, HG3.out⟩
                case measure => simp [intOf]; omega
            · obtain rfl : k = m := by omega
              have HKF := Lib.hid (show kfOf l j q = 0 by
                unfold kfOf
                rw [kept_none fun r hr => HNO.out r hr (by have := HMM.out; omega)]
                rfl)
              have HO4 := Lib.hid (show wr.ownsRow wz.heap.size 50 64 (.slice (some ⟨b1, 0, none⟩) sz c3) sz (rowV Sx.vals (secsF (crashW (kfOf l j) dj.sure dj.waits (q + 1)) sz)) by
                rw [crashW_none _ _ _ _ HKF.out, ← HS.out]; exact HO3.out)
              go_wp2_with fail
              go_roundw
              case rel => exact ⟨q + 1, by go_num, by omega, HO4.out, HG3.out⟩
              case measure => simp [intOf]; omega
        · obtain rfl : q = nw := by omega
          have hcb := (HM.out.1.below HBL.out).keep HG.out (by omega)
          have hsz5 : wz.heap.size ≤ wr.heap.size := Nat.le_trans HBL.out.size HG.out.size
          have hcd := HM.out.2.1.same hsz5 (fun k hk _ => HKY5.out wr HG.out k hk)
          have hb1l := (own_lt HO.out).2.1
          have hsec : RowAt Sx.vals 64 wr (some ⟨b1, 0, none⟩) sz (secs (crashDk l j dj)) := by
            have e : S = secs (crashDk l j dj) := by rw [HS.out, HNW.out, HSZ.out]; rfl
            have := HO.out
            rw [e] at this
            exact rowat_own this (by rw [← e]; exact HSL.out)
          obtain ⟨Av, cv, rfl, _, _, _⟩ := rdv_own hcd.own
          have q0 := (cell_of_row _ _ 0 _ _ (0, 0) hcb.b2).trans rfl
          have hz2 := hcb.lt
          have HAV := Lib.hid (fun (k : Nat) (e : (Value.slice Av j cv).ownBlock = some k) => (HM.out.2.1.own.lt k e).2)
          have hba : Below wr.heap.size wr (wr.alloc (.cells #[.slice (some ⟨b1, 0, none⟩) sz c3, .slice none 0 0] 85)) := (Below.refl _ _).alloc (Nat.le_refl _) _
          have hrd : Rdv (wr.alloc (.cells #[.slice (some ⟨b1, 0, none⟩) sz c3, .slice none 0 0] 85)) (some ⟨wr.heap.size, 0, none⟩) 1 2 [.slice (some ⟨b1, 0, none⟩) sz c3, .slice none 0 0] := ⟨rfl, fun _ => ⟨wr.heap.size, 0, rfl, fun r u hr => by
            rw [Nat.zero_add, cell_of_row _ _ r _ _ (0, 0) (heap_alloc_new wr _)]
            simpa using hr⟩⟩
          have HCA := Lib.hid (And.intro (hcb.below hba) (And.intro (hcd.below hba) (hsec.below hba)))
          have HRD := Lib.hid hrd
          have HSA := Lib.hid (show (wr.alloc (.cells #[.slice (some ⟨b1, 0, none⟩) sz c3, .slice none 0 0] 85)).heap.size = wr.heap.size + 1 by simp)
          clear hcb hcd hsec hba hrd
          go_wp2_with (refine wpList_append_rowv elemRD rfl (.tmp 104) (.tmp 107) rfl (z + 3) (.slice Av j cv) j (rowV RDx.vals L) rfl HCA.out.2.1.own (some ⟨wr.heap.size, 0, none⟩) 1 1 [.slice (some ⟨b1, 0, none⟩) sz c3, .slice none 0 0] rfl HRD.out (fun u hu => by rcases List.mem_cons.1 hu with rfl | hu; exact rfl; rw [List.mem_singleton.1 hu]; rfl) (fun h => by cases h) (by unfold maxLen; omega) (by omega) (by rw [HSA.out]; omega) ?_; intro v6 w6 hown6 hg6 hgb6; obtain ⟨q6, c6, rfl, hq6⟩ := own_some hown6 (by omega); have HO6 := Lib.hid hown6; have HG6 := Lib.hid hg6; have HGB := Lib.hid hgb6; have h62 := (hg6.block (z + 2) (by rw [HSA.out]; omega) (fun e => by have := (HCA.out.2.1.own.lt (z + 2) e.symm).1; omega)).trans HCA.out.1.b2; have y0 := (cell_of_row _ _ 0 _ _ (0, 0) h62).trans rfl; have y1 := frozen_at h62 0; have hs6 := hg6.size; have hz6 : z + 2 < w6.heap.size := (Array.getElem?_eq_some_iff.1 h62).1; clear hown6 hg6 hgb6 h62)
          have hne : ∀ k, k ≠ z + 2 → (w6.setCell ⟨z + 1 + 1, 0, none⟩ (.slice (some ⟨q6, 0, none⟩) (j + 1) c6)).heap[k]? = w6.heap[k]? := fun k hk => Below.heap_setCell _ ⟨z + 1 + 1, 0, none⟩ _ _ hk
          have hlow : ∀ k, k < z + 3 → w6.heap[k]? = (wr.alloc (.cells #[.slice (some ⟨b1, 0, none⟩) sz c3, .slice none 0 0] 85)).heap[k]? := fun k hk => HG6.out.block k (by rw [HSA.out]; omega) (fun e => by have := (HCA.out.2.1.own.lt k e.symm).1; omega)
          have hX : ∀ k, (X' k ∨ k = b1) → z + 3 ≤ k ∧ k < wr.heap.size + 1 ∧ (Value.slice Av j cv).ownBlock ≠ some k := fun k e => by
            rcases e with e | e
            · have h1 := HCA.out.2.1.xb k e
              rw [HSA.out] at h1
              exact ⟨h1.1, h1.2, HCA.out.2.1.ap k e⟩
            · subst e
              exact ⟨by omega, by omega, fun e2 => by have := HAV.out k e2; omega⟩
          have hkeep : ∀ k, (X' k ∨ k = b1) → (w6.setCell ⟨z + 1 + 1, 0, none⟩ (.slice (some ⟨q6, 0, none⟩) (j + 1) c6)).heap[k]? = (wr.alloc (.cells #[.slice (some ⟨b1, 0, none⟩) sz c3, .slice none 0 0] 85)).heap[k]? := fun k e => by
            obtain ⟨h1, h2, h3⟩ := hX k e
            exact (hne k (by omega)).trans (HG6.out.block k (by rw [HSA.out]; exact h2) (fun e2 => h3 e2.symm))
          have hdl : sz = (crashDk l j dj).size := HSZ.out
          have hjc : j < (crashM l ds).length := by rw [HLC.out]; exact hlt
          refine ⟨⟨j + 1, .slice (some ⟨q6, 0, none⟩) (j + 1) c6, fun k => X' k ∨ k = b1, L ++ [⟨some ⟨b1, 0, none⟩, c3, crashDk l j dj, none, 0⟩], by go_num, by omega, ⟨(hne z (by omega)).trans ((hlow z (by omega)).trans HCA.out.1.bz), (hne (z + 1) (by omega)).trans ((hlow (z + 1) (by omega)).trans HCA.out.1.b1), ?_, ?_⟩, ⟨?_, ?_, ?_, ?_, ?_, ?_⟩⟩, by simp [intOf]; omega⟩
          · exact box_set (b := z + 1 + 1) ((hlow (z + 2) (by omega)).trans HCA.out.1.b2) 0 (.slice (some ⟨q6, 0, none⟩) (j + 1) c6)
          · refine HCA.out.1.bel.trans ⟨HG6.out.os, HG6.out.tape, HG6.out.output, by rw [World.size_setCell]; have := HG6.out.size; rw [HSA.out] at this; omega, fun k hk => (hne k (by omega)).trans (hlow k (by omega))⟩
          · have ho := HO6.out
            have e : rowV RDx.vals L ++ [.slice (some ⟨b1, 0, none⟩) sz c3, .slice none 0 0] = rowV RDx.vals (L ++ [⟨some ⟨b1, 0, none⟩, c3, crashDk l j dj, none, 0⟩]) := by
              rw [rowV_append, hdl]
              simp [rowV, RDx.vals, crashDk]
            rw [e] at ho
            exact own_same ho fun k e2 => by
              have e3 : k = q6 := (Option.some.inj e2).symm
              rw [e3]
              exact hne q6 (by omega)
          · rw [List.map_append, HCA.out.2.1.dks, List.take_succ_eq_append_getElem hjc, ← HCJ.out]
            rfl
          · rw [List.length_append, HCA.out.2.1.len]; rfl
          · intro r hr
            rcases List.mem_append.1 hr with e | e
            · exact ((HCA.out.2.1.ok r e).wide (Y := fun k => X' k ∨ k = b1) fun k e => .inl e).keep hkeep
            · rw [List.mem_singleton.1 e]
              refine ⟨?_, ⟨rfl, by simp [rowV, crashDk], fun h => absurd h (by simp [crashDk])⟩, (fun e => by cases e), (fun _ => rfl), (fun a e => by injection e with e; subst e; exact .inr rfl), fun a e => by cases e⟩
              have := RowAt.keep (X := fun k => X' k ∨ k = b1) HCA.out.2.2 (fun a e => by injection e with e; subst e; exact .inr rfl) hkeep
              rw [hdl] at this
              exact this
          · intro k e
            obtain ⟨h1, h2, _⟩ := hX k e
            exact ⟨h1, by rw [World.size_setCell]; have := HG6.out.size; rw [HSA.out] at this; omega⟩
          · intro k e e2
            obtain ⟨_, h2, h3⟩ := hX k e
            rcases HGB.out with e4 | e4
            · exact h3 (e4 ▸ e2)
            · rw [e2] at e4
              injection e4 with e4
              rw [HSA.out] at e4
              rcases e with e | e
              · have := (HCA.out.2.1.xb k e).2; rw [HSA.out] at this; omega
              · omega
    · obtain rfl : j = N := by omega
      have hcb := HCB1.out
      have q1 := (cell_of_row _ _ 1 _ _ (0, 0) hcb.b2).trans rfl
      have q2 := (cell_of_row _ _ 2 _ _ (0, 0) hcb.b2).trans rfl
      have q3 := (cell_of_row _ _ 3 _ _ (0, 0) hcb.b2).trans rfl
      have q4 := (cell_of_row _ _ 4 _ _ (0, 0) hcb.b2).trans rfl
      have hcd := HCD1.out
      obtain ⟨Av, cv, rfl, hrv, hnil, _⟩ := rdv_own hcd.own
      have qq := (cell_of_row _ _ 0 _ _ (0, 0) hcb.b2).trans rfl
      have pp0 := (cell_of_row _ _ 0 _ _ (0, 0) hcb.b1).trans rfl
      have pp1 := (cell_of_row _ _ 1 _ _ (0, 0) hcb.b1).trans rfl
      have pp2 := (cell_of_row _ _ 2 _ _ (0, 0) hcb.b1).trans rfl
      have pp3 := (cell_of_row _ _ 3 _ _ (0, 0) hcb.b1).trans rfl
      have pp4 := (cell_of_row _ _ 4 _ _ (0, 0) hcb.b1).trans rfl
      have g0 := frozen_at hcb.b1 0
      have g1 := frozen_at hcb.b1 1
      have g2 := frozen_at hcb.b1 2
      have g3 := frozen_at hcb.b1 3
      have g4 := frozen_at hcb.b1 4
      have hz1 : z + 1 < wr.heap.size := by omega
      have HNV := Lib.hid hnil
      clear hcb hcd hrv hnil
      go_wp2_with fail
      obtain ⟨u, tk, tb⟩ := set5 wr (z + 1) 33 _ _ _ _ _ (.slice Av j cv) (.int .i64 (p.steps : Int)) (.int .i64 left) (.bool false) (.bool false) HCB1.out.b1
      have hbl := tb z w HCB1.out.bel (by omega)
      have hcd := HCD1.out.same (wq := (((((wr.setCell ⟨z + 1, 0, none⟩ (.slice Av j cv)).setCell ⟨z + 1, 1, none⟩ (.int .i64 (p.steps : Int))).setCell ⟨z + 1, 2, none⟩ (.int .i64 left)).setCell ⟨z + 1, 3, none⟩ (.bool false)).setCell ⟨z + 1, 4, none⟩ (.bool false))) (by simp only [World.size_setCell]; exact Nat.le_refl _) (fun k _ hk => tk k (by omega))
      have HT := Lib.hid (And.intro u (And.intro hbl hcd))
      clear u tk tb hbl hcd pp0 pp1 pp2 pp3 pp4 g0 g1 g2 g3 g4 q0 q1 q2 q3 q4 qq hz1
      revert HT
      generalize World.setCell (World.setCell _ _ _) _ _ = w9
      intro HT
      obtain ⟨u, hbl, hcd⟩ := HT.out
      have g0 := (cell_of_row _ _ 0 _ _ (0, 0) u).trans rfl
      have g1 := (cell_of_row _ _ 1 _ _ (0, 0) u).trans rfl
      have g2 := (cell_of_row _ _ 2 _ _ (0, 0) u).trans rfl
      have g3 := (cell_of_row _ _ 3 _ _ (0, 0) u).trans rfl
      have g4 := (cell_of_row _ _ 4 _ _ (0, 0) u).trans rfl
      have hds : (crashM l ds).take j = crashM l ds := List.take_of_length_le (by rw [HLC.out]; exact Nat.le_refl _)
      refine bodyPost_ret (v := .agg #[.slice Av j cv, .int .i64 (p.steps : Int), .int .i64 left, .bool false, .bool false]) (by simp [results, Try.results32, go_sem, g0, g1, g2, g3, g4]) rfl ⟨fun k => X' k ∨ Av.map Addr.block = some k, Av, cv, rfl, ⟨fun k e => ?_, L, ?_, ?_, HNV.out, fun a e => ?_, fun r hr => (hcd.ok r hr).wide fun q e => .inl e⟩, fun k e => ?_, hbl⟩
      · rcases e with e | e
        · exact (hcd.xb k e).2
        · rcases Av with _ | a
          · cases e
          · obtain ⟨ab, ao, asp⟩ := a
            obtain ⟨b', c', e2, _⟩ : ∃ b' c', Value.slice (some (⟨ab, ao, asp⟩ : Addr)) j cv = .slice (some ⟨b', 0, none⟩) j c' ∧ z + 3 ≤ b' := by
              rcases hcd.own.2 with ⟨h1, _⟩ | ⟨g, cap, cur, h1, h2, _⟩
              · cases h1
              · exact ⟨g, cap, h1, h2⟩
            injection e2 with e2
            injection e2 with e2
            injection e2 with e2 e3 e4
            subst e2 e3 e4
            injection e with e
            subst e
            exact (hcd.own.lt _ rfl).2
      · rw [hcd.dks, hds]
      · rw [HLC.out]
        have h1 := hcd.own
        refine ⟨hcd.len, h1.1, fun hn => ?_⟩
        obtain ⟨b', c', e2, _⟩ := own_some h1 hn
        injection e2 with e2
        subst e2
        exact ⟨b', 0, rfl, fun r u hr => by
          have := h1.cells (g := b') rfl r u hr
          rwa [addr_plus] at this⟩
      · rw [e]; exact .inr rfl
      · rcases e with e | e
        · have := (hcd.xb k e).1; omega
        · rcases Av with _ | a
          · cases e
          · rcases hcd.own.2 with ⟨h1, _⟩ | ⟨g, cap, cur, h1, h2, _⟩
            · cases h1
            · injection h1 with h1
              injection h1 with h1
              subst h1
              injection e with e
              subst e
              show z ≤ g
              omega
end Go.Proofs.Ythmebgpleegonaa
