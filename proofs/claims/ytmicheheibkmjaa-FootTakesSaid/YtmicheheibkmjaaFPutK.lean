/- Keys are written: the program's and the document's. -/
import Derived.Test.YtmicheheibkmjaaFPutM
import Derived.Test.YtmicheheibkmjaaZW2
namespace Go.Proofs.Ytmicheheibkmjaa
set_option maxRecDepth 100000
open Go.RowKit

theorem Wrote.below {w w' : World} {B g : Nat} {v v' : Value} {xs : List Nat} (h : Wrote w w' B g v v' xs) (hv : ∀ k, v.ownBlock = some k → B ≤ k) (hB : B ≤ w.heap.size) : Below B w w' := h.touch.below h.wtr.low hv hB
theorem OwnB.below {w w' : World} {B : Nat} {v : Value} {xs : List Nat} (h : OwnB w B v xs) (hb : Below w.heap.size w w') : OwnB w' B v xs := row_stays h fun k hk => hb.block k (h.lt k hk).2
theorem cntN_ten (n : Nat) (h : n < 18446744073709551616) : (cntN n).length ≤ 10 := (cntN_length n h).2
theorem u64_nat (n : Nat) (h : n ≤ 9223372036854775807) : IntKind.u64.wrap (n : Int) = ((n : Nat) : Int) := by rw [IntKind.wrap_u64]; omega
theorem u64_tab {t : Int} (h : tabP t) : IntKind.u64.wrap t = ((t.toNat : Nat) : Int) := by unfold tabP at h; rw [IntKind.wrap_u64]; omega
theorem kB_len {x : K} (h : FitK x) : (kB x).length ≤ 20 := by
  have h1 := h.1
  unfold tabP at h1
  have := cntN_ten x.t.toNat (by omega)
  have := cntN_ten (foldN x.k) (foldN_lt h.2)
  unfold kB
  rw [List.length_append]
  omega
theorem sB_len {x : Sp} (h : FitX x) : (sB x).length ≤ 30 := by
  have h1 := h.1
  unfold tabP at h1
  have := cntN_ten x.t.toNat (by omega)
  have := cntN_ten (foldN x.lo) (foldN_lt h.2.1)
  have := cntN_ten (foldN x.hi) (foldN_lt h.2.2)
  unfold sB
  rw [List.length_append, List.length_append]
  omega
theorem flat_len {α : Type} {E : α → List Nat} {c : Nat} (l : List α) (h : ∀ x ∈ l, (E x).length ≤ c) : (l.flatMap E).length ≤ c * l.length := by
  induction l with
  | nil => simp
  | cons x l ih =>
    have h1 := h x (List.mem_cons_self ..)
    have h2 := ih fun y hy => h y (List.mem_cons_of_mem _ hy)
    rw [List.flatMap_cons, List.length_append, List.length_cons, Nat.mul_succ]
    omega
theorem ksB_len {l : List K} (h : ∀ x ∈ l, FitK x) (hl : l.length < 18446744073709551616) : (ksB l).length ≤ 10 + 20 * l.length := by
  have := flat_len (E := kB) (c := 20) l fun x hx => kB_len (h x hx)
  have := cntN_ten _ hl
  unfold ksB
  rw [List.length_append]
  omega
theorem ssB_len {l : List Sp} (h : ∀ x ∈ l, FitX x) (hl : l.length < 18446744073709551616) : (ssB l).length ≤ 10 + 30 * l.length := by
  have := flat_len (E := sB) (c := 30) l fun x hx => sB_len (h x hx)
  have := cntN_ten _ hl
  unfold ssB
  rw [List.length_append]
  omega
theorem take_next {α : Type} {E : α → List Nat} (l : List α) (q : Nat) (h : q < l.length) : (l.take (q + 1)).flatMap E = (l.take q).flatMap E ++ E l[q] := by
  rw [List.take_succ_eq_append_getElem h, List.flatMap_append, List.flatMap_cons, List.flatMap_nil, List.append_nil]
theorem take_len {α : Type} {E : α → List Nat} {c : Nat} (l : List α) (q n : Nat) (hq : q ≤ n) (h : ∀ x ∈ l, (E x).length ≤ c) : ((l.take q).flatMap E).length ≤ c * n := by
  have h1 := flat_len (E := E) (c := c) (l.take q) fun x hx => h x (List.mem_of_mem_take hx)
  have h2 : (l.take q).length ≤ n := by rw [List.length_take]; omega
  exact Nat.le_trans h1 (Nat.mul_le_mul_left c h2)

set_option maxHeartbeats 2000000 in
theorem putKeys_any (g : Nat) (v : Value) (xs : List Nat) (A : Option Addr) (n c : Nat) (l : List K) (W w : World) (hb : Below W.heap.size W w) (hk : Keys W A n l) (hfit : ∀ x ∈ l, FitK x) (hw : Wtr w W.heap.size g v xs) (hn : n ≤ 100000) (hx : xs.length ≤ 1000000000) :
    Calls Try.prog 48 #[.pointer (some ⟨g, 0, none⟩), .slice A n c] w fun e w' => e = .returned (.tuple #[]) ∧ ∃ v', Wrote w w' W.heap.size g v v' (xs ++ ksB l) := by
  have HL := Lib.hid hk.len
  have HK := Lib.hid hk
  have HF := Lib.hid hfit
  have HB := Lib.hid hb
  have HW := Lib.hid hw
  have HC := Lib.hid (count_any W.heap.size g v xs n (by omega) w hw (by omega))
  have e1 := u64_nat n (by omega)
  have hcn := cntN_ten n (by omega)
  have HLL := Lib.hid (fun q (hq : q ≤ n) => take_len (E := kB) (c := 20) l q n hq fun x hx => kB_len (hfit x hx))
  clear hk hfit hb hw
  go_enter Try.func48, Try.ntmps48
  go_wp2_with fail
  refine Calls.mono HC.out ?_
  rintro e w1 ⟨rfl, v1, h1⟩
  have H1 := Lib.hid h1
  clear h1 e1
  go_wp2_with fail
  go_loopw [13] (fun i wr => ∃ (q : Nat) (v' : Value), i = .int .i64 (q : Int) ∧ q ≤ n ∧ Wrote w wr W.heap.size g v v' ((xs ++ cntN n) ++ (l.take q).flatMap kB)) (fun i _ => n - (intOf i).toNat)
  case atStart => exact ⟨0, v1, rfl, by omega, by simpa using H1.out⟩
  case round =>
    obtain ⟨q, v', rfl, hq, hwr⟩ := hrel
    have HWR := Lib.hid hwr
    have hlen := HLL.out q hq
    by_cases hlt : q < n
    · have hql : q < l.length := by rw [HL.out]; exact hlt
      have hbw : Below W.heap.size W wr := HB.out.trans (hwr.below (row_low HW.out.own) HB.out.size)
      obtain ⟨b, off, rfl, hc⟩ := Keys.cells (HK.out.below hbw) (by omega)
      obtain ⟨c0, c1⟩ := hc q hql
      have hts := take_next (E := kB) l q hql
      have hfx := HF.out l[q] (List.getElem_mem _)
      obtain ⟨x, hx⟩ : ∃ x, x = l[q] := ⟨_, rfl⟩
      rw [← hx] at c0 c1 hts hfx
      have HTS := Lib.hid hts
      have e2 := u64_tab hfx.1
      have hN4 : x.t.toNat < 4 := by have := hfx.1; unfold tabP at this; omega
      have HKB := Lib.hid (show kB x = cntN x.t.toNat ++ cntN (foldN x.k) from rfl)
      obtain ⟨N, hN⟩ : ∃ N, N = x.t.toNat := ⟨_, rfl⟩
      rw [← hN] at e2 hN4 HKB
      have hw1 := hwr.wtr.alloc (.cells #[.int .i64 x.t, .int .i64 x.k] 24)
      have hl1 : ((xs ++ cntN n) ++ (l.take q).flatMap kB).length ≤ 1000000000 + 10 + 20 * n := by rw [List.length_append, List.length_append]; omega
      have HL1 := Lib.hid hl1
      have HC1 := Lib.hid (count_any W.heap.size g v' _ N (by omega) _ hw1 (by omega))
      have hgl := Wtr.lt hwr.wtr
      have hrl : v'.ownBlock ≠ some wr.heap.size := fun he => by have := (hwr.wtr.own.lt _ he).2; omega
      have HRL := Lib.hid hrl
      have HFX := Lib.hid hfx
      clear hwr hc hts hx hw1 hN hl1 hbw hrl hfx hlen
      go_wp2_with fail
      refine Calls.mono HC1.out ?_
      rintro e w2 ⟨rfl, v2, h2⟩
      have k1 : w2.cell? ⟨wr.heap.size, 1, none⟩ = some (.int .i64 x.k) := by
        rw [h2.cell (p := ⟨wr.heap.size, 1, none⟩) (by rw [World.size_alloc]; exact Nat.lt_succ_self _) (Nat.ne_of_gt hgl) HRL.out]
        exact (cell_of_row _ _ 1 _ 24 (0, 0) (heap_alloc_new wr _)).trans rfl
      have HN1 := Lib.hid (num_any W.heap.size g v2 _ x.k HFX.out.2 w2 h2.wtr (by have := HL1.out; have := cntN_ten N (by omega); rw [List.length_append]; omega))
      have H2 := Lib.hid (HWR.out.trans (Wrote.after_alloc h2))
      clear h2 e2 c0 c1
      go_wp2_with fail
      refine Calls.mono HN1.out ?_
      rintro e w3 ⟨rfl, v3, h3⟩
      have H3 := Lib.hid (H2.out.trans h3)
      clear h3 k1
      go_wp2_with fail
      go_roundw
      case rel => exact ⟨q + 1, v3, by go_num, by omega, by rw [HTS.out, HKB.out, ← List.append_assoc, ← List.append_assoc]; exact H3.out⟩
      case measure => simp [intOf]; omega
    · obtain rfl : n = q := by omega
      have ht : l.take n = l := List.take_of_length_le (by rw [HL.out]; omega)
      rw [ht, List.append_assoc] at hwr
      have H9 := Lib.hid (show Wrote w wr W.heap.size g v v' (xs ++ ksB l) from by unfold ksB; rw [HL.out]; exact hwr)
      clear hwr ht hlen
      go_wp2_with fail
      exact bodyPost_end (v := .tuple #[]) (by simp [results, Try.results48, go_sem]) rfl ⟨rfl, v', H9.out⟩
/-- A row of bytes under way. -/
structure PBI (w W : World) (B : Nat) (v : Value) (pre : List Nat) : Prop where
  below : Below B w W
  base : B ≤ w.heap.size
  own : OwnB W B v pre
theorem PBI.later {w W W' : World} {B : Nat} {v : Value} {pre : List Nat} (h : PBI w W B v pre) (hb : Below W.heap.size W W') : PBI w W' B v pre :=
  ⟨h.below.trans (hb.mono (Nat.le_trans h.base h.below.size)), h.base, h.own.below hb⟩
theorem PBI.put {w W W' : World} {B : Nat} {v v' : Value} {pre ys : List Nat} (h : PBI w W B v pre) (ho : OwnB W' B v' ys) (hb : Below B W W') : PBI w W' B v' ys := ⟨h.below.trans hb, h.base, ho⟩
theorem PBI.low {w W : World} {B : Nat} {v : Value} {pre : List Nat} (h : PBI w W B v pre) : B ≤ W.heap.size := Nat.le_trans h.base h.below.size
set_option maxHeartbeats 2000000 in
theorem refKeys_any (A : Option Addr) (n c : Nat) (l : List K) (w : World) (hk : Keys w A n l) (hfit : ∀ x ∈ l, FitK x) (hn : n ≤ 100000) :
    Calls Try.prog 58 #[.slice A n c] w fun e w' => ∃ v, e = .returned v ∧ OwnB w' w.heap.size v (ksB l) ∧ Below w.heap.size w w' := by
  have HL := Lib.hid hk.len
  have HK := Lib.hid hk
  have HF := Lib.hid hfit
  have HC := Lib.hid (refCount_any n (by omega) w)
  have e1 := u64_nat n (by omega)
  have hcn := cntN_ten n (by omega)
  have HLL := Lib.hid (fun q (hq : q ≤ n) => take_len (E := kB) (c := 20) l q n hq fun x hx => kB_len (hfit x hx))
  clear hk hfit
  go_enter Try.func58, Try.ntmps58
  go_wp2_with fail
  refine Calls.mono HC.out ?_
  rintro e w1 ⟨v1, rfl, h1, hb1⟩
  have H1 := Lib.hid (show PBI w w1 w.heap.size v1 (cntN n) from ⟨hb1, Nat.le_refl _, h1⟩)
  clear h1 hb1 e1
  go_wp2_with fail
  go_loopw [3, 4] (fun v i wr => ∃ (q : Nat) (v' : Value), v = v' ∧ i = .int .i64 (q : Int) ∧ q ≤ n ∧ PBI w wr w.heap.size v' (cntN n ++ (l.take q).flatMap kB)) (fun _ i _ => n - (intOf i).toNat)
  case atStart => exact ⟨0, v1, rfl, rfl, by omega, by simpa using H1.out⟩
  case round =>
    obtain ⟨q, v', rfl, rfl, hq, hwr⟩ := hrel
    have HWR := Lib.hid hwr
    have hlen := HLL.out q hq
    by_cases hlt : q < n
    · have hql : q < l.length := by rw [HL.out]; exact hlt
      obtain ⟨b, off, rfl, hc⟩ := Keys.cells (HK.out.below hwr.below) (by omega)
      obtain ⟨c0, c1⟩ := hc q hql
      have hts := take_next (E := kB) l q hql
      have hfx := HF.out l[q] (List.getElem_mem _)
      obtain ⟨x, hx⟩ : ∃ x, x = l[q] := ⟨_, rfl⟩
      rw [← hx] at c0 c1 hts hfx
      have HTS := Lib.hid hts
      have e2 := u64_tab hfx.1
      have hN4 : x.t.toNat < 4 := by have := hfx.1; unfold tabP at this; omega
      have HKB := Lib.hid (show kB x = cntN x.t.toNat ++ cntN (foldN x.k) from rfl)
      obtain ⟨N, hN⟩ : ∃ N, N = x.t.toNat := ⟨_, rfl⟩
      rw [← hN] at e2 hN4 HKB
      have hl1 : (cntN n ++ (l.take q).flatMap kB).length ≤ 10 + 20 * n := by rw [List.length_append]; omega
      have HL1 := Lib.hid hl1
      have HC1 := Lib.hid (refCount_any N (by omega) wr)
      have HN1 := Lib.hid (fun W => refNum_any x.k hfx.2 W)
      have hN10 := cntN_ten N (by omega)
      have hK10 := cntN_ten (foldN x.k) (foldN_lt hfx.2)
      have HCK := Lib.hid (show ∀ W2, Below wr.heap.size wr W2 ∨ Below w.heap.size wr W2 → W2.cell? ⟨b, off + q * 2 + 1, none⟩ = some (.int .i64 x.k) from fun W2 h => by
        have hbl : b < w.heap.size := by
          obtain ⟨b', off', e, hc'⟩ := Keys.cells HK.out (by omega)
          injection e with e
          injection e with ea eb
          subst ea eb
          exact World.block_lt_of_cell? _ _ (hc' q hql).1
        have hbw : b < wr.heap.size := Nat.lt_of_lt_of_le hbl HWR.out.low
        rcases h with h | h
        · exact (h.cell (p := ⟨b, off + q * 2 + 1, none⟩) hbw).trans c1
        · exact (h.cell (p := ⟨b, off + q * 2 + 1, none⟩) hbl).trans c1)
      clear hwr hc hts hx hN hl1 hfx hlen c1
      go_wp2_with fail
      refine Calls.mono HC1.out ?_
      rintro e w2 ⟨v2, rfl, h2, hb2⟩
      obtain ⟨A1, k1, rfl, h3, h4, h5⟩ := h2.rdv
      have HB2 := Lib.hid hb2
      have HW2 := Lib.hid (HWR.out.later hb2)
      have H3 := Lib.hid h3
      clear h2 hb2 e2 c0 h3
      go_wp2_with (at_builtin; refine wpList_appB rfl (.tmp 15) (.tmp 22) rfl w.heap.size _ _ rfl HW2.out.own A1 _ k1 (cntN N) rfl H3.out h4 (by have := HL1.out; omega) HW2.out.low ?_; intro v3 w3 hown3 hb3 _ _; have HW3 := Lib.hid (HW2.out.put hown3 hb3); have c1 := HCK.out w3 (.inr ((HB2.out.mono HWR.out.low).trans hb3)); clear hown3 hb3)
      refine Calls.mono (HN1.out _) ?_
      rintro e w4 ⟨v4, rfl, h6, hb4⟩
      obtain ⟨A2, k2, rfl, h7, h8, h9⟩ := h6.rdv
      have HW4 := Lib.hid (HW3.out.later hb4)
      have H7 := Lib.hid h7
      clear h6 hb4 c1 h7
      go_wp2_with (at_builtin; refine wpList_appB rfl (.tmp 24) (.tmp 30) rfl w.heap.size _ _ rfl HW4.out.own A2 _ k2 (cntN (foldN x.k)) rfl H7.out h8 (by have := HL1.out; rw [List.length_append]; omega) HW4.out.low ?_; intro v5 w5 hown5 hb5 _ _; have HW5 := Lib.hid (HW4.out.put hown5 hb5); clear hown5 hb5)
      go_roundw
      case rel => exact ⟨q + 1, v5, rfl, by go_num, by omega, by rw [HTS.out, HKB.out, ← List.append_assoc, ← List.append_assoc]; exact HW5.out⟩
      case measure => simp [intOf]; omega
    · obtain rfl : n = q := by omega
      have ht : l.take n = l := List.take_of_length_le (by rw [HL.out]; omega)
      rw [ht] at hwr
      have H9 := Lib.hid (show PBI w wr w.heap.size _ (ksB l) from by unfold ksB; rw [HL.out]; exact hwr)
      clear hwr ht hlen
      go_wp2_with fail
      go_ret
      exact ⟨_, rfl, H9.out.own, H9.out.below⟩
end Go.Proofs.Ytmicheheibkmjaa
