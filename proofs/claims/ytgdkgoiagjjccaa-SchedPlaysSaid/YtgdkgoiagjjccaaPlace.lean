/- The contracts of cost's byKey, roomiest, Place. -/
import Derived.Test.YtgdkgoiagjjccaaCmd2
import Derived.Test.YtgdkgoiagjjccaaErr
import Derived.Deep.CutRange
namespace Go.Proofs.Ytgdkgoiagjjccaa
set_option maxRecDepth 100000
open Go.RowKit

/-- The first write's key, if there is one. -/
def Wr0 (w : World) (A : Option Addr) (n : Nat) (T K : Int) : Prop :=
  0 < n → ∃ b off, A = some ⟨b, off, none⟩ ∧ w.cell? ⟨b, off, none⟩ = some (.int .i64 T) ∧ w.cell? ⟨b, off + 1, none⟩ = some (.int .i64 K)
theorem Wr0.ext {w w' : World} {A : Option Addr} {n : Nat} {T K : Int} (h : Wr0 w A n T K) (hs : ∀ p : Addr, p.block < w.heap.size → w'.cell? p = w.cell? p) : Wr0 w' A n T K := fun hn => by
  obtain ⟨b, off, e, h1, h2⟩ := h hn
  exact ⟨b, off, e, (hs _ (World.block_lt_of_cell? _ _ h1)).trans h1, (hs _ (World.block_lt_of_cell? _ _ h2)).trans h2⟩
theorem Nums.ext {w w' : World} {A : Option Addr} {n : Nat} {xs : List Int} (h : Nums w A n xs) (hs : ∀ p : Addr, p.block < w.heap.size → w'.cell? p = w.cell? p) : Nums w' A n xs :=
  ⟨h.1, h.2.1, fun hn => by
    obtain ⟨b, off, e, hc⟩ := h.2.2 hn
    exact ⟨b, off, e, fun j hj => (hs _ (World.block_lt_of_cell? _ _ (hc j hj))).trans (hc j hj)⟩⟩
theorem stays_w {w w' : World} (h : Below w.heap.size w w') : ∀ p : Addr, p.block < w.heap.size → w'.cell? p = w.cell? p := fun _ hp => h.cell hp
/-- The stream of a key. -/
def keyZ (T K : Int) (m : Nat) : Int := wrap64 ((IntKind.u64.wrap (IntKind.u64.wrap T + IntKind.u64.wrap K)).tmod m)
theorem keyZ_in (T K : Int) {m : Nat} (h0 : 0 < m) (h4 : m ≤ 4) : 0 ≤ keyZ T K m ∧ keyZ T K m < m := by
  have h1 : 0 ≤ IntKind.u64.wrap (IntKind.u64.wrap T + IntKind.u64.wrap K) := by
    have e : ∀ x : Int, IntKind.u64.wrap x = x % 18446744073709551616 := fun x => by simp [IntKind.wrap, IntKind.bits, IntKind.signed]
    rw [e (_ + _)]
    omega
  unfold keyZ
  have h2 := Int.tmod_nonneg (m : Int) h1
  have h3 := Int.tmod_lt_of_pos (IntKind.u64.wrap (IntKind.u64.wrap T + IntKind.u64.wrap K)) (show (0 : Int) < m by omega)
  have h5 := IntWalk.wrap64_in ((IntKind.u64.wrap (IntKind.u64.wrap T + IntKind.u64.wrap K)).tmod m) (by omega)
  rw [h5]
  exact ⟨h2, h3⟩

set_option maxHeartbeats 1000000 in
theorem byKey_any (A : Option Addr) (n c : Nat) (T K : Int) (m : Nat) (hm : 0 < m) (hm4 : m ≤ 4) (w : World) (h : Wr0 w A n T K) :
    Calls Try.prog 58 #[.slice A n c, .int .i64 (m : Int)] w fun e w' => e = .returned (.int .i64 (if n = 0 then 0 else keyZ T K m)) ∧ Below w.heap.size w w' := by
  by_cases h0 : n = 0
  · subst h0
    go_enter Try.func58, Try.ntmps58
    go_wp2_with fail
    go_ret
    exact ⟨rfl, Below.refl _ _⟩
  · obtain ⟨b, off, rfl, h1, h2⟩ := h (by omega)
    rw [if_neg h0]
    have HB := Lib.hid (show Below w.heap.size w (w.alloc (.cells #[.int .i64 T, .int .i64 K] 104)) from (Below.refl _ w).alloc (Nat.le_refl _) _)
    have hn : ((n : Int) == 0) = false := by rw [beq_eq_false_iff_ne]; omega
    unfold keyZ
    go_enter Try.func58, Try.ntmps58
    go_wp2_with fail
    go_ret
    exact ⟨rfl, HB.out⟩

/-- The first of the most. -/
def Best (xs : List Int) (n k : Nat) : Prop := k < n ∧ (∀ j, j < n → xs.getD j 0 ≤ xs.getD k 0) ∧ ∀ j, j < k → xs.getD j 0 < xs.getD k 0
theorem best_one {xs : List Int} {n k q : Nat} (h : Best xs n k) (h' : Best xs n q) : q = k := by
  obtain ⟨a1, a2, a3⟩ := h
  obtain ⟨b1, b2, b3⟩ := h'
  rcases Nat.lt_trichotomy q k with h | h | h
  · have := a3 q h; have := b2 k a1; omega
  · exact h
  · have := b3 k h; have := a2 q b1; omega
theorem best_step {xs : List Int} {i k : Nat} (h : Best xs i k) : Best xs (i + 1) (if xs.getD k 0 < xs.getD i 0 then i else k) := by
  obtain ⟨a1, a2, a3⟩ := h
  by_cases hc : xs.getD k 0 < xs.getD i 0
  · rw [if_pos hc]
    refine ⟨by omega, fun j hj => ?_, fun j hj => ?_⟩
    · rcases Nat.lt_succ_iff_lt_or_eq.1 hj with h | h
      · have := a2 j h; omega
      · rw [h]; exact Int.le_refl _
    · have := a2 j hj; omega
  · rw [if_neg hc]
    refine ⟨by omega, fun j hj => ?_, a3⟩
    rcases Nat.lt_succ_iff_lt_or_eq.1 hj with h | h
    · exact a2 j h
    · rw [h]; omega
theorem best_first (xs : List Int) : Best xs 1 0 := ⟨by omega, fun j hj => by rw [show j = 0 by omega]; exact Int.le_refl _, fun j hj => absurd hj (by omega)⟩
theorem best_ex (xs : List Int) : ∀ n, 0 < n → ∃ k, Best xs n k
  | 1, _ => ⟨0, best_first xs⟩
  | n + 2, _ => by
    obtain ⟨k, h⟩ := best_ex xs (n + 1) (by omega)
    exact ⟨_, best_step h⟩

set_option maxHeartbeats 1000000 in
theorem roomiest_any (A : Option Addr) (n c : Nat) (xs : List Int) (k : Nat) (hk : Best xs n k) (h4 : n ≤ 4) (w : World) (h : Nums w A n xs) :
    Calls Try.prog 59 #[.slice A n c] w fun e w' => e = .returned (.int .i64 (k : Int)) ∧ Below w.heap.size w w' := by
  obtain ⟨b, off, rfl, hc⟩ := h.2.2 (by have := hk.1; omega)
  have HC := Lib.hid hc
  have HK := Lib.hid hk
  have HB := Lib.hid (Below.refl w.heap.size w)
  have hn0 := hk.1
  clear hc hk h
  go_enter Try.func59, Try.ntmps59
  go_wp2_with fail
  go_loop [3, 4, 5, 8] (fun v _ _ i => ∃ (i' q : Nat), i = .int .i64 (i' : Int) ∧ v = .int .i64 (q : Int) ∧ i' ≤ n ∧ q < n ∧ (i' = 0 → q = 0) ∧ (0 < i' → Best xs i' q)) (fun _ _ _ i => n - (intOf i).toNat)
  case atStart => exact ⟨0, 0, rfl, rfl, by omega, by omega, fun _ => rfl, fun h => absurd h (by omega)⟩
  case round =>
    obtain ⟨i', q, rfl, rfl, hi, hq, hz, hb⟩ := hrel
    have BI := Lib.hid hb
    have ZI := Lib.hid hz
    clear hb hz
    by_cases hlt : i' < n
    · have c1 := HC.out i' hlt
      have c2 := HC.out q hq
      obtain ⟨x, hx⟩ : ∃ x, x = xs.getD i' 0 := ⟨_, rfl⟩
      obtain ⟨y, hy⟩ : ∃ x, x = xs.getD q 0 := ⟨_, rfl⟩
      rw [← hx] at c1
      rw [← hy] at c2
      have HX := Lib.hid hx
      have HY := Lib.hid hy
      clear hx hy
      have hstep : Best xs (i' + 1) (if y < x then i' else q) := by
        rcases Nat.eq_zero_or_pos i' with h0 | h0
        · have hq0 := ZI.out h0
          subst h0 hq0
          rw [HX.out, HY.out, if_neg (by omega)]
          exact best_first xs
        · rw [HX.out, HY.out]
          exact best_step (BI.out h0)
      have HS := Lib.hid hstep
      clear hstep
      by_cases hc : y < x
      · go_wp2_with fail
        go_round
        case rel =>
          have h := HS.out
          rw [if_pos hc] at h
          exact ⟨i' + 1, i', by go_num, rfl, by omega, hlt, fun h => absurd h (by omega), fun _ => h⟩
        case measure => simp [intOf]; omega
      · go_wp2_with fail
        go_round
        case rel =>
          have h := HS.out
          rw [if_neg hc] at h
          exact ⟨i' + 1, q, by go_num, rfl, by omega, hq, fun h => absurd h (by omega), fun _ => h⟩
        case measure => simp [intOf]; omega
    · obtain rfl : i' = n := by omega
      have hqk := best_one HK.out (BI.out (by omega))
      subst hqk
      go_wp2_with fail
      go_ret
      exact ⟨rfl, HB.out⟩

/-- May a place be told? -/
def plOk (P seq : Int) (m : Nat) : Prop := 0 ≤ P ∧ P ≤ 2 ∧ 1 ≤ seq ∧ 1 ≤ m ∧ m ≤ 4
def plZ (P seq : Int) (m n : Nat) (T K : Int) (k : Nat) : Int := if P = 0 then (seq - 1).tmod m else if P = 1 then (if n = 0 then 0 else keyZ T K m) else (k : Int)

set_option maxHeartbeats 2000000 in
theorem place_no (B C F W P seq : Int) (A : Option Addr) (n c : Nat) (A2 : Option Addr) (m c2 : Nat) (hno : ¬ plOk P seq m) (w : World) :
    Calls Try.prog 21 #[polV B C F W P, .int .i64 seq, .slice A n c, .slice A2 m c2] w fun e w' => e = .returned (.tuple #[.int .i64 0, .iface 34 (.int .i64 1)]) ∧ Below w.heap.size w w' := by
  have HB := Lib.hid (show Below w.heap.size w (w.alloc (.cells #[.int .i64 B, .int .i64 C, .int .i64 F, .int .i64 W, .int .i64 P] 23)) from (Below.refl _ w).alloc (Nat.le_refl _) _)
  have C1 := fun w => good_any B C F W P w
  by_cases h1 : 0 ≤ P ∧ P ≤ 2
  · rw [decide_eq_true h1] at C1
    have H1 := Lib.hid C1
    have HN := Lib.hid hno
    clear C1 hno
    go_enter Try.func21, Try.ntmps21
    go_wp2_with fail
    refine Calls.mono (H1.out _) ?_
    rintro e w1 ⟨rfl, hb1⟩
    have HE := Lib.hid (HB.out.trans (hb1.mono HB.out.size))
    clear hb1
    by_cases h2 : seq < 1
    · go_wp2_with fail
      go_ret2
      exact ⟨rfl, HE.out⟩
    · by_cases h3 : m < 1
      · obtain rfl : m = 0 := by omega
        go_wp2_with fail
        go_ret2
        exact ⟨rfl, HE.out⟩
      · have h4 : 4 < m := by
          rcases Nat.lt_or_ge 4 m with h | h
          · exact h
          · exact absurd ⟨h1.1, h1.2, by omega, by omega, h⟩ HN.out
        go_wp2_with fail
        go_ret2
        exact ⟨rfl, HE.out⟩
  · rw [decide_eq_false h1] at C1
    have H1 := Lib.hid C1
    clear C1 hno h1
    go_enter Try.func21, Try.ntmps21
    go_wp2_with fail
    refine Calls.mono (H1.out _) ?_
    rintro e w1 ⟨rfl, hb1⟩
    have HE := Lib.hid (HB.out.trans (hb1.mono HB.out.size))
    clear hb1
    go_wp2_with fail
    go_ret2
    exact ⟨rfl, HE.out⟩

set_option maxHeartbeats 2000000 in
theorem place_yes (B C F W P seq : Int) (A : Option Addr) (n c : Nat) (A2 : Option Addr) (m c2 : Nat) (T K : Int) (xs : List Int) (k : Nat) (hok : plOk P seq m) (hs : Fits seq) (hk : Best xs m k) (w : World) (hw : Wr0 w A n T K) (hr : Nums w A2 m xs) :
    Calls Try.prog 21 #[polV B C F W P, .int .i64 seq, .slice A n c, .slice A2 m c2] w fun e w' => e = .returned (.tuple #[.int .i64 (plZ P seq m n T K k), .nilIface]) ∧ Below w.heap.size w w' := by
  have HB := Lib.hid (show Below w.heap.size w (w.alloc (.cells #[.int .i64 B, .int .i64 C, .int .i64 F, .int .i64 W, .int .i64 P] 23)) from (Below.refl _ w).alloc (Nat.le_refl _) _)
  have HP := Lib.hid (pb_new w B C F W P)
  have C1 := fun w => good_any B C F W P w
  obtain ⟨p0, p2, s1, m1, m4⟩ := hok
  rw [decide_eq_true ⟨p0, p2⟩] at C1
  have H1 := Lib.hid C1
  have HW := Lib.hid hw
  have HR := Lib.hid hr
  have HK := Lib.hid hk
  have HS := Lib.hid hs
  clear C1 hw hr hk
  rcases (show P = 0 ∨ P = 1 ∨ P = 2 by omega) with rfl | rfl | rfl
  · have hz : plZ 0 seq m n T K k = (seq - 1).tmod m := rfl
    rw [hz]
    have e1 : wrap64 (seq - 1) = seq - 1 := IntWalk.wrap64_in _ (by unfold Fits at hs; omega)
    have hm0 : ((m : Int) == 0) = false := by rw [beq_eq_false_iff_ne]; omega
    have b1 := Int.tmod_nonneg (m : Int) (show 0 ≤ seq - 1 by omega)
    have b2 := Int.tmod_lt_of_pos (seq - 1) (show (0 : Int) < m by omega)
    obtain ⟨t, ht⟩ : ∃ t, t = (seq - 1).tmod m := ⟨_, rfl⟩
    rw [← ht] at b1 b2 ⊢
    have e3 : (seq - 1).tmod m = t := ht.symm
    clear ht hs hz
    go_enter Try.func21, Try.ntmps21
    go_wp2_with fail
    refine Calls.mono (H1.out _) ?_
    rintro e w1 ⟨rfl, hb1⟩
    have hp1 := HP.out.below hb1 HP.out.lt
    have c4 := hp1.c4
    have HE := Lib.hid (HB.out.trans (hb1.mono HB.out.size))
    clear hb1 hp1
    go_wp2_with fail
    go_ret2
    exact ⟨rfl, HE.out⟩
  · have hz : plZ 1 seq m n T K k = if n = 0 then 0 else keyZ T K m := rfl
    rw [hz]
    have C2 := fun w1 (h : Below w.heap.size w w1) => byKey_any A n c T K m (by omega) m4 w1 (HW.out.ext (stays_w h))
    obtain ⟨t, ht⟩ : ∃ t, t = (if n = 0 then 0 else keyZ T K m) := ⟨_, rfl⟩
    rw [← ht] at C2 ⊢
    have H2 := Lib.hid C2
    clear C2 ht hs hz
    go_enter Try.func21, Try.ntmps21
    go_wp2_with fail
    refine Calls.mono (H1.out _) ?_
    rintro e w1 ⟨rfl, hb1⟩
    have hp1 := HP.out.below hb1 HP.out.lt
    have c4 := hp1.c4
    have HE := Lib.hid (HB.out.trans (hb1.mono HB.out.size))
    clear hb1 hp1
    go_wp2_with fail
    refine Calls.mono (H2.out _ HE.out) ?_
    rintro e w2 ⟨rfl, hb2⟩
    have HE2 := Lib.hid (HE.out.trans (hb2.mono HE.out.size))
    clear hb2
    go_wp2_with fail
    go_ret2
    exact ⟨rfl, HE2.out⟩
  · have hz : plZ 2 seq m n T K k = k := rfl
    rw [hz]
    have C2 := fun w1 (h : Below w.heap.size w w1) => roomiest_any A2 m c2 xs k HK.out m4 w1 (HR.out.ext (stays_w h))
    have H2 := Lib.hid C2
    clear C2 hs hz
    go_enter Try.func21, Try.ntmps21
    go_wp2_with fail
    refine Calls.mono (H1.out _) ?_
    rintro e w1 ⟨rfl, hb1⟩
    have hp1 := HP.out.below hb1 HP.out.lt
    have c4 := hp1.c4
    have HE := Lib.hid (HB.out.trans (hb1.mono HB.out.size))
    clear hb1 hp1
    go_wp2_with fail
    refine Calls.mono (H2.out _ HE.out) ?_
    rintro e w2 ⟨rfl, hb2⟩
    have HE2 := Lib.hid (HE.out.trans (hb2.mono HE.out.size))
    clear hb2
    go_wp2_with fail
    go_ret2
    exact ⟨rfl, HE2.out⟩
end Go.Proofs.Ytgdkgoiagjjccaa
