/- The contract of the reference's Place. -/
import Derived.Test.YtgdkgoiagjjccaaPlaceRef
namespace Go.Proofs.Ytgdkgoiagjjccaa
set_option maxRecDepth 100000
open Go.RowKit

set_option maxHeartbeats 2000000 in
theorem ref_no (B C F W P seq : Int) (A : Option Addr) (n c : Nat) (A2 : Option Addr) (m c2 : Nat) (hno : ¬ plOk P seq m) (w : World) :
    Calls Try.prog 22 #[polV B C F W P, .int .i64 seq, .slice A n c, .slice A2 m c2] w fun e w' => e = .returned (.tuple #[.int .i64 0, .int .i64 1]) ∧ Below w.heap.size w w' := by
  have HB := Lib.hid (show Below w.heap.size w (w.alloc (.cells #[.int .i64 B, .int .i64 C, .int .i64 F, .int .i64 W, .int .i64 P] 23)) from (Below.refl _ w).alloc (Nat.le_refl _) _)
  have HN := Lib.hid hno
  clear hno
  by_cases h1 : P < 0
  · go_enter Try.func22, Try.ntmps22
    go_wp2_with fail
    go_ret2
    exact ⟨rfl, HB.out⟩
  by_cases h2 : 2 < P
  · go_enter Try.func22, Try.ntmps22
    go_wp2_with fail
    go_ret2
    exact ⟨rfl, HB.out⟩
  by_cases h3 : seq < 1
  · go_enter Try.func22, Try.ntmps22
    go_wp2_with fail
    go_ret2
    exact ⟨rfl, HB.out⟩
  by_cases h4 : m = 0
  · subst h4
    go_enter Try.func22, Try.ntmps22
    go_wp2_with fail
    go_ret2
    exact ⟨rfl, HB.out⟩
  · have h5 : 4 < m := by
      rcases Nat.lt_or_ge 4 m with h | h
      · exact h
      · exact absurd ⟨by omega, by omega, by omega, by omega, h⟩ HN.out
    have h6 : ¬ (m : Int) < 1 := by omega
    have h7 : 4 < (m : Int) := by omega
    go_enter Try.func22, Try.ntmps22
    go_wp2_with fail
    go_ret2
    exact ⟨rfl, HB.out⟩

def allLe (xs : List Int) (i k : Nat) : Bool := decide (∀ j, j < k → xs.getD j 0 ≤ xs.getD i 0)
theorem allLe_zero (xs : List Int) (i : Nat) : allLe xs i 0 = true := decide_eq_true (fun j hj => absurd hj (by omega))
theorem allLe_succ (xs : List Int) (i k : Nat) : allLe xs i (k + 1) = (allLe xs i k && decide (xs.getD k 0 ≤ xs.getD i 0)) := by
  unfold allLe
  rw [← Bool.decide_and]
  exact decide_eq_decide.2 ⟨fun h => ⟨fun j hj => h j (by omega), h k (by omega)⟩, fun h j hj => by
    rcases Nat.lt_succ_iff_lt_or_eq.1 hj with h1 | h1
    · exact h.1 j h1
    · rw [h1]; exact h.2⟩
theorem allLe_best {xs : List Int} {m K i : Nat} (h : Best xs m K) (hi : i ≤ K) : allLe xs i m = decide (i = K) := by
  unfold allLe
  refine decide_eq_decide.2 ⟨fun h1 => ?_, fun h1 => ?_⟩
  · rcases Nat.lt_or_ge i K with h2 | h2
    · have := h.2.2 i h2; have := h1 K h.1; omega
    · omega
  · rw [h1]; exact h.2.1

set_option maxHeartbeats 4000000 in
theorem ref_yes (B C F W P seq : Int) (A : Option Addr) (n c : Nat) (A2 : Option Addr) (m c2 : Nat) (T K : Int) (xs : List Int) (k : Nat) (hok : plOk P seq m) (hs : Fits seq) (hk : Best xs m k) (w : World) (hw : Wr0 w A n T K) (hr : Nums w A2 m xs) (hn : n ≤ 9223372036854775807) :
    Calls Try.prog 22 #[polV B C F W P, .int .i64 seq, .slice A n c, .slice A2 m c2] w fun e w' => e = .returned (.tuple #[.int .i64 (plZ P seq m n T K k), .int .i64 0]) ∧ Below w.heap.size w w' := by
  have hb0 : Below w.heap.size w (w.alloc (.cells #[.int .i64 B, .int .i64 C, .int .i64 F, .int .i64 W, .int .i64 P] 23)) := (Below.refl _ w).alloc (Nat.le_refl _) _
  have HB := Lib.hid hb0
  obtain ⟨p0, p2, s1, m1, m4⟩ := hok
  have HW := Lib.hid (hw.ext (stays_w hb0))
  have HR := Lib.hid (hr.ext (stays_w hb0))
  have HK := Lib.hid hk
  have HS := Lib.hid hs
  clear hw hr hk hb0
  rcases (show P = 0 ∨ P = 1 ∨ P = 2 by omega) with rfl | rfl | rfl
  · have hz : plZ 0 seq m n T K k = (seq - 1).tmod m := rfl
    rw [hz]
    have e1 : wrap64 (seq - 1) = seq - 1 := IntWalk.wrap64_in _ (by unfold Fits at hs; omega)
    have hm0 : ((m : Int) == 0) = false := by rw [beq_eq_false_iff_ne]; omega
    have b1 := Int.tmod_nonneg (m : Int) (show 0 ≤ seq - 1 by omega)
    have b2 := Int.tmod_lt_of_pos (seq - 1) (show (0 : Int) < m by omega)
    obtain ⟨t, ht⟩ : ∃ t, t = (seq - 1).tmod m := ⟨_, rfl⟩
    rw [← ht] at b1 b2 ⊢
    have e3 : (seq - 1).tmod m = t := ht.symm
    clear ht hs hz
    go_enter Try.func22, Try.ntmps22
    go_wp2_with fail
    go_ret2
    exact ⟨rfl, HB.out⟩
  · have hz : plZ 1 seq m n T K k = if n = 0 then 0 else keyZ T K m := rfl
    rw [hz]
    by_cases h0 : n = 0
    · subst h0
      rw [if_pos rfl]
      clear hs hz
      go_enter Try.func22, Try.ntmps22
      go_wp2_with fail
      go_ret2
      exact ⟨rfl, HB.out⟩
    · rw [if_neg h0]
      obtain ⟨b, off, rfl, h1, h2⟩ := HW.out (by omega)
      have hn0 : ((n : Int) == 0) = false := by rw [beq_eq_false_iff_ne]; omega
      have hm0 : ((m : Int) == 0) = false := by rw [beq_eq_false_iff_ne]; omega
      unfold keyZ
      clear hs hz
      go_enter Try.func22, Try.ntmps22
      go_wp2_with fail
      go_quiet (fail)
      have HD := Lib.hid (show Below w.heap.size w (World.drewN (w.alloc (.cells #[.int .i64 B, .int .i64 C, .int .i64 F, .int .i64 W, .int .i64 1] 23)) nq) from ⟨HB.out.os, HB.out.tape, HB.out.output, HB.out.size, HB.out.block⟩)
      go_wp2_with fail
      go_ret2
      exact ⟨rfl, HD.out⟩
  · have hz : plZ 2 seq m n T K k = k := rfl
    rw [hz]
    obtain ⟨b, off, rfl, hcc⟩ := HR.out.2.2 (by omega)
    have HC := Lib.hid hcc
    clear hs hz hcc HR
    go_enter Try.func22, Try.ntmps22
    go_wp2_with fail
    go_loopw [12, 13, 14] (fun i _ _ wr => ∃ q : Nat, i = .int .i64 (q : Int) ∧ q ≤ k ∧ (∀ p : Addr, p.block < (w.alloc (.cells #[.int .i64 B, .int .i64 C, .int .i64 F, .int .i64 W, .int .i64 2] 23)).heap.size → wr.cell? p = (w.alloc (.cells #[.int .i64 B, .int .i64 C, .int .i64 F, .int .i64 W, .int .i64 2] 23)).cell? p) ∧ Below w.heap.size w wr) (fun i _ _ _ => k - (intOf i).toNat)
    case atStart => exact ⟨0, rfl, by omega, fun _ _ => rfl, HB.out⟩
    case round =>
      obtain ⟨q, rfl, hq, hsame, hbr⟩ := hrel
      have hkm := HK.out.1
      have SM := Lib.hid hsame
      have BR := Lib.hid hbr
      clear hsame hbr
      have hle := allLe_best HK.out hq
      have HLE := Lib.hid hle
      have hz := allLe_zero xs q
      have HZ := Lib.hid hz
      have hqm : q < m := by omega
      clear hle hz
      go_wp2_with fail
      go_loopw [13, 14] (fun v i wq => ∃ j : Nat, i = .int .i64 (j : Int) ∧ j ≤ m ∧ v = .bool (allLe xs q j) ∧ (∀ p : Addr, p.block < (w.alloc (.cells #[.int .i64 B, .int .i64 C, .int .i64 F, .int .i64 W, .int .i64 2] 23)).heap.size → wq.cell? p = (w.alloc (.cells #[.int .i64 B, .int .i64 C, .int .i64 F, .int .i64 W, .int .i64 2] 23)).cell? p) ∧ Below w.heap.size w wq) (fun _ i _ => m - (intOf i).toNat)
      case atStart => exact ⟨0, rfl, by omega, by rw [HZ.out], SM.out, BR.out⟩
      case round =>
        obtain ⟨j, rfl, hj, rfl, hsame, hbr⟩ := hrel
        clear SM BR HZ
        by_cases hlt : j < m
        · have c1 := (hsame ⟨b, off + j, none⟩ (World.block_lt_of_cell? _ _ (HC.out j hlt))).trans (HC.out j hlt)
          have c2' := (hsame ⟨b, off + q, none⟩ (World.block_lt_of_cell? _ _ (HC.out q hqm))).trans (HC.out q hqm)
          have hsc := allLe_succ xs q j
          obtain ⟨x, hx⟩ : ∃ x, x = xs.getD j 0 := ⟨_, rfl⟩
          obtain ⟨y, hy⟩ : ∃ x, x = xs.getD q 0 := ⟨_, rfl⟩
          rw [← hx] at c1
          rw [← hy] at c2'
          rw [← hx, ← hy] at hsc
          have SM := Lib.hid hsame
          have BR := Lib.hid hbr
          have HSC := Lib.hid hsc
          obtain ⟨v, hv⟩ : ∃ v, v = allLe xs q j := ⟨_, rfl⟩
          rw [← hv] at HSC ⊢
          clear hsame hbr hx hy hsc hv
          by_cases hvt : v = true
          · subst hvt
            go_wp2_with fail
            go_quiet (fail)
            have hbd : Below w.heap.size w (wr.drewN nq) := ⟨BR.out.os, BR.out.tape, BR.out.output, BR.out.size, BR.out.block⟩
            have hsd : ∀ p : Addr, p.block < (w.alloc (.cells #[.int .i64 B, .int .i64 C, .int .i64 F, .int .i64 W, .int .i64 2] 23)).heap.size → (wr.drewN nq).cell? p = (w.alloc (.cells #[.int .i64 B, .int .i64 C, .int .i64 F, .int .i64 W, .int .i64 2] 23)).cell? p := fun p hp => by
              have := SM.out p hp
              rw [← this]; simp
            have BD := Lib.hid hbd
            have SD := Lib.hid hsd
            clear hbd hsd
            go_wp2_with fail
            go_roundw
            case rel => exact ⟨j + 1, by go_num, by omega, by rw [HSC.out, Bool.true_and], SD.out, BD.out⟩
            case measure => simp [intOf]; omega
          · have hvf : v = false := by simpa using hvt
            clear hvt
            subst hvf
            go_wp2_with fail
            go_quiet (fail)
            have hbd : Below w.heap.size w (wr.drewN nq) := ⟨BR.out.os, BR.out.tape, BR.out.output, BR.out.size, BR.out.block⟩
            have hsd : ∀ p : Addr, p.block < (w.alloc (.cells #[.int .i64 B, .int .i64 C, .int .i64 F, .int .i64 W, .int .i64 2] 23)).heap.size → (wr.drewN nq).cell? p = (w.alloc (.cells #[.int .i64 B, .int .i64 C, .int .i64 F, .int .i64 W, .int .i64 2] 23)).cell? p := fun p hp => by
              have := SM.out p hp
              rw [← this]; simp
            have BD := Lib.hid hbd
            have SD := Lib.hid hsd
            clear hbd hsd
            go_wp2_with fail
            go_roundw
            case rel => exact ⟨j + 1, by go_num, by omega, by rw [HSC.out, Bool.false_and], SD.out, BD.out⟩
            case measure => simp [intOf]; omega
        · obtain rfl : j = m := by omega
          rw [HLE.out]
          have SM := Lib.hid hsame
          have BR := Lib.hid hbr
          clear hsame hbr
          by_cases hqk : q = k
          · rw [decide_eq_true hqk]
            subst hqk
            go_wp2_with fail
            go_ret2
            exact ⟨rfl, BR.out⟩
          · rw [decide_eq_false hqk]
            have hq1 : q + 1 ≤ k := by omega
            clear hqk
            go_wp2_with fail
            go_roundw
            case rel => exact ⟨q + 1, by go_num, hq1, SM.out, BR.out⟩
            case measure => simp [intOf]; omega
end Go.Proofs.Ytgdkgoiagjjccaa
